/-
  NARROWER THAN 'FOR EVERY INPUT', by the rows' own cells (each row's printed sentence says how): PackOrder: laid · PackWords: laid · PackKnown: laid · PackRow: laid · PackApart: laid.
  DERIVED. THE GIVEN ROWS OF THIS SEAT. 5 by the template 'for every input the law returns true; each argument reads behind the call as it read before'; 0 by the template 'total and deterministic' (their statements: YtdghnlbfmaehoaaGreatDoorTotals.lean).
  GIVEN WITH THE SEED: the statements are not yours to turn. If you find one false, say at which input.
  Laid BY PROGRAM, IN A SANDBOX (cutbox-rows.mjs): the forced cells as the released guide's own fill.sh prints them over the translation dd41f9048e109798… (all of the seat's roots in one cut). By AI agents, Wed Nov 11 2026. No macro, syntax, notation, axiom, sorry.
-/
import Derived.Test.YtdghnlbfmaehoaaGreatDoorChecked
import GoSem.Claim
import GoSem.ClaimJoined
import GoSem.ClaimMapViews
import Derived.JoinedTies
import Derived.KernelRfl
namespace Go.Proofs.YtdghnlbfmaehoaaGreatDoor
/- THE CELL 'sum', in the pinned program and in every row, IS THE sha256 OF THE DUMP (.gsa) THAT YtdghnlbfmaehoaaGreatDoorProg.lean LOADS. Nothing in Lean hashes anything: it is a label: what it is worth is what the hold of that sum in a sandbox is worth. -/
noncomputable def Tryz.pinned : Pinned := { name := "ytdghnlbfmaehoaagreatdoor", sum := "dd41f9048e10979850e1b605c9fae30c9453d96ba37a26319dc0d894f268ffd2", checked := Tryz.checked }
namespace Rows
def none {H : Type} : Left H := { results := [], args := [] }

/- WHAT THE LISTED PACKAGE-LEVEL VARIABLES READ AS WHEN THE CALL BEGINS. Each datum BY PROGRAM (the guide's laid-datum.mjs) off the statement by which the dump's own 'gosem.cut.vars' lays the variable. In a bare row this is a premise. The card (YtdghnlbfmaehoaaGreatDoorCards.lean) ties it to the program's text. -/
def laid_coxless_bits_pieces {H : Type} : DataW H := .agg [.agg [.lit (.int .u8 1), .lit (.int .i64 26), .lit (.int .i64 6), .lit (.int .i64 0)], .agg [.lit (.int .u8 2), .lit (.int .i64 16), .lit (.int .i64 10), .lit (.int .i64 14)], .agg [.lit (.int .u8 2), .lit (.int .i64 0), .lit (.int .i64 14), .lit (.int .i64 0)], .agg [.lit (.int .u8 3), .lit (.int .i64 14), .lit (.int .i64 2), .lit (.int .i64 0)], .agg [.lit (.int .u8 4), .lit (.int .i64 16), .lit (.int .i64 16), .lit (.int .i64 14)], .agg [.lit (.int .u8 4), .lit (.int .i64 0), .lit (.int .i64 14), .lit (.int .i64 0)]]
def laid_coxless_isa_names {H : Type} : DataW H := .agg [.lit (.string []), .lit (.string [110, 111, 112]), .lit (.string [97, 100, 100]), .lit (.string [115, 117, 98]), .lit (.string [97, 110, 100]), .lit (.string [111, 114]), .lit (.string [120, 111, 114]), .lit (.string [97, 100, 100, 105]), .lit (.string [109, 111, 118, 105]), .lit (.string [109, 111, 118]), .lit (.string [99, 109, 112, 101, 113]), .lit (.string [99, 109, 112, 103, 116]), .lit (.string [99, 109, 112, 103, 116, 117]), .lit (.string [99, 109, 112, 101, 113, 105]), .lit (.string [109, 117, 120]), .lit (.string [97, 115, 108]), .lit (.string [108, 115, 114]), .lit (.string [97, 115, 114]), .lit (.string [109, 112, 121]), .lit (.string [99, 109, 112, 121]), .lit (.string [99, 109, 112, 121, 99]), .lit (.string [108, 100, 119]), .lit (.string [108, 100, 104]), .lit (.string [108, 100, 98]), .lit (.string [115, 116, 119]), .lit (.string [115, 116, 104]), .lit (.string [115, 116, 98]), .lit (.string [106, 117, 109, 112]), .lit (.string [106, 117, 109, 112, 114]), .lit (.string [99, 97, 108, 108]), .lit (.string [108, 111, 111, 112, 105]), .lit (.string [108, 111, 111, 112, 114])]
def laid_coxless_sub_rows {H : Type} : DataW H := .agg [.agg [.lit (.int .u8 1), .lit (.int .u8 8), .agg [.lit (.int .u8 1), .lit (.int .u8 0)], .lit (.int .i64 7), .lit (.int .i64 0), .lit (.bool false)], .agg [.lit (.int .u8 2), .lit (.int .u8 7), .agg [.lit (.int .u8 4), .lit (.int .u8 0)], .lit (.int .i64 7), .lit (.int .i64 0), .lit (.bool true)], .agg [.lit (.int .u8 3), .lit (.int .u8 9), .agg [.lit (.int .u8 1), .lit (.int .u8 2)], .lit (.int .i64 0), .lit (.int .i64 0), .lit (.bool false)], .agg [.lit (.int .u8 4), .lit (.int .u8 2), .agg [.lit (.int .u8 4), .lit (.int .u8 3)], .lit (.int .i64 0), .lit (.int .i64 0), .lit (.bool false)], .agg [.lit (.int .u8 5), .lit (.int .u8 21), .agg [.lit (.int .u8 1), .lit (.int .u8 2)], .lit (.int .i64 3), .lit (.int .i64 2), .lit (.bool false)], .agg [.lit (.int .u8 6), .lit (.int .u8 24), .agg [.lit (.int .u8 2), .lit (.int .u8 3)], .lit (.int .i64 3), .lit (.int .i64 2), .lit (.bool false)], .agg [.lit (.int .u8 7), .lit (.int .u8 23), .agg [.lit (.int .u8 1), .lit (.int .u8 2)], .lit (.int .i64 3), .lit (.int .i64 0), .lit (.bool false)], .agg [.lit (.int .u8 8), .lit (.int .u8 26), .agg [.lit (.int .u8 2), .lit (.int .u8 3)], .lit (.int .i64 3), .lit (.int .i64 0), .lit (.bool false)], .agg [.lit (.int .u8 9), .lit (.int .u8 13), .agg [.lit (.int .u8 2), .lit (.int .u8 0)], .lit (.int .i64 7), .lit (.int .i64 0), .lit (.bool false)]]

/-- 'coxlesslaw12.PackOrder': WHATEVER THE INPUT: true; the input reads as it did. -/
def packOrderSpec : ChangeSpec := { name := "packOrder", fn := fun _ => fun
  | [d1, d2] => { results := [.lit (.bool true)], args := [d1, d2] }
  | _ => none }
def packOrderRow : OpenClaim := { program := "ytdghnlbfmaehoaagreatdoor", sum := "dd41f9048e10979850e1b605c9fae30c9453d96ba37a26319dc0d894f268ffd2", func := "coxless/coxlesslaw12.PackOrder", spec := "packOrder", unfollowed := true, recurses := true, named := ["coxless/isa.names", "coxless/sub.rows", "coxless/bits.pieces"], apart := false, laid := [("coxless/bits.pieces", laid_coxless_bits_pieces), ("coxless/isa.names", laid_coxless_isa_names), ("coxless/sub.rows", laid_coxless_sub_rows)] }
def PackOrderSaid : Prop := packOrderRow.holds Tryz.pinned (OpenSpec.ofChange packOrderSpec)

/-- ITS FALSE NEIGHBOUR: 'it returns false'. Refute it at one input. -/
def packOrderWrong : ChangeSpec := { name := "packOrder", fn := fun _ => fun
  | [d1, d2] => { results := [.lit (.bool false)], args := [d1, d2] }
  | _ => none }
def PackOrderWrongFalsely : Prop := packOrderRow.holds Tryz.pinned (OpenSpec.ofChange packOrderWrong)

/-- 'coxlesslaw12.PackWords': WHATEVER THE INPUT: true; the input reads as it did. -/
def packWordsSpec : ChangeSpec := { name := "packWords", fn := fun _ => fun
  | [d1, d2] => { results := [.lit (.bool true)], args := [d1, d2] }
  | _ => none }
def packWordsRow : OpenClaim := { program := "ytdghnlbfmaehoaagreatdoor", sum := "dd41f9048e10979850e1b605c9fae30c9453d96ba37a26319dc0d894f268ffd2", func := "coxless/coxlesslaw12.PackWords", spec := "packWords", unfollowed := true, recurses := true, named := ["coxless/isa.names", "coxless/sub.rows", "coxless/bits.pieces"], apart := false, laid := [("coxless/bits.pieces", laid_coxless_bits_pieces), ("coxless/isa.names", laid_coxless_isa_names), ("coxless/sub.rows", laid_coxless_sub_rows)] }
def PackWordsSaid : Prop := packWordsRow.holds Tryz.pinned (OpenSpec.ofChange packWordsSpec)

/-- ITS FALSE NEIGHBOUR: 'it returns false'. Refute it at one input. -/
def packWordsWrong : ChangeSpec := { name := "packWords", fn := fun _ => fun
  | [d1, d2] => { results := [.lit (.bool false)], args := [d1, d2] }
  | _ => none }
def PackWordsWrongFalsely : Prop := packWordsRow.holds Tryz.pinned (OpenSpec.ofChange packWordsWrong)

/-- 'coxlesslaw12.PackKnown': WHATEVER THE INPUT: true; the input reads as it did. -/
def packKnownSpec : ChangeSpec := { name := "packKnown", fn := fun _ => fun
  | [] => { results := [.lit (.bool true)], args := [] }
  | _ => none }
def packKnownRow : OpenClaim := { program := "ytdghnlbfmaehoaagreatdoor", sum := "dd41f9048e10979850e1b605c9fae30c9453d96ba37a26319dc0d894f268ffd2", func := "coxless/coxlesslaw12.PackKnown", spec := "packKnown", unfollowed := true, recurses := true, named := ["coxless/isa.names", "coxless/sub.rows", "coxless/bits.pieces"], apart := false, laid := [("coxless/bits.pieces", laid_coxless_bits_pieces), ("coxless/isa.names", laid_coxless_isa_names), ("coxless/sub.rows", laid_coxless_sub_rows)] }
def PackKnownSaid : Prop := packKnownRow.holds Tryz.pinned (OpenSpec.ofChange packKnownSpec)

/-- ITS FALSE NEIGHBOUR: 'it returns false'. Refute it at one input. -/
def packKnownWrong : ChangeSpec := { name := "packKnown", fn := fun _ => fun
  | [] => { results := [.lit (.bool false)], args := [] }
  | _ => none }
def PackKnownWrongFalsely : Prop := packKnownRow.holds Tryz.pinned (OpenSpec.ofChange packKnownWrong)

/-- 'coxlesslaw12.PackRow': WHATEVER THE INPUT: true; the input reads as it did. -/
def packRowSpec : ChangeSpec := { name := "packRow", fn := fun _ => fun
  | [d1, d2, d3] => { results := [.lit (.bool true)], args := [d1, d2, d3] }
  | _ => none }
def packRowRow : OpenClaim := { program := "ytdghnlbfmaehoaagreatdoor", sum := "dd41f9048e10979850e1b605c9fae30c9453d96ba37a26319dc0d894f268ffd2", func := "coxless/coxlesslaw12.PackRow", spec := "packRow", unfollowed := true, recurses := true, named := ["coxless/isa.names", "coxless/sub.rows", "coxless/bits.pieces"], apart := false, laid := [("coxless/bits.pieces", laid_coxless_bits_pieces), ("coxless/isa.names", laid_coxless_isa_names), ("coxless/sub.rows", laid_coxless_sub_rows)] }
def PackRowSaid : Prop := packRowRow.holds Tryz.pinned (OpenSpec.ofChange packRowSpec)

/-- ITS FALSE NEIGHBOUR: 'it returns false'. Refute it at one input. -/
def packRowWrong : ChangeSpec := { name := "packRow", fn := fun _ => fun
  | [d1, d2, d3] => { results := [.lit (.bool false)], args := [d1, d2, d3] }
  | _ => none }
def PackRowWrongFalsely : Prop := packRowRow.holds Tryz.pinned (OpenSpec.ofChange packRowWrong)

/-- 'coxlesslaw12.PackApart': WHATEVER THE INPUT: true; the input reads as it did. -/
def packApartSpec : ChangeSpec := { name := "packApart", fn := fun _ => fun
  | [d1, d2, d3] => { results := [.lit (.bool true)], args := [d1, d2, d3] }
  | _ => none }
def packApartRow : OpenClaim := { program := "ytdghnlbfmaehoaagreatdoor", sum := "dd41f9048e10979850e1b605c9fae30c9453d96ba37a26319dc0d894f268ffd2", func := "coxless/coxlesslaw12.PackApart", spec := "packApart", unfollowed := true, recurses := true, named := ["coxless/isa.names", "coxless/sub.rows", "coxless/bits.pieces"], apart := false, laid := [("coxless/bits.pieces", laid_coxless_bits_pieces), ("coxless/isa.names", laid_coxless_isa_names), ("coxless/sub.rows", laid_coxless_sub_rows)] }
def PackApartSaid : Prop := packApartRow.holds Tryz.pinned (OpenSpec.ofChange packApartSpec)

/-- ITS FALSE NEIGHBOUR: 'it returns false'. Refute it at one input. -/
def packApartWrong : ChangeSpec := { name := "packApart", fn := fun _ => fun
  | [d1, d2, d3] => { results := [.lit (.bool false)], args := [d1, d2, d3] }
  | _ => none }
def PackApartWrongFalsely : Prop := packApartRow.holds Tryz.pinned (OpenSpec.ofChange packApartWrong)

/- THE SECOND FORM. 'bulk': how many values and letters a reading holds, each counted each time it is reached (what is shared counts as often as it is met; a slice's spare places count too). A statement '..UptoSaid' is the law's where the arguments, and the package variables that the reading takes, are together of bulk at most 1048576: NARROWER than '..Said'. Prove '..Said' where nothing that the law and all that it calls make is longer than what came in: it says more and counts as full. Else prove '..UptoSaid'. A law counts once. -/
mutual
def uptoBulk {H : Type} : DataW H → Nat
  | .lit (.string bytes) => bytes.length + 1
  | .lit _ => 1
  | .nil => 1
  | .ptr d => uptoBulk d + 1
  | .slice elems spare => uptoBulkAll elems + uptoBulkAll spare + 1
  | .agg parts => uptoBulkAll parts + 1
  | .iface _ d => uptoBulk d + 1
  | .map entries => uptoBulkEntries entries + 1
  | .held _ => 1
def uptoBulkAll {H : Type} : List (DataW H) → Nat
  | [] => 0
  | d :: r => uptoBulk d + uptoBulkAll r
def uptoBulkEntries {H : Type} : List (Lit × DataW H) → Nat
  | [] => 0
  | x :: r => uptoBulkEntry x + uptoBulkEntries r
def uptoBulkEntry {H : Type} : Lit × DataW H → Nat
  | (.string bytes, d) => bytes.length + uptoBulk d + 1
  | (_, d) => uptoBulk d + 1
 end
def uptoSmall : (H : Type) → List (DataW H) → Bool := fun _ ds => decide (uptoBulkAll ds ≤ 1048576)
def OpenSpec.upto (s : _root_.Go.ChangeSpec) : _root_.Go.OpenSpec := { _root_.Go.OpenSpec.ofChange s with cond := some uptoSmall }

/-- 'coxlesslaw12.PackOrder', WHERE WHAT IT READS IS OF BULK AT MOST 1048576: true; the input reads as it did. -/
def packOrderUptoRow : OpenClaim := { program := "ytdghnlbfmaehoaagreatdoor", sum := "dd41f9048e10979850e1b605c9fae30c9453d96ba37a26319dc0d894f268ffd2", func := "coxless/coxlesslaw12.PackOrder", spec := "packOrder", unfollowed := true, recurses := true, named := ["coxless/isa.names", "coxless/sub.rows", "coxless/bits.pieces"], apart := false, laid := [("coxless/bits.pieces", laid_coxless_bits_pieces), ("coxless/isa.names", laid_coxless_isa_names), ("coxless/sub.rows", laid_coxless_sub_rows)], narrowed := true }
def PackOrderUptoSaid : Prop := packOrderUptoRow.holds Tryz.pinned (OpenSpec.upto packOrderSpec)

/-- 'coxlesslaw12.PackWords', WHERE WHAT IT READS IS OF BULK AT MOST 1048576: true; the input reads as it did. -/
def packWordsUptoRow : OpenClaim := { program := "ytdghnlbfmaehoaagreatdoor", sum := "dd41f9048e10979850e1b605c9fae30c9453d96ba37a26319dc0d894f268ffd2", func := "coxless/coxlesslaw12.PackWords", spec := "packWords", unfollowed := true, recurses := true, named := ["coxless/isa.names", "coxless/sub.rows", "coxless/bits.pieces"], apart := false, laid := [("coxless/bits.pieces", laid_coxless_bits_pieces), ("coxless/isa.names", laid_coxless_isa_names), ("coxless/sub.rows", laid_coxless_sub_rows)], narrowed := true }
def PackWordsUptoSaid : Prop := packWordsUptoRow.holds Tryz.pinned (OpenSpec.upto packWordsSpec)

/-- 'coxlesslaw12.PackKnown', WHERE WHAT IT READS IS OF BULK AT MOST 1048576: true; the input reads as it did. -/
def packKnownUptoRow : OpenClaim := { program := "ytdghnlbfmaehoaagreatdoor", sum := "dd41f9048e10979850e1b605c9fae30c9453d96ba37a26319dc0d894f268ffd2", func := "coxless/coxlesslaw12.PackKnown", spec := "packKnown", unfollowed := true, recurses := true, named := ["coxless/isa.names", "coxless/sub.rows", "coxless/bits.pieces"], apart := false, laid := [("coxless/bits.pieces", laid_coxless_bits_pieces), ("coxless/isa.names", laid_coxless_isa_names), ("coxless/sub.rows", laid_coxless_sub_rows)], narrowed := true }
def PackKnownUptoSaid : Prop := packKnownUptoRow.holds Tryz.pinned (OpenSpec.upto packKnownSpec)

/-- 'coxlesslaw12.PackRow', WHERE WHAT IT READS IS OF BULK AT MOST 1048576: true; the input reads as it did. -/
def packRowUptoRow : OpenClaim := { program := "ytdghnlbfmaehoaagreatdoor", sum := "dd41f9048e10979850e1b605c9fae30c9453d96ba37a26319dc0d894f268ffd2", func := "coxless/coxlesslaw12.PackRow", spec := "packRow", unfollowed := true, recurses := true, named := ["coxless/isa.names", "coxless/sub.rows", "coxless/bits.pieces"], apart := false, laid := [("coxless/bits.pieces", laid_coxless_bits_pieces), ("coxless/isa.names", laid_coxless_isa_names), ("coxless/sub.rows", laid_coxless_sub_rows)], narrowed := true }
def PackRowUptoSaid : Prop := packRowUptoRow.holds Tryz.pinned (OpenSpec.upto packRowSpec)

/-- 'coxlesslaw12.PackApart', WHERE WHAT IT READS IS OF BULK AT MOST 1048576: true; the input reads as it did. -/
def packApartUptoRow : OpenClaim := { program := "ytdghnlbfmaehoaagreatdoor", sum := "dd41f9048e10979850e1b605c9fae30c9453d96ba37a26319dc0d894f268ffd2", func := "coxless/coxlesslaw12.PackApart", spec := "packApart", unfollowed := true, recurses := true, named := ["coxless/isa.names", "coxless/sub.rows", "coxless/bits.pieces"], apart := false, laid := [("coxless/bits.pieces", laid_coxless_bits_pieces), ("coxless/isa.names", laid_coxless_isa_names), ("coxless/sub.rows", laid_coxless_sub_rows)], narrowed := true }
def PackApartUptoSaid : Prop := packApartUptoRow.holds Tryz.pinned (OpenSpec.upto packApartSpec)

end Rows
end Go.Proofs.YtdghnlbfmaehoaaGreatDoor
