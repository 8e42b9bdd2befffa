/-
  NARROWER THAN 'FOR EVERY INPUT', by the rows' own cells (each row's printed sentence says how): UnpackReads: laid · UnpackKnown: laid · UnpackBack: laid · UnpackLegal: laid.
  DERIVED. THE GIVEN ROWS OF THIS SEAT. 4 by the template 'for every input the law returns true; each argument reads behind the call as it read before'; 0 by the template 'total and deterministic' (their statements: YtanjmoiepmadhaaGreatDoorTotals.lean).
  GIVEN WITH THE SEED: the statements are not yours to turn. If you find one false, say at which input.
  Laid BY PROGRAM, IN A SANDBOX (cutbox-rows.mjs): the forced cells as the released guide's own fill.sh prints them over the translation 518230cb4ac061b8… (all of the seat's roots in one cut). By AI agents, Wed Nov 11 2026. No macro, syntax, notation, axiom, sorry.
-/
import Derived.Test.YtanjmoiepmadhaaGreatDoorChecked
import GoSem.Claim
import GoSem.ClaimJoined
import GoSem.ClaimMapViews
import Derived.JoinedTies
import Derived.KernelRfl
namespace Go.Proofs.YtanjmoiepmadhaaGreatDoor
/- THE CELL 'sum', in the pinned program and in every row, IS THE sha256 OF THE DUMP (.gsa) THAT YtanjmoiepmadhaaGreatDoorProg.lean LOADS. Nothing in Lean hashes anything: it is a label: what it is worth is what the hold of that sum in a sandbox is worth. -/
noncomputable def Tryz.pinned : Pinned := { name := "ytanjmoiepmadhaagreatdoor", sum := "518230cb4ac061b885c91109b9c05e7af1892ad171c955c7616df6bd3b50e416", checked := Tryz.checked }
namespace Rows
def none {H : Type} : Left H := { results := [], args := [] }

/- WHAT THE LISTED PACKAGE-LEVEL VARIABLES READ AS WHEN THE CALL BEGINS. Each datum BY PROGRAM (the guide's laid-datum.mjs) off the statement by which the dump's own 'gosem.cut.vars' lays the variable. In a bare row this is a premise. The card (YtanjmoiepmadhaaGreatDoorCards.lean) ties it to the program's text. -/
def laid_coxless_bits_pieces {H : Type} : DataW H := .agg [.agg [.lit (.int .u8 1), .lit (.int .i64 26), .lit (.int .i64 6), .lit (.int .i64 0)], .agg [.lit (.int .u8 2), .lit (.int .i64 16), .lit (.int .i64 10), .lit (.int .i64 14)], .agg [.lit (.int .u8 2), .lit (.int .i64 0), .lit (.int .i64 14), .lit (.int .i64 0)], .agg [.lit (.int .u8 3), .lit (.int .i64 14), .lit (.int .i64 2), .lit (.int .i64 0)], .agg [.lit (.int .u8 4), .lit (.int .i64 16), .lit (.int .i64 16), .lit (.int .i64 14)], .agg [.lit (.int .u8 4), .lit (.int .i64 0), .lit (.int .i64 14), .lit (.int .i64 0)]]
def laid_coxless_isa_names {H : Type} : DataW H := .agg [.lit (.string []), .lit (.string [110, 111, 112]), .lit (.string [97, 100, 100]), .lit (.string [115, 117, 98]), .lit (.string [97, 110, 100]), .lit (.string [111, 114]), .lit (.string [120, 111, 114]), .lit (.string [97, 100, 100, 105]), .lit (.string [109, 111, 118, 105]), .lit (.string [109, 111, 118]), .lit (.string [99, 109, 112, 101, 113]), .lit (.string [99, 109, 112, 103, 116]), .lit (.string [99, 109, 112, 103, 116, 117]), .lit (.string [99, 109, 112, 101, 113, 105]), .lit (.string [109, 117, 120]), .lit (.string [97, 115, 108]), .lit (.string [108, 115, 114]), .lit (.string [97, 115, 114]), .lit (.string [109, 112, 121]), .lit (.string [99, 109, 112, 121]), .lit (.string [99, 109, 112, 121, 99]), .lit (.string [108, 100, 119]), .lit (.string [108, 100, 104]), .lit (.string [108, 100, 98]), .lit (.string [115, 116, 119]), .lit (.string [115, 116, 104]), .lit (.string [115, 116, 98]), .lit (.string [106, 117, 109, 112]), .lit (.string [106, 117, 109, 112, 114]), .lit (.string [99, 97, 108, 108]), .lit (.string [108, 111, 111, 112, 105]), .lit (.string [108, 111, 111, 112, 114])]
def laid_coxless_sub_rows {H : Type} : DataW H := .agg [.agg [.lit (.int .u8 1), .lit (.int .u8 8), .agg [.lit (.int .u8 1), .lit (.int .u8 0)], .lit (.int .i64 7), .lit (.int .i64 0), .lit (.bool false)], .agg [.lit (.int .u8 2), .lit (.int .u8 7), .agg [.lit (.int .u8 4), .lit (.int .u8 0)], .lit (.int .i64 7), .lit (.int .i64 0), .lit (.bool true)], .agg [.lit (.int .u8 3), .lit (.int .u8 9), .agg [.lit (.int .u8 1), .lit (.int .u8 2)], .lit (.int .i64 0), .lit (.int .i64 0), .lit (.bool false)], .agg [.lit (.int .u8 4), .lit (.int .u8 2), .agg [.lit (.int .u8 4), .lit (.int .u8 3)], .lit (.int .i64 0), .lit (.int .i64 0), .lit (.bool false)], .agg [.lit (.int .u8 5), .lit (.int .u8 21), .agg [.lit (.int .u8 1), .lit (.int .u8 2)], .lit (.int .i64 3), .lit (.int .i64 2), .lit (.bool false)], .agg [.lit (.int .u8 6), .lit (.int .u8 24), .agg [.lit (.int .u8 2), .lit (.int .u8 3)], .lit (.int .i64 3), .lit (.int .i64 2), .lit (.bool false)], .agg [.lit (.int .u8 7), .lit (.int .u8 23), .agg [.lit (.int .u8 1), .lit (.int .u8 2)], .lit (.int .i64 3), .lit (.int .i64 0), .lit (.bool false)], .agg [.lit (.int .u8 8), .lit (.int .u8 26), .agg [.lit (.int .u8 2), .lit (.int .u8 3)], .lit (.int .i64 3), .lit (.int .i64 0), .lit (.bool false)], .agg [.lit (.int .u8 9), .lit (.int .u8 13), .agg [.lit (.int .u8 2), .lit (.int .u8 0)], .lit (.int .i64 7), .lit (.int .i64 0), .lit (.bool false)]]

/-- 'coxlesslaw13.UnpackReads': WHATEVER THE INPUT: true; the input reads as it did. -/
def unpackReadsSpec : ChangeSpec := { name := "unpackReads", fn := fun _ => fun
  | [d1, d2] => { results := [.lit (.bool true)], args := [d1, d2] }
  | _ => none }
def unpackReadsRow : OpenClaim := { program := "ytanjmoiepmadhaagreatdoor", sum := "518230cb4ac061b885c91109b9c05e7af1892ad171c955c7616df6bd3b50e416", func := "coxless/coxlesslaw13.UnpackReads", spec := "unpackReads", unfollowed := true, recurses := true, named := ["coxless/bits.pieces", "coxless/isa.names", "coxless/sub.rows"], apart := false, laid := [("coxless/bits.pieces", laid_coxless_bits_pieces), ("coxless/isa.names", laid_coxless_isa_names), ("coxless/sub.rows", laid_coxless_sub_rows)] }
def UnpackReadsSaid : Prop := unpackReadsRow.holds Tryz.pinned (OpenSpec.ofChange unpackReadsSpec)

/-- ITS FALSE NEIGHBOUR: 'it returns false'. Refute it at one input. -/
def unpackReadsWrong : ChangeSpec := { name := "unpackReads", fn := fun _ => fun
  | [d1, d2] => { results := [.lit (.bool false)], args := [d1, d2] }
  | _ => none }
def UnpackReadsWrongFalsely : Prop := unpackReadsRow.holds Tryz.pinned (OpenSpec.ofChange unpackReadsWrong)

/-- 'coxlesslaw13.UnpackKnown': WHATEVER THE INPUT: true; the input reads as it did. -/
def unpackKnownSpec : ChangeSpec := { name := "unpackKnown", fn := fun _ => fun
  | [] => { results := [.lit (.bool true)], args := [] }
  | _ => none }
def unpackKnownRow : OpenClaim := { program := "ytanjmoiepmadhaagreatdoor", sum := "518230cb4ac061b885c91109b9c05e7af1892ad171c955c7616df6bd3b50e416", func := "coxless/coxlesslaw13.UnpackKnown", spec := "unpackKnown", unfollowed := true, recurses := true, named := ["coxless/bits.pieces", "coxless/isa.names", "coxless/sub.rows"], apart := false, laid := [("coxless/bits.pieces", laid_coxless_bits_pieces), ("coxless/isa.names", laid_coxless_isa_names), ("coxless/sub.rows", laid_coxless_sub_rows)] }
def UnpackKnownSaid : Prop := unpackKnownRow.holds Tryz.pinned (OpenSpec.ofChange unpackKnownSpec)

/-- ITS FALSE NEIGHBOUR: 'it returns false'. Refute it at one input. -/
def unpackKnownWrong : ChangeSpec := { name := "unpackKnown", fn := fun _ => fun
  | [] => { results := [.lit (.bool false)], args := [] }
  | _ => none }
def UnpackKnownWrongFalsely : Prop := unpackKnownRow.holds Tryz.pinned (OpenSpec.ofChange unpackKnownWrong)

/-- 'coxlesslaw13.UnpackBack': WHATEVER THE INPUT: true; the input reads as it did. -/
def unpackBackSpec : ChangeSpec := { name := "unpackBack", fn := fun _ => fun
  | [d1, d2] => { results := [.lit (.bool true)], args := [d1, d2] }
  | _ => none }
def unpackBackRow : OpenClaim := { program := "ytanjmoiepmadhaagreatdoor", sum := "518230cb4ac061b885c91109b9c05e7af1892ad171c955c7616df6bd3b50e416", func := "coxless/coxlesslaw13.UnpackBack", spec := "unpackBack", unfollowed := true, recurses := true, named := ["coxless/bits.pieces", "coxless/isa.names", "coxless/sub.rows"], apart := false, laid := [("coxless/bits.pieces", laid_coxless_bits_pieces), ("coxless/isa.names", laid_coxless_isa_names), ("coxless/sub.rows", laid_coxless_sub_rows)] }
def UnpackBackSaid : Prop := unpackBackRow.holds Tryz.pinned (OpenSpec.ofChange unpackBackSpec)

/-- ITS FALSE NEIGHBOUR: 'it returns false'. Refute it at one input. -/
def unpackBackWrong : ChangeSpec := { name := "unpackBack", fn := fun _ => fun
  | [d1, d2] => { results := [.lit (.bool false)], args := [d1, d2] }
  | _ => none }
def UnpackBackWrongFalsely : Prop := unpackBackRow.holds Tryz.pinned (OpenSpec.ofChange unpackBackWrong)

/-- 'coxlesslaw13.UnpackLegal': WHATEVER THE INPUT: true; the input reads as it did. -/
def unpackLegalSpec : ChangeSpec := { name := "unpackLegal", fn := fun _ => fun
  | [d1, d2] => { results := [.lit (.bool true)], args := [d1, d2] }
  | _ => none }
def unpackLegalRow : OpenClaim := { program := "ytanjmoiepmadhaagreatdoor", sum := "518230cb4ac061b885c91109b9c05e7af1892ad171c955c7616df6bd3b50e416", func := "coxless/coxlesslaw13.UnpackLegal", spec := "unpackLegal", unfollowed := true, recurses := true, named := ["coxless/bits.pieces", "coxless/isa.names", "coxless/sub.rows"], apart := false, laid := [("coxless/bits.pieces", laid_coxless_bits_pieces), ("coxless/isa.names", laid_coxless_isa_names), ("coxless/sub.rows", laid_coxless_sub_rows)] }
def UnpackLegalSaid : Prop := unpackLegalRow.holds Tryz.pinned (OpenSpec.ofChange unpackLegalSpec)

/-- ITS FALSE NEIGHBOUR: 'it returns false'. Refute it at one input. -/
def unpackLegalWrong : ChangeSpec := { name := "unpackLegal", fn := fun _ => fun
  | [d1, d2] => { results := [.lit (.bool false)], args := [d1, d2] }
  | _ => none }
def UnpackLegalWrongFalsely : Prop := unpackLegalRow.holds Tryz.pinned (OpenSpec.ofChange unpackLegalWrong)

/- THE SECOND FORM. 'bulk': how many values and letters a reading holds, each counted each time it is reached (what is shared counts as often as it is met; a slice's spare places count too). A statement '..UptoSaid' is the law's where the arguments, and the package variables that the reading takes, are together of bulk at most 1048576: NARROWER than '..Said'. Prove '..Said' where nothing that the law and all that it calls make is longer than what came in: it says more and counts as full. Else prove '..UptoSaid'. A law counts once. -/
mutual
def uptoBulk {H : Type} : DataW H → Nat
  | .lit (.string bytes) => bytes.length + 1
  | .lit _ => 1
  | .nil => 1
  | .ptr d => uptoBulk d + 1
  | .slice elems spare => uptoBulkAll elems + uptoBulkAll spare + 1
  | .agg parts => uptoBulkAll parts + 1
  | .iface _ d => uptoBulk d + 1
  | .map entries => uptoBulkEntries entries + 1
  | .held _ => 1
def uptoBulkAll {H : Type} : List (DataW H) → Nat
  | [] => 0
  | d :: r => uptoBulk d + uptoBulkAll r
def uptoBulkEntries {H : Type} : List (Lit × DataW H) → Nat
  | [] => 0
  | x :: r => uptoBulkEntry x + uptoBulkEntries r
def uptoBulkEntry {H : Type} : Lit × DataW H → Nat
  | (.string bytes, d) => bytes.length + uptoBulk d + 1
  | (_, d) => uptoBulk d + 1
 end
def uptoSmall : (H : Type) → List (DataW H) → Bool := fun _ ds => decide (uptoBulkAll ds ≤ 1048576)
def OpenSpec.upto (s : _root_.Go.ChangeSpec) : _root_.Go.OpenSpec := { _root_.Go.OpenSpec.ofChange s with cond := some uptoSmall }

/-- 'coxlesslaw13.UnpackReads', WHERE WHAT IT READS IS OF BULK AT MOST 1048576: true; the input reads as it did. -/
def unpackReadsUptoRow : OpenClaim := { program := "ytanjmoiepmadhaagreatdoor", sum := "518230cb4ac061b885c91109b9c05e7af1892ad171c955c7616df6bd3b50e416", func := "coxless/coxlesslaw13.UnpackReads", spec := "unpackReads", unfollowed := true, recurses := true, named := ["coxless/bits.pieces", "coxless/isa.names", "coxless/sub.rows"], apart := false, laid := [("coxless/bits.pieces", laid_coxless_bits_pieces), ("coxless/isa.names", laid_coxless_isa_names), ("coxless/sub.rows", laid_coxless_sub_rows)], narrowed := true }
def UnpackReadsUptoSaid : Prop := unpackReadsUptoRow.holds Tryz.pinned (OpenSpec.upto unpackReadsSpec)

/-- 'coxlesslaw13.UnpackKnown', WHERE WHAT IT READS IS OF BULK AT MOST 1048576: true; the input reads as it did. -/
def unpackKnownUptoRow : OpenClaim := { program := "ytanjmoiepmadhaagreatdoor", sum := "518230cb4ac061b885c91109b9c05e7af1892ad171c955c7616df6bd3b50e416", func := "coxless/coxlesslaw13.UnpackKnown", spec := "unpackKnown", unfollowed := true, recurses := true, named := ["coxless/bits.pieces", "coxless/isa.names", "coxless/sub.rows"], apart := false, laid := [("coxless/bits.pieces", laid_coxless_bits_pieces), ("coxless/isa.names", laid_coxless_isa_names), ("coxless/sub.rows", laid_coxless_sub_rows)], narrowed := true }
def UnpackKnownUptoSaid : Prop := unpackKnownUptoRow.holds Tryz.pinned (OpenSpec.upto unpackKnownSpec)

/-- 'coxlesslaw13.UnpackBack', WHERE WHAT IT READS IS OF BULK AT MOST 1048576: true; the input reads as it did. -/
def unpackBackUptoRow : OpenClaim := { program := "ytanjmoiepmadhaagreatdoor", sum := "518230cb4ac061b885c91109b9c05e7af1892ad171c955c7616df6bd3b50e416", func := "coxless/coxlesslaw13.UnpackBack", spec := "unpackBack", unfollowed := true, recurses := true, named := ["coxless/bits.pieces", "coxless/isa.names", "coxless/sub.rows"], apart := false, laid := [("coxless/bits.pieces", laid_coxless_bits_pieces), ("coxless/isa.names", laid_coxless_isa_names), ("coxless/sub.rows", laid_coxless_sub_rows)], narrowed := true }
def UnpackBackUptoSaid : Prop := unpackBackUptoRow.holds Tryz.pinned (OpenSpec.upto unpackBackSpec)

/-- 'coxlesslaw13.UnpackLegal', WHERE WHAT IT READS IS OF BULK AT MOST 1048576: true; the input reads as it did. -/
def unpackLegalUptoRow : OpenClaim := { program := "ytanjmoiepmadhaagreatdoor", sum := "518230cb4ac061b885c91109b9c05e7af1892ad171c955c7616df6bd3b50e416", func := "coxless/coxlesslaw13.UnpackLegal", spec := "unpackLegal", unfollowed := true, recurses := true, named := ["coxless/bits.pieces", "coxless/isa.names", "coxless/sub.rows"], apart := false, laid := [("coxless/bits.pieces", laid_coxless_bits_pieces), ("coxless/isa.names", laid_coxless_isa_names), ("coxless/sub.rows", laid_coxless_sub_rows)], narrowed := true }
def UnpackLegalUptoSaid : Prop := unpackLegalUptoRow.holds Tryz.pinned (OpenSpec.upto unpackLegalSpec)

end Rows
end Go.Proofs.YtanjmoiepmadhaaGreatDoor
