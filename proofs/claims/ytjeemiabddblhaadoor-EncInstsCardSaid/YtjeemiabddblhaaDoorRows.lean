/-
  NARROWER THAN 'FOR EVERY INPUT', by the rows' own cells (each row's printed sentence says how): EncWords: laid · EncInsts: laid · EncKnown: laid · EncBack: laid · EncMoves: laid.
  DERIVED. THE GIVEN ROWS OF THIS SEAT. 5 by the template 'for every input the law returns true; each argument reads behind the call as it read before'; 0 by the template 'total and deterministic' (their statements: YtjeemiabddblhaaDoorTotals.lean).
  GIVEN WITH THE SEED: the statements are not yours to turn. If you find one false, say at which input.
  Laid BY PROGRAM, IN A SANDBOX (cutbox-rows.mjs): the forced cells as the released guide's own fill.sh prints them over the translation a4540c56c7740fdd… (all of the seat's roots in one cut). By AI agents, Wed Nov 11 2026. No macro, syntax, notation, axiom, sorry.
-/
import Derived.Test.YtjeemiabddblhaaDoorChecked
import GoSem.Claim
import GoSem.ClaimJoined
import GoSem.ClaimMapViews
import Derived.JoinedTies
import Derived.KernelRfl
namespace Go.Proofs.YtjeemiabddblhaaDoor
/- THE CELL 'sum', in the pinned program and in every row, IS THE sha256 OF THE DUMP (.gsa) THAT YtjeemiabddblhaaDoorProg.lean LOADS. Nothing in Lean hashes anything: it is a label: what it is worth is what the hold of that sum in a sandbox is worth. -/
noncomputable def Tryd.pinned : Pinned := { name := "ytjeemiabddblhaadoor", sum := "a4540c56c7740fdd36e59eefe7ca0377e870910aa79f7ad714f947ecc4ba6197", checked := Tryd.checked }
namespace Rows
def none {H : Type} : Left H := { results := [], args := [] }

/- WHAT THE LISTED PACKAGE-LEVEL VARIABLES READ AS WHEN THE CALL BEGINS. Each datum BY PROGRAM (the guide's laid-datum.mjs) off the statement by which the dump's own 'gosem.cut.vars' lays the variable. In a bare row this is a premise. The card (YtjeemiabddblhaaDoorCards.lean) ties it to the program's text. -/
def laid_coxless_bits_pieces {H : Type} : DataW H := .agg [.agg [.lit (.int .u8 1), .lit (.int .i64 26), .lit (.int .i64 6), .lit (.int .i64 0)], .agg [.lit (.int .u8 2), .lit (.int .i64 16), .lit (.int .i64 10), .lit (.int .i64 14)], .agg [.lit (.int .u8 2), .lit (.int .i64 0), .lit (.int .i64 14), .lit (.int .i64 0)], .agg [.lit (.int .u8 3), .lit (.int .i64 14), .lit (.int .i64 2), .lit (.int .i64 0)], .agg [.lit (.int .u8 4), .lit (.int .i64 16), .lit (.int .i64 16), .lit (.int .i64 14)], .agg [.lit (.int .u8 4), .lit (.int .i64 0), .lit (.int .i64 14), .lit (.int .i64 0)]]
def laid_coxless_isa_names {H : Type} : DataW H := .agg [.lit (.string []), .lit (.string [110, 111, 112]), .lit (.string [97, 100, 100]), .lit (.string [115, 117, 98]), .lit (.string [97, 110, 100]), .lit (.string [111, 114]), .lit (.string [120, 111, 114]), .lit (.string [97, 100, 100, 105]), .lit (.string [109, 111, 118, 105]), .lit (.string [109, 111, 118]), .lit (.string [99, 109, 112, 101, 113]), .lit (.string [99, 109, 112, 103, 116]), .lit (.string [99, 109, 112, 103, 116, 117]), .lit (.string [99, 109, 112, 101, 113, 105]), .lit (.string [109, 117, 120]), .lit (.string [97, 115, 108]), .lit (.string [108, 115, 114]), .lit (.string [97, 115, 114]), .lit (.string [109, 112, 121]), .lit (.string [99, 109, 112, 121]), .lit (.string [99, 109, 112, 121, 99]), .lit (.string [108, 100, 119]), .lit (.string [108, 100, 104]), .lit (.string [108, 100, 98]), .lit (.string [115, 116, 119]), .lit (.string [115, 116, 104]), .lit (.string [115, 116, 98]), .lit (.string [106, 117, 109, 112]), .lit (.string [106, 117, 109, 112, 114]), .lit (.string [99, 97, 108, 108]), .lit (.string [108, 111, 111, 112, 105]), .lit (.string [108, 111, 111, 112, 114])]

/-- 'coxlesslaw06.EncWords': WHATEVER THE INPUT: true; the input reads as it did. -/
def encWordsSpec : ChangeSpec := { name := "encWords", fn := fun _ => fun
  | [d1, d2] => { results := [.lit (.bool true)], args := [d1, d2] }
  | _ => none }
def encWordsRow : OpenClaim := { program := "ytjeemiabddblhaadoor", sum := "a4540c56c7740fdd36e59eefe7ca0377e870910aa79f7ad714f947ecc4ba6197", func := "coxless/coxlesslaw06.EncWords", spec := "encWords", unfollowed := true, recurses := true, named := ["coxless/isa.names", "coxless/bits.pieces"], apart := false, laid := [("coxless/bits.pieces", laid_coxless_bits_pieces), ("coxless/isa.names", laid_coxless_isa_names)] }
def EncWordsSaid : Prop := encWordsRow.holds Tryd.pinned (OpenSpec.ofChange encWordsSpec)

/-- ITS FALSE NEIGHBOUR: 'it returns false'. Refute it at one input. -/
def encWordsWrong : ChangeSpec := { name := "encWords", fn := fun _ => fun
  | [d1, d2] => { results := [.lit (.bool false)], args := [d1, d2] }
  | _ => none }
def EncWordsWrongFalsely : Prop := encWordsRow.holds Tryd.pinned (OpenSpec.ofChange encWordsWrong)

/-- 'coxlesslaw06.EncInsts': WHATEVER THE INPUT: true; the input reads as it did. -/
def encInstsSpec : ChangeSpec := { name := "encInsts", fn := fun _ => fun
  | [d1, d2, d3, d4] => { results := [.lit (.bool true)], args := [d1, d2, d3, d4] }
  | _ => none }
def encInstsRow : OpenClaim := { program := "ytjeemiabddblhaadoor", sum := "a4540c56c7740fdd36e59eefe7ca0377e870910aa79f7ad714f947ecc4ba6197", func := "coxless/coxlesslaw06.EncInsts", spec := "encInsts", unfollowed := true, recurses := true, named := ["coxless/bits.pieces", "coxless/isa.names"], apart := false, laid := [("coxless/bits.pieces", laid_coxless_bits_pieces), ("coxless/isa.names", laid_coxless_isa_names)] }
def EncInstsSaid : Prop := encInstsRow.holds Tryd.pinned (OpenSpec.ofChange encInstsSpec)

/-- ITS FALSE NEIGHBOUR: 'it returns false'. Refute it at one input. -/
def encInstsWrong : ChangeSpec := { name := "encInsts", fn := fun _ => fun
  | [d1, d2, d3, d4] => { results := [.lit (.bool false)], args := [d1, d2, d3, d4] }
  | _ => none }
def EncInstsWrongFalsely : Prop := encInstsRow.holds Tryd.pinned (OpenSpec.ofChange encInstsWrong)

/-- 'coxlesslaw06.EncKnown': WHATEVER THE INPUT: true; the input reads as it did. -/
def encKnownSpec : ChangeSpec := { name := "encKnown", fn := fun _ => fun
  | [] => { results := [.lit (.bool true)], args := [] }
  | _ => none }
def encKnownRow : OpenClaim := { program := "ytjeemiabddblhaadoor", sum := "a4540c56c7740fdd36e59eefe7ca0377e870910aa79f7ad714f947ecc4ba6197", func := "coxless/coxlesslaw06.EncKnown", spec := "encKnown", unfollowed := true, recurses := true, named := ["coxless/isa.names", "coxless/bits.pieces"], apart := false, laid := [("coxless/bits.pieces", laid_coxless_bits_pieces), ("coxless/isa.names", laid_coxless_isa_names)] }
def EncKnownSaid : Prop := encKnownRow.holds Tryd.pinned (OpenSpec.ofChange encKnownSpec)

/-- ITS FALSE NEIGHBOUR: 'it returns false'. Refute it at one input. -/
def encKnownWrong : ChangeSpec := { name := "encKnown", fn := fun _ => fun
  | [] => { results := [.lit (.bool false)], args := [] }
  | _ => none }
def EncKnownWrongFalsely : Prop := encKnownRow.holds Tryd.pinned (OpenSpec.ofChange encKnownWrong)

/-- 'coxlesslaw06.EncBack': WHATEVER THE INPUT: true; the input reads as it did. -/
def encBackSpec : ChangeSpec := { name := "encBack", fn := fun _ => fun
  | [d1, d2, d3, d4, d5, d6] => { results := [.lit (.bool true)], args := [d1, d2, d3, d4, d5, d6] }
  | _ => none }
def encBackRow : OpenClaim := { program := "ytjeemiabddblhaadoor", sum := "a4540c56c7740fdd36e59eefe7ca0377e870910aa79f7ad714f947ecc4ba6197", func := "coxless/coxlesslaw06.EncBack", spec := "encBack", unfollowed := true, recurses := true, named := ["coxless/bits.pieces", "coxless/isa.names"], apart := false, laid := [("coxless/bits.pieces", laid_coxless_bits_pieces), ("coxless/isa.names", laid_coxless_isa_names)] }
def EncBackSaid : Prop := encBackRow.holds Tryd.pinned (OpenSpec.ofChange encBackSpec)

/-- ITS FALSE NEIGHBOUR: 'it returns false'. Refute it at one input. -/
def encBackWrong : ChangeSpec := { name := "encBack", fn := fun _ => fun
  | [d1, d2, d3, d4, d5, d6] => { results := [.lit (.bool false)], args := [d1, d2, d3, d4, d5, d6] }
  | _ => none }
def EncBackWrongFalsely : Prop := encBackRow.holds Tryd.pinned (OpenSpec.ofChange encBackWrong)

/-- 'coxlesslaw06.EncMoves': WHATEVER THE INPUT: true; the input reads as it did. -/
def encMovesSpec : ChangeSpec := { name := "encMoves", fn := fun _ => fun
  | [d1, d2, d3] => { results := [.lit (.bool true)], args := [d1, d2, d3] }
  | _ => none }
def encMovesRow : OpenClaim := { program := "ytjeemiabddblhaadoor", sum := "a4540c56c7740fdd36e59eefe7ca0377e870910aa79f7ad714f947ecc4ba6197", func := "coxless/coxlesslaw06.EncMoves", spec := "encMoves", unfollowed := true, recurses := true, named := ["coxless/isa.names", "coxless/bits.pieces"], apart := false, laid := [("coxless/bits.pieces", laid_coxless_bits_pieces), ("coxless/isa.names", laid_coxless_isa_names)] }
def EncMovesSaid : Prop := encMovesRow.holds Tryd.pinned (OpenSpec.ofChange encMovesSpec)

/-- ITS FALSE NEIGHBOUR: 'it returns false'. Refute it at one input. -/
def encMovesWrong : ChangeSpec := { name := "encMoves", fn := fun _ => fun
  | [d1, d2, d3] => { results := [.lit (.bool false)], args := [d1, d2, d3] }
  | _ => none }
def EncMovesWrongFalsely : Prop := encMovesRow.holds Tryd.pinned (OpenSpec.ofChange encMovesWrong)

/- THE SECOND FORM. 'bulk': how many values and letters a reading holds, each counted each time it is reached (what is shared counts as often as it is met; a slice's spare places count too). A statement '..UptoSaid' is the law's where the arguments, and the package variables that the reading takes, are together of bulk at most 1048576: NARROWER than '..Said'. Prove '..Said' where nothing that the law and all that it calls make is longer than what came in: it says more and counts as full. Else prove '..UptoSaid'. A law counts once. -/
mutual
def uptoBulk {H : Type} : DataW H → Nat
  | .lit (.string bytes) => bytes.length + 1
  | .lit _ => 1
  | .nil => 1
  | .ptr d => uptoBulk d + 1
  | .slice elems spare => uptoBulkAll elems + uptoBulkAll spare + 1
  | .agg parts => uptoBulkAll parts + 1
  | .iface _ d => uptoBulk d + 1
  | .map entries => uptoBulkEntries entries + 1
  | .held _ => 1
def uptoBulkAll {H : Type} : List (DataW H) → Nat
  | [] => 0
  | d :: r => uptoBulk d + uptoBulkAll r
def uptoBulkEntries {H : Type} : List (Lit × DataW H) → Nat
  | [] => 0
  | x :: r => uptoBulkEntry x + uptoBulkEntries r
def uptoBulkEntry {H : Type} : Lit × DataW H → Nat
  | (.string bytes, d) => bytes.length + uptoBulk d + 1
  | (_, d) => uptoBulk d + 1
 end
def uptoSmall : (H : Type) → List (DataW H) → Bool := fun _ ds => decide (uptoBulkAll ds ≤ 1048576)
def OpenSpec.upto (s : _root_.Go.ChangeSpec) : _root_.Go.OpenSpec := { _root_.Go.OpenSpec.ofChange s with cond := some uptoSmall }

/-- 'coxlesslaw06.EncWords', WHERE WHAT IT READS IS OF BULK AT MOST 1048576: true; the input reads as it did. -/
def encWordsUptoRow : OpenClaim := { program := "ytjeemiabddblhaadoor", sum := "a4540c56c7740fdd36e59eefe7ca0377e870910aa79f7ad714f947ecc4ba6197", func := "coxless/coxlesslaw06.EncWords", spec := "encWords", unfollowed := true, recurses := true, named := ["coxless/isa.names", "coxless/bits.pieces"], apart := false, laid := [("coxless/bits.pieces", laid_coxless_bits_pieces), ("coxless/isa.names", laid_coxless_isa_names)], narrowed := true }
def EncWordsUptoSaid : Prop := encWordsUptoRow.holds Tryd.pinned (OpenSpec.upto encWordsSpec)

/-- 'coxlesslaw06.EncInsts', WHERE WHAT IT READS IS OF BULK AT MOST 1048576: true; the input reads as it did. -/
def encInstsUptoRow : OpenClaim := { program := "ytjeemiabddblhaadoor", sum := "a4540c56c7740fdd36e59eefe7ca0377e870910aa79f7ad714f947ecc4ba6197", func := "coxless/coxlesslaw06.EncInsts", spec := "encInsts", unfollowed := true, recurses := true, named := ["coxless/bits.pieces", "coxless/isa.names"], apart := false, laid := [("coxless/bits.pieces", laid_coxless_bits_pieces), ("coxless/isa.names", laid_coxless_isa_names)], narrowed := true }
def EncInstsUptoSaid : Prop := encInstsUptoRow.holds Tryd.pinned (OpenSpec.upto encInstsSpec)

/-- 'coxlesslaw06.EncKnown', WHERE WHAT IT READS IS OF BULK AT MOST 1048576: true; the input reads as it did. -/
def encKnownUptoRow : OpenClaim := { program := "ytjeemiabddblhaadoor", sum := "a4540c56c7740fdd36e59eefe7ca0377e870910aa79f7ad714f947ecc4ba6197", func := "coxless/coxlesslaw06.EncKnown", spec := "encKnown", unfollowed := true, recurses := true, named := ["coxless/isa.names", "coxless/bits.pieces"], apart := false, laid := [("coxless/bits.pieces", laid_coxless_bits_pieces), ("coxless/isa.names", laid_coxless_isa_names)], narrowed := true }
def EncKnownUptoSaid : Prop := encKnownUptoRow.holds Tryd.pinned (OpenSpec.upto encKnownSpec)

/-- 'coxlesslaw06.EncBack', WHERE WHAT IT READS IS OF BULK AT MOST 1048576: true; the input reads as it did. -/
def encBackUptoRow : OpenClaim := { program := "ytjeemiabddblhaadoor", sum := "a4540c56c7740fdd36e59eefe7ca0377e870910aa79f7ad714f947ecc4ba6197", func := "coxless/coxlesslaw06.EncBack", spec := "encBack", unfollowed := true, recurses := true, named := ["coxless/bits.pieces", "coxless/isa.names"], apart := false, laid := [("coxless/bits.pieces", laid_coxless_bits_pieces), ("coxless/isa.names", laid_coxless_isa_names)], narrowed := true }
def EncBackUptoSaid : Prop := encBackUptoRow.holds Tryd.pinned (OpenSpec.upto encBackSpec)

/-- 'coxlesslaw06.EncMoves', WHERE WHAT IT READS IS OF BULK AT MOST 1048576: true; the input reads as it did. -/
def encMovesUptoRow : OpenClaim := { program := "ytjeemiabddblhaadoor", sum := "a4540c56c7740fdd36e59eefe7ca0377e870910aa79f7ad714f947ecc4ba6197", func := "coxless/coxlesslaw06.EncMoves", spec := "encMoves", unfollowed := true, recurses := true, named := ["coxless/isa.names", "coxless/bits.pieces"], apart := false, laid := [("coxless/bits.pieces", laid_coxless_bits_pieces), ("coxless/isa.names", laid_coxless_isa_names)], narrowed := true }
def EncMovesUptoSaid : Prop := encMovesUptoRow.holds Tryd.pinned (OpenSpec.upto encMovesSpec)

end Rows
end Go.Proofs.YtjeemiabddblhaaDoor
