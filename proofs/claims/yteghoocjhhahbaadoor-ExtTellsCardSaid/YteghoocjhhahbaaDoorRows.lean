/-
  NARROWER THAN 'FOR EVERY INPUT', by the rows' own cells (each row's printed sentence says how): ExtTells: laid · ExtParts: laid · ExtKnown: laid · ExtBack: laid · ExtMoves: laid.
  DERIVED. THE GIVEN ROWS OF THIS SEAT. 5 by the template 'for every input the law returns true; each argument reads behind the call as it read before'; 0 by the template 'total and deterministic' (their statements: YteghoocjhhahbaaDoorTotals.lean).
  GIVEN WITH THE SEED: the statements are not yours to turn. If you find one false, say at which input.
  Laid BY PROGRAM, IN A SANDBOX (cutbox-rows.mjs): the forced cells as the released guide's own fill.sh prints them over the translation f681dd7bde3c481e… (all of the seat's roots in one cut). By AI agents, Wed Nov 11 2026. No macro, syntax, notation, axiom, sorry.
-/
import Derived.Test.YteghoocjhhahbaaDoorChecked
import GoSem.Claim
import GoSem.ClaimJoined
import GoSem.ClaimMapViews
import Derived.JoinedTies
import Derived.KernelRfl
namespace Go.Proofs.YteghoocjhhahbaaDoor
/- THE CELL 'sum', in the pinned program and in every row, IS THE sha256 OF THE DUMP (.gsa) THAT YteghoocjhhahbaaDoorProg.lean LOADS. Nothing in Lean hashes anything: it is a label: what it is worth is what the hold of that sum in a sandbox is worth. -/
noncomputable def Tryd.pinned : Pinned := { name := "yteghoocjhhahbaadoor", sum := "f681dd7bde3c481efd5fd826a9131eb6b8aa5d42de4e54a697acd543c094ad7a", checked := Tryd.checked }
namespace Rows
def none {H : Type} : Left H := { results := [], args := [] }

/- WHAT THE LISTED PACKAGE-LEVEL VARIABLES READ AS WHEN THE CALL BEGINS. Each datum BY PROGRAM (the guide's laid-datum.mjs) off the statement by which the dump's own 'gosem.cut.vars' lays the variable. In a bare row this is a premise. The card (YteghoocjhhahbaaDoorCards.lean) ties it to the program's text. -/
def laid_coxless_isa_names {H : Type} : DataW H := .agg [.lit (.string []), .lit (.string [110, 111, 112]), .lit (.string [97, 100, 100]), .lit (.string [115, 117, 98]), .lit (.string [97, 110, 100]), .lit (.string [111, 114]), .lit (.string [120, 111, 114]), .lit (.string [97, 100, 100, 105]), .lit (.string [109, 111, 118, 105]), .lit (.string [109, 111, 118]), .lit (.string [99, 109, 112, 101, 113]), .lit (.string [99, 109, 112, 103, 116]), .lit (.string [99, 109, 112, 103, 116, 117]), .lit (.string [99, 109, 112, 101, 113, 105]), .lit (.string [109, 117, 120]), .lit (.string [97, 115, 108]), .lit (.string [108, 115, 114]), .lit (.string [97, 115, 114]), .lit (.string [109, 112, 121]), .lit (.string [99, 109, 112, 121]), .lit (.string [99, 109, 112, 121, 99]), .lit (.string [108, 100, 119]), .lit (.string [108, 100, 104]), .lit (.string [108, 100, 98]), .lit (.string [115, 116, 119]), .lit (.string [115, 116, 104]), .lit (.string [115, 116, 98]), .lit (.string [106, 117, 109, 112]), .lit (.string [106, 117, 109, 112, 114]), .lit (.string [99, 97, 108, 108]), .lit (.string [108, 111, 111, 112, 105]), .lit (.string [108, 111, 111, 112, 114])]

/-- 'coxlesslaw05.ExtTells': WHATEVER THE INPUT: true; the input reads as it did. -/
def extTellsSpec : ChangeSpec := { name := "extTells", fn := fun _ => fun
  | [d1, d2] => { results := [.lit (.bool true)], args := [d1, d2] }
  | _ => none }
def extTellsRow : OpenClaim := { program := "yteghoocjhhahbaadoor", sum := "f681dd7bde3c481efd5fd826a9131eb6b8aa5d42de4e54a697acd543c094ad7a", func := "coxless/coxlesslaw05.ExtTells", spec := "extTells", named := ["coxless/isa.names"], apart := false, laid := [("coxless/isa.names", laid_coxless_isa_names)] }
def ExtTellsSaid : Prop := extTellsRow.holds Tryd.pinned (OpenSpec.ofChange extTellsSpec)

/-- ITS FALSE NEIGHBOUR: 'it returns false'. Refute it at one input. -/
def extTellsWrong : ChangeSpec := { name := "extTells", fn := fun _ => fun
  | [d1, d2] => { results := [.lit (.bool false)], args := [d1, d2] }
  | _ => none }
def ExtTellsWrongFalsely : Prop := extTellsRow.holds Tryd.pinned (OpenSpec.ofChange extTellsWrong)

/-- 'coxlesslaw05.ExtParts': WHATEVER THE INPUT: true; the input reads as it did. -/
def extPartsSpec : ChangeSpec := { name := "extParts", fn := fun _ => fun
  | [d1, d2, d3, d4] => { results := [.lit (.bool true)], args := [d1, d2, d3, d4] }
  | _ => none }
def extPartsRow : OpenClaim := { program := "yteghoocjhhahbaadoor", sum := "f681dd7bde3c481efd5fd826a9131eb6b8aa5d42de4e54a697acd543c094ad7a", func := "coxless/coxlesslaw05.ExtParts", spec := "extParts", named := ["coxless/isa.names"], apart := false, laid := [("coxless/isa.names", laid_coxless_isa_names)] }
def ExtPartsSaid : Prop := extPartsRow.holds Tryd.pinned (OpenSpec.ofChange extPartsSpec)

/-- ITS FALSE NEIGHBOUR: 'it returns false'. Refute it at one input. -/
def extPartsWrong : ChangeSpec := { name := "extParts", fn := fun _ => fun
  | [d1, d2, d3, d4] => { results := [.lit (.bool false)], args := [d1, d2, d3, d4] }
  | _ => none }
def ExtPartsWrongFalsely : Prop := extPartsRow.holds Tryd.pinned (OpenSpec.ofChange extPartsWrong)

/-- 'coxlesslaw05.ExtKnown': WHATEVER THE INPUT: true; the input reads as it did. -/
def extKnownSpec : ChangeSpec := { name := "extKnown", fn := fun _ => fun
  | [] => { results := [.lit (.bool true)], args := [] }
  | _ => none }
def extKnownRow : OpenClaim := { program := "yteghoocjhhahbaadoor", sum := "f681dd7bde3c481efd5fd826a9131eb6b8aa5d42de4e54a697acd543c094ad7a", func := "coxless/coxlesslaw05.ExtKnown", spec := "extKnown", named := ["coxless/isa.names"], apart := false, laid := [("coxless/isa.names", laid_coxless_isa_names)] }
def ExtKnownSaid : Prop := extKnownRow.holds Tryd.pinned (OpenSpec.ofChange extKnownSpec)

/-- ITS FALSE NEIGHBOUR: 'it returns false'. Refute it at one input. -/
def extKnownWrong : ChangeSpec := { name := "extKnown", fn := fun _ => fun
  | [] => { results := [.lit (.bool false)], args := [] }
  | _ => none }
def ExtKnownWrongFalsely : Prop := extKnownRow.holds Tryd.pinned (OpenSpec.ofChange extKnownWrong)

/-- 'coxlesslaw05.ExtBack': WHATEVER THE INPUT: true; the input reads as it did. -/
def extBackSpec : ChangeSpec := { name := "extBack", fn := fun _ => fun
  | [d1, d2, d3, d4, d5] => { results := [.lit (.bool true)], args := [d1, d2, d3, d4, d5] }
  | _ => none }
def extBackRow : OpenClaim := { program := "yteghoocjhhahbaadoor", sum := "f681dd7bde3c481efd5fd826a9131eb6b8aa5d42de4e54a697acd543c094ad7a", func := "coxless/coxlesslaw05.ExtBack", spec := "extBack", named := ["coxless/isa.names"], apart := false, laid := [("coxless/isa.names", laid_coxless_isa_names)] }
def ExtBackSaid : Prop := extBackRow.holds Tryd.pinned (OpenSpec.ofChange extBackSpec)

/-- ITS FALSE NEIGHBOUR: 'it returns false'. Refute it at one input. -/
def extBackWrong : ChangeSpec := { name := "extBack", fn := fun _ => fun
  | [d1, d2, d3, d4, d5] => { results := [.lit (.bool false)], args := [d1, d2, d3, d4, d5] }
  | _ => none }
def ExtBackWrongFalsely : Prop := extBackRow.holds Tryd.pinned (OpenSpec.ofChange extBackWrong)

/-- 'coxlesslaw05.ExtMoves': WHATEVER THE INPUT: true; the input reads as it did. -/
def extMovesSpec : ChangeSpec := { name := "extMoves", fn := fun _ => fun
  | [d1, d2, d3, d4] => { results := [.lit (.bool true)], args := [d1, d2, d3, d4] }
  | _ => none }
def extMovesRow : OpenClaim := { program := "yteghoocjhhahbaadoor", sum := "f681dd7bde3c481efd5fd826a9131eb6b8aa5d42de4e54a697acd543c094ad7a", func := "coxless/coxlesslaw05.ExtMoves", spec := "extMoves", named := ["coxless/isa.names"], apart := false, laid := [("coxless/isa.names", laid_coxless_isa_names)] }
def ExtMovesSaid : Prop := extMovesRow.holds Tryd.pinned (OpenSpec.ofChange extMovesSpec)

/-- ITS FALSE NEIGHBOUR: 'it returns false'. Refute it at one input. -/
def extMovesWrong : ChangeSpec := { name := "extMoves", fn := fun _ => fun
  | [d1, d2, d3, d4] => { results := [.lit (.bool false)], args := [d1, d2, d3, d4] }
  | _ => none }
def ExtMovesWrongFalsely : Prop := extMovesRow.holds Tryd.pinned (OpenSpec.ofChange extMovesWrong)

/- THE SECOND FORM. 'bulk': how many values and letters a reading holds, each counted each time it is reached (what is shared counts as often as it is met; a slice's spare places count too). A statement '..UptoSaid' is the law's where the arguments, and the package variables that the reading takes, are together of bulk at most 1048576: NARROWER than '..Said'. Prove '..Said' where nothing that the law and all that it calls make is longer than what came in: it says more and counts as full. Else prove '..UptoSaid'. A law counts once. -/
mutual
def uptoBulk {H : Type} : DataW H → Nat
  | .lit (.string bytes) => bytes.length + 1
  | .lit _ => 1
  | .nil => 1
  | .ptr d => uptoBulk d + 1
  | .slice elems spare => uptoBulkAll elems + uptoBulkAll spare + 1
  | .agg parts => uptoBulkAll parts + 1
  | .iface _ d => uptoBulk d + 1
  | .map entries => uptoBulkEntries entries + 1
  | .held _ => 1
def uptoBulkAll {H : Type} : List (DataW H) → Nat
  | [] => 0
  | d :: r => uptoBulk d + uptoBulkAll r
def uptoBulkEntries {H : Type} : List (Lit × DataW H) → Nat
  | [] => 0
  | x :: r => uptoBulkEntry x + uptoBulkEntries r
def uptoBulkEntry {H : Type} : Lit × DataW H → Nat
  | (.string bytes, d) => bytes.length + uptoBulk d + 1
  | (_, d) => uptoBulk d + 1
 end
def uptoSmall : (H : Type) → List (DataW H) → Bool := fun _ ds => decide (uptoBulkAll ds ≤ 1048576)
def OpenSpec.upto (s : _root_.Go.ChangeSpec) : _root_.Go.OpenSpec := { _root_.Go.OpenSpec.ofChange s with cond := some uptoSmall }

/-- 'coxlesslaw05.ExtTells', WHERE WHAT IT READS IS OF BULK AT MOST 1048576: true; the input reads as it did. -/
def extTellsUptoRow : OpenClaim := { program := "yteghoocjhhahbaadoor", sum := "f681dd7bde3c481efd5fd826a9131eb6b8aa5d42de4e54a697acd543c094ad7a", func := "coxless/coxlesslaw05.ExtTells", spec := "extTells", named := ["coxless/isa.names"], apart := false, laid := [("coxless/isa.names", laid_coxless_isa_names)], narrowed := true }
def ExtTellsUptoSaid : Prop := extTellsUptoRow.holds Tryd.pinned (OpenSpec.upto extTellsSpec)

/-- 'coxlesslaw05.ExtParts', WHERE WHAT IT READS IS OF BULK AT MOST 1048576: true; the input reads as it did. -/
def extPartsUptoRow : OpenClaim := { program := "yteghoocjhhahbaadoor", sum := "f681dd7bde3c481efd5fd826a9131eb6b8aa5d42de4e54a697acd543c094ad7a", func := "coxless/coxlesslaw05.ExtParts", spec := "extParts", named := ["coxless/isa.names"], apart := false, laid := [("coxless/isa.names", laid_coxless_isa_names)], narrowed := true }
def ExtPartsUptoSaid : Prop := extPartsUptoRow.holds Tryd.pinned (OpenSpec.upto extPartsSpec)

/-- 'coxlesslaw05.ExtKnown', WHERE WHAT IT READS IS OF BULK AT MOST 1048576: true; the input reads as it did. -/
def extKnownUptoRow : OpenClaim := { program := "yteghoocjhhahbaadoor", sum := "f681dd7bde3c481efd5fd826a9131eb6b8aa5d42de4e54a697acd543c094ad7a", func := "coxless/coxlesslaw05.ExtKnown", spec := "extKnown", named := ["coxless/isa.names"], apart := false, laid := [("coxless/isa.names", laid_coxless_isa_names)], narrowed := true }
def ExtKnownUptoSaid : Prop := extKnownUptoRow.holds Tryd.pinned (OpenSpec.upto extKnownSpec)

/-- 'coxlesslaw05.ExtBack', WHERE WHAT IT READS IS OF BULK AT MOST 1048576: true; the input reads as it did. -/
def extBackUptoRow : OpenClaim := { program := "yteghoocjhhahbaadoor", sum := "f681dd7bde3c481efd5fd826a9131eb6b8aa5d42de4e54a697acd543c094ad7a", func := "coxless/coxlesslaw05.ExtBack", spec := "extBack", named := ["coxless/isa.names"], apart := false, laid := [("coxless/isa.names", laid_coxless_isa_names)], narrowed := true }
def ExtBackUptoSaid : Prop := extBackUptoRow.holds Tryd.pinned (OpenSpec.upto extBackSpec)

/-- 'coxlesslaw05.ExtMoves', WHERE WHAT IT READS IS OF BULK AT MOST 1048576: true; the input reads as it did. -/
def extMovesUptoRow : OpenClaim := { program := "yteghoocjhhahbaadoor", sum := "f681dd7bde3c481efd5fd826a9131eb6b8aa5d42de4e54a697acd543c094ad7a", func := "coxless/coxlesslaw05.ExtMoves", spec := "extMoves", named := ["coxless/isa.names"], apart := false, laid := [("coxless/isa.names", laid_coxless_isa_names)], narrowed := true }
def ExtMovesUptoSaid : Prop := extMovesUptoRow.holds Tryd.pinned (OpenSpec.upto extMovesSpec)

end Rows
end Go.Proofs.YteghoocjhhahbaaDoor
