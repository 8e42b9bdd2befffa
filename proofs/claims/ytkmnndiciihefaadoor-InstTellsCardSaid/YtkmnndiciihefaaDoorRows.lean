/-
  NARROWER THAN 'FOR EVERY INPUT', by the rows' own cells (each row's printed sentence says how): InstKnown: laid · InstTells: laid · InstOne: laid · InstTurned: laid.
  DERIVED. THE GIVEN ROWS OF THIS SEAT. 4 by the template 'for every input the law returns true; each argument reads behind the call as it read before'; 0 by the template 'total and deterministic' (their statements: YtkmnndiciihefaaDoorTotals.lean).
  GIVEN WITH THE SEED: the statements are not yours to turn. If you find one false, say at which input.
  Laid BY PROGRAM, IN A SANDBOX (cutbox-rows.mjs): the forced cells as the released guide's own fill.sh prints them over the translation 51348125dc9663a0… (all of the seat's roots in one cut). By AI agents, Wed Nov 11 2026. No macro, syntax, notation, axiom, sorry.
-/
import Derived.Test.YtkmnndiciihefaaDoorChecked
import GoSem.Claim
import GoSem.ClaimJoined
import GoSem.ClaimMapViews
import Derived.JoinedTies
import Derived.KernelRfl
namespace Go.Proofs.YtkmnndiciihefaaDoor
/- THE CELL 'sum', in the pinned program and in every row, IS THE sha256 OF THE DUMP (.gsa) THAT YtkmnndiciihefaaDoorProg.lean LOADS. Nothing in Lean hashes anything: it is a label: what it is worth is what the hold of that sum in a sandbox is worth. -/
noncomputable def Tryd.pinned : Pinned := { name := "ytkmnndiciihefaadoor", sum := "51348125dc9663a06f6cabe2bec954730341674882bdde3f1b7c2ada73101d6d", checked := Tryd.checked }
namespace Rows
def none {H : Type} : Left H := { results := [], args := [] }

/- WHAT THE LISTED PACKAGE-LEVEL VARIABLES READ AS WHEN THE CALL BEGINS. Each datum BY PROGRAM (the guide's laid-datum.mjs) off the statement by which the dump's own 'gosem.cut.vars' lays the variable. In a bare row this is a premise. The card (YtkmnndiciihefaaDoorCards.lean) ties it to the program's text. -/
def laid_coxless_isa_names {H : Type} : DataW H := .agg [.lit (.string []), .lit (.string [110, 111, 112]), .lit (.string [97, 100, 100]), .lit (.string [115, 117, 98]), .lit (.string [97, 110, 100]), .lit (.string [111, 114]), .lit (.string [120, 111, 114]), .lit (.string [97, 100, 100, 105]), .lit (.string [109, 111, 118, 105]), .lit (.string [109, 111, 118]), .lit (.string [99, 109, 112, 101, 113]), .lit (.string [99, 109, 112, 103, 116]), .lit (.string [99, 109, 112, 103, 116, 117]), .lit (.string [99, 109, 112, 101, 113, 105]), .lit (.string [109, 117, 120]), .lit (.string [97, 115, 108]), .lit (.string [108, 115, 114]), .lit (.string [97, 115, 114]), .lit (.string [109, 112, 121]), .lit (.string [99, 109, 112, 121]), .lit (.string [99, 109, 112, 121, 99]), .lit (.string [108, 100, 119]), .lit (.string [108, 100, 104]), .lit (.string [108, 100, 98]), .lit (.string [115, 116, 119]), .lit (.string [115, 116, 104]), .lit (.string [115, 116, 98]), .lit (.string [106, 117, 109, 112]), .lit (.string [106, 117, 109, 112, 114]), .lit (.string [99, 97, 108, 108]), .lit (.string [108, 111, 111, 112, 105]), .lit (.string [108, 111, 111, 112, 114])]

/-- 'coxlesslaw04.InstKnown': WHATEVER THE INPUT: true; the input reads as it did. -/
def instKnownSpec : ChangeSpec := { name := "instKnown", fn := fun _ => fun
  | [] => { results := [.lit (.bool true)], args := [] }
  | _ => none }
def instKnownRow : OpenClaim := { program := "ytkmnndiciihefaadoor", sum := "51348125dc9663a06f6cabe2bec954730341674882bdde3f1b7c2ada73101d6d", func := "coxless/coxlesslaw04.InstKnown", spec := "instKnown", unfollowed := true, recurses := true, named := ["coxless/isa.names"], apart := false, laid := [("coxless/isa.names", laid_coxless_isa_names)] }
def InstKnownSaid : Prop := instKnownRow.holds Tryd.pinned (OpenSpec.ofChange instKnownSpec)

/-- ITS FALSE NEIGHBOUR: 'it returns false'. Refute it at one input. -/
def instKnownWrong : ChangeSpec := { name := "instKnown", fn := fun _ => fun
  | [] => { results := [.lit (.bool false)], args := [] }
  | _ => none }
def InstKnownWrongFalsely : Prop := instKnownRow.holds Tryd.pinned (OpenSpec.ofChange instKnownWrong)

/-- 'coxlesslaw04.InstTells': WHATEVER THE INPUT: true; the input reads as it did. -/
def instTellsSpec : ChangeSpec := { name := "instTells", fn := fun _ => fun
  | [d] => { results := [.lit (.bool true)], args := [d] }
  | _ => none }
def instTellsRow : OpenClaim := { program := "ytkmnndiciihefaadoor", sum := "51348125dc9663a06f6cabe2bec954730341674882bdde3f1b7c2ada73101d6d", func := "coxless/coxlesslaw04.InstTells", spec := "instTells", unfollowed := true, recurses := true, named := ["coxless/isa.names"], apart := false, laid := [("coxless/isa.names", laid_coxless_isa_names)] }
def InstTellsSaid : Prop := instTellsRow.holds Tryd.pinned (OpenSpec.ofChange instTellsSpec)

/-- ITS FALSE NEIGHBOUR: 'it returns false'. Refute it at one input. -/
def instTellsWrong : ChangeSpec := { name := "instTells", fn := fun _ => fun
  | [d] => { results := [.lit (.bool false)], args := [d] }
  | _ => none }
def InstTellsWrongFalsely : Prop := instTellsRow.holds Tryd.pinned (OpenSpec.ofChange instTellsWrong)

/-- 'coxlesslaw04.InstOne': WHATEVER THE INPUT: true; the input reads as it did. -/
def instOneSpec : ChangeSpec := { name := "instOne", fn := fun _ => fun
  | [d] => { results := [.lit (.bool true)], args := [d] }
  | _ => none }
def instOneRow : OpenClaim := { program := "ytkmnndiciihefaadoor", sum := "51348125dc9663a06f6cabe2bec954730341674882bdde3f1b7c2ada73101d6d", func := "coxless/coxlesslaw04.InstOne", spec := "instOne", unfollowed := true, recurses := true, named := ["coxless/isa.names"], apart := false, laid := [("coxless/isa.names", laid_coxless_isa_names)] }
def InstOneSaid : Prop := instOneRow.holds Tryd.pinned (OpenSpec.ofChange instOneSpec)

/-- ITS FALSE NEIGHBOUR: 'it returns false'. Refute it at one input. -/
def instOneWrong : ChangeSpec := { name := "instOne", fn := fun _ => fun
  | [d] => { results := [.lit (.bool false)], args := [d] }
  | _ => none }
def InstOneWrongFalsely : Prop := instOneRow.holds Tryd.pinned (OpenSpec.ofChange instOneWrong)

/-- 'coxlesslaw04.InstTurned': WHATEVER THE INPUT: true; the input reads as it did. -/
def instTurnedSpec : ChangeSpec := { name := "instTurned", fn := fun _ => fun
  | [d1, d2] => { results := [.lit (.bool true)], args := [d1, d2] }
  | _ => none }
def instTurnedRow : OpenClaim := { program := "ytkmnndiciihefaadoor", sum := "51348125dc9663a06f6cabe2bec954730341674882bdde3f1b7c2ada73101d6d", func := "coxless/coxlesslaw04.InstTurned", spec := "instTurned", unfollowed := true, recurses := true, named := ["coxless/isa.names"], apart := false, laid := [("coxless/isa.names", laid_coxless_isa_names)] }
def InstTurnedSaid : Prop := instTurnedRow.holds Tryd.pinned (OpenSpec.ofChange instTurnedSpec)

/-- ITS FALSE NEIGHBOUR: 'it returns false'. Refute it at one input. -/
def instTurnedWrong : ChangeSpec := { name := "instTurned", fn := fun _ => fun
  | [d1, d2] => { results := [.lit (.bool false)], args := [d1, d2] }
  | _ => none }
def InstTurnedWrongFalsely : Prop := instTurnedRow.holds Tryd.pinned (OpenSpec.ofChange instTurnedWrong)

/- THE SECOND FORM. 'bulk': how many values and letters a reading holds, each counted each time it is reached (what is shared counts as often as it is met; a slice's spare places count too). A statement '..UptoSaid' is the law's where the arguments, and the package variables that the reading takes, are together of bulk at most 1048576: NARROWER than '..Said'. Prove '..Said' where nothing that the law and all that it calls make is longer than what came in: it says more and counts as full. Else prove '..UptoSaid'. A law counts once. -/
mutual
def uptoBulk {H : Type} : DataW H → Nat
  | .lit (.string bytes) => bytes.length + 1
  | .lit _ => 1
  | .nil => 1
  | .ptr d => uptoBulk d + 1
  | .slice elems spare => uptoBulkAll elems + uptoBulkAll spare + 1
  | .agg parts => uptoBulkAll parts + 1
  | .iface _ d => uptoBulk d + 1
  | .map entries => uptoBulkEntries entries + 1
  | .held _ => 1
def uptoBulkAll {H : Type} : List (DataW H) → Nat
  | [] => 0
  | d :: r => uptoBulk d + uptoBulkAll r
def uptoBulkEntries {H : Type} : List (Lit × DataW H) → Nat
  | [] => 0
  | x :: r => uptoBulkEntry x + uptoBulkEntries r
def uptoBulkEntry {H : Type} : Lit × DataW H → Nat
  | (.string bytes, d) => bytes.length + uptoBulk d + 1
  | (_, d) => uptoBulk d + 1
 end
def uptoSmall : (H : Type) → List (DataW H) → Bool := fun _ ds => decide (uptoBulkAll ds ≤ 1048576)
def OpenSpec.upto (s : _root_.Go.ChangeSpec) : _root_.Go.OpenSpec := { _root_.Go.OpenSpec.ofChange s with cond := some uptoSmall }

/-- 'coxlesslaw04.InstKnown', WHERE WHAT IT READS IS OF BULK AT MOST 1048576: true; the input reads as it did. -/
def instKnownUptoRow : OpenClaim := { program := "ytkmnndiciihefaadoor", sum := "51348125dc9663a06f6cabe2bec954730341674882bdde3f1b7c2ada73101d6d", func := "coxless/coxlesslaw04.InstKnown", spec := "instKnown", unfollowed := true, recurses := true, named := ["coxless/isa.names"], apart := false, laid := [("coxless/isa.names", laid_coxless_isa_names)], narrowed := true }
def InstKnownUptoSaid : Prop := instKnownUptoRow.holds Tryd.pinned (OpenSpec.upto instKnownSpec)

/-- 'coxlesslaw04.InstTells', WHERE WHAT IT READS IS OF BULK AT MOST 1048576: true; the input reads as it did. -/
def instTellsUptoRow : OpenClaim := { program := "ytkmnndiciihefaadoor", sum := "51348125dc9663a06f6cabe2bec954730341674882bdde3f1b7c2ada73101d6d", func := "coxless/coxlesslaw04.InstTells", spec := "instTells", unfollowed := true, recurses := true, named := ["coxless/isa.names"], apart := false, laid := [("coxless/isa.names", laid_coxless_isa_names)], narrowed := true }
def InstTellsUptoSaid : Prop := instTellsUptoRow.holds Tryd.pinned (OpenSpec.upto instTellsSpec)

/-- 'coxlesslaw04.InstOne', WHERE WHAT IT READS IS OF BULK AT MOST 1048576: true; the input reads as it did. -/
def instOneUptoRow : OpenClaim := { program := "ytkmnndiciihefaadoor", sum := "51348125dc9663a06f6cabe2bec954730341674882bdde3f1b7c2ada73101d6d", func := "coxless/coxlesslaw04.InstOne", spec := "instOne", unfollowed := true, recurses := true, named := ["coxless/isa.names"], apart := false, laid := [("coxless/isa.names", laid_coxless_isa_names)], narrowed := true }
def InstOneUptoSaid : Prop := instOneUptoRow.holds Tryd.pinned (OpenSpec.upto instOneSpec)

/-- 'coxlesslaw04.InstTurned', WHERE WHAT IT READS IS OF BULK AT MOST 1048576: true; the input reads as it did. -/
def instTurnedUptoRow : OpenClaim := { program := "ytkmnndiciihefaadoor", sum := "51348125dc9663a06f6cabe2bec954730341674882bdde3f1b7c2ada73101d6d", func := "coxless/coxlesslaw04.InstTurned", spec := "instTurned", unfollowed := true, recurses := true, named := ["coxless/isa.names"], apart := false, laid := [("coxless/isa.names", laid_coxless_isa_names)], narrowed := true }
def InstTurnedUptoSaid : Prop := instTurnedUptoRow.holds Tryd.pinned (OpenSpec.upto instTurnedSpec)

end Rows
end Go.Proofs.YtkmnndiciihefaaDoor
