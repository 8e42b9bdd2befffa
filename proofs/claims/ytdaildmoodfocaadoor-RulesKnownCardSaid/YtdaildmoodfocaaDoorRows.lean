/-
  NARROWER THAN 'FOR EVERY INPUT', by the rows' own cells (each row's printed sentence says how): RulesKnown: laid · RulesTells: laid · RulesDue: laid · RulesRow: laid · RulesLess: laid.
  DERIVED. THE GIVEN ROWS OF THIS SEAT. 5 by the template 'for every input the law returns true; each argument reads behind the call as it read before'; 0 by the template 'total and deterministic' (their statements: YtdaildmoodfocaaDoorTotals.lean).
  GIVEN WITH THE SEED: the statements are not yours to turn. If you find one false, say at which input.
  Laid BY PROGRAM, IN A SANDBOX (cutbox-rows.mjs): the forced cells as the released guide's own fill.sh prints them over the translation 984853b8ef716631… (all of the seat's roots in one cut). By AI agents, Wed Nov 11 2026. No macro, syntax, notation, axiom, sorry.
-/
import Derived.Test.YtdaildmoodfocaaDoorChecked
import GoSem.Claim
import GoSem.ClaimJoined
import GoSem.ClaimMapViews
import Derived.JoinedTies
import Derived.KernelRfl
namespace Go.Proofs.YtdaildmoodfocaaDoor
/- THE CELL 'sum', in the pinned program and in every row, IS THE sha256 OF THE DUMP (.gsa) THAT YtdaildmoodfocaaDoorProg.lean LOADS. Nothing in Lean hashes anything: it is a label: what it is worth is what the hold of that sum in a sandbox is worth. -/
noncomputable def Tryd.pinned : Pinned := { name := "ytdaildmoodfocaadoor", sum := "984853b8ef716631741170f9b5afe8461ec6b2a8b557f8e87ffa7273363a4e7e", checked := Tryd.checked }
namespace Rows
def none {H : Type} : Left H := { results := [], args := [] }

/- WHAT THE LISTED PACKAGE-LEVEL VARIABLES READ AS WHEN THE CALL BEGINS. Each datum BY PROGRAM (the guide's laid-datum.mjs) off the statement by which the dump's own 'gosem.cut.vars' lays the variable. In a bare row this is a premise. The card (YtdaildmoodfocaaDoorCards.lean) ties it to the program's text. -/
def laid_coxless_isa_names {H : Type} : DataW H := .agg [.lit (.string []), .lit (.string [110, 111, 112]), .lit (.string [97, 100, 100]), .lit (.string [115, 117, 98]), .lit (.string [97, 110, 100]), .lit (.string [111, 114]), .lit (.string [120, 111, 114]), .lit (.string [97, 100, 100, 105]), .lit (.string [109, 111, 118, 105]), .lit (.string [109, 111, 118]), .lit (.string [99, 109, 112, 101, 113]), .lit (.string [99, 109, 112, 103, 116]), .lit (.string [99, 109, 112, 103, 116, 117]), .lit (.string [99, 109, 112, 101, 113, 105]), .lit (.string [109, 117, 120]), .lit (.string [97, 115, 108]), .lit (.string [108, 115, 114]), .lit (.string [97, 115, 114]), .lit (.string [109, 112, 121]), .lit (.string [99, 109, 112, 121]), .lit (.string [99, 109, 112, 121, 99]), .lit (.string [108, 100, 119]), .lit (.string [108, 100, 104]), .lit (.string [108, 100, 98]), .lit (.string [115, 116, 119]), .lit (.string [115, 116, 104]), .lit (.string [115, 116, 98]), .lit (.string [106, 117, 109, 112]), .lit (.string [106, 117, 109, 112, 114]), .lit (.string [99, 97, 108, 108]), .lit (.string [108, 111, 111, 112, 105]), .lit (.string [108, 111, 111, 112, 114])]

/-- 'coxlesslaw10.RulesKnown': WHATEVER THE INPUT: true; the input reads as it did. -/
def rulesKnownSpec : ChangeSpec := { name := "rulesKnown", fn := fun _ => fun
  | [] => { results := [.lit (.bool true)], args := [] }
  | _ => none }
def rulesKnownRow : OpenClaim := { program := "ytdaildmoodfocaadoor", sum := "984853b8ef716631741170f9b5afe8461ec6b2a8b557f8e87ffa7273363a4e7e", func := "coxless/coxlesslaw10.RulesKnown", spec := "rulesKnown", unfollowed := true, recurses := true, named := ["coxless/isa.names"], apart := false, laid := [("coxless/isa.names", laid_coxless_isa_names)] }
def RulesKnownSaid : Prop := rulesKnownRow.holds Tryd.pinned (OpenSpec.ofChange rulesKnownSpec)

/-- ITS FALSE NEIGHBOUR: 'it returns false'. Refute it at one input. -/
def rulesKnownWrong : ChangeSpec := { name := "rulesKnown", fn := fun _ => fun
  | [] => { results := [.lit (.bool false)], args := [] }
  | _ => none }
def RulesKnownWrongFalsely : Prop := rulesKnownRow.holds Tryd.pinned (OpenSpec.ofChange rulesKnownWrong)

/-- 'coxlesslaw10.RulesTells': WHATEVER THE INPUT: true; the input reads as it did. -/
def rulesTellsSpec : ChangeSpec := { name := "rulesTells", fn := fun _ => fun
  | [d1, d2, d3] => { results := [.lit (.bool true)], args := [d1, d2, d3] }
  | _ => none }
def rulesTellsRow : OpenClaim := { program := "ytdaildmoodfocaadoor", sum := "984853b8ef716631741170f9b5afe8461ec6b2a8b557f8e87ffa7273363a4e7e", func := "coxless/coxlesslaw10.RulesTells", spec := "rulesTells", unfollowed := true, recurses := true, named := ["coxless/isa.names"], apart := false, laid := [("coxless/isa.names", laid_coxless_isa_names)] }
def RulesTellsSaid : Prop := rulesTellsRow.holds Tryd.pinned (OpenSpec.ofChange rulesTellsSpec)

/-- ITS FALSE NEIGHBOUR: 'it returns false'. Refute it at one input. -/
def rulesTellsWrong : ChangeSpec := { name := "rulesTells", fn := fun _ => fun
  | [d1, d2, d3] => { results := [.lit (.bool false)], args := [d1, d2, d3] }
  | _ => none }
def RulesTellsWrongFalsely : Prop := rulesTellsRow.holds Tryd.pinned (OpenSpec.ofChange rulesTellsWrong)

/-- 'coxlesslaw10.RulesDue': WHATEVER THE INPUT: true; the input reads as it did. -/
def rulesDueSpec : ChangeSpec := { name := "rulesDue", fn := fun _ => fun
  | [d1, d2, d3] => { results := [.lit (.bool true)], args := [d1, d2, d3] }
  | _ => none }
def rulesDueRow : OpenClaim := { program := "ytdaildmoodfocaadoor", sum := "984853b8ef716631741170f9b5afe8461ec6b2a8b557f8e87ffa7273363a4e7e", func := "coxless/coxlesslaw10.RulesDue", spec := "rulesDue", unfollowed := true, recurses := true, named := ["coxless/isa.names"], apart := false, laid := [("coxless/isa.names", laid_coxless_isa_names)] }
def RulesDueSaid : Prop := rulesDueRow.holds Tryd.pinned (OpenSpec.ofChange rulesDueSpec)

/-- ITS FALSE NEIGHBOUR: 'it returns false'. Refute it at one input. -/
def rulesDueWrong : ChangeSpec := { name := "rulesDue", fn := fun _ => fun
  | [d1, d2, d3] => { results := [.lit (.bool false)], args := [d1, d2, d3] }
  | _ => none }
def RulesDueWrongFalsely : Prop := rulesDueRow.holds Tryd.pinned (OpenSpec.ofChange rulesDueWrong)

/-- 'coxlesslaw10.RulesRow': WHATEVER THE INPUT: true; the input reads as it did. -/
def rulesRowSpec : ChangeSpec := { name := "rulesRow", fn := fun _ => fun
  | [d1, d2] => { results := [.lit (.bool true)], args := [d1, d2] }
  | _ => none }
def rulesRowRow : OpenClaim := { program := "ytdaildmoodfocaadoor", sum := "984853b8ef716631741170f9b5afe8461ec6b2a8b557f8e87ffa7273363a4e7e", func := "coxless/coxlesslaw10.RulesRow", spec := "rulesRow", unfollowed := true, recurses := true, named := ["coxless/isa.names"], apart := false, laid := [("coxless/isa.names", laid_coxless_isa_names)] }
def RulesRowSaid : Prop := rulesRowRow.holds Tryd.pinned (OpenSpec.ofChange rulesRowSpec)

/-- ITS FALSE NEIGHBOUR: 'it returns false'. Refute it at one input. -/
def rulesRowWrong : ChangeSpec := { name := "rulesRow", fn := fun _ => fun
  | [d1, d2] => { results := [.lit (.bool false)], args := [d1, d2] }
  | _ => none }
def RulesRowWrongFalsely : Prop := rulesRowRow.holds Tryd.pinned (OpenSpec.ofChange rulesRowWrong)

/-- 'coxlesslaw10.RulesLess': WHATEVER THE INPUT: true; the input reads as it did. -/
def rulesLessSpec : ChangeSpec := { name := "rulesLess", fn := fun _ => fun
  | [d1, d2] => { results := [.lit (.bool true)], args := [d1, d2] }
  | _ => none }
def rulesLessRow : OpenClaim := { program := "ytdaildmoodfocaadoor", sum := "984853b8ef716631741170f9b5afe8461ec6b2a8b557f8e87ffa7273363a4e7e", func := "coxless/coxlesslaw10.RulesLess", spec := "rulesLess", unfollowed := true, recurses := true, named := ["coxless/isa.names"], apart := false, laid := [("coxless/isa.names", laid_coxless_isa_names)] }
def RulesLessSaid : Prop := rulesLessRow.holds Tryd.pinned (OpenSpec.ofChange rulesLessSpec)

/-- ITS FALSE NEIGHBOUR: 'it returns false'. Refute it at one input. -/
def rulesLessWrong : ChangeSpec := { name := "rulesLess", fn := fun _ => fun
  | [d1, d2] => { results := [.lit (.bool false)], args := [d1, d2] }
  | _ => none }
def RulesLessWrongFalsely : Prop := rulesLessRow.holds Tryd.pinned (OpenSpec.ofChange rulesLessWrong)

/- THE SECOND FORM. 'bulk': how many values and letters a reading holds, each counted each time it is reached (what is shared counts as often as it is met; a slice's spare places count too). A statement '..UptoSaid' is the law's where the arguments, and the package variables that the reading takes, are together of bulk at most 1048576: NARROWER than '..Said'. Prove '..Said' where nothing that the law and all that it calls make is longer than what came in: it says more and counts as full. Else prove '..UptoSaid'. A law counts once. -/
mutual
def uptoBulk {H : Type} : DataW H → Nat
  | .lit (.string bytes) => bytes.length + 1
  | .lit _ => 1
  | .nil => 1
  | .ptr d => uptoBulk d + 1
  | .slice elems spare => uptoBulkAll elems + uptoBulkAll spare + 1
  | .agg parts => uptoBulkAll parts + 1
  | .iface _ d => uptoBulk d + 1
  | .map entries => uptoBulkEntries entries + 1
  | .held _ => 1
def uptoBulkAll {H : Type} : List (DataW H) → Nat
  | [] => 0
  | d :: r => uptoBulk d + uptoBulkAll r
def uptoBulkEntries {H : Type} : List (Lit × DataW H) → Nat
  | [] => 0
  | x :: r => uptoBulkEntry x + uptoBulkEntries r
def uptoBulkEntry {H : Type} : Lit × DataW H → Nat
  | (.string bytes, d) => bytes.length + uptoBulk d + 1
  | (_, d) => uptoBulk d + 1
 end
def uptoSmall : (H : Type) → List (DataW H) → Bool := fun _ ds => decide (uptoBulkAll ds ≤ 1048576)
def OpenSpec.upto (s : _root_.Go.ChangeSpec) : _root_.Go.OpenSpec := { _root_.Go.OpenSpec.ofChange s with cond := some uptoSmall }

/-- 'coxlesslaw10.RulesKnown', WHERE WHAT IT READS IS OF BULK AT MOST 1048576: true; the input reads as it did. -/
def rulesKnownUptoRow : OpenClaim := { program := "ytdaildmoodfocaadoor", sum := "984853b8ef716631741170f9b5afe8461ec6b2a8b557f8e87ffa7273363a4e7e", func := "coxless/coxlesslaw10.RulesKnown", spec := "rulesKnown", unfollowed := true, recurses := true, named := ["coxless/isa.names"], apart := false, laid := [("coxless/isa.names", laid_coxless_isa_names)], narrowed := true }
def RulesKnownUptoSaid : Prop := rulesKnownUptoRow.holds Tryd.pinned (OpenSpec.upto rulesKnownSpec)

/-- 'coxlesslaw10.RulesTells', WHERE WHAT IT READS IS OF BULK AT MOST 1048576: true; the input reads as it did. -/
def rulesTellsUptoRow : OpenClaim := { program := "ytdaildmoodfocaadoor", sum := "984853b8ef716631741170f9b5afe8461ec6b2a8b557f8e87ffa7273363a4e7e", func := "coxless/coxlesslaw10.RulesTells", spec := "rulesTells", unfollowed := true, recurses := true, named := ["coxless/isa.names"], apart := false, laid := [("coxless/isa.names", laid_coxless_isa_names)], narrowed := true }
def RulesTellsUptoSaid : Prop := rulesTellsUptoRow.holds Tryd.pinned (OpenSpec.upto rulesTellsSpec)

/-- 'coxlesslaw10.RulesDue', WHERE WHAT IT READS IS OF BULK AT MOST 1048576: true; the input reads as it did. -/
def rulesDueUptoRow : OpenClaim := { program := "ytdaildmoodfocaadoor", sum := "984853b8ef716631741170f9b5afe8461ec6b2a8b557f8e87ffa7273363a4e7e", func := "coxless/coxlesslaw10.RulesDue", spec := "rulesDue", unfollowed := true, recurses := true, named := ["coxless/isa.names"], apart := false, laid := [("coxless/isa.names", laid_coxless_isa_names)], narrowed := true }
def RulesDueUptoSaid : Prop := rulesDueUptoRow.holds Tryd.pinned (OpenSpec.upto rulesDueSpec)

/-- 'coxlesslaw10.RulesRow', WHERE WHAT IT READS IS OF BULK AT MOST 1048576: true; the input reads as it did. -/
def rulesRowUptoRow : OpenClaim := { program := "ytdaildmoodfocaadoor", sum := "984853b8ef716631741170f9b5afe8461ec6b2a8b557f8e87ffa7273363a4e7e", func := "coxless/coxlesslaw10.RulesRow", spec := "rulesRow", unfollowed := true, recurses := true, named := ["coxless/isa.names"], apart := false, laid := [("coxless/isa.names", laid_coxless_isa_names)], narrowed := true }
def RulesRowUptoSaid : Prop := rulesRowUptoRow.holds Tryd.pinned (OpenSpec.upto rulesRowSpec)

/-- 'coxlesslaw10.RulesLess', WHERE WHAT IT READS IS OF BULK AT MOST 1048576: true; the input reads as it did. -/
def rulesLessUptoRow : OpenClaim := { program := "ytdaildmoodfocaadoor", sum := "984853b8ef716631741170f9b5afe8461ec6b2a8b557f8e87ffa7273363a4e7e", func := "coxless/coxlesslaw10.RulesLess", spec := "rulesLess", unfollowed := true, recurses := true, named := ["coxless/isa.names"], apart := false, laid := [("coxless/isa.names", laid_coxless_isa_names)], narrowed := true }
def RulesLessUptoSaid : Prop := rulesLessUptoRow.holds Tryd.pinned (OpenSpec.upto rulesLessSpec)

end Rows
end Go.Proofs.YtdaildmoodfocaaDoor
