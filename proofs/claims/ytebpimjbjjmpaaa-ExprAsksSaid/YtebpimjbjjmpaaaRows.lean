/-
  No cell of these rows narrows 'for every input' (looked for: loops, veiled, ifaces, maps, wideKeys, modest, calm, conditions, laid).
  DERIVED. THE GIVEN ROWS OF THIS SEAT. 6 by the template 'for every input the law returns true; each argument reads behind the call as it read before'; 0 by the template 'total and deterministic' (their statements: YtebpimjbjjmpaaaTotals.lean).
  GIVEN WITH THE SEED: the statements are not yours to turn. If you find one false, say at which input.
  Laid BY PROGRAM, IN A SANDBOX (cutbox-rows.mjs): the forced cells as the released guide's own fill.sh prints them over the translation 42b54d47ddf92eb9… (all of the seat's roots in one cut). By AI agents, Wed Nov 11 2026. No macro, syntax, notation, axiom, sorry.
-/
import Derived.Test.YtebpimjbjjmpaaaChecked
import GoSem.Claim
import GoSem.ClaimJoined
import GoSem.ClaimMapViews
import Derived.JoinedTies
import Derived.KernelRfl
namespace Go.Proofs.Ytebpimjbjjmpaaa
/- THE CELL 'sum', in the pinned program and in every row, IS THE sha256 OF THE DUMP (.gsa) THAT YtebpimjbjjmpaaaProg.lean LOADS. Nothing in Lean hashes anything: it is a label: what it is worth is what the hold of that sum in a sandbox is worth. -/
noncomputable def Try.pinned : Pinned := { name := "ytebpimjbjjmpaaa", sum := "42b54d47ddf92eb90333a4831f41570ce2ec322a1d53063454b180a79aeaff22", checked := Try.checked }
namespace Rows
def none {H : Type} : Left H := { results := [], args := [] }

/-- 'coxlesslaw15.ExprKnown': WHATEVER THE INPUT: true; the input reads as it did. -/
def exprKnownSpec : ChangeSpec := { name := "exprKnown", fn := fun _ => fun
  | [] => { results := [.lit (.bool true)], args := [] }
  | _ => none }
def exprKnownRow : OpenClaim := { program := "ytebpimjbjjmpaaa", sum := "42b54d47ddf92eb90333a4831f41570ce2ec322a1d53063454b180a79aeaff22", func := "coxless/coxlesslaw15.ExprKnown", spec := "exprKnown", inPlace := ["internal/bytealg.IndexByteString"], unfollowed := true, recurses := true, apart := false }
def ExprKnownSaid : Prop := exprKnownRow.holds Try.pinned (OpenSpec.ofChange exprKnownSpec)

/-- ITS FALSE NEIGHBOUR: 'it returns false'. Refute it at one input. -/
def exprKnownWrong : ChangeSpec := { name := "exprKnown", fn := fun _ => fun
  | [] => { results := [.lit (.bool false)], args := [] }
  | _ => none }
def ExprKnownWrongFalsely : Prop := exprKnownRow.holds Try.pinned (OpenSpec.ofChange exprKnownWrong)

/-- 'coxlesslaw15.ExprParses': WHATEVER THE INPUT: true; the input reads as it did. -/
def exprParsesSpec : ChangeSpec := { name := "exprParses", fn := fun _ => fun
  | [d] => { results := [.lit (.bool true)], args := [d] }
  | _ => none }
def exprParsesRow : OpenClaim := { program := "ytebpimjbjjmpaaa", sum := "42b54d47ddf92eb90333a4831f41570ce2ec322a1d53063454b180a79aeaff22", func := "coxless/coxlesslaw15.ExprParses", spec := "exprParses", inPlace := ["internal/bytealg.IndexByteString"], unfollowed := true, recurses := true, apart := false }
def ExprParsesSaid : Prop := exprParsesRow.holds Try.pinned (OpenSpec.ofChange exprParsesSpec)

/-- ITS FALSE NEIGHBOUR: 'it returns false'. Refute it at one input. -/
def exprParsesWrong : ChangeSpec := { name := "exprParses", fn := fun _ => fun
  | [d] => { results := [.lit (.bool false)], args := [d] }
  | _ => none }
def ExprParsesWrongFalsely : Prop := exprParsesRow.holds Try.pinned (OpenSpec.ofChange exprParsesWrong)

/-- 'coxlesslaw15.ExprValues': WHATEVER THE INPUT: true; the input reads as it did. -/
def exprValuesSpec : ChangeSpec := { name := "exprValues", fn := fun _ => fun
  | [d1, d2] => { results := [.lit (.bool true)], args := [d1, d2] }
  | _ => none }
def exprValuesRow : OpenClaim := { program := "ytebpimjbjjmpaaa", sum := "42b54d47ddf92eb90333a4831f41570ce2ec322a1d53063454b180a79aeaff22", func := "coxless/coxlesslaw15.ExprValues", spec := "exprValues", inPlace := ["internal/bytealg.IndexByteString"], unfollowed := true, recurses := true, apart := false }
def ExprValuesSaid : Prop := exprValuesRow.holds Try.pinned (OpenSpec.ofChange exprValuesSpec)

/-- ITS FALSE NEIGHBOUR: 'it returns false'. Refute it at one input. -/
def exprValuesWrong : ChangeSpec := { name := "exprValues", fn := fun _ => fun
  | [d1, d2] => { results := [.lit (.bool false)], args := [d1, d2] }
  | _ => none }
def ExprValuesWrongFalsely : Prop := exprValuesRow.holds Try.pinned (OpenSpec.ofChange exprValuesWrong)

/-- 'coxlesslaw15.ExprSums': WHATEVER THE INPUT: true; the input reads as it did. -/
def exprSumsSpec : ChangeSpec := { name := "exprSums", fn := fun _ => fun
  | [d1, d2] => { results := [.lit (.bool true)], args := [d1, d2] }
  | _ => none }
def exprSumsRow : OpenClaim := { program := "ytebpimjbjjmpaaa", sum := "42b54d47ddf92eb90333a4831f41570ce2ec322a1d53063454b180a79aeaff22", func := "coxless/coxlesslaw15.ExprSums", spec := "exprSums", inPlace := ["internal/bytealg.IndexByteString"], unfollowed := true, recurses := true, apart := false }
def ExprSumsSaid : Prop := exprSumsRow.holds Try.pinned (OpenSpec.ofChange exprSumsSpec)

/-- ITS FALSE NEIGHBOUR: 'it returns false'. Refute it at one input. -/
def exprSumsWrong : ChangeSpec := { name := "exprSums", fn := fun _ => fun
  | [d1, d2] => { results := [.lit (.bool false)], args := [d1, d2] }
  | _ => none }
def ExprSumsWrongFalsely : Prop := exprSumsRow.holds Try.pinned (OpenSpec.ofChange exprSumsWrong)

/-- 'coxlesslaw15.ExprAll': WHATEVER THE INPUT: true; the input reads as it did. -/
def exprAllSpec : ChangeSpec := { name := "exprAll", fn := fun _ => fun
  | [d] => { results := [.lit (.bool true)], args := [d] }
  | _ => none }
def exprAllRow : OpenClaim := { program := "ytebpimjbjjmpaaa", sum := "42b54d47ddf92eb90333a4831f41570ce2ec322a1d53063454b180a79aeaff22", func := "coxless/coxlesslaw15.ExprAll", spec := "exprAll", inPlace := ["internal/bytealg.IndexByteString"], unfollowed := true, recurses := true, apart := false }
def ExprAllSaid : Prop := exprAllRow.holds Try.pinned (OpenSpec.ofChange exprAllSpec)

/-- ITS FALSE NEIGHBOUR: 'it returns false'. Refute it at one input. -/
def exprAllWrong : ChangeSpec := { name := "exprAll", fn := fun _ => fun
  | [d] => { results := [.lit (.bool false)], args := [d] }
  | _ => none }
def ExprAllWrongFalsely : Prop := exprAllRow.holds Try.pinned (OpenSpec.ofChange exprAllWrong)

/-- 'coxlesslaw15.ExprAsks': WHATEVER THE INPUT: true; the input reads as it did. -/
def exprAsksSpec : ChangeSpec := { name := "exprAsks", fn := fun _ => fun
  | [d1, d2] => { results := [.lit (.bool true)], args := [d1, d2] }
  | _ => none }
def exprAsksRow : OpenClaim := { program := "ytebpimjbjjmpaaa", sum := "42b54d47ddf92eb90333a4831f41570ce2ec322a1d53063454b180a79aeaff22", func := "coxless/coxlesslaw15.ExprAsks", spec := "exprAsks", inPlace := ["internal/bytealg.IndexByteString"], unfollowed := true, recurses := true, apart := false }
def ExprAsksSaid : Prop := exprAsksRow.holds Try.pinned (OpenSpec.ofChange exprAsksSpec)

/-- ITS FALSE NEIGHBOUR: 'it returns false'. Refute it at one input. -/
def exprAsksWrong : ChangeSpec := { name := "exprAsks", fn := fun _ => fun
  | [d1, d2] => { results := [.lit (.bool false)], args := [d1, d2] }
  | _ => none }
def ExprAsksWrongFalsely : Prop := exprAsksRow.holds Try.pinned (OpenSpec.ofChange exprAsksWrong)

/- THE SECOND FORM. 'bulk': how many values and letters a reading holds, each counted each time it is reached (what is shared counts as often as it is met; a slice's spare places count too). A statement '..UptoSaid' is the law's where the arguments, and the package variables that the reading takes, are together of bulk at most 1048576: NARROWER than '..Said'. Prove '..Said' where nothing that the law and all that it calls make is longer than what came in: it says more and counts as full. Else prove '..UptoSaid'. A law counts once. -/
mutual
def uptoBulk {H : Type} : DataW H → Nat
  | .lit (.string bytes) => bytes.length + 1
  | .lit _ => 1
  | .nil => 1
  | .ptr d => uptoBulk d + 1
  | .slice elems spare => uptoBulkAll elems + uptoBulkAll spare + 1
  | .agg parts => uptoBulkAll parts + 1
  | .iface _ d => uptoBulk d + 1
  | .map entries => uptoBulkEntries entries + 1
  | .held _ => 1
def uptoBulkAll {H : Type} : List (DataW H) → Nat
  | [] => 0
  | d :: r => uptoBulk d + uptoBulkAll r
def uptoBulkEntries {H : Type} : List (Lit × DataW H) → Nat
  | [] => 0
  | x :: r => uptoBulkEntry x + uptoBulkEntries r
def uptoBulkEntry {H : Type} : Lit × DataW H → Nat
  | (.string bytes, d) => bytes.length + uptoBulk d + 1
  | (_, d) => uptoBulk d + 1
 end
def uptoSmall : (H : Type) → List (DataW H) → Bool := fun _ ds => decide (uptoBulkAll ds ≤ 1048576)
def OpenSpec.upto (s : _root_.Go.ChangeSpec) : _root_.Go.OpenSpec := { _root_.Go.OpenSpec.ofChange s with cond := some uptoSmall }

/-- 'coxlesslaw15.ExprKnown', WHERE WHAT IT READS IS OF BULK AT MOST 1048576: true; the input reads as it did. -/
def exprKnownUptoRow : OpenClaim := { program := "ytebpimjbjjmpaaa", sum := "42b54d47ddf92eb90333a4831f41570ce2ec322a1d53063454b180a79aeaff22", func := "coxless/coxlesslaw15.ExprKnown", spec := "exprKnown", inPlace := ["internal/bytealg.IndexByteString"], unfollowed := true, recurses := true, apart := false, narrowed := true }
def ExprKnownUptoSaid : Prop := exprKnownUptoRow.holds Try.pinned (OpenSpec.upto exprKnownSpec)

/-- 'coxlesslaw15.ExprParses', WHERE WHAT IT READS IS OF BULK AT MOST 1048576: true; the input reads as it did. -/
def exprParsesUptoRow : OpenClaim := { program := "ytebpimjbjjmpaaa", sum := "42b54d47ddf92eb90333a4831f41570ce2ec322a1d53063454b180a79aeaff22", func := "coxless/coxlesslaw15.ExprParses", spec := "exprParses", inPlace := ["internal/bytealg.IndexByteString"], unfollowed := true, recurses := true, apart := false, narrowed := true }
def ExprParsesUptoSaid : Prop := exprParsesUptoRow.holds Try.pinned (OpenSpec.upto exprParsesSpec)

/-- 'coxlesslaw15.ExprValues', WHERE WHAT IT READS IS OF BULK AT MOST 1048576: true; the input reads as it did. -/
def exprValuesUptoRow : OpenClaim := { program := "ytebpimjbjjmpaaa", sum := "42b54d47ddf92eb90333a4831f41570ce2ec322a1d53063454b180a79aeaff22", func := "coxless/coxlesslaw15.ExprValues", spec := "exprValues", inPlace := ["internal/bytealg.IndexByteString"], unfollowed := true, recurses := true, apart := false, narrowed := true }
def ExprValuesUptoSaid : Prop := exprValuesUptoRow.holds Try.pinned (OpenSpec.upto exprValuesSpec)

/-- 'coxlesslaw15.ExprSums', WHERE WHAT IT READS IS OF BULK AT MOST 1048576: true; the input reads as it did. -/
def exprSumsUptoRow : OpenClaim := { program := "ytebpimjbjjmpaaa", sum := "42b54d47ddf92eb90333a4831f41570ce2ec322a1d53063454b180a79aeaff22", func := "coxless/coxlesslaw15.ExprSums", spec := "exprSums", inPlace := ["internal/bytealg.IndexByteString"], unfollowed := true, recurses := true, apart := false, narrowed := true }
def ExprSumsUptoSaid : Prop := exprSumsUptoRow.holds Try.pinned (OpenSpec.upto exprSumsSpec)

/-- 'coxlesslaw15.ExprAll', WHERE WHAT IT READS IS OF BULK AT MOST 1048576: true; the input reads as it did. -/
def exprAllUptoRow : OpenClaim := { program := "ytebpimjbjjmpaaa", sum := "42b54d47ddf92eb90333a4831f41570ce2ec322a1d53063454b180a79aeaff22", func := "coxless/coxlesslaw15.ExprAll", spec := "exprAll", inPlace := ["internal/bytealg.IndexByteString"], unfollowed := true, recurses := true, apart := false, narrowed := true }
def ExprAllUptoSaid : Prop := exprAllUptoRow.holds Try.pinned (OpenSpec.upto exprAllSpec)

/-- 'coxlesslaw15.ExprAsks', WHERE WHAT IT READS IS OF BULK AT MOST 1048576: true; the input reads as it did. -/
def exprAsksUptoRow : OpenClaim := { program := "ytebpimjbjjmpaaa", sum := "42b54d47ddf92eb90333a4831f41570ce2ec322a1d53063454b180a79aeaff22", func := "coxless/coxlesslaw15.ExprAsks", spec := "exprAsks", inPlace := ["internal/bytealg.IndexByteString"], unfollowed := true, recurses := true, apart := false, narrowed := true }
def ExprAsksUptoSaid : Prop := exprAsksUptoRow.holds Try.pinned (OpenSpec.upto exprAsksSpec)

end Rows
end Go.Proofs.Ytebpimjbjjmpaaa
