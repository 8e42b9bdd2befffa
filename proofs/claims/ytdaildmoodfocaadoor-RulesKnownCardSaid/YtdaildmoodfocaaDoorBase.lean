/- Small general lemmas on calls that make new memory alone, for every program and world; no condition. -/
import Derived.Test.YtdaildmoodfocaaDoorRows
import Derived.WalkKit
import Derived.ProofKit
import Derived.OpenShut
import Derived.BigQuiet
import Derived.Deep.QuietTactic
import Derived.Handy
import Derived.Lib.Hide
namespace Go.Proofs.YtdaildmoodfocaaDoor
open Go.ChangeShapes Go.WideShapes Go.ChangeAt Go.RowKit

/-! A REGION THAT DRAWS ITS ORDER, OVER ALL WORLDS THAT HAVE GROWN OUT OF W: its calls may make memory, if each returns one value in all these worlds. -/
theorem wp_region_grown {P : Program} {W : World} {id : Nat} {Q : Exit → Act → World → Prop} {a : Act} {w : World} {l : List Oper} (hm : P.follows .mixedOrders = true) (hB : Region.lexB .any l.toArray = true) (hg : Grown W w)
    (h : wpQuiet P l.toArray (fun w' => Grown W w') (fun a' => ∀ w', Grown W w' → Q .normal a' w') l a) : (Code.region id l.toArray true).wp P Q a w :=
  wp_region_quiet (C := fun w' => Grown W w') hm hB hg.drew (by simpa using h)

theorem grown_all (W : World) : ∀ p : Prop, (∀ w, Grown W w → p) = p := fun _ => propext ⟨fun h => h W (Grown.refl W), fun h _ _ => h⟩
theorem grown_drewN {W w : World} (h : Grown W w) (n : Nat) : Grown W (w.drewN n) := h
theorem grown_trans {a b c : World} (h : Grown a b) (k : Grown b c) : Grown a c :=
  ⟨World.keptBut_trans h.1 k.1, fun x => (k.2.1 x).trans (h.2.1 x), Nat.le_trans h.2.2 k.2.2⟩

/-- What the call returns, whatever the world; of the world only draws turn. -/
abbrev Quiet (P : Program) (f : FuncId) (args : Array Value) (v : Value) : Prop := ∀ w : World, Calls P f args w fun e w' => e = .returned v ∧ ∃ k, w' = w.drewN k
theorem Quiet.grown {P : Program} {f : FuncId} {args : Array Value} {v : Value} (h : Quiet P f args v) {W w : World} (hg : Grown W w) : Calls P f args w fun e w' => e = .returned v ∧ Grown W w' :=
  (h w).mono fun _ _ ⟨he, k, hk⟩ => ⟨he, by subst hk; exact grown_drewN hg k⟩
theorem Quiet.again {P : Program} {f : FuncId} {args : Array Value} {v : Value} (h : Quiet P f args v) {w : World} (n : Nat) : Calls P f args (w.drewN n) fun e w' => e = .returned v ∧ ∃ k, w' = w.drewN k :=
  (h _).mono fun _ _ ⟨he, k, hk⟩ => ⟨he, n + k, by rw [hk, World.drewN_drewN]⟩
theorem Quiet.again2 {P : Program} {f : FuncId} {args : Array Value} {v : Value} (h : Quiet P f args v) {w : World} (m n : Nat) : Calls P f args (w.drewN (m + n)) fun e w' => e = .returned v ∧ ∃ k, w' = w.drewN (m + k) :=
  (h _).mono fun _ _ ⟨he, k, hk⟩ => ⟨he, n + k, by rw [hk, World.drewN_drewN, Nat.add_assoc]⟩
/-- The call leaves the world as it is. -/
abbrev Still (P : Program) (f : FuncId) (args : Array Value) (v : Value) : Prop := ∀ w : World, Calls P f args w fun e w' => e = .returned v ∧ w = w'
theorem Still.quiet {P : Program} {f : FuncId} {args : Array Value} {v : Value} (h : Still P f args v) : Quiet P f args v := fun w => (h w).mono fun _ _ ⟨he, hw⟩ => ⟨he, 0, hw.symm⟩
/-- What the call returns in every world that has grown out of W; it makes new blocks alone. -/
abbrev Pure (P : Program) (W : World) (f : FuncId) (args : Array Value) (v : Value) : Prop := ∀ w : World, Grown W w → Calls P f args w fun e w' => e = .returned v ∧ Grown W w'
theorem Quiet.pure {P : Program} {f : FuncId} {args : Array Value} {v : Value} (h : Quiet P f args v) (W : World) : Pure P W f args v := fun _ hg => h.grown hg
theorem Still.pure {P : Program} {f : FuncId} {args : Array Value} {v : Value} (h : Still P f args v) (W : World) : Pure P W f args v := h.quiet.pure W

theorem ret_int {k : IntKind} {a b : Int} (h : a = b) : Ending.returned (.int k a) = .returned (.int k b) := by rw [h]
theorem ret_bool {a b : Bool} (h : a = b) : Ending.returned (.bool a) = .returned (.bool b) := by rw [h]
end Go.Proofs.YtdaildmoodfocaaDoor
