/- A function value that is asked for names, whatever it is; what Eval of package expr tells of it; no condition. -/
import Derived.Test.YtebpimjbjjmpaaaExprVal2
namespace Go.Proofs.Ytebpimjbjjmpaaa
open Go.ChangeShapes Go.WideShapes Go.ChangeAt Go.RowKit Go.Sort BigFrame

abbrev EntersX (K : FuncId) : Prop := ∀ (args : Array Value) (w : World), Sem.run Try.prog (callFunc K args) w = .ok (.enter K args) w
/-- All blocks but F's stand. -/
structure Out (F : Nat → Prop) (u u' : World) : Prop where
  os : u'.os = u.os
  tape : u'.tape = u.tape
  output : u'.output = u.output
  size : u.heap.size ≤ u'.heap.size
  block : ∀ g, g < u.heap.size → ¬ F g → u'.heap[g]? = u.heap[g]?
theorem Out.refl (F : Nat → Prop) (u : World) : Out F u u := ⟨rfl, rfl, rfl, Nat.le_refl _, fun _ _ _ => rfl⟩
theorem Out.made {F : Nat → Prop} {u u' : World} (h : Made u u') : Out F u u' := ⟨h.os, h.tape, h.output, h.size, fun g hg _ => h.block g hg⟩
theorem Out.none {F : Nat → Prop} {u u' : World} (h : Out F u u') (hF : ∀ g, ¬ F g) : Made u u' := ⟨h.os, h.tape, h.output, h.size, fun g hg => h.block g hg (hF g)⟩
/-- A function value K with captured cells is asked: it tells ask; R: what it has been asked, its own blocks F, the world; W: the world in which the asking begins. -/
structure Asks (W : World) (K : FuncId) (caps : Array Value) (ask : List UInt8 → Int × Int) (R : List (List UInt8) → (Nat → Prop) → World → Prop) : Prop where
  enters : EntersX K
  keep : ∀ acc F u u', R acc F u → (∀ g, F g ∨ g < W.heap.size → u'.heap[g]? = u.heap[g]?) → u'.os = u.os → u'.tape = u.tape → u'.output = u.output → u.heap.size ≤ u'.heap.size → R acc F u'
  fits : ∀ acc F u, R acc F u → ∀ g, F g → g < u.heap.size
  ask : ∀ acc F u s, R acc F u → Calls Try.prog K (#[.string (strOf s)] ++ caps) u fun x u' => x = .returned (.tuple #[.int .i64 (ask s).1, .int .i64 (ask s).2]) ∧ ∃ F', R (acc ++ [s]) F' u' ∧ (∀ g, F' g → F g ∨ u.heap.size ≤ g) ∧ Out F u u'
/-- The names that are asked. -/
def askF (ask : List UInt8 → Int × Int) (e : List Tm) : Nat → Nat → List Int → List (List UInt8)
  | 0, _, _ => []
  | m + 1, i, vals => match e[i]? with
    | none => []
    | some t => if usedB e i then (if t.kind = 2 then [t.name] else []) ++ (if (capV (valT ask t vals)).2 = 0 then askF ask e m (i + 1) (vals ++ [(capV (valT ask t vals)).1]) else []) else askF ask e m (i + 1) (vals ++ [0])
def askedL (ask : List UInt8 → Int × Int) (e : List Tm) : List (List UInt8) := if rightB e then askF ask e e.length 0 [] else []
def EvSays (w : World) (F : Nat → Prop) (ask : List UInt8 → Int × Int) (e : List Tm) (R : List (List UInt8) → (Nat → Prop) → World → Prop) (x : Ending) (w' : World) : Prop :=
  x = .returned (.tuple #[.int .i64 (evL ask e).1, .int .i64 (evL ask e).2]) ∧ ∃ F', R (askedL ask e) F' w' ∧ (∀ g, F' g → F g ∨ w.heap.size ≤ g) ∧ Out F w w'
end Go.Proofs.Ytebpimjbjjmpaaa
