/- What stands while the document's Right of inst runs: the two variables, and the first of them filled; no condition. -/
import Derived.Test.YtdaildmoodfocaaDoorInstRefW
import Derived.Test.YtdaildmoodfocaaDoorInstEq
import Derived.Test.YtdaildmoodfocaaDoorIsaUse
import Derived.Deep.CutRange
namespace Go.Proofs.YtdaildmoodfocaaDoor
open Go.ChangeShapes Go.WideShapes Go.ChangeAt Go.RowKit Go.Sort BigFrame

namespace refRight
/-- The instruction's variable, and the one that is compared with it. -/
structure Two (W : World) (B : Nat) (x y : In) (w : World) : Prop where
  made : Made W w
  low : W.heap.size ≤ B
  in_ : InAt w B x
  is_ : InAt w (B + 1) y
theorem Two.next {W w w' : World} {B : Nat} {x y : In} (h : Two W B x y w) (hm : Made w w') : Two W B x y w' := ⟨Made.trans h.made hm, h.low, hm.heap h.in_, hm.heap h.is_⟩
/-- Cells of one block stored one behind the other. -/
def setL (w : World) (b : Nat) (l : List (Nat × Value)) : World := l.foldl (fun w p => w.setCell ⟨b, p.1, none⟩ p.2) w
theorem setL_far (b : Nat) (l : List (Nat × Value)) : ∀ (w : World) (i : Nat), i ≠ b → (setL w b l).heap[i]? = w.heap[i]? := by
  induction l with
  | nil => intro w i _; rfl
  | cons p r ih => intro w i hi; exact (ih _ i hi).trans (Below.heap_setCell w ⟨b, p.1, none⟩ p.2 i hi)
theorem setL_same (b : Nat) (T : TypeId) (l : List (Nat × Value)) : ∀ (w : World) (cs : Array Value), w.heap[b]? = some (.cells cs T (0, 0)) → (setL w b l).heap[b]? = some (.cells (l.foldl (fun cs p => cs.setIfInBounds p.1 p.2) cs) T (0, 0)) := by
  induction l with
  | nil => intro w cs h; exact h
  | cons p r ih => intro w cs h; exact ih _ _ (heap_setCell_same w b p.1 cs T p.2 h)
theorem setL_made (b : Nat) (l : List (Nat × Value)) : ∀ (W w : World), W.heap.size ≤ b → Made W w → Made W (setL w b l) := by
  induction l with
  | nil => intro W w _ h; exact h
  | cons p r ih => intro W w hb h; exact ih W _ hb (h.setCell (p := ⟨b, p.1, none⟩) hb p.2)
theorem Two.set {W w : World} {B : Nat} {x y z : In} (h : Two W B x y w) (l : List (Nat × Value)) (hz : l.foldl (fun cs p => cs.setIfInBounds p.1 p.2) y.cells.toArray = z.cells.toArray) : Two W B x z (setL w (B + 1) l) := by
  obtain ⟨h1, h2, h3, h4⟩ := h
  refine ⟨setL_made _ l _ _ (by omega) h1, h2, (setL_far _ l w B (by omega)).trans h3, ?_⟩
  have := setL_same (B + 1) 24 l w _ h4
  rwa [hz] at this
theorem two_start {W w : World} (hm : Made W w) (x : In) : Two W w.heap.size x { inZero with op := x.op } ((w.alloc (.cells x.cells.toArray 24)).alloc (.cells (In.cells { inZero with op := x.op }).toArray 24)) := by
  refine ⟨(hm.alloc hm.size _).alloc (by simp only [World.size_alloc]; have := hm.size; omega) _, hm.size, ?_, ?_⟩
  · exact keep (o' := .cells (In.cells { inZero with op := x.op }).toArray 24) (heap_alloc_new w _) (Made.refl _)
  · have := heap_alloc_new (w.alloc (.cells x.cells.toArray 24)) (.cells (In.cells { inZero with op := x.op }).toArray 24)
    rwa [World.size_alloc] at this
end refRight
end Go.Proofs.YtdaildmoodfocaaDoor
