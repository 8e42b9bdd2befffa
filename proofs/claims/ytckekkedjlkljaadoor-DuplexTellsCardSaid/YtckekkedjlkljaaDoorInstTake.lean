/- What take and inRange of package inst return and leave, for every instruction, field and kind. -/
import Derived.Test.YtckekkedjlkljaaDoorInstIn
import Derived.Test.YtckekkedjlkljaaDoorBitsFits
namespace Go.Proofs.YtckekkedjlkljaaDoor
open Go.ChangeShapes Go.WideShapes Go.ChangeAt Go.RowKit Go.Sort

/-- What stands behind take: the block holds the rest; all else is as it was. -/
structure Took (w w' : World) (b : Nat) (x : In) : Prop where
  at_ : InAt w' b x
  far : ∀ i, i ≠ b → w'.heap[i]? = w.heap[i]?
  size : w'.heap.size = w.heap.size
  made : ∀ W : World, W.heap.size ≤ b → Made W w → Made W w'
theorem took_set {w : World} {b j : Nat} {x y : In} {v : Value} (hx : InAt w b x) (h : x.cells.toArray.setIfInBounds j v = y.cells.toArray) : Took w (w.setCell ⟨b, j, none⟩ v) b y := by
  refine ⟨?_, fun i hi => Below.heap_setCell w ⟨b, j, none⟩ v i hi, by simp, fun W hW hm => hm.setCell (p := ⟨b, j, none⟩) hW v⟩
  have := heap_setCell_same w b j x.cells.toArray 24 v hx
  rwa [h] at this
end Go.Proofs.YtckekkedjlkljaaDoor
