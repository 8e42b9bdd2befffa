/- What the walks over rowOf of package isa have in common: its variables' blocks, the end of each way. -/
import Derived.Test.YtdaildmoodfocaaDoorIsaFns
import Derived.Test.YtdaildmoodfocaaDoorTail
import Derived.BigQuiet
import Derived.Deep.Cut
namespace Go.Proofs.YtdaildmoodfocaaDoor
open Go.ChangeShapes Go.WideShapes Go.ChangeAt Go.RowKit Go.Sort

def IsRowOf (W : World) (op : Int) (e : Ending) (w' : World) : Prop := ∃ p n cap, e = .returned (.agg #[.int .u8 op, .string (nameZ op), .int .u8 (classZ op), .int .u8 (slotsZ (classZ op)), .slice p n cap]) ∧ Made W w' ∧
  w'.ownsRow W.heap.size 69 5 (.slice p n cap) (fieldsZ op).length (flatF (fieldsZ op))
def rowLit : Array Value := #[.int .u8 0, .string { data := #[] }, .int .u8 0, .int .u8 0, .slice none 0 0]
/-- The world behind the four variables of rowOf. -/
structure RowVars (W : World) (n0 m : Nat) (u : World) : Prop where
  made : Made W u
  row : u.heap[n0]? = some (.cells rowLit 56 (0, 0))
  d : u.heap[m]? = some (.cells fD.cells.toArray 69 (0, 0))
  dp : u.heap[m + 1]? = some (.cells fDP.cells.toArray 69 (0, 0))
  s : u.heap[m + 1 + 1]? = some (.cells fS.cells.toArray 69 (0, 0))
  t : u.heap[m + 1 + 1 + 1]? = some (.cells fT.cells.toArray 69 (0, 0))
  size : n0 < m ∧ m + 3 < u.heap.size
theorem rowVars_of {W w4 : World} {n0 : Nat} (hW : Made W w4) (hz : n0 < w4.heap.size) (hr : w4.heap[n0]? = some (.cells rowLit 56 (0, 0))) :
    RowVars W n0 w4.heap.size ((((w4.alloc (.cells fD.cells.toArray 69)).alloc (.cells fDP.cells.toArray 69)).alloc (.cells fS.cells.toArray 69)).alloc (.cells fT.cells.toArray 69)) := by
  have hs := hW.size
  refine ⟨(((hW.alloc hs _).alloc (by simp only [World.size_alloc]; omega) _).alloc (by simp only [World.size_alloc]; omega) _).alloc (by simp only [World.size_alloc]; omega) _, ?_, ?_, ?_, ?_, ?_, hz, ?_⟩
  · rw [Below.heap_alloc _ _ _ (by simp only [World.size_alloc]; omega), Below.heap_alloc _ _ _ (by simp only [World.size_alloc]; omega), Below.heap_alloc _ _ _ (by simp only [World.size_alloc]; omega), Below.heap_alloc _ _ _ hz]; exact hr
  · rw [Below.heap_alloc _ _ _ (by simp only [World.size_alloc]; omega), Below.heap_alloc _ _ _ (by simp only [World.size_alloc]; omega), Below.heap_alloc _ _ _ (by simp only [World.size_alloc]; omega)]; exact heap_at rfl
  · rw [Below.heap_alloc _ _ _ (by simp only [World.size_alloc]; omega), Below.heap_alloc _ _ _ (by simp only [World.size_alloc]; omega)]; exact heap_at (by simp)
  · rw [Below.heap_alloc _ _ _ (by simp only [World.size_alloc]; omega)]; exact heap_at (by simp)
  · exact heap_at (by simp)
  · simp
theorem name_world {P : Program} {c : Code} {Q : Exit → Act → World → Prop} {a : Act} {w : World} (F : World → Prop) (hF : F w) (h : ∀ u, F u → c.wp P Q a u) : c.wp P Q a w := h w hF
theorem row_close {W u w6 : World} {n0 : Nat} {p : Option Addr} {n cap len : Nat} {xs : List Value} (hM : Made W u) (h6 : Made u w6) (hz : W.heap.size ≤ n0) (hn : n0 < u.heap.size) (ho : w6.ownsRow u.heap.size 69 5 (.slice p n cap) len xs) (v0 v1 v2 v3 v4 : Value) :
    Made W (((((w6.setCell ⟨n0, 0, none⟩ v0).setCell ⟨n0, 1, none⟩ v1).setCell ⟨n0, 2, none⟩ v2).setCell ⟨n0, 3, none⟩ v3).setCell ⟨n0, 4, none⟩ v4) ∧
    (((((w6.setCell ⟨n0, 0, none⟩ v0).setCell ⟨n0, 1, none⟩ v1).setCell ⟨n0, 2, none⟩ v2).setCell ⟨n0, 3, none⟩ v3).setCell ⟨n0, 4, none⟩ v4).ownsRow W.heap.size 69 5 (.slice p n cap) len xs :=
  ⟨((((Below.setCell (Made.trans hM h6) hz v0).setCell hz v1).setCell hz v2).setCell hz v3).setCell hz v4,
    owns_mono (ownsRow_setCell_below (ownsRow_setCell_below (ownsRow_setCell_below (ownsRow_setCell_below (ownsRow_setCell_below ho hn v0) hn v1) hn v2) hn v3) hn v4) hM.size⟩
theorem shift_21 : Still Tryd.prog 68 #[.int .u8 21] (.int .i64 2) := by
  intro w
  go_enter Tryd.func68, Tryd.ntmps68
  go_wp2
  go_ret
  exact ⟨rfl, rfl⟩
theorem shift_22 : Still Tryd.prog 68 #[.int .u8 22] (.int .i64 1) := by
  intro w
  go_enter Tryd.func68, Tryd.ntmps68
  go_wp2
  go_ret
  exact ⟨rfl, rfl⟩
theorem shift_23 : Still Tryd.prog 68 #[.int .u8 23] (.int .i64 0) := by
  intro w
  go_enter Tryd.func68, Tryd.ntmps68
  go_wp2
  go_ret
  exact ⟨rfl, rfl⟩
theorem shift_24 : Still Tryd.prog 68 #[.int .u8 24] (.int .i64 2) := by
  intro w
  go_enter Tryd.func68, Tryd.ntmps68
  go_wp2
  go_ret
  exact ⟨rfl, rfl⟩
theorem shift_25 : Still Tryd.prog 68 #[.int .u8 25] (.int .i64 1) := by
  intro w
  go_enter Tryd.func68, Tryd.ntmps68
  go_wp2
  go_ret
  exact ⟨rfl, rfl⟩
theorem shift_26 : Still Tryd.prog 68 #[.int .u8 26] (.int .i64 0) := by
  intro w
  go_enter Tryd.func68, Tryd.ntmps68
  go_wp2
  go_ret
  exact ⟨rfl, rfl⟩
end Go.Proofs.YtdaildmoodfocaaDoor
