/- What due of the laws of rules returns. -/
import Derived.Test.YtdaildmoodfocaaDoorRulesLaws2
import Derived.Test.YtdaildmoodfocaaDoorPredsOpen
import Derived.Test.YtdaildmoodfocaaDoorInstFns
namespace Go.Proofs.YtdaildmoodfocaaDoor
open Go.ChangeShapes Go.WideShapes Go.ChangeAt Go.RowKit Go.Sort BigFrame

theorem four_at (q : Nat → Bool) {j : Nat} (h : j < 4) : (fourL q)[j]? = some (.bool (q j)) := by
  have hc : j = 0 ∨ j = 1 ∨ j = 2 ∨ j = 3 := by omega
  rcases hc with rfl | rfl | rfl | rfl <;> rfl
section
attribute [local irreducible] World.cell?
set_option maxRecDepth 100000 in
set_option maxHeartbeats 4000000 in
theorem due_any (x : In) (hx : x.small) (old fr : Nat → Bool) (W : World) : Makes Tryd.prog W 19 #[x.val, fourV old, fourV fr] (.bool (dueB x old fr)) := by
  intro w hm
  have m1 := hm.alloc hm.size (.cells x.cells.toArray 24)
  have m2 := m1.alloc m1.size (.cells (fourL old).toArray 38)
  have m3 := m2.alloc m2.size (.cells (fourL fr).toArray 38)
  have b0 : (w.alloc (.cells x.cells.toArray 24)).heap[w.heap.size]? = some (.cells x.cells.toArray 24 (0, 0)) := heap_alloc_new w _
  have b1 : ((w.alloc (.cells x.cells.toArray 24)).alloc (.cells (fourL old).toArray 38)).heap[w.heap.size + 1]? = some (.cells (fourL old).toArray 38 (0, 0)) := heap_at (by simp)
  have K0 := Lib.hid (show Made W (((w.alloc (.cells x.cells.toArray 24)).alloc (.cells (fourL old).toArray 38)).alloc (.cells (fourL fr).toArray 38)) ∧
      InAt (((w.alloc (.cells x.cells.toArray 24)).alloc (.cells (fourL old).toArray 38)).alloc (.cells (fourL fr).toArray 38)) w.heap.size x ∧
      (((w.alloc (.cells x.cells.toArray 24)).alloc (.cells (fourL old).toArray 38)).alloc (.cells (fourL fr).toArray 38)).heap[w.heap.size + 1]? = some (.cells (fourL old).toArray 38 (0, 0)) ∧
      (((w.alloc (.cells x.cells.toArray 24)).alloc (.cells (fourL old).toArray 38)).alloc (.cells (fourL fr).toArray 38)).heap[w.heap.size + 2]? = some (.cells (fourL fr).toArray 38 (0, 0)) from
    ⟨m3, (Below.heap_alloc _ _ _ (by simp; omega)).trans ((Below.heap_alloc _ _ _ (heap_lt b0)).trans b0), (Below.heap_alloc _ _ _ (heap_lt b1)).trans b1, heap_at (by simp)⟩)
  obtain ⟨p, hp⟩ : ∃ p : Nat, x.pred = p := ⟨x.pred.toNat, by have := hx.pred0; omega⟩
  have hp4 : p % 4 < 4 := Nat.mod_lt _ (by omega)
  have hpb : p < 256 := by have := hx.pred1; omega
  have HV := Lib.hid (show dueB x old fr = if x.mode = 1 then old (p % 4) else if x.mode = 2 then !old (p % 4) else if x.mode = 3 then fr (p % 4) else if x.mode = 4 then !fr (p % 4) else true by
    have e : (x.pred % 4).toNat = p % 4 := by rw [hp]; omega
    unfold dueB
    rw [e])
  have HP := Lib.hid hp
  clear m1 m2 m3 b0 b1 hm hx hp
  go_enter Tryd.func19, Tryd.ntmps19
  go_upto_region 1 with (fail)
  refine name_world (fun u => Made W u ∧ InAt u w.heap.size x ∧ u.heap[w.heap.size + 1]? = some (.cells (fourL old).toArray 38 (0, 0)) ∧ u.heap[w.heap.size + 2]? = some (.cells (fourL fr).toArray 38 (0, 0))) K0.out ?_
  rintro u ⟨hu, hin, h1, h2⟩
  have KM := Lib.hid hu
  have c1 := (cell_of_lit h1 (p % 4)).trans (four_at old hp4)
  have c2 := (cell_of_lit h2 (p % 4)).trans (four_at fr hp4)
  obtain ⟨a0, a1, a2, a3, a4, a5, a6, a7, a8, a9, a10⟩ := in_cells hin
  have la := heap_lt hin
  have l1 := heap_lt h1
  have l2 := heap_lt h2
  rewrite [HP.out] at a5
  have hm5 := mode_parts x.mode
  have HM := Lib.hid hm5
  clear hu hin h1 h2 K0 hm5
  generalize x.mode = xm at *
  rcases HM.out with rfl | rfl | rfl | rfl | ⟨h1, h2, h3, h4⟩
  case' inr.inr.inr.inr =>
    have n1 : xm ≠ 1 := by simpa using h1
    have n2 : xm ≠ 2 := by simpa using h2
    have n3 : xm ≠ 3 := by simpa using h3
    have n4 : xm ≠ 4 := by simpa using h4
    have HD := Lib.hid (show dueB x old fr = true by rw [HV.out, if_neg n1, if_neg n2, if_neg n3, if_neg n4])
    clear n1 n2 n3 n4
  case' inl => have HD := Lib.hid (show dueB x old fr = old (p % 4) from HV.out)
  case' inr.inl => have HD := Lib.hid (show dueB x old fr = !old (p % 4) from HV.out)
  case' inr.inr.inl => have HD := Lib.hid (show dueB x old fr = fr (p % 4) from HV.out)
  case' inr.inr.inr.inl => have HD := Lib.hid (show dueB x old fr = !fr (p % 4) from HV.out)
  all_goals
    clear HV
    go_wp2
    go_ret
    exact ⟨ret_bool HD.out.symm, KM.out⟩
end
end Go.Proofs.YtdaildmoodfocaaDoor
