/- What Kind, Class, cond, within, scale and target of the document's answer for inst return, for every argument of the Go types. -/
import Derived.Test.YtdaildmoodfocaaDoorInstTake
import Derived.Test.YtdaildmoodfocaaDoorInstForm
import Derived.Great.BuildSlice
namespace Go.Proofs.YtdaildmoodfocaaDoor
open Go.ChangeShapes Go.WideShapes Go.ChangeAt Go.RowKit Go.Sort BigFrame

theorem kind_at (k : Nat) (hk : k < 32) : (kindL.map (Value.int .i64))[k]? = some (.int .i64 (kindZ k)) := by
  have h : k < kindL.length := hk
  rw [List.getElem?_map, List.getElem?_eq_getElem h]
  show some (Value.int .i64 kindL[k]) = some (.int .i64 (kindL.getD ((k : Int)).toNat 0))
  rw [Int.toNat_natCast, List.getD_eq_getElem?_getD, List.getElem?_eq_getElem h]
  rfl
theorem kind_lo (op : Int) (h0 : 0 ≤ op) (h1 : op < 32) (W : World) : Makes Tryd.prog W 48 #[.int .u8 op] (.int .i64 (kindZ op)) := by
  intro w hm
  have hz := hm.size
  obtain ⟨k, rfl⟩ := Int.eq_ofNat_of_zero_le h0
  have hkn : k < 32 := by omega
  go_enter Tryd.func48, Tryd.ntmps48
  go_upto_region 2 with (refine wpList_buildFlat rfl 77 3 32 _ rfl .i64 kindL Tryd.underlying77 (by kernel_rfl) (by kernel_rfl) rfl (by decide) (by decide) (by kernel_rfl) ?_)
  refine name_world (fun u => Made W u ∧ w.heap.size < u.heap.size ∧ u.cell? ⟨w.heap.size, k, none⟩ = some (.int .i64 (kindZ k))) ⟨hm.alloc hz _, by simp, (cell_of_lit (heap_alloc_new w _) k).trans (kind_at k hkn)⟩ ?_
  rintro u ⟨hu, hlt, hc⟩
  have HU := Lib.hid hu
  clear hu hm
  go_wp2
  go_ret
  exact ⟨rfl, HU.out⟩
theorem kind_ref (op : Int) (h0 : 0 ≤ op) (h1 : op ≤ 255) (W : World) : Makes Tryd.prog W 48 #[.int .u8 op] (.int .i64 (kindZ op)) := by
  by_cases h : op < 32
  · exact kind_lo op h0 h W
  · intro w hm
    have hz := hm.size
    have E := Lib.hid (kind_none op (by omega))
    have hlt : ¬ op < 32 := h
    go_enter Tryd.func48, Tryd.ntmps48
    go_wp2
    go_ret
    exact ⟨ret_int E.out.symm, hm.alloc hz _⟩
theorem scale_ref (op : Int) : Still Tryd.prog 59 #[.int .u8 op] (.int .i64 (scaleZ op)) := by
  intro w
  have hc : op = 21 ∨ op = 22 ∨ op = 24 ∨ op = 25 ∨ (op ≠ 21 ∧ op ≠ 22 ∧ op ≠ 24 ∧ op ≠ 25) := by omega
  rcases hc with rfl | rfl | rfl | rfl | ⟨h1, h2, h3, h4⟩
  case inr.inr.inr.inr =>
    have e : scaleZ op = 1 := by unfold scaleZ; rw [if_neg (by omega), if_neg (by omega)]
    have E := Lib.hid e
    have n1 : (op == 21) = false := beq_eq_false_iff_ne.2 h1
    have n2 : (op == 22) = false := beq_eq_false_iff_ne.2 h2
    have n3 : (op == 24) = false := beq_eq_false_iff_ne.2 h3
    have n4 : (op == 25) = false := beq_eq_false_iff_ne.2 h4
    clear e h1 h2 h3 h4
    go_enter Tryd.func59, Tryd.ntmps59
    go_wp2
    go_ret
    exact ⟨ret_int E.out.symm, rfl⟩
  all_goals
    go_enter Tryd.func59, Tryd.ntmps59
    go_wp2
    go_ret
    exact ⟨rfl, rfl⟩
theorem target_ref (v : Int) : Still Tryd.prog 60 #[.int .i64 v] (.bool (aimB v)) := by
  intro w
  have he : aimB v = (decide (0 ≤ v) && decide (v ≤ 4294967292) && decide (v % 4 = 0)) := rfl
  have HE := Lib.hid he
  clear he
  by_cases h0 : 0 ≤ v
  · by_cases h1 : v ≤ 4294967292
    · have hm : (v % 4 == 0) = decide (v % 4 = 0) := by by_cases h : v % 4 = 0 <;> simp [h]
      have HM := Lib.hid hm
      clear hm
      go_enter Tryd.func60, Tryd.ntmps60
      go_wp2
      go_ret
      exact ⟨ret_bool (by rw [HE.out, ← HM.out]; simp [h0, h1]), rfl⟩
    · go_enter Tryd.func60, Tryd.ntmps60
      go_wp2
      go_ret
      exact ⟨ret_bool (by rw [HE.out]; simp; omega), rfl⟩
  · go_enter Tryd.func60, Tryd.ntmps60
    go_wp2
    go_ret
    exact ⟨ret_bool (by rw [HE.out]; simp; omega), rfl⟩
theorem cond_ref (x : In) (hx : x.small) (W : World) : Makes Tryd.prog W 57 #[x.val] (.bool (condB x)) := by
  intro w hm
  have hz := hm.size
  obtain ⟨xo, xd, xs, xt, xn, xp, xm, xw, xe, xc, xi⟩ := x
  have h0 : 0 ≤ xm := hx.mode0
  have h1 : 0 ≤ xp := hx.pred0
  have he : condB ⟨xo, xd, xs, xt, xn, xp, xm, xw, xe, xc, xi⟩ = (decide (xm ≤ 4) && decide (xp ≤ 3) && (decide (0 < xm) || decide (xp = 0))) := rfl
  have HE := Lib.hid he
  have HM := Lib.hid (hm.alloc hz (.cells (In.cells ⟨xo, xd, xs, xt, xn, xp, xm, xw, xe, xc, xi⟩).toArray 24))
  clear he hm hx
  by_cases c1 : xm ≤ 4
  · by_cases c2 : xp ≤ 3
    · by_cases c3 : 0 < xm
      · go_enter Tryd.func57, Tryd.ntmps57
        go_wp2
        go_ret
        exact ⟨ret_bool (by rw [HE.out]; simp [c1, c2, c3]), HM.out⟩
      · have hm : (xp == 0) = decide (xp = 0) := by by_cases h : xp = 0 <;> simp [h]
        have HP := Lib.hid hm
        clear hm
        go_enter Tryd.func57, Tryd.ntmps57
        go_wp2
        go_ret
        exact ⟨ret_bool (by rw [HE.out, ← HP.out]; simp [c1, c2]; omega), HM.out⟩
    · go_enter Tryd.func57, Tryd.ntmps57
      go_wp2
      go_ret
      exact ⟨ret_bool (by rw [HE.out]; simp; omega), HM.out⟩
  · go_enter Tryd.func57, Tryd.ntmps57
    go_wp2
    go_ret
    exact ⟨ret_bool (by rw [HE.out]; simp; omega), HM.out⟩
theorem class_ref (op : Int) (h0 : 0 ≤ op) (h1 : op ≤ 255) : Still Tryd.prog 45 #[.int .u8 op] (.int .u8 (classZ (opN op))) := by
  intro w
  by_cases hn : op < 1 ∨ 31 < op
  · have e : classZ (opN op) = 0 := by unfold opN isOp; rw [if_neg (by simp; omega)]; rfl
    have E := Lib.hid e
    clear e
    rcases hn with hn | hn
    · obtain rfl : op = 0 := by omega
      go_enter Tryd.func45, Tryd.ntmps45
      go_wp2
      go_ret
      exact ⟨ret_int E.out.symm, rfl⟩
    · have z : (op == 0) = false := beq_eq_false_iff_ne.2 (by omega)
      go_enter Tryd.func45, Tryd.ntmps45
      go_wp2
      go_ret
      exact ⟨ret_int E.out.symm, rfl⟩
  · have hc : op = 1 ∨ op = 2 ∨ op = 3 ∨ op = 4 ∨ op = 5 ∨ op = 6 ∨ op = 7 ∨ op = 8 ∨ op = 9 ∨ op = 10 ∨ op = 11 ∨ op = 12 ∨ op = 13 ∨ op = 14 ∨ op = 15 ∨ op = 16 ∨ op = 17 ∨ op = 18 ∨ op = 19 ∨ op = 20 ∨ op = 21 ∨ op = 22 ∨ op = 23 ∨ op = 24 ∨ op = 25 ∨ op = 26 ∨ op = 27 ∨ op = 28 ∨ op = 29 ∨ op = 30 ∨ op = 31 := by omega
    rcases hc with rfl | rfl | rfl | rfl | rfl | rfl | rfl | rfl | rfl | rfl | rfl | rfl | rfl | rfl | rfl | rfl | rfl | rfl | rfl | rfl | rfl | rfl | rfl | rfl | rfl | rfl | rfl | rfl | rfl | rfl | rfl
    all_goals
      go_enter Tryd.func45, Tryd.ntmps45
      go_wp2
      go_ret
      exact ⟨rfl, rfl⟩
end Go.Proofs.YtdaildmoodfocaaDoor
