/- What within of the document's answer for inst returns, for every instruction, at the widths and scales that its callers give. -/
import Derived.Test.YtdaildmoodfocaaDoorInstRef
namespace Go.Proofs.YtdaildmoodfocaaDoor
open Go.ChangeShapes Go.WideShapes Go.ChangeAt Go.RowKit Go.Sort BigFrame

theorem within_ext (x : In) (he : x.ext = true) (n top sc : Int) (W : World) : Makes Tryd.prog W 58 #[x.val, .int .i64 n, .int .i64 sc] (.bool (withinB x top sc)) := by
  intro w hm
  have hz := hm.size
  have HM := Lib.hid hm
  have e : withinB x top sc = (decide (-2147483648 ≤ x.imm) && decide (x.imm ≤ 2147483647)) := by unfold withinB; rw [he]; rfl
  have E := Lib.hid e
  clear e hm
  by_cases h0 : -2147483648 ≤ x.imm
  · go_enter Tryd.func58, Tryd.ntmps58
    go_wp2
    go_ret
    exact ⟨ret_bool (by rw [E.out]; simp [h0]), HM.out.alloc hz _⟩
  · go_enter Tryd.func58, Tryd.ntmps58
    go_wp2
    go_ret
    exact ⟨ret_bool (by rw [E.out]; simp; omega), HM.out.alloc hz _⟩
set_option maxHeartbeats 1000000 in
theorem within_14 (x : In) (hx : x.small) (he : x.ext = false) (W : World) : Makes Tryd.prog W 58 #[x.val, .int .i64 14, .int .i64 1] (.bool (withinB x 8192 1)) := by
  intro w hm
  have hz := hm.size
  have hi0 := hx.imm0
  have hi1 := hx.imm1
  have HM := Lib.hid hm
  have e : withinB x 8192 1 = (decide (-8192 ≤ x.imm) && decide (x.imm < 8192)) := by unfold withinB; rw [he]; simp
  have E := Lib.hid e
  clear e hm hx
  by_cases h0 : -8192 ≤ x.imm
  · go_enter Tryd.func58, Tryd.ntmps58
    go_wp2_with (fail)
    refine wp_loop_rounds 14 ?_
    iterate 14 (rewrite [rounds_succ]; go_wp2_with (fail))
    go_wp2
    go_ret
    exact ⟨ret_bool (by rw [E.out]; simp [h0]), HM.out.alloc hz _⟩
  · go_enter Tryd.func58, Tryd.ntmps58
    go_wp2_with (fail)
    refine wp_loop_rounds 14 ?_
    iterate 14 (rewrite [rounds_succ]; go_wp2_with (fail))
    go_wp2
    go_ret
    exact ⟨ret_bool (by rw [E.out]; simp; omega), HM.out.alloc hz _⟩
set_option maxHeartbeats 1000000 in
theorem within_12 (x : In) (hx : x.small) (he : x.ext = false) (W : World) : Makes Tryd.prog W 58 #[x.val, .int .i64 12, .int .i64 1] (.bool (withinB x 2048 1)) := by
  intro w hm
  have hz := hm.size
  have hi0 := hx.imm0
  have hi1 := hx.imm1
  have HM := Lib.hid hm
  have e : withinB x 2048 1 = (decide (-2048 ≤ x.imm) && decide (x.imm < 2048)) := by unfold withinB; rw [he]; simp
  have E := Lib.hid e
  clear e hm hx
  by_cases h0 : -2048 ≤ x.imm
  · go_enter Tryd.func58, Tryd.ntmps58
    go_wp2_with (fail)
    refine wp_loop_rounds 12 ?_
    iterate 12 (rewrite [rounds_succ]; go_wp2_with (fail))
    go_wp2
    go_ret
    exact ⟨ret_bool (by rw [E.out]; simp [h0]), HM.out.alloc hz _⟩
  · go_enter Tryd.func58, Tryd.ntmps58
    go_wp2_with (fail)
    refine wp_loop_rounds 12 ?_
    iterate 12 (rewrite [rounds_succ]; go_wp2_with (fail))
    go_wp2
    go_ret
    exact ⟨ret_bool (by rw [E.out]; simp; omega), HM.out.alloc hz _⟩
set_option maxHeartbeats 1000000 in
theorem within_12_2 (x : In) (hx : x.small) (he : x.ext = false) (W : World) : Makes Tryd.prog W 58 #[x.val, .int .i64 12, .int .i64 2] (.bool (withinB x 2048 2)) := by
  intro w hm
  have hz := hm.size
  have hi0 := hx.imm0
  have hi1 := hx.imm1
  have HM := Lib.hid hm
  have e : withinB x 2048 2 = (decide (x.imm % 2 = 0) && decide (-2048 ≤ x.imm / 2) && decide (x.imm / 2 < 2048)) := by unfold withinB; rw [he]; rfl
  have E := Lib.hid e
  clear e hm hx
  by_cases hd : x.imm % 2 = 0
  · have ht : x.imm.tmod 2 = 0 := tmod_of_dvd hd
    have hq : x.imm.tdiv 2 = x.imm / 2 := tdiv_of_dvd hd
    have b0 : -9223372036854775808 ≤ x.imm / 2 := by omega
    have b1 : x.imm / 2 ≤ 9223372036854775807 := by omega
    by_cases h0 : -2048 ≤ x.imm / 2
    · go_enter Tryd.func58, Tryd.ntmps58
      go_wp2_with (fail)
      refine wp_loop_rounds 12 ?_
      iterate 12 (rewrite [rounds_succ]; go_wp2_with (fail))
      go_wp2
      go_ret
      exact ⟨ret_bool (by rw [E.out]; simp [h0, hd]), HM.out.alloc hz _⟩
    · go_enter Tryd.func58, Tryd.ntmps58
      go_wp2_with (fail)
      refine wp_loop_rounds 12 ?_
      iterate 12 (rewrite [rounds_succ]; go_wp2_with (fail))
      go_wp2
      go_ret
      exact ⟨ret_bool (by rw [E.out]; simp; omega), HM.out.alloc hz _⟩
  · have ht : ¬ x.imm.tmod 2 = 0 := fun h => hd (dvd_of_tmod h)
    have HD := Lib.hid hd
    clear hd
    go_enter Tryd.func58, Tryd.ntmps58
    go_wp2_with (fail)
    refine wp_loop_rounds 12 ?_
    iterate 12 (rewrite [rounds_succ]; go_wp2_with (fail))
    go_wp2
    go_ret
    exact ⟨ret_bool (by rw [E.out]; simp [HD.out]), HM.out.alloc hz _⟩
set_option maxHeartbeats 1000000 in
theorem within_12_4 (x : In) (hx : x.small) (he : x.ext = false) (W : World) : Makes Tryd.prog W 58 #[x.val, .int .i64 12, .int .i64 4] (.bool (withinB x 2048 4)) := by
  intro w hm
  have hz := hm.size
  have hi0 := hx.imm0
  have hi1 := hx.imm1
  have HM := Lib.hid hm
  have e : withinB x 2048 4 = (decide (x.imm % 4 = 0) && decide (-2048 ≤ x.imm / 4) && decide (x.imm / 4 < 2048)) := by unfold withinB; rw [he]; rfl
  have E := Lib.hid e
  clear e hm hx
  by_cases hd : x.imm % 4 = 0
  · have ht : x.imm.tmod 4 = 0 := tmod_of_dvd hd
    have hq : x.imm.tdiv 4 = x.imm / 4 := tdiv_of_dvd hd
    have b0 : -9223372036854775808 ≤ x.imm / 4 := by omega
    have b1 : x.imm / 4 ≤ 9223372036854775807 := by omega
    by_cases h0 : -2048 ≤ x.imm / 4
    · go_enter Tryd.func58, Tryd.ntmps58
      go_wp2_with (fail)
      refine wp_loop_rounds 12 ?_
      iterate 12 (rewrite [rounds_succ]; go_wp2_with (fail))
      go_wp2
      go_ret
      exact ⟨ret_bool (by rw [E.out]; simp [h0, hd]), HM.out.alloc hz _⟩
    · go_enter Tryd.func58, Tryd.ntmps58
      go_wp2_with (fail)
      refine wp_loop_rounds 12 ?_
      iterate 12 (rewrite [rounds_succ]; go_wp2_with (fail))
      go_wp2
      go_ret
      exact ⟨ret_bool (by rw [E.out]; simp; omega), HM.out.alloc hz _⟩
  · have ht : ¬ x.imm.tmod 4 = 0 := fun h => hd (dvd_of_tmod h)
    have HD := Lib.hid hd
    clear hd
    go_enter Tryd.func58, Tryd.ntmps58
    go_wp2_with (fail)
    refine wp_loop_rounds 12 ?_
    iterate 12 (rewrite [rounds_succ]; go_wp2_with (fail))
    go_wp2
    go_ret
    exact ⟨ret_bool (by rw [E.out]; simp [HD.out]), HM.out.alloc hz _⟩
theorem within_wide (x : In) (hx : x.small) (W : World) : Makes Tryd.prog W 58 #[x.val, .int .i64 14, .int .i64 1] (.bool (withinB x 8192 1)) := by
  cases he : x.ext with
  | true => exact within_ext x he 14 8192 1 W
  | false => exact within_14 x hx he W
theorem within_near (x : In) (hx : x.small) (sc : Int) (hs : sc = 1 ∨ sc = 2 ∨ sc = 4) (W : World) : Makes Tryd.prog W 58 #[x.val, .int .i64 12, .int .i64 sc] (.bool (withinB x 2048 sc)) := by
  cases he : x.ext with
  | true => exact within_ext x he 12 2048 sc W
  | false =>
    rcases hs with rfl | rfl | rfl
    · exact within_12 x hx he W
    · exact within_12_2 x hx he W
    · exact within_12_4 x hx he W
theorem scale_one (op : Int) : scaleZ op = 1 ∨ scaleZ op = 2 ∨ scaleZ op = 4 := by
  unfold scaleZ
  by_cases h : op = 21 ∨ op = 24
  · rw [if_pos h]; exact .inr (.inr rfl)
  · rw [if_neg h]
    by_cases h2 : op = 22 ∨ op = 25
    · rw [if_pos h2]; exact .inr (.inl rfl)
    · rw [if_neg h2]; exact .inl rfl
end Go.Proofs.YtdaildmoodfocaaDoor
