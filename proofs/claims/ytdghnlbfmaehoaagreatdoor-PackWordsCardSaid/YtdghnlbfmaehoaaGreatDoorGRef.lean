/- What Kind, Class, cond, within, scale and target of the document's answer for inst return, for every argument of the Go types. · What within of the document's answer for inst returns, for every instruction, at the widths and scales that its callers give. · What stands while the document's Right of inst runs: the two variables, and the first of them filled; no condition. -/
import Derived.Test.YtdghnlbfmaehoaaGreatDoorGInst
import Derived.Test.YtdghnlbfmaehoaaGreatDoorGForm
import Derived.Great.BuildSlice
import Derived.Test.YtdghnlbfmaehoaaGreatDoorGOf
import Derived.Deep.CutRange
namespace Go.Proofs.YtdghnlbfmaehoaaGreatDoor
section
open Go.ChangeShapes Go.WideShapes Go.ChangeAt Go.RowKit Go.Sort BigFrame

theorem kind_at (k : Nat) (hk : k < 32) : (kindL.map (Value.int .i64))[k]? = some (.int .i64 (kindZ k)) := by
  have h : k < kindL.length := hk
  rw [List.getElem?_map, List.getElem?_eq_getElem h]
  show some (Value.int .i64 kindL[k]) = some (.int .i64 (kindL.getD ((k : Int)).toNat 0))
  rw [Int.toNat_natCast, List.getD_eq_getElem?_getD, List.getElem?_eq_getElem h]
  rfl
theorem kind_lo (op : Int) (h0 : 0 ≤ op) (h1 : op < 32) (W : World) : Makes Tryz.prog W 137 #[.int .u8 op] (.int .i64 (kindZ op)) := by
  intro w hm
  have hz := hm.size
  obtain ⟨k, rfl⟩ := Int.eq_ofNat_of_zero_le h0
  have hkn : k < 32 := by omega
  go_enter Tryz.func137, Tryz.ntmps137
  go_upto_region 2 with (refine wpList_buildFlat rfl 154 3 32 _ rfl .i64 kindL Tryz.underlying154 (by kernel_rfl) (by kernel_rfl) rfl (by decide) (by decide) (by kernel_rfl) ?_)
  refine name_world (fun u => Made W u ∧ w.heap.size < u.heap.size ∧ u.cell? ⟨w.heap.size, k, none⟩ = some (.int .i64 (kindZ k))) ⟨hm.alloc hz _, by simp, (cell_of_lit (heap_alloc_new w _) k).trans (kind_at k hkn)⟩ ?_
  rintro u ⟨hu, hlt, hc⟩
  have HU := Lib.hid hu
  clear hu hm
  go_wp2
  go_ret
  exact ⟨rfl, HU.out⟩
theorem kind_ref (op : Int) (h0 : 0 ≤ op) (h1 : op ≤ 255) (W : World) : Makes Tryz.prog W 137 #[.int .u8 op] (.int .i64 (kindZ op)) := by
  by_cases h : op < 32
  · exact kind_lo op h0 h W
  · intro w hm
    have hz := hm.size
    have E := Lib.hid (kind_none op (by omega))
    have hlt : ¬ op < 32 := h
    go_enter Tryz.func137, Tryz.ntmps137
    go_wp2
    go_ret
    exact ⟨ret_int E.out.symm, hm.alloc hz _⟩
theorem scale_ref (op : Int) : Still Tryz.prog 140 #[.int .u8 op] (.int .i64 (scaleZ op)) := by
  intro w
  have hc : op = 21 ∨ op = 22 ∨ op = 24 ∨ op = 25 ∨ (op ≠ 21 ∧ op ≠ 22 ∧ op ≠ 24 ∧ op ≠ 25) := by omega
  rcases hc with rfl | rfl | rfl | rfl | ⟨h1, h2, h3, h4⟩
  case inr.inr.inr.inr =>
    have e : scaleZ op = 1 := by unfold scaleZ; rw [if_neg (by omega), if_neg (by omega)]
    have E := Lib.hid e
    have n1 : (op == 21) = false := beq_eq_false_iff_ne.2 h1
    have n2 : (op == 22) = false := beq_eq_false_iff_ne.2 h2
    have n3 : (op == 24) = false := beq_eq_false_iff_ne.2 h3
    have n4 : (op == 25) = false := beq_eq_false_iff_ne.2 h4
    clear e h1 h2 h3 h4
    go_enter Tryz.func140, Tryz.ntmps140
    go_wp2
    go_ret
    exact ⟨ret_int E.out.symm, rfl⟩
  all_goals
    go_enter Tryz.func140, Tryz.ntmps140
    go_wp2
    go_ret
    exact ⟨rfl, rfl⟩
theorem target_ref (v : Int) : Still Tryz.prog 141 #[.int .i64 v] (.bool (aimB v)) := by
  intro w
  have he : aimB v = (decide (0 ≤ v) && decide (v ≤ 4294967292) && decide (v % 4 = 0)) := rfl
  have HE := Lib.hid he
  clear he
  by_cases h0 : 0 ≤ v
  · by_cases h1 : v ≤ 4294967292
    · have hm : (v % 4 == 0) = decide (v % 4 = 0) := by by_cases h : v % 4 = 0 <;> simp [h]
      have HM := Lib.hid hm
      clear hm
      go_enter Tryz.func141, Tryz.ntmps141
      go_wp2
      go_ret
      exact ⟨ret_bool (by rw [HE.out, ← HM.out]; simp [h0, h1]), rfl⟩
    · go_enter Tryz.func141, Tryz.ntmps141
      go_wp2
      go_ret
      exact ⟨ret_bool (by rw [HE.out]; simp; omega), rfl⟩
  · go_enter Tryz.func141, Tryz.ntmps141
    go_wp2
    go_ret
    exact ⟨ret_bool (by rw [HE.out]; simp; omega), rfl⟩
theorem cond_ref (x : In) (hx : x.small) (W : World) : Makes Tryz.prog W 138 #[x.val] (.bool (condB x)) := by
  intro w hm
  have hz := hm.size
  obtain ⟨xo, xd, xs, xt, xn, xp, xm, xw, xe, xc, xi⟩ := x
  have h0 : 0 ≤ xm := hx.mode0
  have h1 : 0 ≤ xp := hx.pred0
  have he : condB ⟨xo, xd, xs, xt, xn, xp, xm, xw, xe, xc, xi⟩ = (decide (xm ≤ 4) && decide (xp ≤ 3) && (decide (0 < xm) || decide (xp = 0))) := rfl
  have HE := Lib.hid he
  have HM := Lib.hid (hm.alloc hz (.cells (In.cells ⟨xo, xd, xs, xt, xn, xp, xm, xw, xe, xc, xi⟩).toArray 42))
  clear he hm hx
  by_cases c1 : xm ≤ 4
  · by_cases c2 : xp ≤ 3
    · by_cases c3 : 0 < xm
      · go_enter Tryz.func138, Tryz.ntmps138
        go_wp2
        go_ret
        exact ⟨ret_bool (by rw [HE.out]; simp [c1, c2, c3]), HM.out⟩
      · have hm : (xp == 0) = decide (xp = 0) := by by_cases h : xp = 0 <;> simp [h]
        have HP := Lib.hid hm
        clear hm
        go_enter Tryz.func138, Tryz.ntmps138
        go_wp2
        go_ret
        exact ⟨ret_bool (by rw [HE.out, ← HP.out]; simp [c1, c2]; omega), HM.out⟩
    · go_enter Tryz.func138, Tryz.ntmps138
      go_wp2
      go_ret
      exact ⟨ret_bool (by rw [HE.out]; simp; omega), HM.out⟩
  · go_enter Tryz.func138, Tryz.ntmps138
    go_wp2
    go_ret
    exact ⟨ret_bool (by rw [HE.out]; simp; omega), HM.out⟩
theorem class_ref (op : Int) (h0 : 0 ≤ op) (h1 : op ≤ 255) : Still Tryz.prog 142 #[.int .u8 op] (.int .u8 (classZ (opN op))) := by
  intro w
  by_cases hn : op < 1 ∨ 31 < op
  · have e : classZ (opN op) = 0 := by unfold opN isOp; rw [if_neg (by simp; omega)]; rfl
    have E := Lib.hid e
    clear e
    rcases hn with hn | hn
    · obtain rfl : op = 0 := by omega
      go_enter Tryz.func142, Tryz.ntmps142
      go_wp2
      go_ret
      exact ⟨ret_int E.out.symm, rfl⟩
    · have z : (op == 0) = false := beq_eq_false_iff_ne.2 (by omega)
      go_enter Tryz.func142, Tryz.ntmps142
      go_wp2
      go_ret
      exact ⟨ret_int E.out.symm, rfl⟩
  · have hc : op = 1 ∨ op = 2 ∨ op = 3 ∨ op = 4 ∨ op = 5 ∨ op = 6 ∨ op = 7 ∨ op = 8 ∨ op = 9 ∨ op = 10 ∨ op = 11 ∨ op = 12 ∨ op = 13 ∨ op = 14 ∨ op = 15 ∨ op = 16 ∨ op = 17 ∨ op = 18 ∨ op = 19 ∨ op = 20 ∨ op = 21 ∨ op = 22 ∨ op = 23 ∨ op = 24 ∨ op = 25 ∨ op = 26 ∨ op = 27 ∨ op = 28 ∨ op = 29 ∨ op = 30 ∨ op = 31 := by omega
    rcases hc with rfl | rfl | rfl | rfl | rfl | rfl | rfl | rfl | rfl | rfl | rfl | rfl | rfl | rfl | rfl | rfl | rfl | rfl | rfl | rfl | rfl | rfl | rfl | rfl | rfl | rfl | rfl | rfl | rfl | rfl | rfl
    all_goals
      go_enter Tryz.func142, Tryz.ntmps142
      go_wp2
      go_ret
      exact ⟨rfl, rfl⟩
end
section
open Go.ChangeShapes Go.WideShapes Go.ChangeAt Go.RowKit Go.Sort BigFrame

theorem within_ext (x : In) (he : x.ext = true) (n top sc : Int) (W : World) : Makes Tryz.prog W 139 #[x.val, .int .i64 n, .int .i64 sc] (.bool (withinB x top sc)) := by
  intro w hm
  have hz := hm.size
  have HM := Lib.hid hm
  have e : withinB x top sc = (decide (-2147483648 ≤ x.imm) && decide (x.imm ≤ 2147483647)) := by unfold withinB; rw [he]; rfl
  have E := Lib.hid e
  clear e hm
  by_cases h0 : -2147483648 ≤ x.imm
  · go_enter Tryz.func139, Tryz.ntmps139
    go_wp2
    go_ret
    exact ⟨ret_bool (by rw [E.out]; simp [h0]), HM.out.alloc hz _⟩
  · go_enter Tryz.func139, Tryz.ntmps139
    go_wp2
    go_ret
    exact ⟨ret_bool (by rw [E.out]; simp; omega), HM.out.alloc hz _⟩
set_option maxRecDepth 100000 in
set_option maxHeartbeats 1000000 in
theorem within_14 (x : In) (hx : x.small) (he : x.ext = false) (W : World) : Makes Tryz.prog W 139 #[x.val, .int .i64 14, .int .i64 1] (.bool (withinB x 8192 1)) := by
  intro w hm
  have hz := hm.size
  have hi0 := hx.imm0
  have hi1 := hx.imm1
  have HM := Lib.hid hm
  have e : withinB x 8192 1 = (decide (-8192 ≤ x.imm) && decide (x.imm < 8192)) := by unfold withinB; rw [he]; simp
  have E := Lib.hid e
  clear e hm hx
  by_cases h0 : -8192 ≤ x.imm
  · go_enter Tryz.func139, Tryz.ntmps139
    go_wp2_with (fail)
    refine wp_loop_rounds 14 ?_
    iterate 14 (rewrite [rounds_succ]; go_wp2_with (fail))
    go_wp2
    go_ret
    exact ⟨ret_bool (by rw [E.out]; simp [h0]), HM.out.alloc hz _⟩
  · go_enter Tryz.func139, Tryz.ntmps139
    go_wp2_with (fail)
    refine wp_loop_rounds 14 ?_
    iterate 14 (rewrite [rounds_succ]; go_wp2_with (fail))
    go_wp2
    go_ret
    exact ⟨ret_bool (by rw [E.out]; simp; omega), HM.out.alloc hz _⟩
set_option maxRecDepth 100000 in
set_option maxHeartbeats 1000000 in
theorem within_12 (x : In) (hx : x.small) (he : x.ext = false) (W : World) : Makes Tryz.prog W 139 #[x.val, .int .i64 12, .int .i64 1] (.bool (withinB x 2048 1)) := by
  intro w hm
  have hz := hm.size
  have hi0 := hx.imm0
  have hi1 := hx.imm1
  have HM := Lib.hid hm
  have e : withinB x 2048 1 = (decide (-2048 ≤ x.imm) && decide (x.imm < 2048)) := by unfold withinB; rw [he]; simp
  have E := Lib.hid e
  clear e hm hx
  by_cases h0 : -2048 ≤ x.imm
  · go_enter Tryz.func139, Tryz.ntmps139
    go_wp2_with (fail)
    refine wp_loop_rounds 12 ?_
    iterate 12 (rewrite [rounds_succ]; go_wp2_with (fail))
    go_wp2
    go_ret
    exact ⟨ret_bool (by rw [E.out]; simp [h0]), HM.out.alloc hz _⟩
  · go_enter Tryz.func139, Tryz.ntmps139
    go_wp2_with (fail)
    refine wp_loop_rounds 12 ?_
    iterate 12 (rewrite [rounds_succ]; go_wp2_with (fail))
    go_wp2
    go_ret
    exact ⟨ret_bool (by rw [E.out]; simp; omega), HM.out.alloc hz _⟩
set_option maxRecDepth 100000 in
set_option maxHeartbeats 1000000 in
theorem within_12_2 (x : In) (hx : x.small) (he : x.ext = false) (W : World) : Makes Tryz.prog W 139 #[x.val, .int .i64 12, .int .i64 2] (.bool (withinB x 2048 2)) := by
  intro w hm
  have hz := hm.size
  have hi0 := hx.imm0
  have hi1 := hx.imm1
  have HM := Lib.hid hm
  have e : withinB x 2048 2 = (decide (x.imm % 2 = 0) && decide (-2048 ≤ x.imm / 2) && decide (x.imm / 2 < 2048)) := by unfold withinB; rw [he]; rfl
  have E := Lib.hid e
  clear e hm hx
  by_cases hd : x.imm % 2 = 0
  · have ht : x.imm.tmod 2 = 0 := tmod_of_dvd hd
    have hq : x.imm.tdiv 2 = x.imm / 2 := tdiv_of_dvd hd
    have b0 : -9223372036854775808 ≤ x.imm / 2 := by omega
    have b1 : x.imm / 2 ≤ 9223372036854775807 := by omega
    by_cases h0 : -2048 ≤ x.imm / 2
    · go_enter Tryz.func139, Tryz.ntmps139
      go_wp2_with (fail)
      refine wp_loop_rounds 12 ?_
      iterate 12 (rewrite [rounds_succ]; go_wp2_with (fail))
      go_wp2
      go_ret
      exact ⟨ret_bool (by rw [E.out]; simp [h0, hd]), HM.out.alloc hz _⟩
    · go_enter Tryz.func139, Tryz.ntmps139
      go_wp2_with (fail)
      refine wp_loop_rounds 12 ?_
      iterate 12 (rewrite [rounds_succ]; go_wp2_with (fail))
      go_wp2
      go_ret
      exact ⟨ret_bool (by rw [E.out]; simp; omega), HM.out.alloc hz _⟩
  · have ht : ¬ x.imm.tmod 2 = 0 := fun h => hd (dvd_of_tmod h)
    have HD := Lib.hid hd
    clear hd
    go_enter Tryz.func139, Tryz.ntmps139
    go_wp2_with (fail)
    refine wp_loop_rounds 12 ?_
    iterate 12 (rewrite [rounds_succ]; go_wp2_with (fail))
    go_wp2
    go_ret
    exact ⟨ret_bool (by rw [E.out]; simp [HD.out]), HM.out.alloc hz _⟩
set_option maxRecDepth 100000 in
set_option maxHeartbeats 1000000 in
theorem within_12_4 (x : In) (hx : x.small) (he : x.ext = false) (W : World) : Makes Tryz.prog W 139 #[x.val, .int .i64 12, .int .i64 4] (.bool (withinB x 2048 4)) := by
  intro w hm
  have hz := hm.size
  have hi0 := hx.imm0
  have hi1 := hx.imm1
  have HM := Lib.hid hm
  have e : withinB x 2048 4 = (decide (x.imm % 4 = 0) && decide (-2048 ≤ x.imm / 4) && decide (x.imm / 4 < 2048)) := by unfold withinB; rw [he]; rfl
  have E := Lib.hid e
  clear e hm hx
  by_cases hd : x.imm % 4 = 0
  · have ht : x.imm.tmod 4 = 0 := tmod_of_dvd hd
    have hq : x.imm.tdiv 4 = x.imm / 4 := tdiv_of_dvd hd
    have b0 : -9223372036854775808 ≤ x.imm / 4 := by omega
    have b1 : x.imm / 4 ≤ 9223372036854775807 := by omega
    by_cases h0 : -2048 ≤ x.imm / 4
    · go_enter Tryz.func139, Tryz.ntmps139
      go_wp2_with (fail)
      refine wp_loop_rounds 12 ?_
      iterate 12 (rewrite [rounds_succ]; go_wp2_with (fail))
      go_wp2
      go_ret
      exact ⟨ret_bool (by rw [E.out]; simp [h0, hd]), HM.out.alloc hz _⟩
    · go_enter Tryz.func139, Tryz.ntmps139
      go_wp2_with (fail)
      refine wp_loop_rounds 12 ?_
      iterate 12 (rewrite [rounds_succ]; go_wp2_with (fail))
      go_wp2
      go_ret
      exact ⟨ret_bool (by rw [E.out]; simp; omega), HM.out.alloc hz _⟩
  · have ht : ¬ x.imm.tmod 4 = 0 := fun h => hd (dvd_of_tmod h)
    have HD := Lib.hid hd
    clear hd
    go_enter Tryz.func139, Tryz.ntmps139
    go_wp2_with (fail)
    refine wp_loop_rounds 12 ?_
    iterate 12 (rewrite [rounds_succ]; go_wp2_with (fail))
    go_wp2
    go_ret
    exact ⟨ret_bool (by rw [E.out]; simp [HD.out]), HM.out.alloc hz _⟩
theorem within_wide (x : In) (hx : x.small) (W : World) : Makes Tryz.prog W 139 #[x.val, .int .i64 14, .int .i64 1] (.bool (withinB x 8192 1)) := by
  cases he : x.ext with
  | true => exact within_ext x he 14 8192 1 W
  | false => exact within_14 x hx he W
theorem within_near (x : In) (hx : x.small) (sc : Int) (hs : sc = 1 ∨ sc = 2 ∨ sc = 4) (W : World) : Makes Tryz.prog W 139 #[x.val, .int .i64 12, .int .i64 sc] (.bool (withinB x 2048 sc)) := by
  cases he : x.ext with
  | true => exact within_ext x he 12 2048 sc W
  | false =>
    rcases hs with rfl | rfl | rfl
    · exact within_12 x hx he W
    · exact within_12_2 x hx he W
    · exact within_12_4 x hx he W
theorem scale_one (op : Int) : scaleZ op = 1 ∨ scaleZ op = 2 ∨ scaleZ op = 4 := by
  unfold scaleZ
  by_cases h : op = 21 ∨ op = 24
  · rw [if_pos h]; exact .inr (.inr rfl)
  · rw [if_neg h]
    by_cases h2 : op = 22 ∨ op = 25
    · rw [if_pos h2]; exact .inr (.inl rfl)
    · rw [if_neg h2]; exact .inl rfl
end
section
open Go.ChangeShapes Go.WideShapes Go.ChangeAt Go.RowKit Go.Sort BigFrame

namespace refRight
/-- The instruction's variable, and the one that is compared with it. -/
structure Two (W : World) (B : Nat) (x y : In) (w : World) : Prop where
  made : Made W w
  low : W.heap.size ≤ B
  in_ : InAt w B x
  is_ : InAt w (B + 1) y
theorem Two.next {W w w' : World} {B : Nat} {x y : In} (h : Two W B x y w) (hm : Made w w') : Two W B x y w' := ⟨Made.trans h.made hm, h.low, hm.heap h.in_, hm.heap h.is_⟩
/-- Cells of one block stored one behind the other. -/
def setL (w : World) (b : Nat) (l : List (Nat × Value)) : World := l.foldl (fun w p => w.setCell ⟨b, p.1, none⟩ p.2) w
theorem setL_far (b : Nat) (l : List (Nat × Value)) : ∀ (w : World) (i : Nat), i ≠ b → (setL w b l).heap[i]? = w.heap[i]? := by
  induction l with
  | nil => intro w i _; rfl
  | cons p r ih => intro w i hi; exact (ih _ i hi).trans (Below.heap_setCell w ⟨b, p.1, none⟩ p.2 i hi)
theorem setL_same (b : Nat) (T : TypeId) (l : List (Nat × Value)) : ∀ (w : World) (cs : Array Value), w.heap[b]? = some (.cells cs T (0, 0)) → (setL w b l).heap[b]? = some (.cells (l.foldl (fun cs p => cs.setIfInBounds p.1 p.2) cs) T (0, 0)) := by
  induction l with
  | nil => intro w cs h; exact h
  | cons p r ih => intro w cs h; exact ih _ _ (heap_setCell_same w b p.1 cs T p.2 h)
theorem setL_made (b : Nat) (l : List (Nat × Value)) : ∀ (W w : World), W.heap.size ≤ b → Made W w → Made W (setL w b l) := by
  induction l with
  | nil => intro W w _ h; exact h
  | cons p r ih => intro W w hb h; exact ih W _ hb (h.setCell (p := ⟨b, p.1, none⟩) hb p.2)
theorem Two.set {W w : World} {B : Nat} {x y z : In} (h : Two W B x y w) (l : List (Nat × Value)) (hz : l.foldl (fun cs p => cs.setIfInBounds p.1 p.2) y.cells.toArray = z.cells.toArray) : Two W B x z (setL w (B + 1) l) := by
  obtain ⟨h1, h2, h3, h4⟩ := h
  refine ⟨setL_made _ l _ _ (by omega) h1, h2, (setL_far _ l w B (by omega)).trans h3, ?_⟩
  have := setL_same (B + 1) 42 l w _ h4
  rwa [hz] at this
theorem two_start {W w : World} (hm : Made W w) (x : In) : Two W w.heap.size x { inZero with op := x.op } ((w.alloc (.cells x.cells.toArray 42)).alloc (.cells (In.cells { inZero with op := x.op }).toArray 42)) := by
  refine ⟨(hm.alloc hm.size _).alloc (by simp only [World.size_alloc]; have := hm.size; omega) _, hm.size, ?_, ?_⟩
  · exact keep (o' := .cells (In.cells { inZero with op := x.op }).toArray 42) (heap_alloc_new w _) (Made.refl _)
  · have := heap_alloc_new (w.alloc (.cells x.cells.toArray 42)) (.cells (In.cells { inZero with op := x.op }).toArray 42)
    rwa [World.size_alloc] at this
end refRight
end
end Go.Proofs.YtdghnlbfmaehoaaGreatDoor
