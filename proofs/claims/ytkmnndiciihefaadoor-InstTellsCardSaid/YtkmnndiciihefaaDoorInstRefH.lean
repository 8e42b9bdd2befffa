/- What Reads of the document's answer for inst returns, for every instruction: the marks of what the program's own Reads returns; no condition but that each part lies in its Go type. -/
import Derived.Test.YtkmnndiciihefaaDoorInstRefG
import Derived.Test.YtkmnndiciihefaaDoorInstMarks
import Derived.Laws.Tables
import Derived.Laws.Rows
import Derived.Laws.CopyOwn
import Derived.Deep.MidRow
import Derived.Deep.RegionHeld3
import Derived.Deep.DrawnRows
import Derived.Deep.CutBlock
import Derived.Deep.CutRange
namespace Go.Proofs.YtkmnndiciihefaaDoor
open Go.ChangeShapes Go.WideShapes Go.ChangeAt Go.RowKit Go.Sort BigFrame

namespace refReads
/-- The three variables: the instruction, the result, the list of marks. -/
structure RW (W : World) (B : Nat) (x : In) (l : List Int) (w : World) : Prop where
  made : Made W w
  low : W.heap.size ≤ B
  in_ : InAt w B x
  res : w.heap[B + 1]? = some (.cells (markL []).toArray 40 (0, 0))
  lst : w.heap[B + 1 + 1]? = some (.cells (markL l).toArray 40 (0, 0))
theorem RW.next {W w w' : World} {B : Nat} {x : In} {l : List Int} (h : RW W B x l w) (hm : Made w w') : RW W B x l w' := ⟨Made.trans h.made hm, h.low, hm.heap h.in_, hm.heap h.res, hm.heap h.lst⟩
theorem RW.set {W w : World} {B : Nat} {x : In} {l : List Int} (h : RW W B x l w) (s : Int) (h0 : 0 ≤ s) (h1 : s < 32) : RW W B x (s :: l) (w.setCell ⟨B + 1 + 1, s.toNat, none⟩ (.bool true)) := by
  obtain ⟨g1, g2, g3, g4, g5⟩ := h
  refine ⟨g1.setCell (p := ⟨B + 1 + 1, s.toNat, none⟩) (by show W.heap.size ≤ B + 1 + 1; omega) _, g2, (Below.heap_setCell w ⟨B + 1 + 1, s.toNat, none⟩ _ B (by show B ≠ B + 1 + 1; omega)).trans g3, (Below.heap_setCell w ⟨B + 1 + 1, s.toNat, none⟩ _ (B + 1) (by show B + 1 ≠ B + 1 + 1; omega)).trans g4, ?_⟩
  rw [← markL_set l s h0 h1]
  exact heap_setCell_same w (B + 1 + 1) s.toNat _ 40 _ g5
theorem RW.keep {W w : World} {B : Nat} {x : In} {l : List Int} (h : RW W B x l w) (s : Int) (hk : markB l s.toNat = false) : RW W B x l (w.setCell ⟨B + 1 + 1, s.toNat, none⟩ (.bool false)) := by
  obtain ⟨g1, g2, g3, g4, g5⟩ := h
  have he : (markL l).toArray.setIfInBounds s.toNat (.bool false) = (markL l).toArray := by
    rw [List.setIfInBounds_toArray]
    congr 1
    refine List.ext_getElem? fun j => ?_
    by_cases hj : j < 32
    · by_cases e : s.toNat = j
      · subst e
        rw [List.getElem?_set_self (by rw [markL_len]; exact hj), markL_at _ _ hj, hk]
      · rw [List.getElem?_set_ne e]
    · rw [List.getElem?_eq_none (by rw [List.length_set, markL_len]; omega), List.getElem?_eq_none (by rw [markL_len]; omega)]
  refine ⟨g1.setCell (p := ⟨B + 1 + 1, s.toNat, none⟩) (by show W.heap.size ≤ B + 1 + 1; omega) _, g2, (Below.heap_setCell w ⟨B + 1 + 1, s.toNat, none⟩ _ B (by show B ≠ B + 1 + 1; omega)).trans g3, (Below.heap_setCell w ⟨B + 1 + 1, s.toNat, none⟩ _ (B + 1) (by show B + 1 ≠ B + 1 + 1; omega)).trans g4, ?_⟩
  have := heap_setCell_same w (B + 1 + 1) s.toNat _ 40 (.bool false) g5
  rwa [he] at this
theorem rw_start {W w : World} (hm : Made W w) (x : In) : RW W w.heap.size x [] (((w.alloc (.cells x.cells.toArray 24)).alloc (.cells (markL []).toArray 40)).alloc (.cells (markL []).toArray 40)) := by
  have e := Below.heap_alloc
  refine ⟨((hm.alloc hm.size _).alloc (by simp only [World.size_alloc]; have := hm.size; omega) _).alloc (by simp only [World.size_alloc]; have := hm.size; omega) _, hm.size, ?_, ?_, ?_⟩
  · show (_ : World).heap[_]? = _
    rw [e _ _ _ (by simp only [World.size_alloc]; omega), e _ _ _ (by simp only [World.size_alloc]; omega)]
    exact heap_alloc_new w _
  · rw [e _ _ _ (by simp only [World.size_alloc]; omega)]
    exact heap_at (by simp only [World.size_alloc])
  · exact heap_at (by simp only [World.size_alloc])
theorem mark_cell {w : World} {b : Nat} {l : List Int} (h : w.heap[b]? = some (.cells (markL l).toArray 40 (0, 0))) (s : Int) (h0 : 0 ≤ s) (h1 : s < 32) : w.cell? ⟨b, s.toNat, none⟩ = some (.bool (markB l s.toNat)) :=
  (cell_of_lit h s.toNat).trans (markL_at l s.toNat (by omega))
theorem info_marks : (Tryd.prog.info? 40).map (·.size) = some 32 := by kernel_rfl
section
attribute [local irreducible] World.cell?
attribute [local go_sem ↓] Go.wp_at_zero Go.wp_at_succ
set_option maxRecDepth 100000 in
set_option maxHeartbeats 4000000 in
theorem reads_any (x : In) (hx : x.small) (W : World) : Makes Tryd.prog W 23 #[x.val] (.agg (markL (readsL x)).toArray) := by
  intro w hm
  have hz := hm.size
  have HX := Lib.hid hx
  have R0 := Lib.hid (rw_start hm x)
  have HK := Lib.hid (fun W' => kind_ref x.op hx.op0 hx.op1 W')
  have HR := Lib.hid (fun W' => rright_any x hx W')
  clear hm
  go_enter Tryd.func23, Tryd.ntmps23
  go_upto_region 2 with (fail)
  refine name_world (fun u => RW W w.heap.size x [] u) R0.out ?_
  intro u0 h0
  have R1 := Lib.hid h0
  obtain ⟨a0, a1, a2, a3, a4, a5, a6, a7, a8, a9, a10⟩ := in_cells h0.in_
  have hb := heap_lt h0.in_
  clear h0
  go_wp2_with (fail)
  refine (HR.out _ _ (Made.refl _)).mono ?_
  rintro e u1 ⟨rfl, h1⟩
  have R2 := Lib.hid (R1.out.next h1)
  clear h1 a0 a1 a2 a3 a4 a5 a6 a7 a8 a9 a10 hb
  cases hrb : rightB x with
  | false =>
    have e := Lib.hid (show readsL x = [] by unfold readsL; rw [hrb]; rfl)
    clear hrb
    go_wp2_with (first
      | (refine wpList_load_row rfl 40 (.tmp 3) rfl (w.heap.size + 1 + 1) (by rfl) 40 _ (0, 0) _ R2.out.lst Tryd.underlying40 rfl (by simpa [markL] using info_marks) ?_)
      | (refine wpList_store_row rfl 40 (.tmp 2) (.tmp 7) rfl (w.heap.size + 1) (markL []).toArray (by rfl) (by rfl) 40 _ R2.out.res (by simpa [markL] using info_marks) (by simp [markL]) (all_oneCell_toArray (markL_one _)) ?_))
    refine bodyPost_ret (results_cell_row Tryd.results23 _ _ (w.heap.size + 1) 40 (markL []).toArray (0, 0) _ (by rfl) (setRow_heap _ _ _ _ _ _ R2.out.res) Tryd.underlying40 rfl (by simpa [markL] using info_marks)) rfl ?_
    exact ⟨by rw [e.out], below_setRow R2.out.made (by have := R2.out.low; omega) _⟩
  | true =>
    obtain ⟨⟨s0, s1, t0, t1⟩, q1, q2, q3, q4⟩ := reads_kind x HX.out hrb
    obtain ⟨ho0, ho1⟩ := right_op hrb
    obtain ⟨k0, k1⟩ := kind_range ho0 ho1
    have Q := Lib.hid (And.intro q1 (And.intro q2 (And.intro q3 q4)))
    have hcase : (kindZ x.op = 1 ∨ kindZ x.op = 5 ∨ kindZ x.op = 7 ∨ kindZ x.op = 9) ∨ (kindZ x.op = 2 ∨ kindZ x.op = 4 ∨ kindZ x.op = 6 ∨ kindZ x.op = 8 ∨ kindZ x.op = 10 ∨ kindZ x.op = 13 ∨ kindZ x.op = 16) ∨ kindZ x.op = 11 ∨
        (kindZ x.op = 3 ∨ kindZ x.op = 12 ∨ kindZ x.op = 14 ∨ kindZ x.op = 15 ∨ kindZ x.op = 17) := by omega
    clear q1 q2 q3 q4 hrb k0 k1 ho0 ho1
    generalize kindZ x.op = k at *
    obtain ⟨a0, a1, a2, a3, a4, a5, a6, a7, a8, a9, a10⟩ := in_cells R2.out.in_
    have hb := heap_lt R2.out.in_
    go_wp2_with (fail)
    refine (HK.out _ _ (Made.refl _)).mono ?_
    rintro e u2 ⟨rfl, h2⟩
    have R3 := Lib.hid (R2.out.next h2)
    clear h2 a0 a1 a2 a3 a4 a5 a6 a7 a8 a9 a10 hb
    obtain ⟨a0, a1, a2, a3, a4, a5, a6, a7, a8, a9, a10⟩ := in_cells R3.out.in_
    have hb := heap_lt R3.out.in_
    have hb2 := heap_lt R3.out.lst
    have cs := mark_cell R3.out.lst x.s s0 s1
    have fz := free_of_lit R3.out.lst
    rcases hcase with hc | hc | rfl | hc
    · have e := Lib.hid (Q.out.1 hc)
      rcases hc with rfl | rfl | rfl | rfl
      all_goals
        go_upto_region 10 with (fail)
        refine name_world (fun u => RW W w.heap.size x [x.s] u) (R3.out.set x.s s0 s1) ?_
        intro u3 h3
        have R4 := Lib.hid h3
        clear h3 a0 a1 a2 a3 a4 a5 a6 a7 a8 a9 a10 hb hb2 cs fz
        obtain ⟨a0, a1, a2, a3, a4, a5, a6, a7, a8, a9, a10⟩ := in_cells R4.out.in_
        have hb := heap_lt R4.out.in_
        have hb2 := heap_lt R4.out.lst
        have ct := mark_cell R4.out.lst x.t t0 t1
        have fz := free_of_lit R4.out.lst
        go_upto_region 22 with (fail)
        refine name_world (fun u => RW W w.heap.size x [x.t, x.s] u) (R4.out.set x.t t0 t1) ?_
        intro u4 h4
        have R5 := Lib.hid h4
        clear h4 a0 a1 a2 a3 a4 a5 a6 a7 a8 a9 a10 hb hb2 ct fz
        go_wp2_with (first
          | (refine wpList_load_row rfl 40 (.tmp 3) rfl (w.heap.size + 1 + 1) (by rfl) 40 _ (0, 0) _ R5.out.lst Tryd.underlying40 rfl (by simpa [markL] using info_marks) ?_)
          | (refine wpList_store_row rfl 40 (.tmp 2) (.tmp 50) rfl (w.heap.size + 1) (markL [x.t, x.s]).toArray (by rfl) (by rfl) 40 _ R5.out.res (by simpa [markL] using info_marks) (by simp [markL]) (all_oneCell_toArray (markL_one _)) ?_))
        refine bodyPost_ret (results_cell_row Tryd.results23 _ _ (w.heap.size + 1) 40 (markL [x.t, x.s]).toArray (0, 0) _ (by rfl) (setRow_heap _ _ _ _ _ _ R5.out.res) Tryd.underlying40 rfl (by simpa [markL] using info_marks)) rfl ?_
        exact ⟨by rw [e.out], below_setRow R5.out.made (by have := R5.out.low; omega) _⟩
    · have e := Lib.hid (Q.out.2.1 hc)
      rcases hc with rfl | rfl | rfl | rfl | rfl | rfl | rfl
      all_goals
        go_upto_region 22 with (fail)
        refine name_world (fun u => RW W w.heap.size x [x.s] u) (R3.out.set x.s s0 s1) ?_
        intro u3 h3
        have R4 := Lib.hid h3
        clear h3 a0 a1 a2 a3 a4 a5 a6 a7 a8 a9 a10 hb hb2 cs fz
        go_wp2_with (first
          | (refine wpList_load_row rfl 40 (.tmp 3) rfl (w.heap.size + 1 + 1) (by rfl) 40 _ (0, 0) _ R4.out.lst Tryd.underlying40 rfl (by simpa [markL] using info_marks) ?_)
          | (refine wpList_store_row rfl 40 (.tmp 2) (.tmp 50) rfl (w.heap.size + 1) (markL [x.s]).toArray (by rfl) (by rfl) 40 _ R4.out.res (by simpa [markL] using info_marks) (by simp [markL]) (all_oneCell_toArray (markL_one _)) ?_))
        refine bodyPost_ret (results_cell_row Tryd.results23 _ _ (w.heap.size + 1) 40 (markL [x.s]).toArray (0, 0) _ (by rfl) (setRow_heap _ _ _ _ _ _ R4.out.res) Tryd.underlying40 rfl (by simpa [markL] using info_marks)) rfl ?_
        exact ⟨by rw [e.out], below_setRow R4.out.made (by have := R4.out.low; omega) _⟩
    · have e := Lib.hid (Q.out.2.2.1 rfl)
      go_upto_region 21 with (fail)
      refine name_world (fun u => RW W w.heap.size x [x.s] u) (R3.out.set x.s s0 s1) ?_
      intro u3 h3
      have R4 := Lib.hid h3
      clear h3 a0 a1 a2 a3 a4 a5 a6 a7 a8 a9 a10 hb hb2 cs fz
      obtain ⟨a0, a1, a2, a3, a4, a5, a6, a7, a8, a9, a10⟩ := in_cells R4.out.in_
      have hb := heap_lt R4.out.in_
      have hb2 := heap_lt R4.out.lst
      have ct := mark_cell R4.out.lst x.t t0 t1
      have fz := free_of_lit R4.out.lst
      have hmk : markB [x.s] x.t.toNat = decide (x.s = x.t) := by simp [markB, Int.toNat_of_nonneg t0]
      rewrite [hmk] at ct
      have hst : decide (x.s = x.t) = true ∨ (decide (x.s = x.t) = false ∧ x.new = false) ∨ (decide (x.s = x.t) = false ∧ x.new = true) := by
        cases decide (x.s = x.t) <;> cases x.new <;> simp
      rcases hst with hst | ⟨hst, hnw⟩ | ⟨hst, hnw⟩
      · have e2 := Lib.hid (show markL (readsL x) = markL [x.t, x.s] by
          have hs : x.s = x.t := of_decide_eq_true hst
          rw [e.out]
          cases x.new
          · rfl
          · rw [if_pos rfl]
            exact markL_same fun z => by simp [hs])
        refine wp_region_tail 12 (by kernel_rfl) (by kernel_rfl) ?_
        simp only [List.take_succ_cons, List.take_zero, List.drop_succ_cons, List.drop_zero]
        repeat still_step
        refine wpStill_nil ?_
        go_upto_region 22 with (fail)
        refine name_world (fun u => RW W w.heap.size x [x.t, x.s] u) ((R4.out.set x.t t0 t1).next (Made.refl _).drew) ?_
        intro u4 h4
        have R5 := Lib.hid h4
        clear h4 a0 a1 a2 a3 a4 a5 a6 a7 a8 a9 a10 hb hb2 ct fz hst hmk
        go_wp2_with (first
          | (refine wpList_load_row rfl 40 (.tmp 3) rfl (w.heap.size + 1 + 1) (by rfl) 40 _ (0, 0) _ R5.out.lst Tryd.underlying40 rfl (by simpa [markL] using info_marks) ?_)
          | (refine wpList_store_row rfl 40 (.tmp 2) (.tmp 50) rfl (w.heap.size + 1) (markL [x.t, x.s]).toArray (by rfl) (by rfl) 40 _ R5.out.res (by simpa [markL] using info_marks) (by simp [markL]) (all_oneCell_toArray (markL_one _)) ?_))
        refine bodyPost_ret (results_cell_row Tryd.results23 _ _ (w.heap.size + 1) 40 (markL [x.t, x.s]).toArray (0, 0) _ (by rfl) (setRow_heap _ _ _ _ _ _ R5.out.res) Tryd.underlying40 rfl (by simpa [markL] using info_marks)) rfl ?_
        exact ⟨by rw [e2.out], below_setRow R5.out.made (by have := R5.out.low; omega) _⟩
      · have e2 := Lib.hid (show markL (readsL x) = markL [x.t, x.s] by rw [e.out, hnw]; rfl)
        refine wp_region_tail 12 (by kernel_rfl) (by kernel_rfl) ?_
        simp only [List.take_succ_cons, List.take_zero, List.drop_succ_cons, List.drop_zero]
        repeat still_step
        refine wpStill_nil ?_
        go_upto_region 22 with (fail)
        refine name_world (fun u => RW W w.heap.size x [x.t, x.s] u) ((R4.out.set x.t t0 t1).next (Made.refl _).drew) ?_
        intro u4 h4
        have R5 := Lib.hid h4
        clear h4 a0 a1 a2 a3 a4 a5 a6 a7 a8 a9 a10 hb hb2 ct fz hst hmk hnw
        go_wp2_with (first
          | (refine wpList_load_row rfl 40 (.tmp 3) rfl (w.heap.size + 1 + 1) (by rfl) 40 _ (0, 0) _ R5.out.lst Tryd.underlying40 rfl (by simpa [markL] using info_marks) ?_)
          | (refine wpList_store_row rfl 40 (.tmp 2) (.tmp 50) rfl (w.heap.size + 1) (markL [x.t, x.s]).toArray (by rfl) (by rfl) 40 _ R5.out.res (by simpa [markL] using info_marks) (by simp [markL]) (all_oneCell_toArray (markL_one _)) ?_))
        refine bodyPost_ret (results_cell_row Tryd.results23 _ _ (w.heap.size + 1) 40 (markL [x.t, x.s]).toArray (0, 0) _ (by rfl) (setRow_heap _ _ _ _ _ _ R5.out.res) Tryd.underlying40 rfl (by simpa [markL] using info_marks)) rfl ?_
        exact ⟨by rw [e2.out], below_setRow R5.out.made (by have := R5.out.low; omega) _⟩
      · have e2 := Lib.hid (show markL (readsL x) = markL [x.s] by rw [e.out, hnw]; rfl)
        have hk0 := hmk.trans hst
        refine wp_region_tail 12 (by kernel_rfl) (by kernel_rfl) ?_
        simp only [List.take_succ_cons, List.take_zero, List.drop_succ_cons, List.drop_zero]
        repeat still_step
        refine wpStill_nil ?_
        go_upto_region 22 with (fail)
        refine name_world (fun u => RW W w.heap.size x [x.s] u) ((R4.out.keep x.t hk0).next (Made.refl _).drew) ?_
        intro u4 h4
        have R5 := Lib.hid h4
        clear h4 a0 a1 a2 a3 a4 a5 a6 a7 a8 a9 a10 hb hb2 ct fz hst hmk hnw hk0
        go_wp2_with (first
          | (refine wpList_load_row rfl 40 (.tmp 3) rfl (w.heap.size + 1 + 1) (by rfl) 40 _ (0, 0) _ R5.out.lst Tryd.underlying40 rfl (by simpa [markL] using info_marks) ?_)
          | (refine wpList_store_row rfl 40 (.tmp 2) (.tmp 50) rfl (w.heap.size + 1) (markL [x.s]).toArray (by rfl) (by rfl) 40 _ R5.out.res (by simpa [markL] using info_marks) (by simp [markL]) (all_oneCell_toArray (markL_one _)) ?_))
        refine bodyPost_ret (results_cell_row Tryd.results23 _ _ (w.heap.size + 1) 40 (markL [x.s]).toArray (0, 0) _ (by rfl) (setRow_heap _ _ _ _ _ _ R5.out.res) Tryd.underlying40 rfl (by simpa [markL] using info_marks)) rfl ?_
        exact ⟨by rw [e2.out], below_setRow R5.out.made (by have := R5.out.low; omega) _⟩
    · have e := Lib.hid (Q.out.2.2.2 hc)
      rcases hc with rfl | rfl | rfl | rfl | rfl
      all_goals
        go_upto_region 22 with (fail)
        refine name_world (fun u => RW W w.heap.size x [] u) R3.out ?_
        intro u3 h3
        have R4 := Lib.hid h3
        clear h3 a0 a1 a2 a3 a4 a5 a6 a7 a8 a9 a10 hb hb2 cs fz
        go_wp2_with (first
          | (refine wpList_load_row rfl 40 (.tmp 3) rfl (w.heap.size + 1 + 1) (by rfl) 40 _ (0, 0) _ R4.out.lst Tryd.underlying40 rfl (by simpa [markL] using info_marks) ?_)
          | (refine wpList_store_row rfl 40 (.tmp 2) (.tmp 50) rfl (w.heap.size + 1) (markL []).toArray (by rfl) (by rfl) 40 _ R4.out.res (by simpa [markL] using info_marks) (by simp [markL]) (all_oneCell_toArray (markL_one _)) ?_))
        refine bodyPost_ret (results_cell_row Tryd.results23 _ _ (w.heap.size + 1) 40 (markL []).toArray (0, 0) _ (by rfl) (setRow_heap _ _ _ _ _ _ R4.out.res) Tryd.underlying40 rfl (by simpa [markL] using info_marks)) rfl ?_
        exact ⟨by rw [e.out], below_setRow R4.out.made (by have := R4.out.low; omega) _⟩
end
end refReads
end Go.Proofs.YtkmnndiciihefaaDoor
