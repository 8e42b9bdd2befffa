/- What Writes, WritesPred, ReadsPred and Target of the document's answer for inst return, for every instruction: what the program's own return; no condition but that each part lies in its Go type. -/
import Derived.Test.YtkmnndiciihefaaDoorInstRefF
namespace Go.Proofs.YtkmnndiciihefaaDoor
open Go.ChangeShapes Go.WideShapes Go.ChangeAt Go.RowKit Go.Sort BigFrame

/-- A variable that holds the instruction, kept. -/
structure Own (W : World) (B : Nat) (x : In) (w : World) : Prop where
  made : Made W w
  in_ : InAt w B x
theorem Own.next {W w w' : World} {B : Nat} {x : In} (h : Own W B x w) (hm : Made w w') : Own W B x w' := ⟨Made.trans h.made hm, hm.heap h.in_⟩
section
attribute [local irreducible] World.cell?
theorem rwrites_any (x : In) (hx : x.small) (W : World) : Makes Tryd.prog W 19 #[x.val] (.tuple #[.int .u8 (writesP x).1, .bool (writesP x).2]) := by
  intro w hm
  have hz := hm.size
  have HX := Lib.hid hx
  have K0 := Lib.hid (show Own W w.heap.size x (w.alloc (.cells x.cells.toArray 24)) from ⟨hm.alloc hz _, heap_alloc_new w _⟩)
  have HK := Lib.hid (fun W' => kind_ref x.op hx.op0 hx.op1 W')
  have HR := Lib.hid (fun W' => rright_any x hx W')
  have HW := Lib.hid (writes_kind x)
  clear hm hx
  generalize kindZ x.op = k at *
  generalize rightB x = rb at *
  go_enter Tryd.func19, Tryd.ntmps19
  go_wp2_with (fail)
  refine (HK.out _ _ (Made.refl _)).mono ?_
  rintro e u1 ⟨rfl, h1⟩
  have K1 := Lib.hid (K0.out.next h1)
  clear h1
  obtain ⟨a0, a1, a2, a3, a4, a5, a6, a7, a8, a9, a10⟩ := in_cells K1.out.in_
  have hb := heap_lt K1.out.in_
  go_wp2_with (fail)
  refine (HR.out _ _ (Made.refl _)).mono ?_
  rintro e u2 ⟨rfl, h1⟩
  have K2 := Lib.hid (K1.out.next h1)
  clear h1 a0 a1 a2 a3 a4 a5 a6 a7 a8 a9 a10 hb
  obtain ⟨a0, a1, a2, a3, a4, a5, a6, a7, a8, a9, a10⟩ := in_cells K2.out.in_
  have hb := heap_lt K2.out.in_
  cases rb with
  | false =>
    go_wp2
    go_ret2
    exact ⟨by rw [HW.out]; rfl, K2.out.made⟩
  | true =>
    have hc : k = 14 ∨ (1 ≤ k ∧ k ≤ 4) ∨ (7 ≤ k ∧ k ≤ 10) ∨ (k < 1) ∨ (4 < k ∧ k < 7) ∨ (10 < k ∧ k ≠ 14) := by omega
    rcases hc with rfl | ⟨h0, h1⟩ | ⟨h0, h1⟩ | h0 | ⟨h0, h1⟩ | ⟨h0, h1⟩
    · go_wp2
      go_ret2
      exact ⟨by rw [HW.out]; rfl, K2.out.made⟩
    · have e := Lib.hid (show writesP x = (x.d, true) by rw [HW.out, if_pos rfl, if_neg (by omega), if_pos (by omega)])
      have z : (k == 14) = false := beq_eq_false_iff_ne.2 (by omega)
      go_wp2
      go_ret2
      exact ⟨by rw [e.out]; rfl, K2.out.made⟩
    · have e := Lib.hid (show writesP x = (x.d, true) by rw [HW.out, if_pos rfl, if_neg (by omega), if_pos (by omega)])
      have z : (k == 14) = false := beq_eq_false_iff_ne.2 (by omega)
      have z2 : ¬ k ≤ 4 := by omega
      go_wp2
      go_ret2
      exact ⟨by rw [e.out]; rfl, K2.out.made⟩
    · have e := Lib.hid (show writesP x = (0, false) by rw [HW.out, if_pos rfl, if_neg (by omega), if_neg (by omega)])
      have z : (k == 14) = false := beq_eq_false_iff_ne.2 (by omega)
      have z2 : ¬ 7 ≤ k := by omega
      go_wp2
      go_ret2
      exact ⟨by rw [e.out]; rfl, K2.out.made⟩
    · have e := Lib.hid (show writesP x = (0, false) by rw [HW.out, if_pos rfl, if_neg (by omega), if_neg (by omega)])
      have z : (k == 14) = false := beq_eq_false_iff_ne.2 (by omega)
      go_wp2
      go_ret2
      exact ⟨by rw [e.out]; rfl, K2.out.made⟩
    · have e := Lib.hid (show writesP x = (0, false) by rw [HW.out, if_pos rfl, if_neg h1, if_neg (by omega)])
      have z : (k == 14) = false := beq_eq_false_iff_ne.2 h1
      clear h1
      go_wp2
      go_ret2
      exact ⟨by rw [e.out]; rfl, K2.out.made⟩
theorem rwritesPred_any (x : In) (hx : x.small) (W : World) : Makes Tryd.prog W 20 #[x.val] (.tuple #[.int .u8 (wpredP x).1, .bool (wpredP x).2]) := by
  intro w hm
  have hz := hm.size
  have HX := Lib.hid hx
  have K0 := Lib.hid (show Own W w.heap.size x (w.alloc (.cells x.cells.toArray 24)) from ⟨hm.alloc hz _, heap_alloc_new w _⟩)
  have HK := Lib.hid (fun W' => kind_ref x.op hx.op0 hx.op1 W')
  have HR := Lib.hid (fun W' => rright_any x hx W')
  have HW := Lib.hid (wpred_kind x)
  clear hm hx
  generalize kindZ x.op = k at *
  generalize rightB x = rb at *
  go_enter Tryd.func20, Tryd.ntmps20
  go_wp2_with (fail)
  refine (HK.out _ _ (Made.refl _)).mono ?_
  rintro e u1 ⟨rfl, h1⟩
  have K1 := Lib.hid (K0.out.next h1)
  clear h1
  obtain ⟨a0, a1, a2, a3, a4, a5, a6, a7, a8, a9, a10⟩ := in_cells K1.out.in_
  have hb := heap_lt K1.out.in_
  go_wp2_with (fail)
  refine (HR.out _ _ (Made.refl _)).mono ?_
  rintro e u2 ⟨rfl, h1⟩
  have K2 := Lib.hid (K1.out.next h1)
  clear h1 a0 a1 a2 a3 a4 a5 a6 a7 a8 a9 a10 hb
  obtain ⟨a0, a1, a2, a3, a4, a5, a6, a7, a8, a9, a10⟩ := in_cells K2.out.in_
  have hb := heap_lt K2.out.in_
  cases rb with
  | false =>
    go_wp2
    go_ret2
    exact ⟨by rw [HW.out]; rfl, K2.out.made⟩
  | true =>
    have hc : k = 5 ∨ k = 6 ∨ (k ≠ 5 ∧ k ≠ 6) := by omega
    rcases hc with rfl | rfl | ⟨h0, h1⟩
    · go_wp2
      go_ret2
      exact ⟨by rw [HW.out]; rfl, K2.out.made⟩
    · go_wp2
      go_ret2
      exact ⟨by rw [HW.out]; rfl, K2.out.made⟩
    · have e := Lib.hid (show wpredP x = (0, false) by rw [HW.out, if_neg (by omega)])
      have z5 : (k != 5) = true := bne_iff_ne.2 h0
      have z6 : (k != 6) = true := bne_iff_ne.2 h1
      clear h0 h1
      go_wp2
      go_ret2
      exact ⟨by rw [e.out]; rfl, K2.out.made⟩
theorem rtarget_any (x : In) (hx : x.small) (W : World) : Makes Tryd.prog W 22 #[x.val] (.tuple #[.int .u32 (targetP x).1, .bool (targetP x).2]) := by
  intro w hm
  have hz := hm.size
  have HX := Lib.hid hx
  have K0 := Lib.hid (show Own W w.heap.size x (w.alloc (.cells x.cells.toArray 24)) from ⟨hm.alloc hz _, heap_alloc_new w _⟩)
  have HK := Lib.hid (fun W' => kind_ref x.op hx.op0 hx.op1 W')
  have HR := Lib.hid (fun W' => rright_any x hx W')
  have hi0 := hx.imm0
  have hi1 := hx.imm1
  have HW := Lib.hid (target_kind x)
  clear hm hx
  generalize kindZ x.op = k at *
  generalize rightB x = rb at *
  go_enter Tryd.func22, Tryd.ntmps22
  go_wp2_with (fail)
  refine (HK.out _ _ (Made.refl _)).mono ?_
  rintro e u1 ⟨rfl, h1⟩
  have K1 := Lib.hid (K0.out.next h1)
  clear h1
  obtain ⟨a0, a1, a2, a3, a4, a5, a6, a7, a8, a9, a10⟩ := in_cells K1.out.in_
  have hb := heap_lt K1.out.in_
  go_wp2_with (fail)
  refine (HR.out _ _ (Made.refl _)).mono ?_
  rintro e u2 ⟨rfl, h1⟩
  have K2 := Lib.hid (K1.out.next h1)
  clear h1 a0 a1 a2 a3 a4 a5 a6 a7 a8 a9 a10 hb
  obtain ⟨a0, a1, a2, a3, a4, a5, a6, a7, a8, a9, a10⟩ := in_cells K2.out.in_
  have hb := heap_lt K2.out.in_
  cases rb with
  | false =>
    go_wp2
    go_ret2
    exact ⟨by rw [HW.out]; rfl, K2.out.made⟩
  | true =>
    have hc : k = 12 ∨ k = 14 ∨ k = 15 ∨ k = 16 ∨ (k ≠ 12 ∧ k ≠ 14 ∧ k ≠ 15 ∧ k ≠ 16) := by omega
    rcases hc with rfl | rfl | rfl | rfl | ⟨h0, h1, h2, h3⟩
    case inr.inr.inr.inr =>
      have e := Lib.hid (show targetP x = (0, false) by rw [HW.out, if_neg (by omega)])
      have z0 : (k != 12) = true := bne_iff_ne.2 h0
      have z1 : (k != 14) = true := bne_iff_ne.2 h1
      have z2 : (k != 15) = true := bne_iff_ne.2 h2
      have z3 : (k != 16) = true := bne_iff_ne.2 h3
      clear h0 h1 h2 h3
      go_wp2
      go_ret2
      exact ⟨by rw [e.out]; rfl, K2.out.made⟩
    all_goals
      go_wp2
      go_ret2
      exact ⟨by rw [HW.out]; rfl, K2.out.made⟩
set_option maxHeartbeats 1000000 in
theorem rreadsPred_any (x : In) (hx : x.small) (W : World) : Makes Tryd.prog W 21 #[x.val] (.tuple #[.int .u8 (rpredP x).1, .bool (rpredP x).2.1, .bool (rpredP x).2.2]) := by
  intro w hm
  have hz := hm.size
  have HX := Lib.hid hx
  have K0 := Lib.hid (show Own W w.heap.size x (w.alloc (.cells x.cells.toArray 24)) from ⟨hm.alloc hz _, heap_alloc_new w _⟩)
  have HK := Lib.hid (fun W' => kind_ref x.op hx.op0 hx.op1 W')
  have HR := Lib.hid (fun W' => rright_any x hx W')
  have hm0 := hx.mode0
  have HW := Lib.hid (rpred_kind x hx)
  clear hm hx
  generalize kindZ x.op = k at *
  generalize rightB x = rb at *
  go_enter Tryd.func21, Tryd.ntmps21
  go_wp2_with (fail)
  refine (HR.out _ _ (Made.refl _)).mono ?_
  rintro e u1 ⟨rfl, h1⟩
  have K1 := Lib.hid (K0.out.next h1)
  clear h1
  obtain ⟨a0, a1, a2, a3, a4, a5, a6, a7, a8, a9, a10⟩ := in_cells K1.out.in_
  have hb := heap_lt K1.out.in_
  cases rb with
  | false =>
    go_wp2
    refine bodyPost_ret (v := .tuple #[.int .u8 0, .bool false, .bool false]) (by simp [results, Tryd.results21, go_sem]) rfl ?_
    exact ⟨by rw [HW.out]; rfl, K1.out.made⟩
  | true =>
    go_wp2_with (fail)
    refine (HK.out _ _ (Made.refl _)).mono ?_
    rintro e u2 ⟨rfl, h1⟩
    have K2 := Lib.hid (K1.out.next h1)
    clear h1 a0 a1 a2 a3 a4 a5 a6 a7 a8 a9 a10 hb
    obtain ⟨a0, a1, a2, a3, a4, a5, a6, a7, a8, a9, a10⟩ := in_cells K2.out.in_
    have hb := heap_lt K2.out.in_
    have hc : k = 7 ∨ (k ≠ 7 ∧ x.mode = 0) ∨ (k ≠ 7 ∧ x.mode ≠ 0) := by omega
    rcases hc with rfl | ⟨h0, h1⟩ | ⟨h0, h1⟩
    · have e := Lib.hid (show rpredP x = (x.pred, decide (2 < x.mode), true) by rw [HW.out, if_pos (by simp)])
      go_wp2_with (fail)
      go_quiet (fail)
      go_wp2
      refine bodyPost_ret (v := .tuple #[.int .u8 x.pred, .bool (decide (2 < x.mode)), .bool true]) (by simp [results, Tryd.results21, go_sem]) rfl ?_
      exact ⟨by rw [e.out], below_drewN K2.out.made _⟩
    · have e := Lib.hid (show rpredP x = (0, false, false) by rw [HW.out, if_neg (by omega)])
      have z7 : (k != 7) = true := bne_iff_ne.2 h0
      have zm : (x.mode == 0) = true := beq_iff_eq.2 h1
      clear h0 h1
      go_wp2
      refine bodyPost_ret (v := .tuple #[.int .u8 0, .bool false, .bool false]) (by simp [results, Tryd.results21, go_sem]) rfl ?_
      exact ⟨by rw [e.out], K2.out.made⟩
    · have e := Lib.hid (show rpredP x = (x.pred, decide (2 < x.mode), true) by rw [HW.out, if_pos (by simp [h1])])
      have z7 : (k != 7) = true := bne_iff_ne.2 h0
      have zm : (x.mode == 0) = false := beq_eq_false_iff_ne.2 h1
      clear h0 h1
      go_wp2_with (fail)
      go_quiet (fail)
      go_wp2
      refine bodyPost_ret (v := .tuple #[.int .u8 x.pred, .bool (decide (2 < x.mode)), .bool true]) (by simp [results, Tryd.results21, go_sem]) rfl ?_
      exact ⟨by rw [e.out], below_drewN K2.out.made _⟩
end
end Go.Proofs.YtkmnndiciihefaaDoor
