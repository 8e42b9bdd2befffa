/- What Writes, WritesPred, ReadsPred and Target of the document's answer for inst return, for every instruction: what the program's own return; no condition but that each part lies in its Go type. -/
import Derived.Test.YtdaildmoodfocaaDoorInstRefF
import Derived.Test.YtdaildmoodfocaaDoorInstLit
namespace Go.Proofs.YtdaildmoodfocaaDoor
open Go.ChangeShapes Go.WideShapes Go.ChangeAt Go.RowKit Go.Sort BigFrame

section
attribute [local irreducible] World.cell?
theorem rwrites_any (x : In) (hx : x.small) (W : World) : Makes Tryd.prog W 32 #[x.val] (.tuple #[.int .u8 (writesP x).1, .bool (writesP x).2]) := by
  intro w hm
  have hz := hm.size
  have HX := Lib.hid hx
  have K0 := Lib.hid (show Own W w.heap.size x (w.alloc (.cells x.cells.toArray 24)) from ⟨hm.alloc hz _, heap_alloc_new w _⟩)
  have HK := Lib.hid (fun W' => kind_ref x.op hx.op0 hx.op1 W')
  have HR := Lib.hid (fun W' => rright_any x hx W')
  have HW := Lib.hid (writes_kind x)
  clear hm hx
  generalize kindZ x.op = k at *
  generalize rightB x = rb at *
  go_enter Tryd.func32, Tryd.ntmps32
  go_wp2_with (fail)
  refine (HK.out _ _ (Made.refl _)).mono ?_
  rintro e u1 ⟨rfl, h1⟩
  have K1 := Lib.hid (K0.out.next h1)
  clear h1
  obtain ⟨a0, a1, a2, a3, a4, a5, a6, a7, a8, a9, a10⟩ := in_cells K1.out.in_
  have hb := heap_lt K1.out.in_
  go_wp2_with (fail)
  refine (HR.out _ _ (Made.refl _)).mono ?_
  rintro e u2 ⟨rfl, h1⟩
  have K2 := Lib.hid (K1.out.next h1)
  clear h1 a0 a1 a2 a3 a4 a5 a6 a7 a8 a9 a10 hb
  obtain ⟨a0, a1, a2, a3, a4, a5, a6, a7, a8, a9, a10⟩ := in_cells K2.out.in_
  have hb := heap_lt K2.out.in_
  cases rb with
  | false =>
    go_wp2
    go_ret2
    exact ⟨by rw [HW.out]; rfl, K2.out.made⟩
  | true =>
    have hc : k = 14 ∨ (1 ≤ k ∧ k ≤ 4) ∨ (7 ≤ k ∧ k ≤ 10) ∨ (k < 1) ∨ (4 < k ∧ k < 7) ∨ (10 < k ∧ k ≠ 14) := by omega
    rcases hc with rfl | ⟨h0, h1⟩ | ⟨h0, h1⟩ | h0 | ⟨h0, h1⟩ | ⟨h0, h1⟩
    · go_wp2
      go_ret2
      exact ⟨by rw [HW.out]; rfl, K2.out.made⟩
    · have e := Lib.hid (show writesP x = (x.d, true) by rw [HW.out, if_pos rfl, if_neg (by omega), if_pos (by omega)])
      have z : (k == 14) = false := beq_eq_false_iff_ne.2 (by omega)
      go_wp2
      go_ret2
      exact ⟨by rw [e.out]; rfl, K2.out.made⟩
    · have e := Lib.hid (show writesP x = (x.d, true) by rw [HW.out, if_pos rfl, if_neg (by omega), if_pos (by omega)])
      have z : (k == 14) = false := beq_eq_false_iff_ne.2 (by omega)
      have z2 : ¬ k ≤ 4 := by omega
      go_wp2
      go_ret2
      exact ⟨by rw [e.out]; rfl, K2.out.made⟩
    · have e := Lib.hid (show writesP x = (0, false) by rw [HW.out, if_pos rfl, if_neg (by omega), if_neg (by omega)])
      have z : (k == 14) = false := beq_eq_false_iff_ne.2 (by omega)
      have z2 : ¬ 7 ≤ k := by omega
      go_wp2
      go_ret2
      exact ⟨by rw [e.out]; rfl, K2.out.made⟩
    · have e := Lib.hid (show writesP x = (0, false) by rw [HW.out, if_pos rfl, if_neg (by omega), if_neg (by omega)])
      have z : (k == 14) = false := beq_eq_false_iff_ne.2 (by omega)
      go_wp2
      go_ret2
      exact ⟨by rw [e.out]; rfl, K2.out.made⟩
    · have e := Lib.hid (show writesP x = (0, false) by rw [HW.out, if_pos rfl, if_neg h1, if_neg (by omega)])
      have z : (k == 14) = false := beq_eq_false_iff_ne.2 h1
      clear h1
      go_wp2
      go_ret2
      exact ⟨by rw [e.out]; rfl, K2.out.made⟩
theorem rwritesPred_any (x : In) (hx : x.small) (W : World) : Makes Tryd.prog W 34 #[x.val] (.tuple #[.int .u8 (wpredP x).1, .bool (wpredP x).2]) := by
  intro w hm
  have hz := hm.size
  have HX := Lib.hid hx
  have K0 := Lib.hid (show Own W w.heap.size x (w.alloc (.cells x.cells.toArray 24)) from ⟨hm.alloc hz _, heap_alloc_new w _⟩)
  have HK := Lib.hid (fun W' => kind_ref x.op hx.op0 hx.op1 W')
  have HR := Lib.hid (fun W' => rright_any x hx W')
  have HW := Lib.hid (wpred_kind x)
  clear hm hx
  generalize kindZ x.op = k at *
  generalize rightB x = rb at *
  go_enter Tryd.func34, Tryd.ntmps34
  go_wp2_with (fail)
  refine (HK.out _ _ (Made.refl _)).mono ?_
  rintro e u1 ⟨rfl, h1⟩
  have K1 := Lib.hid (K0.out.next h1)
  clear h1
  obtain ⟨a0, a1, a2, a3, a4, a5, a6, a7, a8, a9, a10⟩ := in_cells K1.out.in_
  have hb := heap_lt K1.out.in_
  go_wp2_with (fail)
  refine (HR.out _ _ (Made.refl _)).mono ?_
  rintro e u2 ⟨rfl, h1⟩
  have K2 := Lib.hid (K1.out.next h1)
  clear h1 a0 a1 a2 a3 a4 a5 a6 a7 a8 a9 a10 hb
  obtain ⟨a0, a1, a2, a3, a4, a5, a6, a7, a8, a9, a10⟩ := in_cells K2.out.in_
  have hb := heap_lt K2.out.in_
  cases rb with
  | false =>
    go_wp2
    go_ret2
    exact ⟨by rw [HW.out]; rfl, K2.out.made⟩
  | true =>
    have hc : k = 5 ∨ k = 6 ∨ (k ≠ 5 ∧ k ≠ 6) := by omega
    rcases hc with rfl | rfl | ⟨h0, h1⟩
    · go_wp2
      go_ret2
      exact ⟨by rw [HW.out]; rfl, K2.out.made⟩
    · go_wp2
      go_ret2
      exact ⟨by rw [HW.out]; rfl, K2.out.made⟩
    · have e := Lib.hid (show wpredP x = (0, false) by rw [HW.out, if_neg (by omega)])
      have z5 : (k != 5) = true := bne_iff_ne.2 h0
      have z6 : (k != 6) = true := bne_iff_ne.2 h1
      clear h0 h1
      go_wp2
      go_ret2
      exact ⟨by rw [e.out]; rfl, K2.out.made⟩
end
end Go.Proofs.YtdaildmoodfocaaDoor
