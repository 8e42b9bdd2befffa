/- awake of the laws of inst returns true, in every world that holds the table of names. -/
import Derived.Test.YtkmnndiciihefaaDoorInstAsks
import Derived.Test.YtkmnndiciihefaaDoorInstReads
import Derived.Test.YtkmnndiciihefaaDoorLaid
namespace Go.Proofs.YtkmnndiciihefaaDoor
open Go.ChangeShapes Go.WideShapes Go.ChangeAt Go.RowKit Go.Sort BigFrame

def smallB (x : In) : Bool :=
  decide (0 ≤ x.op) && decide (x.op ≤ 255) && decide (0 ≤ x.d) && decide (x.d ≤ 255) && decide (0 ≤ x.s) && decide (x.s ≤ 255) && decide (0 ≤ x.t) && decide (x.t ≤ 255) && decide (0 ≤ x.n) && decide (x.n ≤ 255) &&
    decide (0 ≤ x.pred) && decide (x.pred ≤ 255) && decide (0 ≤ x.mode) && decide (x.mode ≤ 255) && decide (0 ≤ x.count) && decide (x.count ≤ 65535) && decide (-9223372036854775808 ≤ x.imm) && decide (x.imm ≤ 9223372036854775807)
theorem small_of {x : In} (h : smallB x = true) : x.small := by
  unfold smallB at h
  simp only [Bool.and_eq_true, decide_eq_true_eq] at h
  obtain ⟨⟨⟨⟨⟨⟨⟨⟨⟨⟨⟨⟨⟨⟨⟨⟨⟨h0, h1⟩, h2⟩, h3⟩, h4⟩, h5⟩, h6⟩, h7⟩, h8⟩, h9⟩, h10⟩, h11⟩, h12⟩, h13⟩, h14⟩, h15⟩, h16⟩, h17⟩ := h
  exact ⟨h0, h1, h2, h3, h4, h5, h6, h7, h8, h9, h10, h11, h12, h13, h14, h15, h16, h17⟩
/-- What each function returns of an instruction at hand, its answer written out. -/
theorem right_lit {W : World} (hN : Names W) (x : In) (hx : smallB x = true) (b : Bool) (h : rightB x = b) : Makes Tryd.prog W 11 #[x.val] (.bool b) := h ▸ right_any W hN x (small_of hx)
theorem class_lit {W : World} (hN : Names W) (x : In) (hx : smallB x = true) (c : Int) (h : classZ (opN x.op) = c) : Makes Tryd.prog W 13 #[x.val] (.int .u8 c) := h ▸ class_any W hN x (small_of hx)
theorem cond_lit {W : World} (hN : Names W) (x : In) (hx : smallB x = true) (b : Bool) (h : atB (opN x.op) 1 = b) : Makes Tryd.prog W 14 #[x.val] (.bool b) := h ▸ cond_in_any W hN x (small_of hx)
theorem writes_lit {W : World} (hN : Names W) (x : In) (hx : smallB x = true) (r : Int) (b : Bool) (h : writesP x = (r, b)) : Makes Tryd.prog W 9 #[x.val] (.tuple #[.int .u8 r, .bool b]) := by
  have := writes_any W hN x (small_of hx)
  rwa [h] at this
theorem writesPred_lit {W : World} (hN : Names W) (x : In) (hx : smallB x = true) (r : Int) (b : Bool) (h : wpredP x = (r, b)) : Makes Tryd.prog W 7 #[x.val] (.tuple #[.int .u8 r, .bool b]) := by
  have := writesPred_any W hN x (small_of hx)
  rwa [h] at this
theorem readsPred_lit {W : World} (hN : Names W) (x : In) (hx : smallB x = true) (r : Int) (a b : Bool) (h : rpredP x = (r, a, b)) : Makes Tryd.prog W 12 #[x.val] (.tuple #[.int .u8 r, .bool a, .bool b]) := by
  have := readsPred_any W hN x (small_of hx)
  rwa [h] at this
theorem target_lit {W : World} (hN : Names W) (x : In) (hx : smallB x = true) (r : Int) (b : Bool) (h : targetP x = (r, b)) : Makes Tryd.prog W 10 #[x.val] (.tuple #[.int .u32 r, .bool b]) := by
  have := target_any W hN x (small_of hx)
  rwa [h] at this
theorem reads_lit {W : World} (hN : Names W) (x : In) (hx : smallB x = true) (l : List Int) (h : readsL x = l) (w : World) (hm : Made W w) : Calls Tryd.prog 8 #[x.val] w (IsRegs W l) := h ▸ reads_any W hN x (small_of hx) w hm
/-- The cells of a list that a call has made. -/
theorem regs_some {W : World} {l : List Int} {e : Ending} {w' : World} (h : IsRegs W l e w') (hl : l ≠ []) :
    ∃ b cap, e = .returned (.slice (some ⟨b, 0, none⟩) l.length cap) ∧ Made W w' ∧ b < w'.heap.size ∧ ∀ j (h : j < l.length), w'.cell? ⟨b, j, none⟩ = some (.int .u8 l[j]) := by
  obtain ⟨p, cap, rfl, hm, h | ⟨b, rfl, hb, _, _, hc⟩⟩ := h
  · exact absurd h hl
  · exact ⟨b, cap, rfl, hm, hb, hc⟩
abbrev litIn (op d s t n pred mode : Int) (new ext : Bool) (count imm : Int) : In := ⟨op, d, s, t, n, pred, mode, new, ext, count, imm⟩
set_option maxHeartbeats 1000000 in
theorem awake_any (W : World) (hN : Names W) : Makes Tryd.prog W 15 #[] (.bool true) := by
  intro w hm
  have hz := hm.size
  have hN0 := hN.made (hm.alloc hz (.cells (litIn 2 1 3 2 0 1 3 false false 0 0).cells.toArray 24))
  have HM := Lib.hid (hm.alloc hz (.cells (litIn 2 1 3 2 0 1 3 false false 0 0).cells.toArray 24))
  clear hm
  go_enter Tryd.func15, Tryd.ntmps15
  go_wp2_with (fail)
  refine (writes_lit hN0 (litIn 2 1 3 2 0 1 3 false false 0 0) (by decide +kernel) 1 true (by decide +kernel) _ (Made.refl _)).mono ?_
  rintro e w1 ⟨rfl, h1⟩
  have i1 : InAt w1 w.heap.size (litIn 2 1 3 2 0 1 3 false false 0 0) := h1.heap (heap_alloc_new w _)
  obtain ⟨a0, a1, a2, a3, a4, a5, a6, a7, a8, a9, a10⟩ := in_cells i1
  have hl1 := heap_lt i1
  have I1 := Lib.hid i1
  have H1 := Lib.hid h1
  clear h1 i1
  go_wp2_with (fail)
  refine (readsPred_lit (hN0.made H1.out) (litIn 2 1 3 2 0 1 3 false false 0 0) (by decide +kernel) 1 true true (by decide +kernel) _ (Made.refl _)).mono ?_
  rintro e w2 ⟨rfl, h2⟩
  have i2 := h2.heap I1.out
  obtain ⟨b0, b1, b2, b3, b4, b5, b6, b7, b8, b9, b10⟩ := in_cells i2
  have hl2 := heap_lt i2
  have I2 := Lib.hid i2
  have H2 := Lib.hid (Made.trans H1.out h2)
  clear h2 i2
  go_wp2_with (fail)
  refine (reads_lit (hN0.made H2.out) (litIn 2 1 3 2 0 1 3 false false 0 0) (by decide +kernel) [2, 3] (by decide +kernel) _ (Made.refl _)).mono ?_
  intro e w3 h
  obtain ⟨g, cap, rfl, h3, hg, hcell⟩ := regs_some h (by decide)
  have i3 := h3.heap I2.out
  obtain ⟨c0, c1, c2, c3, c4, c5, c6, c7, c8, c9, c10⟩ := in_cells i3
  have hl3 := heap_lt i3
  have I3 := Lib.hid i3
  have H3 := Lib.hid (Made.trans H2.out h3)
  have C0 := Lib.hid (hcell 0 (by decide))
  have C1 := Lib.hid (hcell 1 (by decide))
  clear h h3 i3 hcell
  go_wp2_with (fail)
  refine (right_lit (hN0.made H3.out) (litIn 2 1 3 2 0 1 3 false false 0 0) (by decide +kernel) true (by decide +kernel) _ (Made.refl _)).mono ?_
  rintro e w4 ⟨rfl, h4⟩
  have i4 := h4.heap I3.out
  obtain ⟨d0, d1, d2, d3, d4, d5, d6, d7, d8, d9, d10⟩ := in_cells i4
  have hl4 := heap_lt i4
  have I4 := Lib.hid i4
  have H4 := Lib.hid (Made.trans H3.out h4)
  have k0 : w4.cell? ⟨g, 0, none⟩ = some (.int .u8 2) := ((bcell h4).1 g 0 hg).trans C0.out
  have k1 : w4.cell? ⟨g, 1, none⟩ = some (.int .u8 3) := ((bcell h4).1 g 1 hg).trans C1.out
  have hg4 : g < w4.heap.size := Nat.lt_of_lt_of_le hg h4.size
  clear h4 i4
  go_wp2_with (fail)
  refine (class_lit (hN0.made H4.out) (litIn 2 1 3 2 0 1 3 false false 0 0) (by decide +kernel) 1 (by decide +kernel) _ (Made.refl _)).mono ?_
  rintro e w5 ⟨rfl, h5⟩
  have i5 := h5.heap I4.out
  obtain ⟨e0, e1, e2, e3, e4, e5, e6, e7, e8, e9, e10⟩ := in_cells i5
  have hl5 := heap_lt i5
  have H5 := Lib.hid (Made.trans H4.out h5)
  clear h5 i5
  go_wp2_with (fail)
  refine (cond_lit (hN0.made H5.out) (litIn 2 1 3 2 0 1 3 false false 0 0) (by decide +kernel) true (by decide +kernel) _ (Made.refl _)).mono ?_
  rintro e w6 ⟨rfl, h6⟩
  have H6 := Lib.hid (Made.trans HM.out (Made.trans H5.out h6))
  clear h6
  go_wp2
  go_ret
  exact ⟨rfl, H6.out⟩
end Go.Proofs.YtkmnndiciihefaaDoor
