/- What ReadsPred of package inst returns, for every instruction, in every world that has grown out of one that holds the table of names. -/
import Derived.Test.YtdaildmoodfocaaDoorInstFns
namespace Go.Proofs.YtdaildmoodfocaaDoor
open Go.ChangeShapes Go.WideShapes Go.ChangeAt Go.RowKit Go.Sort BigFrame

set_option maxHeartbeats 1000000 in
theorem readsPred_any (W : World) (hN : Names W) (x : In) (hx : x.small) : Makes Tryd.prog W 53 #[x.val] (.tuple #[.int .u8 (rpredP x).1, .bool (rpredP x).2.1, .bool (rpredP x).2.2]) := by
  intro w hm
  have hz := hm.size
  have HM := Lib.hid (hm.alloc hz (.cells x.cells.toArray 24))
  have HV := Lib.hid (validRow_any _ (hN.made HM.out) x hx _ (Made.refl _))
  clear hx hm
  go_enter Tryd.func53, Tryd.ntmps53
  go_wp2_with (fail)
  refine HV.out.mono ?_
  rintro e w1 ⟨o, nm, c, s, p, n, cap, fs, rfl, h1, hh, hfs⟩
  have hin : InAt w1 w.heap.size x := h1.heap (heap_alloc_new w _)
  obtain ⟨a0, a1, a2, a3, a4, a5, a6, a7, a8, a9, a10⟩ := in_cells hin
  have hl0 := heap_lt hin
  have HIN := Lib.hid hin
  have M1 := Lib.hid (Made.trans HM.out h1)
  have hz1 := M1.out.size
  have HH := Lib.hid hh
  have HFS := Lib.hid hfs
  clear h1 hin hh hfs
  generalize hrb : rightB x = rb at *
  have HRB := Lib.hid hrb
  clear hrb
  cases rb with
  | false =>
    have hw : rpredP x = (0, false, false) := by unfold rpredP; rw [HRB.out]; rfl
    have HW := Lib.hid hw
    clear hw
    go_wp2
    refine bodyPost_ret (v := .tuple #[.int .u8 0, .bool false, .bool false]) (by simp [results, Tryd.results53, go_sem]) rfl ?_
    exact ⟨by rw [HW.out], M1.out.alloc hz1 _⟩
  | true =>
    have hw : rpredP x = if hasB fs 2 && !(hasB fs 1 && x.mode == 0) then (x.pred, x.mode == 3 || x.mode == 4, true) else (0, false, false) := by unfold rpredP; rw [HRB.out, ← HFS.out rfl]; rfl
    have HW := Lib.hid hw
    clear hw
    go_wp2_with (fail)
    refine (has_any o c s 2 nm p n cap fs _ (HH.out.made ((Made.refl w1).alloc (Nat.le_refl _) _))).mono ?_
    rintro e w2 ⟨rfl, h2⟩
    have hin2 := keep HIN.out h2
    have hrow2 := h2.heap (heap_alloc_new w1 _)
    have HIN2 := Lib.hid hin2
    have HROW2 := Lib.hid hrow2
    obtain ⟨b0, b1, b2, b3, b4, b5, b6, b7, b8, b9, b10⟩ := in_cells hin2
    obtain ⟨r0, r1, r2, r3, r4⟩ := row_cells hrow2
    have hl2 := lt_next hl0 h2
    have hlr := heap_lt hrow2
    have M12 := Lib.hid (Made.trans ((Made.refl w1).alloc (Nat.le_refl _) _) h2)
    have M2 := Lib.hid (Made.trans (M1.out.alloc hz1 _) h2)
    generalize hhb : hasB fs 2 = hb at *
    clear h2 hhb hin2 hrow2
    cases hb with
    | false =>
      go_wp2
      refine bodyPost_ret (v := .tuple #[.int .u8 0, .bool false, .bool false]) (by simp [results, Tryd.results53, go_sem]) rfl ?_
      exact ⟨by rw [HW.out]; rfl, M2.out⟩
    | true =>
      go_wp2_with (fail)
      refine (has_any o c s 1 nm p n cap fs _ (HH.out.made M12.out)).mono ?_
      rintro e w3 ⟨rfl, h3⟩
      have hin3 := h3.heap HIN2.out
      obtain ⟨c0, c1, c2, c3, c4, c5, c6, c7, c8, c9, c10⟩ := in_cells hin3
      have hl3 := heap_lt hin3
      have M3 := Lib.hid (Made.trans M2.out h3)
      generalize hhb : hasB fs 1 = hb at *
      clear h3 hhb hin3
      have hmode : ((x.mode == 0) = true ∧ (x.mode == 3) = false ∧ (x.mode == 4) = false) ∨ ((x.mode == 0) = false ∧ (x.mode == 3) = true ∧ (x.mode == 4) = false) ∨ ((x.mode == 0) = false ∧ (x.mode == 3) = false ∧ (x.mode == 4) = true) ∨
          ((x.mode == 0) = false ∧ (x.mode == 3) = false ∧ (x.mode == 4) = false) := by
        simp only [beq_iff_eq, beq_eq_false_iff_ne]
        omega
      cases hb with
      | false =>
        rcases hmode with ⟨g1, g2, g3⟩ | ⟨g1, g2, g3⟩ | ⟨g1, g2, g3⟩ | ⟨g1, g2, g3⟩
        all_goals
          go_wp2_with (fail)
          go_quiet (fail)
          go_wp2
          refine bodyPost_ret (v := .tuple #[.int .u8 x.pred, .bool (x.mode == 3 || x.mode == 4), .bool true]) (by simp [results, Tryd.results53, go_sem, g2, g3]) rfl ?_
          exact ⟨by rw [HW.out]; rfl, below_drewN M3.out _⟩
      | true =>
        rcases hmode with ⟨g1, g2, g3⟩ | ⟨g1, g2, g3⟩ | ⟨g1, g2, g3⟩ | ⟨g1, g2, g3⟩
        · go_wp2
          refine bodyPost_ret (v := .tuple #[.int .u8 0, .bool false, .bool false]) (by simp [results, Tryd.results53, go_sem]) rfl ?_
          exact ⟨by rw [HW.out, g1]; rfl, M3.out⟩
        all_goals
          go_wp2_with (fail)
          go_quiet (fail)
          go_wp2
          refine bodyPost_ret (v := .tuple #[.int .u8 x.pred, .bool (x.mode == 3 || x.mode == 4), .bool true]) (by simp [results, Tryd.results53, go_sem, g2, g3]) rfl ?_
          exact ⟨by rw [HW.out, g1]; rfl, below_drewN M3.out _⟩
end Go.Proofs.YtdaildmoodfocaaDoor
