/- What Right, Class, Cond, Writes, WritesPred, ReadsPred and Target of package inst return, for every instruction, in every world that has grown out of one that holds the table of names. -/
import Derived.Test.YtdaildmoodfocaaDoorInstRow
import Derived.Test.YtdaildmoodfocaaDoorInstClass
namespace Go.Proofs.YtdaildmoodfocaaDoor
open Go.ChangeShapes Go.WideShapes Go.ChangeAt Go.RowKit Go.Sort BigFrame

theorem right_any (W : World) (hN : Names W) (x : In) (hx : x.small) : Makes Tryd.prog W 15 #[x.val] (.bool (rightB x)) := by
  intro w hm
  have hz := hm.size
  have HM := Lib.hid (hm.alloc hz (.cells x.cells.toArray 24))
  have HV := Lib.hid (validRow_any _ (hN.made HM.out) x hx _ (Made.refl _))
  clear hx hm
  go_enter Tryd.func15, Tryd.ntmps15
  go_wp2_with (fail)
  refine HV.out.mono ?_
  rintro e w1 ⟨o, nm, c, s, p, n, cap, fs, rfl, h1, -, -⟩
  have M1 := Lib.hid (Made.trans HM.out h1)
  clear h1
  go_wp2
  go_ret
  exact ⟨rfl, M1.out.alloc M1.out.size _⟩
theorem writes_any (W : World) (hN : Names W) (x : In) (hx : x.small) : Makes Tryd.prog W 18 #[x.val] (.tuple #[.int .u8 (writesP x).1, .bool (writesP x).2]) := by
  intro w hm
  have hz := hm.size
  have HM := Lib.hid (hm.alloc hz (.cells x.cells.toArray 24))
  have HV := Lib.hid (validRow_any _ (hN.made HM.out) x hx _ (Made.refl _))
  clear hx hm
  go_enter Tryd.func18, Tryd.ntmps18
  go_wp2_with (fail)
  refine HV.out.mono ?_
  rintro e w1 ⟨o, nm, c, s, p, n, cap, fs, rfl, h1, hh, hfs⟩
  have hin : InAt w1 w.heap.size x := h1.heap (heap_alloc_new w _)
  obtain ⟨a0, a1, a2, a3, a4, a5, a6, a7, a8, a9, a10⟩ := in_cells hin
  have hl0 := heap_lt hin
  have HIN := Lib.hid hin
  have M1 := Lib.hid (Made.trans HM.out h1)
  have hz1 := M1.out.size
  have HH := Lib.hid hh
  have HFS := Lib.hid hfs
  clear h1 hin hh hfs
  generalize hrb : rightB x = rb at *
  have HRB := Lib.hid hrb
  clear hrb
  cases rb with
  | false =>
    have hw : writesP x = (0, false) := by unfold writesP; rw [HRB.out]; rfl
    have HW := Lib.hid hw
    clear hw
    go_wp2
    go_ret2
    exact ⟨by rw [HW.out]; rfl, M1.out.alloc hz1 _⟩
  | true =>
    by_cases hop : x.op = 29
    · have hw : writesP x = (31, true) := by unfold writesP; rw [HRB.out, hop]; rfl
      have HW := Lib.hid hw
      clear hw
      have k : (x.op == 29) = true := beq_iff_eq.2 hop
      clear hop
      go_wp2
      go_ret2
      exact ⟨by rw [HW.out]; rfl, M1.out.alloc hz1 _⟩
    · have hw : writesP x = if hasB fs 3 then (x.d, true) else (0, false) := by unfold writesP; rw [HRB.out, if_pos rfl, if_neg hop, ← HFS.out rfl]
      have HW := Lib.hid hw
      have k : (x.op == 29) = false := beq_eq_false_iff_ne.2 hop
      clear hop hw
      go_wp2_with (fail)
      refine (has_any o c s 3 nm p n cap fs _ (HH.out.made ((Made.refl w1).alloc (Nat.le_refl _) _))).mono ?_
      rintro e w2 ⟨rfl, h2⟩
      obtain ⟨b0, b1, b2, b3, b4, b5, b6, b7, b8, b9, b10⟩ := in_cells (keep HIN.out h2)
      have hl2 := lt_next hl0 h2
      have M2 := Lib.hid (Made.trans (M1.out.alloc hz1 _) h2)
      generalize hhb : hasB fs 3 = hb at *
      have HB := Lib.hid hhb
      clear h2 hhb
      cases hb with
      | false =>
        go_wp2
        go_ret2
        exact ⟨by rw [HW.out]; rfl, M2.out⟩
      | true =>
        go_wp2
        go_ret2
        exact ⟨by rw [HW.out]; rfl, M2.out⟩
theorem writesPred_any (W : World) (hN : Names W) (x : In) (hx : x.small) : Makes Tryd.prog W 16 #[x.val] (.tuple #[.int .u8 (wpredP x).1, .bool (wpredP x).2]) := by
  intro w hm
  have hz := hm.size
  have HM := Lib.hid (hm.alloc hz (.cells x.cells.toArray 24))
  have HV := Lib.hid (validRow_any _ (hN.made HM.out) x hx _ (Made.refl _))
  clear hx hm
  go_enter Tryd.func16, Tryd.ntmps16
  go_wp2_with (fail)
  refine HV.out.mono ?_
  rintro e w1 ⟨o, nm, c, s, p, n, cap, fs, rfl, h1, hh, hfs⟩
  have hin : InAt w1 w.heap.size x := h1.heap (heap_alloc_new w _)
  obtain ⟨a0, a1, a2, a3, a4, a5, a6, a7, a8, a9, a10⟩ := in_cells hin
  have hl0 := heap_lt hin
  have HIN := Lib.hid hin
  have M1 := Lib.hid (Made.trans HM.out h1)
  have hz1 := M1.out.size
  have HH := Lib.hid hh
  have HFS := Lib.hid hfs
  clear h1 hin hh hfs
  generalize hrb : rightB x = rb at *
  have HRB := Lib.hid hrb
  clear hrb
  cases rb with
  | false =>
    have hw : wpredP x = (0, false) := by unfold wpredP; rw [HRB.out]; rfl
    have HW := Lib.hid hw
    clear hw
    go_wp2
    go_ret2
    exact ⟨by rw [HW.out]; rfl, M1.out.alloc hz1 _⟩
  | true =>
    have hw : wpredP x = if hasB fs 4 then (x.d, true) else (0, false) := by unfold wpredP; rw [HRB.out, ← HFS.out rfl]; rfl
    have HW := Lib.hid hw
    clear hw
    go_wp2_with (fail)
    refine (has_any o c s 4 nm p n cap fs _ (HH.out.made ((Made.refl w1).alloc (Nat.le_refl _) _))).mono ?_
    rintro e w2 ⟨rfl, h2⟩
    obtain ⟨b0, b1, b2, b3, b4, b5, b6, b7, b8, b9, b10⟩ := in_cells (keep HIN.out h2)
    have hl2 := lt_next hl0 h2
    have M2 := Lib.hid (Made.trans (M1.out.alloc hz1 _) h2)
    generalize hhb : hasB fs 4 = hb at *
    clear h2 hhb
    cases hb with
    | false =>
      go_wp2
      go_ret2
      exact ⟨by rw [HW.out]; rfl, M2.out⟩
    | true =>
      go_wp2
      go_ret2
      exact ⟨by rw [HW.out]; rfl, M2.out⟩
end Go.Proofs.YtdaildmoodfocaaDoor
