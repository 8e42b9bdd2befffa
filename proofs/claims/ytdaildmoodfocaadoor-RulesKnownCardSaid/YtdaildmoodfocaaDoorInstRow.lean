/- What validRow of package inst returns, for every instruction, in every world that has grown out of one that holds the table of names. -/
import Derived.Test.YtdaildmoodfocaaDoorInstValid
namespace Go.Proofs.YtdaildmoodfocaaDoor
open Go.ChangeShapes Go.WideShapes Go.ChangeAt Go.RowKit Go.Sort BigFrame

theorem holds_of {W : World} {op : Int} {e : Ending} {w' : World} (h : IsOf W op e w') : ∃ (p : Option Addr) (cap : Nat) (fs : List Fd) (o : Int) (nm : ByteArray) (c s : Int), fs = fieldsZ (opN op) ∧ c = classZ (opN op) ∧
    e = .returned (.tuple #[.agg #[.int .u8 o, .string nm, .int .u8 c, .int .u8 s, .slice p fs.length cap], .bool (isOp op)]) ∧ Made W w' ∧ Holds w' p fs.length cap fs ∧ (fs = [] ∨ ∃ b, p = some ⟨b, 0, none⟩ ∧ W.heap.size ≤ b) := by
  obtain ⟨p, cap, fs, o, nm, c, s, hfs, _, _, hc, _, he, hm, hr⟩ := isOf_any h
  refine ⟨p, cap, fs, o, nm, c, s, hfs, hc, he, hm, ?_⟩
  rcases hr with h | ⟨b, cur, hp, hlo, hb, _, h1, h2, hcell⟩
  · exact ⟨⟨rfl, .inl h⟩, .inl h⟩
  · exact ⟨⟨rfl, .inr ⟨b, hp, heap_lt hb, h1, h2, hcell⟩⟩, .inr ⟨b, hp, hlo⟩⟩
theorem Holds.set {w : World} {p : Option Addr} {n cap a j : Nat} {fs : List Fd} {v : Value} (h : Holds w p n cap fs) (hs : fs = [] ∨ ∃ b, p = some ⟨b, 0, none⟩ ∧ a < b) : Holds (w.setCell ⟨a, j, none⟩ v) p n cap fs := by
  obtain ⟨hn, h⟩ := h
  refine ⟨hn, ?_⟩
  rcases h with h | ⟨b, hp, hb, h1, h2, hc⟩
  · exact .inl h
  · rcases hs with h | ⟨b', hp', hlt⟩
    · exact .inl h
    · obtain rfl : b = b' := by rw [hp] at hp'; injection hp' with e; injection e
      exact .inr ⟨b, hp, by simpa using hb, h1, h2, fun j' hj' => by
        rw [← hc j' hj']
        have := Below.heap_setCell w ⟨a, j, none⟩ v b (show b ≠ a by omega)
        simp [World.cell?, this]⟩
def IsVRow (W : World) (x : In) (e : Ending) (w' : World) : Prop := ∃ (o : Int) (nm : ByteArray) (c s : Int) (p : Option Addr) (n cap : Nat) (fs : List Fd), e = .returned (.tuple #[rowV o nm c s p n cap, .bool (rightB x)]) ∧ Made W w' ∧ Holds w' p n cap fs ∧ (rightB x = true → fs = fieldsZ x.op)
theorem vrow_close {W w : World} {n0 : Nat} (hM : Made W w) (hz : W.heap.size ≤ n0) (v0 v1 v2 v3 v4 : Value) : Made W (((((w.setCell ⟨n0, 0, none⟩ v0).setCell ⟨n0, 1, none⟩ v1).setCell ⟨n0, 2, none⟩ v2).setCell ⟨n0, 3, none⟩ v3).setCell ⟨n0, 4, none⟩ v4) :=
  ((((Below.setCell hM hz v0).setCell hz v1).setCell hz v2).setCell hz v3).setCell hz v4
section
attribute [local irreducible] World.cell?
set_option maxHeartbeats 2000000 in
theorem validRow_any (W : World) (hN : Names W) (x : In) (hx : x.small) (w : World) (hm : Made W w) : Calls Tryd.prog 35 #[x.val] w (IsVRow W x) := by
  have hz := hm.size
  have hop0 := hx.op0
  have HX := Lib.hid hx
  clear hx
  have HM2 := Lib.hid ((hm.alloc hz (.cells x.cells.toArray 24)).alloc (by simp; omega) (.cells rowLit 56))
  go_enter Tryd.func35, Tryd.ntmps35
  go_wp2_with (fail)
  refine (of_any _ (hN.made HM2.out) x.op hop0 _ (Made.refl _)).mono ?_
  intro e w1 h
  obtain ⟨p, cap, fs, o, nm, c, s, hfs, -, rfl, h1, hh, hapart⟩ := holds_of h
  have HAP := Lib.hid hapart
  clear h
  have hin : InAt w1 w.heap.size x := h1.heap (keep (o := .cells x.cells.toArray 24) (o' := .cells rowLit 56) (heap_alloc_new w _) (Made.refl _))
  have hrow : w1.heap[w.heap.size + 1]? = some (.cells rowLit 56 (0, 0)) := by
    have := h1.heap (heap_alloc_new (w.alloc (.cells x.cells.toArray 24)) (.cells rowLit 56))
    rwa [World.size_alloc] at this
  obtain ⟨a0, a1, a2, a3, a4, a5, a6, a7, a8, a9, a10⟩ := in_cells hin
  obtain ⟨r0, r1, r2, r3, r4⟩ := row_cells hrow
  have fz := free_of_lit hrow
  have hl0 := heap_lt hin
  have hl1 := heap_lt hrow
  have HIN := Lib.hid hin
  have HROW := Lib.hid hrow
  have HH := Lib.hid hh
  have M1 := Lib.hid (Made.trans HM2.out h1)
  have HFS := Lib.hid hfs
  clear hin hrow hh h1 hfs hapart
  have hz1 : W.heap.size ≤ w1.heap.size := by omega
  generalize hok : isOp x.op = ok at *
  have HOK := Lib.hid hok
  clear hok
  cases ok with
  | false =>
    have HR := Lib.hid (show rightB x = false by unfold rightB; rw [HOK.out]; rfl)
    go_wp2
    refine bodyPost_ret (v := .tuple #[.agg rowLit, .bool false]) (by simp [results, Tryd.results35, go_sem, r0, r1, r2, r3, r4, hl1, rowLit]) rfl ?_
    exact ⟨0, ⟨#[]⟩, 0, 0, none, 0, 0, [], by rw [HR.out]; rfl, (fun K => K.alloc K.size _) (vrow_close M1.out (show W.heap.size ≤ w.heap.size + 1 by omega) _ _ _ _ _), ⟨rfl, .inl rfl⟩, fun h => absurd (HR.out.symm.trans h) (by decide)⟩
  | true =>
    go_wp2_with (fail)
    refine (isValid_any x o c s nm p fs.length cap fs HX.out _ (HH.out.made ((Made.refl w1).alloc (Nat.le_refl _) _))).mono ?_
    rintro e w2 ⟨rfl, h2⟩
    generalize hvb : validB x fs = vb
    have HVB := Lib.hid hvb
    clear hvb
    have hopn : opN x.op = x.op := by unfold opN; rw [HOK.out]; rfl
    have he1 : fs = fieldsZ x.op := by rw [HFS.out, hopn]
    have hr : rightB x = vb := by unfold rightB; rw [HOK.out, ← he1, HVB.out]; rfl
    have HR := Lib.hid hr
    have HE := Lib.hid he1
    clear hopn he1 hr
    have hrow2 := keep HROW.out h2
    have hcp := h2.heap (heap_alloc_new w1 _)
    obtain ⟨b0, b1, b2, b3, b4⟩ := row_cells hrow2
    obtain ⟨d0, d1, d2, d3, d4⟩ := row_cells hcp
    have fz2 := free_of_lit hrow2
    have hl2 := heap_lt hrow2
    have hl3 := heap_lt hcp
    have M2 := Lib.hid (Made.trans (M1.out.alloc hz1 _) h2)
    have H2 := Lib.hid (HH.out.made (Made.trans ((Made.refl w1).alloc (Nat.le_refl _) _) h2))
    clear hrow2 hcp h2
    cases vb with
    | false =>
      go_wp2
      refine bodyPost_ret (v := .tuple #[.agg rowLit, .bool false]) (by simp [results, Tryd.results35, go_sem, b0, b1, b2, b3, b4, rowLit]) rfl ?_
      exact ⟨0, ⟨#[]⟩, 0, 0, none, 0, 0, [], by rw [HR.out]; rfl, vrow_close M2.out (by omega) _ _ _ _ _, ⟨rfl, .inl rfl⟩, fun h => absurd (HR.out.symm.trans h) (by decide)⟩
    | true =>
      go_wp2
      refine bodyPost_ret (v := .tuple #[rowV o nm c s p fs.length cap, .bool true]) (by simp [results, Tryd.results35, go_sem, b0, b1, b2, b3, b4]) rfl ?_
      refine ⟨o, nm, c, s, p, fs.length, cap, fs, by rw [HR.out], vrow_close M2.out (by omega) _ _ _ _ _, ?_, fun _ => HE.out⟩
      have hs : fs = [] ∨ ∃ b, p = some ⟨b, 0, none⟩ ∧ w.heap.size + 1 < b := by
        rcases HAP.out with h | ⟨b, hp, hb⟩
        · exact .inl h
        · exact .inr ⟨b, hp, by simp only [World.size_alloc] at hb; omega⟩
      exact ((((H2.out.set hs).set hs).set hs).set hs).set hs
end
end Go.Proofs.YtdaildmoodfocaaDoor
