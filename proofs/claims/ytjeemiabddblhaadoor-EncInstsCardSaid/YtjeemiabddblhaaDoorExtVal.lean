/- What valueField, Extendable, Value, Fits, Needs of package ext return, for every op and instruction, in every world that has grown out of one that holds the table of names. -/
import Derived.Test.YtjeemiabddblhaaDoorExtFns
namespace Go.Proofs.YtjeemiabddblhaaDoor
open Go.ChangeShapes Go.WideShapes Go.ChangeAt Go.RowKit Go.Sort BigFrame

theorem vf_some {W w : World} {op k b s : Int} {g e : Bool} {n0 : Nat} (h : vfZ op = some ⟨k, b, s, g, e⟩) (hM : Made W w) (hz : W.heap.size ≤ n0) (v0 v1 v2 v3 v4 : Value) (o : Obj) :
    Ending.returned (.tuple #[.agg #[.int .u8 k, .int .i64 b, .int .i64 s, .bool g, .bool e], .bool true]) = .returned (.tuple #[.agg #[.int .u8 (vF op).kind, .int .i64 (vF op).bits, .int .i64 (vF op).shift, .bool (vF op).sg, .bool (vF op).ext], .bool (vB op)]) ∧
      Made W ((((((w.setCell ⟨n0, 0, none⟩ v0).setCell ⟨n0, 1, none⟩ v1).setCell ⟨n0, 2, none⟩ v2).setCell ⟨n0, 3, none⟩ v3).setCell ⟨n0, 4, none⟩ v4).alloc o) := by
  unfold vF vB
  rw [h]
  have k := (((((hM.setCell (p := ⟨n0, 0, none⟩) hz v0).setCell (p := ⟨n0, 1, none⟩) hz v1).setCell (p := ⟨n0, 2, none⟩) hz v2).setCell (p := ⟨n0, 3, none⟩) hz v3).setCell (p := ⟨n0, 4, none⟩) hz v4)
  exact ⟨rfl, k.alloc k.size o⟩
theorem vf_none {W w' : World} {op : Int} (h : vfZ op = vfIn []) (hm : Made W w') :
    Ending.returned (.tuple #[.agg #[.int .u8 0, .int .i64 0, .int .i64 0, .bool false, .bool false], .bool false]) = .returned (.tuple #[.agg #[.int .u8 (vF op).kind, .int .i64 (vF op).bits, .int .i64 (vF op).shift, .bool (vF op).sg, .bool (vF op).ext], .bool (vB op)]) ∧ Made W w' := by
  unfold vF vB
  rw [h]
  exact ⟨rfl, hm⟩
section
attribute [local irreducible] World.cell?
set_option maxHeartbeats 1000000 in
theorem valueField_any (W : World) (hN : Names W) (op : Int) (h0 : 0 ≤ op) : Makes Tryd.prog W 37 #[.int .u8 op] (.tuple #[.agg #[.int .u8 (vF op).kind, .int .i64 (vF op).bits, .int .i64 (vF op).shift, .bool (vF op).sg, .bool (vF op).ext], .bool (vB op)]) := by
  intro w hm
  have hz := hm.size
  have hst0 := heap_alloc_new w (.cells fZero.cells.toArray 45)
  go_enter Tryd.func37, Tryd.ntmps37
  go_wp2_with (fail)
  refine (of_any _ (hN.made (hm.alloc hz _)) op h0 _ (Made.refl _)).mono ?_
  intro e w1 h
  obtain ⟨p, cap, fs, o, nm, c, s, hfs, ho, hnm, hc, hs, rfl, h1, hcell⟩ := isOf_any h
  clear h
  have hr1 := h1.heap hst0
  have hzz : w.heap.size + 1 ≤ w1.heap.size := by have := h1.size; simp only [World.size_alloc] at this; omega
  have hlt : w.heap.size < w1.heap.size := by omega
  have hfew := fields_few (opN op)
  have hsm := fields_small (opN op)
  rewrite [← hfs] at hfew hsm
  have HV : vfZ op = vfIn fs := by unfold vfZ; rw [hfs]
  have HM := Lib.hid (Made.trans (hm.alloc hz _) h1)
  have HFS := Lib.hid HV
  have HR := Lib.hid hr1
  have HS := Lib.hid hsm
  have HC := Lib.hid hcell
  clear hfs hr1 h1 ho hnm hc hs hsm hcell HV hst0
  go_wp2_with (fail)
  have hs16 : w1.heap.size < w1.heap.size + 1 := Nat.lt_succ_self _
  go_loopw [16] (fun i wr => ∃ k : Nat, k ≤ fs.length ∧ i = .int .i64 k ∧ vfIn (fs.drop k) = vfIn fs ∧ Made w1 wr) (fun i _ => fs.length - (intOf i).toNat)
  case atStart => exact ⟨0, Nat.zero_le _, rfl, rfl, (Made.refl w1).alloc (Nat.le_refl _) _⟩
  case round =>
    obtain ⟨k, hk, rfl, hat, hwr⟩ := hrel
    have hrr := hwr.heap HR.out
    obtain ⟨c0, c1, c2, c3, c4⟩ := row_cells hrr
    have fz := free_of_lit hrr
    have hlr : w.heap.size < wr.heap.size := Nat.lt_of_lt_of_le hlt hwr.size
    have HW := Lib.hid hwr
    clear hrr hwr
    by_cases hlt2 : k < fs.length
    · rcases HC.out with rfl | ⟨b, cur, rfl, hb, hbb, hcs, hnc, hcm, hce⟩
      · simp at hlt2
      have hbl := heap_lt hbb
      have hbr : b < wr.heap.size := Nat.lt_of_lt_of_le hbl HW.out.size
      have hd := vfIn_drop fs k hlt2
      have hs := HS.out fs[k] (List.getElem_mem _)
      have hfl := flat_at fs k hlt2
      have hce := fun r (hr : r < 5) => (bcell HW.out).1 b (k * 5 + r) hbl ▸ hce (k * 5 + r) (by omega)
      have k0 : wr.cell? ⟨b, k * 5, none⟩ = _ := (hce 0 (by omega)).trans hfl.1
      have k1 := (hce 1 (by omega)).trans hfl.2.1
      have k2 := (hce 2 (by omega)).trans hfl.2.2.1
      have k3 := (hce 3 (by omega)).trans hfl.2.2.2.1
      have k4 := (hce 4 (by omega)).trans hfl.2.2.2.2
      obtain ⟨hs1, hs2, hs3, hs4, hs5, hs6⟩ := hs
      unfold maxLen at hcm
      generalize fs[k] = f at *
      rewrite [hat] at hd
      clear hce hfl hat hbb hb hcs
      have h3 : f.kind = 9 ∨ f.kind = 10 ∨ ((f.kind == 9) = false ∧ (f.kind == 10) = false) := by
        simp only [beq_eq_false_iff_ne]
        omega
      obtain ⟨fk, fb, fsh, fsg, fex⟩ := f
      rcases h3 with h3 | h3 | ⟨h3, h4⟩
      case inr.inr =>
        have hd2 : vfIn fs = vfIn (fs.drop (k + 1)) := by
          simp only [beq_eq_false_iff_ne] at h3 h4
          rw [hd, if_neg (by simp [h3, h4])]
        have HD := Lib.hid hd2
        clear hd hd2
        go_wp2
        go_roundw
        case rel => exact ⟨k + 1, by omega, by go_num, HD.out.symm, HW.out.alloc HW.out.size _⟩
        case measure => simp [intOf]; omega
      case inl =>
        obtain rfl : fk = 9 := h3
        have hd2 := HFS.out.trans (hd.trans (if_pos (by simp)))
        have HD := Lib.hid hd2
        clear hd hd2
        go_wp2
        refine bodyPost_ret (v := .tuple #[.agg #[.int .u8 9, .int .i64 fb, .int .i64 fsh, .bool fsg, .bool fex], .bool true]) (by simp [results, Tryd.results37, go_sem, c0, c1, c2, c3, c4, hlr]) rfl ?_
        exact vf_some HD.out (Made.trans HM.out HW.out) hz _ _ _ _ _ _
      case inr.inl =>
        obtain rfl : fk = 10 := h3
        have hd2 := HFS.out.trans (hd.trans (if_pos (by simp)))
        have HD := Lib.hid hd2
        clear hd hd2
        go_wp2
        refine bodyPost_ret (v := .tuple #[.agg #[.int .u8 10, .int .i64 fb, .int .i64 fsh, .bool fsg, .bool fex], .bool true]) (by simp [results, Tryd.results37, go_sem, c0, c1, c2, c3, c4, hlr]) rfl ?_
        exact vf_some HD.out (Made.trans HM.out HW.out) hz _ _ _ _ _ _
    · obtain rfl : k = fs.length := by omega
      rewrite [List.drop_length] at hat
      have HF := Lib.hid (HFS.out.trans hat.symm)
      clear hat
      go_wp2
      refine bodyPost_ret (v := .tuple #[.agg #[.int .u8 0, .int .i64 0, .int .i64 0, .bool false, .bool false], .bool false]) (by simp [results, Tryd.results37, go_sem, c0, c1, c2, c3, c4]) rfl ?_
      have hM := Made.trans HM.out HW.out
      exact vf_none HF.out (((((hM.setCell hz _).setCell hz _).setCell hz _).setCell hz _).setCell hz _)
end
end Go.Proofs.YtjeemiabddblhaaDoor
