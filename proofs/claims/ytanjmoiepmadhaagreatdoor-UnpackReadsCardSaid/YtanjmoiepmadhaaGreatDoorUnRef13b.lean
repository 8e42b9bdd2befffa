/- What Packet of the document's answer for unpack returns. -/
import Derived.Test.YtanjmoiepmadhaaGreatDoorUnRef13
import Derived.Test.YtanjmoiepmadhaaGreatDoorGUn
import Derived.Test.YtanjmoiepmadhaaGreatDoorEncRefU
import Derived.Deep.Cut
namespace Go.Proofs.YtanjmoiepmadhaaGreatDoor
open Go.ChangeShapes Go.WideShapes Go.ChangeAt Go.RowKit Go.Sort BigFrame

theorem get_low13 (z : Int) : (0 ≤ getZ z 16 10 ∧ getZ z 16 10 < 1024) ∧ (0 ≤ getZ z 0 14 ∧ getZ z 0 14 < 16384) := by
  unfold getZ
  rw [if_pos (by decide), if_pos (by decide)]
  show (0 ≤ z / 65536 % 1024 ∧ z / 65536 % 1024 < 1024) ∧ (0 ≤ z / 1 % 16384 ∧ z / 1 % 16384 < 16384)
  omega
abbrev set5 (u : World) (B : Nat) (v0 v1 v2 v3 v4 : Value) : World := ((((u.setCell ⟨B, 0, none⟩ v0).setCell ⟨B, 1, none⟩ v1).setCell ⟨B, 2, none⟩ v2).setCell ⟨B, 3, none⟩ v3).setCell ⟨B, 4, none⟩ v4
theorem row_ret {W u : World} {B Q : Nat} {cs : List Value} {so : Option Addr} {n cq : Nat} {e0 e1 raw dup : Bool} {l : List In} (h : RowAt W B Q cs so n cq e0 e1 raw dup l u) (v0 v1 v2 v3 v4 : Value) : Insts (set5 u B v0 v1 v2 v3 v4) so cq l ∧ Made W (set5 u B v0 v1 v2 v3 v4) := by
  have hlow := h.low
  have hlt := h.lt
  have hb : B < Q + 1 := by omega
  have hr := ownsRow_setCell_below (ownsRow_setCell_below (ownsRow_setCell_below (ownsRow_setCell_below (ownsRow_setCell_below h.row hb (a := ⟨B, 0, none⟩) v0) hb (a := ⟨B, 1, none⟩) v1) hb (a := ⟨B, 2, none⟩) v2) hb (a := ⟨B, 3, none⟩) v3) hb (a := ⟨B, 4, none⟩) v4
  obtain ⟨-, s, c, hv, hi⟩ := owns_insts hr h.small
  simp only [Value.slice.injEq] at hv
  obtain ⟨rfl, -, rfl⟩ := hv
  exact ⟨hi, Below.setCell (Below.setCell (Below.setCell (Below.setCell (Below.setCell h.made (p := ⟨B, 0, none⟩) hlow v0) (p := ⟨B, 1, none⟩) hlow v1) (p := ⟨B, 2, none⟩) hlow v2) (p := ⟨B, 3, none⟩) hlow v3) (p := ⟨B, 4, none⟩) hlow v4⟩
theorem unpackedR_some {pc : Int} {zs : List Int} {w w' : World} {s : UnSt} {so : Option Addr} {c n : Nat} {e0 e1 raw dup : Bool} (h : unP pc zs = some s) (hn : s.insts.length = n) (k0 : markB zs 0 = e0) (k1 : markB zs 1 = e1) (kr : (!s.dup && decide (2 ≤ s.insts.length)) = raw) (kd : s.dup = dup)
    (hI : Insts w' so c s.insts) (hm : Made w w') : UnpackedR pc zs w (.returned (.tuple #[pkV so n c e0 e1 raw dup, .bool true])) w' := by
  subst hn k0 k1 kr kd
  exact ⟨so, c, unPk zs s, true, rfl, hI, hm, fun h0 => (by rw [h] at h0; cases h0), fun t ht => ⟨rfl, by rw [h] at ht; obtain rfl := Option.some.inj ht; rfl⟩⟩
section
attribute [local irreducible] World.cell?
set_option maxRecDepth 100000 in
set_option maxHeartbeats 64000000 in
theorem rpacket13_any (ao : Option Addr) (cap : Nat) (zs : List Int) (w : World) (hW : Ws w ao cap zs) (hu : U32s zs) (hl : zs.length ≤ 1000) (pc : Int) (hp : isU32 pc) :
    Calls Tryz.prog 12 #[.slice ao zs.length cap, .int .u32 pc] w (UnpackedR pc zs w) := by
  have H := Lib.hid hW
  have HU := Lib.hid hu
  have K0 := Lib.hid (row_begin w)
  obtain ⟨i0, hi0, hz0, hz1, hz2⟩ := info_parts inst_row
  clear hW hu
  go_enter Tryz.func12, Tryz.ntmps12
  go_upto_region 5 with (fail)
  go_wp2_with (fail)
  go_loopw [7, 8, 9] (fun uv hv iv wr => ∃ (k : Nat) (s : UnSt) (so : Option Addr) (c : Nat), k ≤ zs.length ∧ uv = .int .u32 s.up ∧ hv = .bool s.has ∧ iv = .int .i64 k ∧ unRun pc zs.length 0 (zs.take k) unStart = some s ∧ UnInv s ∧ (s.dup = true → k = zs.length) ∧
    s.insts.length ≤ 2 * k ∧ RowAt w w.heap.size (w.heap.size + 1) zeroPkL so s.insts.length c (markTo zs k 0) (markTo zs k 1) false s.dup s.insts wr) (fun _ _ iv _ => zs.length - (intOf iv).toNat)
  case atStart => exact ⟨0, unStart, none, 0, by omega, rfl, rfl, rfl, rfl, inv_start, fun h => (by cases h), Nat.le_refl _, by rw [markTo_none, markTo_none]; exact K0.out⟩
  case round =>
    obtain ⟨k, s, so, c, hk, rfl, rfl, rfl, hrun, hinv, hdk, hll, hrow⟩ := hrel
    have KR := Lib.hid hrow
    have HRN := Lib.hid hrun
    have HIV := Lib.hid hinv
    have HDK := Lib.hid hdk
    clear hrow hrun hinv hdk K0
    by_cases hlt : k < zs.length
    rotate_left
    · obtain rfl : k = zs.length := by omega
      have HALL := Lib.hid (run_all HRN.out)
      have hrow := KR.out
      rewrite [markTo_all, markTo_all] at hrow
      have KE := Lib.hid hrow
      clear hrow KR HRN HIV HDK
      obtain ⟨l, d, up, has⟩ := s
      obtain ⟨m0, hm0⟩ : ∃ v, v = markB zs 0 := ⟨_, rfl⟩
      obtain ⟨m1, hm1⟩ : ∃ v, v = markB zs 1 := ⟨_, rfl⟩
      have hrow := KE.out
      rewrite [← hm0, ← hm1] at hrow
      have HM0 := Lib.hid hm0
      have HM1 := Lib.hid hm1
      clear KE hm0 hm1
      have KE := Lib.hid hrow
      clear hrow
      have hways : (d = true ∧ (!d && decide (2 ≤ l.length)) = false) ∨ (d = false ∧ decide ((l.length : Int) ≥ 2) = true ∧ (!d && decide (2 ≤ l.length)) = true) ∨ (d = false ∧ decide ((l.length : Int) ≥ 2) = false ∧ (!d && decide (2 ≤ l.length)) = false) := by
        cases d with
        | true => exact .inl ⟨rfl, rfl⟩
        | false =>
          by_cases h : 2 ≤ l.length
          · exact .inr (.inl ⟨rfl, decide_eq_true (by omega), by simp [h]⟩)
          · exact .inr (.inr ⟨rfl, decide_eq_false (by omega), by simp [h]⟩)
      obtain ⟨rv, hrv⟩ : ∃ v, v = (!d && decide (2 ≤ l.length)) := ⟨_, rfl⟩
      rewrite [← hrv] at hways
      have HRV := Lib.hid hrv
      clear hrv
      obtain ⟨c0, c1, c2, c3, c4⟩ := pk5 KE.out.qk
      have fq := free_of_lit KE.out.qk
      have lq := heap_lt KE.out.qk
      obtain ⟨a0, a1, a2, a3, a4⟩ := pk5 KE.out.pk
      have fa := free_of_lit KE.out.pk
      have la := heap_lt KE.out.pk
      rcases hways with ⟨rfl, rfl⟩ | ⟨rfl, hg, rfl⟩ | ⟨rfl, hg, rfl⟩
      · have KF := Lib.hid (row_ret (row_raw KE.out false) (.slice so l.length c) (.bool m0) (.bool m1) (.bool false) (.bool true))
        go_wp2
        refine bodyPost_ret (v := .tuple #[pkV so l.length c m0 m1 false true, .bool true]) (by simp [results, Tryz.results12, go_sem, a0, a1, a2, a3, a4]) rfl ?_
        exact unpackedR_some HALL.out rfl HM0.out.symm HM1.out.symm HRV.out.symm rfl KF.out.1 KF.out.2
      · have KF := Lib.hid (row_ret (row_raw KE.out true) (.slice so l.length c) (.bool m0) (.bool m1) (.bool true) (.bool false))
        go_wp2
        refine bodyPost_ret (v := .tuple #[pkV so l.length c m0 m1 true false, .bool true]) (by simp [results, Tryz.results12, go_sem, a0, a1, a2, a3, a4]) rfl ?_
        exact unpackedR_some HALL.out rfl HM0.out.symm HM1.out.symm HRV.out.symm rfl KF.out.1 KF.out.2
      · have KF := Lib.hid (row_ret (row_raw KE.out false) (.slice so l.length c) (.bool m0) (.bool m1) (.bool false) (.bool false))
        go_wp2
        refine bodyPost_ret (v := .tuple #[pkV so l.length c m0 m1 false false, .bool true]) (by simp [results, Tryz.results12, go_sem, a0, a1, a2, a3, a4]) rfl ?_
        exact unpackedR_some HALL.out rfl HM0.out.symm HM1.out.symm HRV.out.symm rfl KF.out.1 KF.out.2
    obtain ⟨z, hz⟩ : ∃ z, zs[k] = z := ⟨_, rfl⟩
    have hzu := HU.out z (hz ▸ List.getElem_mem hlt)
    obtain ⟨b, o, rfl, hc0⟩ := H.out.cell k hlt
    rewrite [hz] at hc0
    have hlb := World.block_lt_of_cell? w _ hc0
    have hnx := run_next hlt z hz HRN.out
    obtain ⟨o1, ho1⟩ : ∃ o1, o1 = unRun pc zs.length 0 (zs.take (k + 1)) unStart := ⟨_, rfl⟩
    have hway := step_ways (ho1.trans hnx)
    have hfail := fun h : o1 = none => run_fails (ho1.symm.trans h)
    have hM0 := markTo_next hlt z hz 0
    have hM1 := markTo_next hlt z hz 1
    have hds : s.dup = false := by
      cases h : s.dup with
      | false => rfl
      | true => exact absurd (HDK.out h) (by omega)
    have HP := Lib.hid (fun u => parse13_any z hzu u)
    have HCELL := Lib.hid (fun (u : World) (hu : Made w u) => (World.cell?_of_block (a := ⟨b, o + k, none⟩) (hu.block b hlb)).trans hc0)
    have HSTEP := Lib.hid (fun t (h : unStep pc zs.length k z s = some t) => step_told hzu HIV.out hds h)
    have HNX := Lib.hid hnx
    have HO1 := Lib.hid ho1
    have HWAY := Lib.hid hway
    have HFAIL := Lib.hid hfail
    have HM0 := Lib.hid hM0
    have HM1 := Lib.hid hM1
    have HUP := Lib.hid HIV.out.up
    have HZ0 := Lib.hid HIV.out.zero
    have HG := Lib.hid (get_parts z)
    have HSPL := Lib.hid (fun u => split8_any u z hzu u (Made.refl u))
    have HINS := Lib.hid (fun u => refInst13_any u z s.up pc s.has hzu HIV.out.up hp HIV.out.zero u (Made.refl u))
    have HGC := Lib.hid (refGet_any z 26 6 hzu (by unfold isI; omega) (by unfold isI; omega))
    have HGA := Lib.hid (refGet_any z 16 10 hzu (by unfold isI; omega) (by unfold isI; omega))
    have HGB := Lib.hid (refGet_any z 0 14 hzu (by unfold isI; omega) (by unfold isI; omega))
    have hki0 : (0 : Int) ≤ (k : Int) := by omega
    have hki1 : (k : Int) < (zs.length : Int) := by omega
    obtain ⟨en, hen⟩ : ∃ v : Bool, v = ((k : Int) == (zs.length : Int) - 1) := ⟨_, rfl⟩
    have HEN := Lib.hid (show en = true ↔ k + 1 = zs.length by rw [hen, beq_iff_eq]; omega)
    have gen := hen.symm
    have hcw := HCELL.out wr KR.out.made
    have hbw := World.block_lt_of_cell? wr _ hcw
    obtain ⟨m0, hm0⟩ : ∃ v, v = markTo zs k 0 := ⟨_, rfl⟩
    obtain ⟨m1, hm1⟩ : ∃ v, v = markTo zs k 1 := ⟨_, rfl⟩
    have hrow := KR.out
    rewrite [← hm0, ← hm1, hds] at hrow
    have HMK0 := Lib.hid hm0
    have HMK1 := Lib.hid hm1
    clear KR
    have KR := Lib.hid hrow
    clear hrow hm0 hm1 hz hc0 hnx ho1 hway hfail hM0 hM1 hen
    obtain ⟨l, d, up, has⟩ := s
    simp only [] at hds hll
    subst hds
    obtain ⟨c0, c1, c2, c3, c4⟩ := pk5 KR.out.qk
    have fq := free_of_lit KR.out.qk
    have lq := heap_lt KR.out.qk
    have hmk : (parseZ z = 2 ∧ k = 0) ∨ (parseZ z = 2 ∧ k = 1) ∨ (parseZ z = 2 ∧ 1 < k) ∨ parseZ z ≠ 2 := by
      by_cases h : parseZ z = 2
      · by_cases h0 : k = 0
        · exact .inl ⟨h, h0⟩
        · by_cases h1 : k = 1
          · exact .inr (.inl ⟨h, h1⟩)
          · exact .inr (.inr (.inl ⟨h, by omega⟩))
      · exact .inr (.inr (.inr h))
    generalize parseZ z = q at *
    rcases hmk with ⟨rfl, hk0⟩ | ⟨rfl, hk0⟩ | ⟨rfl, h1k⟩ | hq2
    · have KN := Lib.hid (row_mark0 KR.out true)
      have HK0 := Lib.hid hk0
      have g0 : ((k : Int) == 0) = true := beq_iff_eq.2 (by omega)
      have g1 : ((k : Int) == 1) = false := beq_eq_false_iff_ne.2 (by omega)
      have g2 : decide ((k : Int) > 1) = false := decide_eq_false (by omega)
      clear hk0
      go_upto_region 10 with (go_at_call 20; refine (HP.out _).mono ?_; rintro e w' ⟨rfl, rfl⟩)
      refine world_named (fun u => RowAt w w.heap.size (w.heap.size + 1) zeroPkL so l.length c true m1 false false l u) KN.out ?_
      intro z1 hz1
      clear KR KN hcw hbw c0 c1 c2 c3 c4 fq lq
      have KR := Lib.hid hz1
      clear hz1
      obtain ⟨n0, hn0⟩ : ∃ v : Bool, v = true := ⟨_, rfl⟩
      obtain ⟨n1, hn1⟩ : ∃ v : Bool, v = m1 := ⟨_, rfl⟩
      have HN0 := Lib.hid (show markTo zs (k + 1) 0 = n0 by rw [HM0.out, hn0, HK0.out]; simp)
      have HN1 := Lib.hid (show markTo zs (k + 1) 1 = n1 by rw [HM1.out, hn1, HMK1.out, HK0.out]; simp)
      have hrow := KR.out
      rewrite [← hn0, ← hn1] at hrow
      clear KR hn0 hn1
      have KR := Lib.hid hrow
      clear hrow
      have hcw := HCELL.out _ KR.out.made
      have hbw := World.block_lt_of_cell? _ _ hcw
      obtain ⟨c0, c1, c2, c3, c4⟩ := pk5 KR.out.qk
      have fq := free_of_lit KR.out.qk
      have lq := heap_lt KR.out.qk
      rcases HWAY.out with ⟨hx, hx2, -⟩ | ⟨-, hk1, hq0, hsub⟩ | ⟨-, hnq, hcd, hsub⟩ | ⟨-, hnq, hcd, hsub⟩
      · exact absurd hx2 (by have := HK0.out; omega)
      · exact absurd hq0 (by decide)
      · have hgc := HGC.out
        rewrite [HG.out.1] at hgc
        have HC := Lib.hid hgc
        clear hgc
        have hev : en = false ∨ (en = true ∧ True) := by
          cases h : en with
          | false => exact .inl rfl
          | true => exact .inr ⟨rfl, trivial⟩
        rewrite [hcd] at HC
        clear hcd hnq
        rcases hsub with ⟨rfl, ho⟩ | ⟨rfl, hkn, ho⟩ | ⟨rfl, hkn, ho⟩
        · have HF := Lib.hid (HFAIL.out ho)
          clear ho
          rcases hev with hev | ⟨hev, gq⟩
          · first | subst hev | cases hev
            all_goals
              go_upto_region 22 with (first | (go_at_call 20; refine (HP.out _).mono ?_; rintro e w' ⟨rfl, rfl⟩) | (go_at_call 24; refine (HC.out _).mono ?_; rintro e w' ⟨rfl, rfl⟩))
              obtain ⟨a0, a1, a2, a3, a4⟩ := pk5 KR.out.pk
              have fa := free_of_lit KR.out.pk
              have la := heap_lt KR.out.pk
              go_wp2
              refine bodyPost_ret (v := .tuple #[pkV none 0 0 false false false false, .bool false]) (by simp [results, Tryz.results12, go_sem, a0, a1, a2, a3, a4]) rfl ?_
              exact unpackedR_none HF.out (Below.setCell (Below.setCell (Below.setCell (Below.setCell (Below.setCell KR.out.made (p := ⟨w.heap.size, 0, none⟩) (Nat.le_refl _) _) (p := ⟨w.heap.size, 1, none⟩) (Nat.le_refl _) _) (p := ⟨w.heap.size, 2, none⟩) (Nat.le_refl _) _) (p := ⟨w.heap.size, 3, none⟩) (Nat.le_refl _) _) (p := ⟨w.heap.size, 4, none⟩) (Nat.le_refl _) _)
          · first | subst hev | cases hev
            all_goals
              go_upto_region 22 with (first | (go_at_call 20; refine (HP.out _).mono ?_; rintro e w' ⟨rfl, rfl⟩) | (go_at_call 24; refine (HC.out _).mono ?_; rintro e w' ⟨rfl, rfl⟩))
              obtain ⟨a0, a1, a2, a3, a4⟩ := pk5 KR.out.pk
              have fa := free_of_lit KR.out.pk
              have la := heap_lt KR.out.pk
              go_wp2
              refine bodyPost_ret (v := .tuple #[pkV none 0 0 false false false false, .bool false]) (by simp [results, Tryz.results12, go_sem, a0, a1, a2, a3, a4]) rfl ?_
              exact unpackedR_none HF.out (Below.setCell (Below.setCell (Below.setCell (Below.setCell (Below.setCell KR.out.made (p := ⟨w.heap.size, 0, none⟩) (Nat.le_refl _) _) (p := ⟨w.heap.size, 1, none⟩) (Nat.le_refl _) _) (p := ⟨w.heap.size, 2, none⟩) (Nat.le_refl _) _) (p := ⟨w.heap.size, 3, none⟩) (Nat.le_refl _) _) (p := ⟨w.heap.size, 4, none⟩) (Nat.le_refl _) _)
        · have HF := Lib.hid (HFAIL.out ho)
          clear ho
          obtain rfl : en = true := HEN.out.2 hkn
          rcases hev with hev | ⟨hev, gq⟩
          · first | subst hev | cases hev
            all_goals
              go_upto_region 22 with (first | (go_at_call 20; refine (HP.out _).mono ?_; rintro e w' ⟨rfl, rfl⟩) | (go_at_call 24; refine (HC.out _).mono ?_; rintro e w' ⟨rfl, rfl⟩))
              obtain ⟨a0, a1, a2, a3, a4⟩ := pk5 KR.out.pk
              have fa := free_of_lit KR.out.pk
              have la := heap_lt KR.out.pk
              go_wp2
              refine bodyPost_ret (v := .tuple #[pkV none 0 0 false false false false, .bool false]) (by simp [results, Tryz.results12, go_sem, a0, a1, a2, a3, a4]) rfl ?_
              exact unpackedR_none HF.out (Below.setCell (Below.setCell (Below.setCell (Below.setCell (Below.setCell KR.out.made (p := ⟨w.heap.size, 0, none⟩) (Nat.le_refl _) _) (p := ⟨w.heap.size, 1, none⟩) (Nat.le_refl _) _) (p := ⟨w.heap.size, 2, none⟩) (Nat.le_refl _) _) (p := ⟨w.heap.size, 3, none⟩) (Nat.le_refl _) _) (p := ⟨w.heap.size, 4, none⟩) (Nat.le_refl _) _)
          · first | subst hev | cases hev
            all_goals
              go_upto_region 22 with (first | (go_at_call 20; refine (HP.out _).mono ?_; rintro e w' ⟨rfl, rfl⟩) | (go_at_call 24; refine (HC.out _).mono ?_; rintro e w' ⟨rfl, rfl⟩))
              obtain ⟨a0, a1, a2, a3, a4⟩ := pk5 KR.out.pk
              have fa := free_of_lit KR.out.pk
              have la := heap_lt KR.out.pk
              go_wp2
              refine bodyPost_ret (v := .tuple #[pkV none 0 0 false false false false, .bool false]) (by simp [results, Tryz.results12, go_sem, a0, a1, a2, a3, a4]) rfl ?_
              exact unpackedR_none HF.out (Below.setCell (Below.setCell (Below.setCell (Below.setCell (Below.setCell KR.out.made (p := ⟨w.heap.size, 0, none⟩) (Nat.le_refl _) _) (p := ⟨w.heap.size, 1, none⟩) (Nat.le_refl _) _) (p := ⟨w.heap.size, 2, none⟩) (Nat.le_refl _) _) (p := ⟨w.heap.size, 3, none⟩) (Nat.le_refl _) _) (p := ⟨w.heap.size, 4, none⟩) (Nat.le_refl _) _)
        · have HOK := Lib.hid ho
          obtain rfl : en = false := by cases h : en with | false => rfl | true => exact absurd (HEN.out.1 h) hkn
          clear ho hev
          have gcw := fun d os => cell_regrown hcw d os
          obtain ⟨hga, hgb⟩ := get_low13 z
          have HPZ := Lib.hid HG.out.2
          have HA1 := HGA.out
          have HB1 := HGB.out
          generalize getZ z 16 10 = ga at *
          generalize getZ z 0 14 = gb at *
          have HGA2 := Lib.hid (fun u => HA1.makes u)
          have HGB2 := Lib.hid (fun u => HB1.makes u)
          clear HA1 HB1
          go_upto_region 23 with (first | (go_at_call 20; refine (HP.out _).mono ?_; rintro e w' ⟨rfl, rfl⟩) | (go_at_call 24; refine (HC.out _).mono ?_; rintro e w' ⟨rfl, rfl⟩))
          refine wp_region_quiet_below (by kernel_rfl) (by kernel_rfl) ?_
          repeat (go_big_quiet_step ((first
            | (go_at_call 24; with_reducible exact (HGA2.out _).again _ _)
            | (go_at_call 24; with_reducible exact (HGB2.out _).again _ _))))
          refine wpQuiet_nil ?_
          intro z3 hz3
          have KN := Lib.hid (KR.out.next (made_regrown hz3))
          clear hz3 gcw hcw hbw c0 c1 c2 c3 c4 fq lq KR
          have HST := Lib.hid (HSTEP.out _ (HNX.out.symm.trans (HO1.out.symm.trans HOK.out)))
          go_wp2
          go_roundw
          case rel => exact ⟨k + 1, ⟨l, false, payZ z, true⟩, _, _, by omega, by rw [← HPZ.out], rfl, by go_num, HO1.out.symm.trans HOK.out, HST.out.1, fun h => by have := HST.out.2.2.1 h; omega, Nat.le_trans hll (by omega), by rw [HN0.out, HN1.out]; exact KN.out⟩
          case measure => simp [intOf]; omega
      · have hgc := HGC.out
        rewrite [HG.out.1] at hgc
        have HC := Lib.hid hgc
        clear hgc
        have hev : en = false ∨ (en = true ∧ True) := by
          cases h : en with
          | false => exact .inl rfl
          | true => exact .inr ⟨rfl, trivial⟩
        have hcf : (codeZ z == 0) = false := beq_eq_false_iff_ne.2 hcd
        clear hcd hnq
        rcases hev with hev | ⟨hev, gq⟩
        · first | subst hev | cases hev
          all_goals
            go_wp2_with (first | (go_at_call 20; refine (HP.out _).mono ?_; rintro e w' ⟨rfl, rfl⟩) | (go_at_call 24; refine (HC.out _).mono ?_; rintro e w' ⟨rfl, rfl⟩))
            refine (HINS.out _).mono ?_
            rintro e w5 ⟨rfl, h5⟩
            have hxs := instP_small z up has pc
            generalize instP z up has pc = x at *
            generalize instB z up has pc = ib at *
            have IB := Lib.hid (show InAt (w5.alloc (.cells x.cells.toArray 40)) w5.heap.size x from heap_alloc_new w5 _)
            have KR6 := Lib.hid ((KR.out.next h5).next (made_alloc (Made.refl w5) (.cells x.cells.toArray 40)))
            clear h5 hcw hbw KR
            rcases hsub with ⟨rfl, ho⟩ | ⟨rfl, ho⟩
            · have HOK := Lib.hid ho
              have HSM := Lib.hid (show ∀ y ∈ [x], y.small from fun y hy => by obtain rfl := List.mem_singleton.1 hy; exact hxs)
              clear ho hxs
              go_upto_region 28 with (fail)
              clear c0 c1 c2 c3 c4 fq lq
              refine world_named (fun u => InAt u w5.heap.size x ∧ RowAt w w.heap.size (w.heap.size + 1) zeroPkL so l.length c n0 n1 false false l u) ⟨IB.out, KR6.out⟩ ?_
              rintro z6 ⟨hb6, hk6⟩
              have B6 := Lib.hid hb6
              have KR := Lib.hid hk6
              clear hb6 hk6 IB KR6
              obtain ⟨c0, c1, c2, c3, c4⟩ := pk5 KR.out.qk
              have fq := free_of_lit KR.out.qk
              have lq := heap_lt KR.out.qk
              obtain ⟨x0, x1, x2, x3, x4, x5, x6, x7, x8, x9, x10⟩ := in_cells B6.out
              have lx := heap_lt B6.out
              have m2 : Made z6 (z6.alloc (.cells (flatI [x]).toArray 40)) := (Made.refl z6).alloc (Nat.le_refl _) _
              have KA := Lib.hid (KR.out.next m2)
              have HOL := Lib.hid (insts_olds (insts_lit (l := [x]) (n := 1) (heap_alloc_new z6 (.cells (flatI [x]).toArray 40)) rfl (by omega) HSM.out))
              have hsz := Lib.hid (show w.heap.size + 1 + 1 ≤ (z6.alloc (.cells (flatI [x]).toArray 40)).heap.size from by have := heap_lt KA.out.qk; omega)
              have hmx : l.length + 1 ≤ maxLen := by unfold maxLen; omega
              have hby : (l.length + 1) * 24 ≤ 140737488355328 := by omega
              clear m2
              go_upto_region 29 with (at_builtin; refine wpList_append_each rfl (.tmp 130) (.tmp 132) 27 rfl (w.heap.size + 1 + 1) 40 i0 (In.val inZero) 11 24 Tryz.underlying27 hi0 hz0 hz1 hz2 rfl (by decide) (.slice so l.length c) l.length (flatI l) rfl KA.out.row (some ⟨z6.heap.size, 0, none⟩) 1 1 (flatI [x]) rfl (fun h => by simp at h) rfl HOL.out (flatI_one _) hmx hby hsz.out ?_; intro v7 w9 own1 gr1; obtain ⟨s7, c7, hv7⟩ := own_slice own1; subst hv7; have KG := Lib.hid (row_grows KA.out HSM.out own1 gr1); have q9 := row_far KA.out gr1; obtain ⟨g0, g1, g2, g3, g4⟩ := pk5 q9; have fg := free_of_lit q9; have lg := heap_lt q9; clear own1 gr1 q9)
              clear HOL hsz hmx hby KA
              clear c0 c1 c2 c3 c4 fq lq g0 g1 g2 g3 g4 fg lg x0 x1 x2 x3 x4 x5 x6 x7 x8 x9 x10 lx B6 KR
              have KN := Lib.hid KG.out
              clear KG
              have HST := Lib.hid (HSTEP.out _ (HNX.out.symm.trans (HO1.out.symm.trans HOK.out)))
              go_wp2
              go_roundw
              case rel => exact ⟨k + 1, ⟨l ++ [x], false, 0, false⟩, _, _, by omega, rfl, rfl, by go_num, HO1.out.symm.trans HOK.out, HST.out.1, fun h => by have := HST.out.2.2.1 h; omega, by rw [List.length_append]; show l.length + 1 ≤ _; omega, by rw [HN0.out, HN1.out, List.length_append]; exact KN.out⟩
              case measure => simp [intOf]; omega
            · have HF := Lib.hid (HFAIL.out ho)
              clear ho hxs
              go_upto_region 27 with (fail)
              clear c0 c1 c2 c3 c4 fq lq
              refine world_named (fun u => RowAt w w.heap.size (w.heap.size + 1) zeroPkL so l.length c n0 n1 false false l u) KR6.out ?_
              intro zn hzn
              clear KR6
              have KR := Lib.hid hzn
              clear hzn
              obtain ⟨a0, a1, a2, a3, a4⟩ := pk5 KR.out.pk
              have fa := free_of_lit KR.out.pk
              have la := heap_lt KR.out.pk
              go_wp2
              refine bodyPost_ret (v := .tuple #[pkV none 0 0 false false false false, .bool false]) (by simp [results, Tryz.results12, go_sem, a0, a1, a2, a3, a4]) rfl ?_
              exact unpackedR_none HF.out (Below.setCell (Below.setCell (Below.setCell (Below.setCell (Below.setCell KR.out.made (p := ⟨w.heap.size, 0, none⟩) (Nat.le_refl _) _) (p := ⟨w.heap.size, 1, none⟩) (Nat.le_refl _) _) (p := ⟨w.heap.size, 2, none⟩) (Nat.le_refl _) _) (p := ⟨w.heap.size, 3, none⟩) (Nat.le_refl _) _) (p := ⟨w.heap.size, 4, none⟩) (Nat.le_refl _) _)
        · first | subst hev | cases hev
          all_goals
            go_wp2_with (first | (go_at_call 20; refine (HP.out _).mono ?_; rintro e w' ⟨rfl, rfl⟩) | (go_at_call 24; refine (HC.out _).mono ?_; rintro e w' ⟨rfl, rfl⟩))
            refine (HINS.out _).mono ?_
            rintro e w5 ⟨rfl, h5⟩
            have hxs := instP_small z up has pc
            generalize instP z up has pc = x at *
            generalize instB z up has pc = ib at *
            have IB := Lib.hid (show InAt (w5.alloc (.cells x.cells.toArray 40)) w5.heap.size x from heap_alloc_new w5 _)
            have KR6 := Lib.hid ((KR.out.next h5).next (made_alloc (Made.refl w5) (.cells x.cells.toArray 40)))
            clear h5 hcw hbw KR
            rcases hsub with ⟨rfl, ho⟩ | ⟨rfl, ho⟩
            · have HOK := Lib.hid ho
              have HSM := Lib.hid (show ∀ y ∈ [x], y.small from fun y hy => by obtain rfl := List.mem_singleton.1 hy; exact hxs)
              clear ho hxs
              go_upto_region 28 with (fail)
              clear c0 c1 c2 c3 c4 fq lq
              refine world_named (fun u => InAt u w5.heap.size x ∧ RowAt w w.heap.size (w.heap.size + 1) zeroPkL so l.length c n0 n1 false false l u) ⟨IB.out, KR6.out⟩ ?_
              rintro z6 ⟨hb6, hk6⟩
              have B6 := Lib.hid hb6
              have KR := Lib.hid hk6
              clear hb6 hk6 IB KR6
              obtain ⟨c0, c1, c2, c3, c4⟩ := pk5 KR.out.qk
              have fq := free_of_lit KR.out.qk
              have lq := heap_lt KR.out.qk
              obtain ⟨x0, x1, x2, x3, x4, x5, x6, x7, x8, x9, x10⟩ := in_cells B6.out
              have lx := heap_lt B6.out
              have m2 : Made z6 (z6.alloc (.cells (flatI [x]).toArray 40)) := (Made.refl z6).alloc (Nat.le_refl _) _
              have KA := Lib.hid (KR.out.next m2)
              have HOL := Lib.hid (insts_olds (insts_lit (l := [x]) (n := 1) (heap_alloc_new z6 (.cells (flatI [x]).toArray 40)) rfl (by omega) HSM.out))
              have hsz := Lib.hid (show w.heap.size + 1 + 1 ≤ (z6.alloc (.cells (flatI [x]).toArray 40)).heap.size from by have := heap_lt KA.out.qk; omega)
              have hmx : l.length + 1 ≤ maxLen := by unfold maxLen; omega
              have hby : (l.length + 1) * 24 ≤ 140737488355328 := by omega
              clear m2
              go_upto_region 29 with (at_builtin; refine wpList_append_each rfl (.tmp 130) (.tmp 132) 27 rfl (w.heap.size + 1 + 1) 40 i0 (In.val inZero) 11 24 Tryz.underlying27 hi0 hz0 hz1 hz2 rfl (by decide) (.slice so l.length c) l.length (flatI l) rfl KA.out.row (some ⟨z6.heap.size, 0, none⟩) 1 1 (flatI [x]) rfl (fun h => by simp at h) rfl HOL.out (flatI_one _) hmx hby hsz.out ?_; intro v7 w9 own1 gr1; obtain ⟨s7, c7, hv7⟩ := own_slice own1; subst hv7; have KG := Lib.hid (row_grows KA.out HSM.out own1 gr1); have q9 := row_far KA.out gr1; obtain ⟨g0, g1, g2, g3, g4⟩ := pk5 q9; have fg := free_of_lit q9; have lg := heap_lt q9; clear own1 gr1 q9)
              clear HOL hsz hmx hby KA
              clear c0 c1 c2 c3 c4 fq lq g0 g1 g2 g3 g4 fg lg x0 x1 x2 x3 x4 x5 x6 x7 x8 x9 x10 lx B6 KR
              have KN := Lib.hid KG.out
              clear KG
              have HST := Lib.hid (HSTEP.out _ (HNX.out.symm.trans (HO1.out.symm.trans HOK.out)))
              go_wp2
              go_roundw
              case rel => exact ⟨k + 1, ⟨l ++ [x], false, 0, false⟩, _, _, by omega, rfl, rfl, by go_num, HO1.out.symm.trans HOK.out, HST.out.1, fun h => by have := HST.out.2.2.1 h; omega, by rw [List.length_append]; show l.length + 1 ≤ _; omega, by rw [HN0.out, HN1.out, List.length_append]; exact KN.out⟩
              case measure => simp [intOf]; omega
            · have HF := Lib.hid (HFAIL.out ho)
              clear ho hxs
              go_upto_region 27 with (fail)
              clear c0 c1 c2 c3 c4 fq lq
              refine world_named (fun u => RowAt w w.heap.size (w.heap.size + 1) zeroPkL so l.length c n0 n1 false false l u) KR6.out ?_
              intro zn hzn
              clear KR6
              have KR := Lib.hid hzn
              clear hzn
              obtain ⟨a0, a1, a2, a3, a4⟩ := pk5 KR.out.pk
              have fa := free_of_lit KR.out.pk
              have la := heap_lt KR.out.pk
              go_wp2
              refine bodyPost_ret (v := .tuple #[pkV none 0 0 false false false false, .bool false]) (by simp [results, Tryz.results12, go_sem, a0, a1, a2, a3, a4]) rfl ?_
              exact unpackedR_none HF.out (Below.setCell (Below.setCell (Below.setCell (Below.setCell (Below.setCell KR.out.made (p := ⟨w.heap.size, 0, none⟩) (Nat.le_refl _) _) (p := ⟨w.heap.size, 1, none⟩) (Nat.le_refl _) _) (p := ⟨w.heap.size, 2, none⟩) (Nat.le_refl _) _) (p := ⟨w.heap.size, 3, none⟩) (Nat.le_refl _) _) (p := ⟨w.heap.size, 4, none⟩) (Nat.le_refl _) _)
    · have KN := Lib.hid (row_mark1 KR.out true)
      have HK0 := Lib.hid hk0
      have g0 : ((k : Int) == 0) = false := beq_eq_false_iff_ne.2 (by omega)
      have g1 : ((k : Int) == 1) = true := beq_iff_eq.2 (by omega)
      have g2 : decide ((k : Int) > 1) = false := decide_eq_false (by omega)
      clear hk0
      go_upto_region 12 with (go_at_call 20; refine (HP.out _).mono ?_; rintro e w' ⟨rfl, rfl⟩)
      refine world_named (fun u => RowAt w w.heap.size (w.heap.size + 1) zeroPkL so l.length c m0 true false false l u) KN.out ?_
      intro z1 hz1
      clear KR KN hcw hbw c0 c1 c2 c3 c4 fq lq
      have KR := Lib.hid hz1
      clear hz1
      obtain ⟨n0, hn0⟩ : ∃ v : Bool, v = m0 := ⟨_, rfl⟩
      obtain ⟨n1, hn1⟩ : ∃ v : Bool, v = true := ⟨_, rfl⟩
      have HN0 := Lib.hid (show markTo zs (k + 1) 0 = n0 by rw [HM0.out, hn0, HMK0.out, HK0.out]; simp)
      have HN1 := Lib.hid (show markTo zs (k + 1) 1 = n1 by rw [HM1.out, hn1, HK0.out]; simp)
      have hrow := KR.out
      rewrite [← hn0, ← hn1] at hrow
      clear KR hn0 hn1
      have KR := Lib.hid hrow
      clear hrow
      have hcw := HCELL.out _ KR.out.made
      have hbw := World.block_lt_of_cell? _ _ hcw
      obtain ⟨c0, c1, c2, c3, c4⟩ := pk5 KR.out.qk
      have fq := free_of_lit KR.out.qk
      have lq := heap_lt KR.out.qk
      rcases HWAY.out with ⟨hx, hx2, -⟩ | ⟨-, hk1, hq0, hsub⟩ | ⟨-, hnq, hcd, hsub⟩ | ⟨-, hnq, hcd, hsub⟩
      · exact absurd hx2 (by have := HK0.out; omega)
      · exact absurd hq0 (by decide)
      · have hgc := HGC.out
        rewrite [HG.out.1] at hgc
        have HC := Lib.hid hgc
        clear hgc
        have hev : en = false ∨ (en = true ∧ True) := by
          cases h : en with
          | false => exact .inl rfl
          | true => exact .inr ⟨rfl, trivial⟩
        rewrite [hcd] at HC
        clear hcd hnq
        rcases hsub with ⟨rfl, ho⟩ | ⟨rfl, hkn, ho⟩ | ⟨rfl, hkn, ho⟩
        · have HF := Lib.hid (HFAIL.out ho)
          clear ho
          rcases hev with hev | ⟨hev, gq⟩
          · first | subst hev | cases hev
            all_goals
              go_upto_region 22 with (first | (go_at_call 20; refine (HP.out _).mono ?_; rintro e w' ⟨rfl, rfl⟩) | (go_at_call 24; refine (HC.out _).mono ?_; rintro e w' ⟨rfl, rfl⟩))
              obtain ⟨a0, a1, a2, a3, a4⟩ := pk5 KR.out.pk
              have fa := free_of_lit KR.out.pk
              have la := heap_lt KR.out.pk
              go_wp2
              refine bodyPost_ret (v := .tuple #[pkV none 0 0 false false false false, .bool false]) (by simp [results, Tryz.results12, go_sem, a0, a1, a2, a3, a4]) rfl ?_
              exact unpackedR_none HF.out (Below.setCell (Below.setCell (Below.setCell (Below.setCell (Below.setCell KR.out.made (p := ⟨w.heap.size, 0, none⟩) (Nat.le_refl _) _) (p := ⟨w.heap.size, 1, none⟩) (Nat.le_refl _) _) (p := ⟨w.heap.size, 2, none⟩) (Nat.le_refl _) _) (p := ⟨w.heap.size, 3, none⟩) (Nat.le_refl _) _) (p := ⟨w.heap.size, 4, none⟩) (Nat.le_refl _) _)
          · first | subst hev | cases hev
            all_goals
              go_upto_region 22 with (first | (go_at_call 20; refine (HP.out _).mono ?_; rintro e w' ⟨rfl, rfl⟩) | (go_at_call 24; refine (HC.out _).mono ?_; rintro e w' ⟨rfl, rfl⟩))
              obtain ⟨a0, a1, a2, a3, a4⟩ := pk5 KR.out.pk
              have fa := free_of_lit KR.out.pk
              have la := heap_lt KR.out.pk
              go_wp2
              refine bodyPost_ret (v := .tuple #[pkV none 0 0 false false false false, .bool false]) (by simp [results, Tryz.results12, go_sem, a0, a1, a2, a3, a4]) rfl ?_
              exact unpackedR_none HF.out (Below.setCell (Below.setCell (Below.setCell (Below.setCell (Below.setCell KR.out.made (p := ⟨w.heap.size, 0, none⟩) (Nat.le_refl _) _) (p := ⟨w.heap.size, 1, none⟩) (Nat.le_refl _) _) (p := ⟨w.heap.size, 2, none⟩) (Nat.le_refl _) _) (p := ⟨w.heap.size, 3, none⟩) (Nat.le_refl _) _) (p := ⟨w.heap.size, 4, none⟩) (Nat.le_refl _) _)
        · have HF := Lib.hid (HFAIL.out ho)
          clear ho
          obtain rfl : en = true := HEN.out.2 hkn
          rcases hev with hev | ⟨hev, gq⟩
          · first | subst hev | cases hev
            all_goals
              go_upto_region 22 with (first | (go_at_call 20; refine (HP.out _).mono ?_; rintro e w' ⟨rfl, rfl⟩) | (go_at_call 24; refine (HC.out _).mono ?_; rintro e w' ⟨rfl, rfl⟩))
              obtain ⟨a0, a1, a2, a3, a4⟩ := pk5 KR.out.pk
              have fa := free_of_lit KR.out.pk
              have la := heap_lt KR.out.pk
              go_wp2
              refine bodyPost_ret (v := .tuple #[pkV none 0 0 false false false false, .bool false]) (by simp [results, Tryz.results12, go_sem, a0, a1, a2, a3, a4]) rfl ?_
              exact unpackedR_none HF.out (Below.setCell (Below.setCell (Below.setCell (Below.setCell (Below.setCell KR.out.made (p := ⟨w.heap.size, 0, none⟩) (Nat.le_refl _) _) (p := ⟨w.heap.size, 1, none⟩) (Nat.le_refl _) _) (p := ⟨w.heap.size, 2, none⟩) (Nat.le_refl _) _) (p := ⟨w.heap.size, 3, none⟩) (Nat.le_refl _) _) (p := ⟨w.heap.size, 4, none⟩) (Nat.le_refl _) _)
          · first | subst hev | cases hev
            all_goals
              go_upto_region 22 with (first | (go_at_call 20; refine (HP.out _).mono ?_; rintro e w' ⟨rfl, rfl⟩) | (go_at_call 24; refine (HC.out _).mono ?_; rintro e w' ⟨rfl, rfl⟩))
              obtain ⟨a0, a1, a2, a3, a4⟩ := pk5 KR.out.pk
              have fa := free_of_lit KR.out.pk
              have la := heap_lt KR.out.pk
              go_wp2
              refine bodyPost_ret (v := .tuple #[pkV none 0 0 false false false false, .bool false]) (by simp [results, Tryz.results12, go_sem, a0, a1, a2, a3, a4]) rfl ?_
              exact unpackedR_none HF.out (Below.setCell (Below.setCell (Below.setCell (Below.setCell (Below.setCell KR.out.made (p := ⟨w.heap.size, 0, none⟩) (Nat.le_refl _) _) (p := ⟨w.heap.size, 1, none⟩) (Nat.le_refl _) _) (p := ⟨w.heap.size, 2, none⟩) (Nat.le_refl _) _) (p := ⟨w.heap.size, 3, none⟩) (Nat.le_refl _) _) (p := ⟨w.heap.size, 4, none⟩) (Nat.le_refl _) _)
        · have HOK := Lib.hid ho
          obtain rfl : en = false := by cases h : en with | false => rfl | true => exact absurd (HEN.out.1 h) hkn
          clear ho hev
          have gcw := fun d os => cell_regrown hcw d os
          obtain ⟨hga, hgb⟩ := get_low13 z
          have HPZ := Lib.hid HG.out.2
          have HA1 := HGA.out
          have HB1 := HGB.out
          generalize getZ z 16 10 = ga at *
          generalize getZ z 0 14 = gb at *
          have HGA2 := Lib.hid (fun u => HA1.makes u)
          have HGB2 := Lib.hid (fun u => HB1.makes u)
          clear HA1 HB1
          go_upto_region 23 with (first | (go_at_call 20; refine (HP.out _).mono ?_; rintro e w' ⟨rfl, rfl⟩) | (go_at_call 24; refine (HC.out _).mono ?_; rintro e w' ⟨rfl, rfl⟩))
          refine wp_region_quiet_below (by kernel_rfl) (by kernel_rfl) ?_
          repeat (go_big_quiet_step ((first
            | (go_at_call 24; with_reducible exact (HGA2.out _).again _ _)
            | (go_at_call 24; with_reducible exact (HGB2.out _).again _ _))))
          refine wpQuiet_nil ?_
          intro z3 hz3
          have KN := Lib.hid (KR.out.next (made_regrown hz3))
          clear hz3 gcw hcw hbw c0 c1 c2 c3 c4 fq lq KR
          have HST := Lib.hid (HSTEP.out _ (HNX.out.symm.trans (HO1.out.symm.trans HOK.out)))
          go_wp2
          go_roundw
          case rel => exact ⟨k + 1, ⟨l, false, payZ z, true⟩, _, _, by omega, by rw [← HPZ.out], rfl, by go_num, HO1.out.symm.trans HOK.out, HST.out.1, fun h => by have := HST.out.2.2.1 h; omega, Nat.le_trans hll (by omega), by rw [HN0.out, HN1.out]; exact KN.out⟩
          case measure => simp [intOf]; omega
      · have hgc := HGC.out
        rewrite [HG.out.1] at hgc
        have HC := Lib.hid hgc
        clear hgc
        have hev : en = false ∨ (en = true ∧ True) := by
          cases h : en with
          | false => exact .inl rfl
          | true => exact .inr ⟨rfl, trivial⟩
        have hcf : (codeZ z == 0) = false := beq_eq_false_iff_ne.2 hcd
        clear hcd hnq
        rcases hev with hev | ⟨hev, gq⟩
        · first | subst hev | cases hev
          all_goals
            go_wp2_with (first | (go_at_call 20; refine (HP.out _).mono ?_; rintro e w' ⟨rfl, rfl⟩) | (go_at_call 24; refine (HC.out _).mono ?_; rintro e w' ⟨rfl, rfl⟩))
            refine (HINS.out _).mono ?_
            rintro e w5 ⟨rfl, h5⟩
            have hxs := instP_small z up has pc
            generalize instP z up has pc = x at *
            generalize instB z up has pc = ib at *
            have IB := Lib.hid (show InAt (w5.alloc (.cells x.cells.toArray 40)) w5.heap.size x from heap_alloc_new w5 _)
            have KR6 := Lib.hid ((KR.out.next h5).next (made_alloc (Made.refl w5) (.cells x.cells.toArray 40)))
            clear h5 hcw hbw KR
            rcases hsub with ⟨rfl, ho⟩ | ⟨rfl, ho⟩
            · have HOK := Lib.hid ho
              have HSM := Lib.hid (show ∀ y ∈ [x], y.small from fun y hy => by obtain rfl := List.mem_singleton.1 hy; exact hxs)
              clear ho hxs
              go_upto_region 28 with (fail)
              clear c0 c1 c2 c3 c4 fq lq
              refine world_named (fun u => InAt u w5.heap.size x ∧ RowAt w w.heap.size (w.heap.size + 1) zeroPkL so l.length c n0 n1 false false l u) ⟨IB.out, KR6.out⟩ ?_
              rintro z6 ⟨hb6, hk6⟩
              have B6 := Lib.hid hb6
              have KR := Lib.hid hk6
              clear hb6 hk6 IB KR6
              obtain ⟨c0, c1, c2, c3, c4⟩ := pk5 KR.out.qk
              have fq := free_of_lit KR.out.qk
              have lq := heap_lt KR.out.qk
              obtain ⟨x0, x1, x2, x3, x4, x5, x6, x7, x8, x9, x10⟩ := in_cells B6.out
              have lx := heap_lt B6.out
              have m2 : Made z6 (z6.alloc (.cells (flatI [x]).toArray 40)) := (Made.refl z6).alloc (Nat.le_refl _) _
              have KA := Lib.hid (KR.out.next m2)
              have HOL := Lib.hid (insts_olds (insts_lit (l := [x]) (n := 1) (heap_alloc_new z6 (.cells (flatI [x]).toArray 40)) rfl (by omega) HSM.out))
              have hsz := Lib.hid (show w.heap.size + 1 + 1 ≤ (z6.alloc (.cells (flatI [x]).toArray 40)).heap.size from by have := heap_lt KA.out.qk; omega)
              have hmx : l.length + 1 ≤ maxLen := by unfold maxLen; omega
              have hby : (l.length + 1) * 24 ≤ 140737488355328 := by omega
              clear m2
              go_upto_region 29 with (at_builtin; refine wpList_append_each rfl (.tmp 130) (.tmp 132) 27 rfl (w.heap.size + 1 + 1) 40 i0 (In.val inZero) 11 24 Tryz.underlying27 hi0 hz0 hz1 hz2 rfl (by decide) (.slice so l.length c) l.length (flatI l) rfl KA.out.row (some ⟨z6.heap.size, 0, none⟩) 1 1 (flatI [x]) rfl (fun h => by simp at h) rfl HOL.out (flatI_one _) hmx hby hsz.out ?_; intro v7 w9 own1 gr1; obtain ⟨s7, c7, hv7⟩ := own_slice own1; subst hv7; have KG := Lib.hid (row_grows KA.out HSM.out own1 gr1); have q9 := row_far KA.out gr1; obtain ⟨g0, g1, g2, g3, g4⟩ := pk5 q9; have fg := free_of_lit q9; have lg := heap_lt q9; clear own1 gr1 q9)
              clear HOL hsz hmx hby KA
              clear c0 c1 c2 c3 c4 fq lq g0 g1 g2 g3 g4 fg lg x0 x1 x2 x3 x4 x5 x6 x7 x8 x9 x10 lx B6 KR
              have KN := Lib.hid KG.out
              clear KG
              have HST := Lib.hid (HSTEP.out _ (HNX.out.symm.trans (HO1.out.symm.trans HOK.out)))
              go_wp2
              go_roundw
              case rel => exact ⟨k + 1, ⟨l ++ [x], false, 0, false⟩, _, _, by omega, rfl, rfl, by go_num, HO1.out.symm.trans HOK.out, HST.out.1, fun h => by have := HST.out.2.2.1 h; omega, by rw [List.length_append]; show l.length + 1 ≤ _; omega, by rw [HN0.out, HN1.out, List.length_append]; exact KN.out⟩
              case measure => simp [intOf]; omega
            · have HF := Lib.hid (HFAIL.out ho)
              clear ho hxs
              go_upto_region 27 with (fail)
              clear c0 c1 c2 c3 c4 fq lq
              refine world_named (fun u => RowAt w w.heap.size (w.heap.size + 1) zeroPkL so l.length c n0 n1 false false l u) KR6.out ?_
              intro zn hzn
              clear KR6
              have KR := Lib.hid hzn
              clear hzn
              obtain ⟨a0, a1, a2, a3, a4⟩ := pk5 KR.out.pk
              have fa := free_of_lit KR.out.pk
              have la := heap_lt KR.out.pk
              go_wp2
              refine bodyPost_ret (v := .tuple #[pkV none 0 0 false false false false, .bool false]) (by simp [results, Tryz.results12, go_sem, a0, a1, a2, a3, a4]) rfl ?_
              exact unpackedR_none HF.out (Below.setCell (Below.setCell (Below.setCell (Below.setCell (Below.setCell KR.out.made (p := ⟨w.heap.size, 0, none⟩) (Nat.le_refl _) _) (p := ⟨w.heap.size, 1, none⟩) (Nat.le_refl _) _) (p := ⟨w.heap.size, 2, none⟩) (Nat.le_refl _) _) (p := ⟨w.heap.size, 3, none⟩) (Nat.le_refl _) _) (p := ⟨w.heap.size, 4, none⟩) (Nat.le_refl _) _)
        · first | subst hev | cases hev
          all_goals
            go_wp2_with (first | (go_at_call 20; refine (HP.out _).mono ?_; rintro e w' ⟨rfl, rfl⟩) | (go_at_call 24; refine (HC.out _).mono ?_; rintro e w' ⟨rfl, rfl⟩))
            refine (HINS.out _).mono ?_
            rintro e w5 ⟨rfl, h5⟩
            have hxs := instP_small z up has pc
            generalize instP z up has pc = x at *
            generalize instB z up has pc = ib at *
            have IB := Lib.hid (show InAt (w5.alloc (.cells x.cells.toArray 40)) w5.heap.size x from heap_alloc_new w5 _)
            have KR6 := Lib.hid ((KR.out.next h5).next (made_alloc (Made.refl w5) (.cells x.cells.toArray 40)))
            clear h5 hcw hbw KR
            rcases hsub with ⟨rfl, ho⟩ | ⟨rfl, ho⟩
            · have HOK := Lib.hid ho
              have HSM := Lib.hid (show ∀ y ∈ [x], y.small from fun y hy => by obtain rfl := List.mem_singleton.1 hy; exact hxs)
              clear ho hxs
              go_upto_region 28 with (fail)
              clear c0 c1 c2 c3 c4 fq lq
              refine world_named (fun u => InAt u w5.heap.size x ∧ RowAt w w.heap.size (w.heap.size + 1) zeroPkL so l.length c n0 n1 false false l u) ⟨IB.out, KR6.out⟩ ?_
              rintro z6 ⟨hb6, hk6⟩
              have B6 := Lib.hid hb6
              have KR := Lib.hid hk6
              clear hb6 hk6 IB KR6
              obtain ⟨c0, c1, c2, c3, c4⟩ := pk5 KR.out.qk
              have fq := free_of_lit KR.out.qk
              have lq := heap_lt KR.out.qk
              obtain ⟨x0, x1, x2, x3, x4, x5, x6, x7, x8, x9, x10⟩ := in_cells B6.out
              have lx := heap_lt B6.out
              have m2 : Made z6 (z6.alloc (.cells (flatI [x]).toArray 40)) := (Made.refl z6).alloc (Nat.le_refl _) _
              have KA := Lib.hid (KR.out.next m2)
              have HOL := Lib.hid (insts_olds (insts_lit (l := [x]) (n := 1) (heap_alloc_new z6 (.cells (flatI [x]).toArray 40)) rfl (by omega) HSM.out))
              have hsz := Lib.hid (show w.heap.size + 1 + 1 ≤ (z6.alloc (.cells (flatI [x]).toArray 40)).heap.size from by have := heap_lt KA.out.qk; omega)
              have hmx : l.length + 1 ≤ maxLen := by unfold maxLen; omega
              have hby : (l.length + 1) * 24 ≤ 140737488355328 := by omega
              clear m2
              go_upto_region 29 with (at_builtin; refine wpList_append_each rfl (.tmp 130) (.tmp 132) 27 rfl (w.heap.size + 1 + 1) 40 i0 (In.val inZero) 11 24 Tryz.underlying27 hi0 hz0 hz1 hz2 rfl (by decide) (.slice so l.length c) l.length (flatI l) rfl KA.out.row (some ⟨z6.heap.size, 0, none⟩) 1 1 (flatI [x]) rfl (fun h => by simp at h) rfl HOL.out (flatI_one _) hmx hby hsz.out ?_; intro v7 w9 own1 gr1; obtain ⟨s7, c7, hv7⟩ := own_slice own1; subst hv7; have KG := Lib.hid (row_grows KA.out HSM.out own1 gr1); have q9 := row_far KA.out gr1; obtain ⟨g0, g1, g2, g3, g4⟩ := pk5 q9; have fg := free_of_lit q9; have lg := heap_lt q9; clear own1 gr1 q9)
              clear HOL hsz hmx hby KA
              clear c0 c1 c2 c3 c4 fq lq g0 g1 g2 g3 g4 fg lg x0 x1 x2 x3 x4 x5 x6 x7 x8 x9 x10 lx B6 KR
              have KN := Lib.hid KG.out
              clear KG
              have HST := Lib.hid (HSTEP.out _ (HNX.out.symm.trans (HO1.out.symm.trans HOK.out)))
              go_wp2
              go_roundw
              case rel => exact ⟨k + 1, ⟨l ++ [x], false, 0, false⟩, _, _, by omega, rfl, rfl, by go_num, HO1.out.symm.trans HOK.out, HST.out.1, fun h => by have := HST.out.2.2.1 h; omega, by rw [List.length_append]; show l.length + 1 ≤ _; omega, by rw [HN0.out, HN1.out, List.length_append]; exact KN.out⟩
              case measure => simp [intOf]; omega
            · have HF := Lib.hid (HFAIL.out ho)
              clear ho hxs
              go_upto_region 27 with (fail)
              clear c0 c1 c2 c3 c4 fq lq
              refine world_named (fun u => RowAt w w.heap.size (w.heap.size + 1) zeroPkL so l.length c n0 n1 false false l u) KR6.out ?_
              intro zn hzn
              clear KR6
              have KR := Lib.hid hzn
              clear hzn
              obtain ⟨a0, a1, a2, a3, a4⟩ := pk5 KR.out.pk
              have fa := free_of_lit KR.out.pk
              have la := heap_lt KR.out.pk
              go_wp2
              refine bodyPost_ret (v := .tuple #[pkV none 0 0 false false false false, .bool false]) (by simp [results, Tryz.results12, go_sem, a0, a1, a2, a3, a4]) rfl ?_
              exact unpackedR_none HF.out (Below.setCell (Below.setCell (Below.setCell (Below.setCell (Below.setCell KR.out.made (p := ⟨w.heap.size, 0, none⟩) (Nat.le_refl _) _) (p := ⟨w.heap.size, 1, none⟩) (Nat.le_refl _) _) (p := ⟨w.heap.size, 2, none⟩) (Nat.le_refl _) _) (p := ⟨w.heap.size, 3, none⟩) (Nat.le_refl _) _) (p := ⟨w.heap.size, 4, none⟩) (Nat.le_refl _) _)
    · have hb1 : decide ((k : Int) > 1) = true := decide_eq_true (by omega)
      have hb2 : ((k : Int) == 0) = false := beq_eq_false_iff_ne.2 (by omega)
      have hb3 : ((k : Int) == 1) = false := beq_eq_false_iff_ne.2 (by omega)
      have ho : o1 = none := by
        rcases HWAY.out with ⟨-, -, h⟩ | ⟨h, -⟩ | ⟨h, -⟩ | ⟨h, -⟩
        · exact h
        all_goals exact absurd ⟨rfl, h1k⟩ h
      have HF := Lib.hid (HFAIL.out ho)
      clear ho
      go_upto_region 13 with (go_at_call 20; refine (HP.out _).mono ?_; rintro e w' ⟨rfl, rfl⟩)
      obtain ⟨a0, a1, a2, a3, a4⟩ := pk5 KR.out.pk
      have fa := free_of_lit KR.out.pk
      have la := heap_lt KR.out.pk
      go_wp2
      refine bodyPost_ret (v := .tuple #[pkV none 0 0 false false false false, .bool false]) (by simp [results, Tryz.results12, go_sem, a0, a1, a2, a3, a4]) rfl ?_
      exact unpackedR_none HF.out (Below.setCell (Below.setCell (Below.setCell (Below.setCell (Below.setCell KR.out.made (p := ⟨w.heap.size, 0, none⟩) (Nat.le_refl _) _) (p := ⟨w.heap.size, 1, none⟩) (Nat.le_refl _) _) (p := ⟨w.heap.size, 2, none⟩) (Nat.le_refl _) _) (p := ⟨w.heap.size, 3, none⟩) (Nat.le_refl _) _) (p := ⟨w.heap.size, 4, none⟩) (Nat.le_refl _) _)
    · have hq2b : (q == 2) = false := beq_eq_false_iff_ne.2 hq2
      have HQ2 := Lib.hid hq2
      obtain ⟨n0, hn0⟩ : ∃ v : Bool, v = m0 := ⟨_, rfl⟩
      obtain ⟨n1, hn1⟩ : ∃ v : Bool, v = m1 := ⟨_, rfl⟩
      have HN0 := Lib.hid (show markTo zs (k + 1) 0 = n0 by rw [HM0.out, hn0, HMK0.out, hq2b]; simp)
      have HN1 := Lib.hid (show markTo zs (k + 1) 1 = n1 by rw [HM1.out, hn1, HMK1.out, hq2b]; simp)
      subst hn0 hn1
      clear hq2
      rcases HWAY.out with ⟨hx, hx2, -⟩ | ⟨-, hk1, hq0, hsub⟩ | ⟨-, hnq, hcd, hsub⟩ | ⟨-, hnq, hcd, hsub⟩
      · exact absurd hx HQ2.out
      · subst hq0
        obtain rfl : en = true := HEN.out.2 hk1
        go_wp2_with (go_at_call 20; refine (HP.out _).mono ?_; rintro e w' ⟨rfl, rfl⟩)
        refine (HSPL.out _).mono ?_
        rintro e w5 ⟨rfl, h5⟩
        have KR5 := Lib.hid (KR.out.next h5)
        clear KR h5 hcw hbw c0 c1 c2 c3 c4 fq lq
        have hsml := fun h => split_says hzu (w := z) h
        generalize hsp : splitP z = sp at *
        obtain ⟨a, b2, ok⟩ := sp
        simp only [] at hsub hsml
        have B5 := Lib.hid (boxes_start (Made.refl w5) a b2)
        have KR := Lib.hid (KR5.out.next B5.out.made)
        clear KR5 hsp
        obtain ⟨c0, c1, c2, c3, c4⟩ := pk5 KR.out.qk
        have fq := free_of_lit KR.out.qk
        have lq := heap_lt KR.out.qk
        obtain ⟨x0, x1, x2, x3, x4, x5, x6, x7, x8, x9, x10⟩ := in_cells B5.out.fst
        obtain ⟨y0, y1, y2, y3, y4, y5, y6, y7, y8, y9, y10⟩ := in_cells B5.out.snd
        have lx := heap_lt B5.out.fst
        have ly := heap_lt B5.out.snd
        rcases hsub with ⟨rfl, rfl, ho⟩ | ⟨rfl, rfl, ho⟩ | ⟨rfl, ho⟩
        · have HOK := Lib.hid ho
          obtain ⟨sa, sb, -, -⟩ := hsml rfl
          have HSM := Lib.hid (show ∀ x ∈ [a, b2], x.small from fun x hx => by simp only [List.mem_cons, List.not_mem_nil, or_false] at hx; rcases hx with rfl | rfl; exact sa; exact sb)
          clear ho hsml sa sb
          go_upto_region 18 with (fail)
          clear c0 c1 c2 c3 c4 fq lq x0 x1 x2 x3 x4 x5 x6 x7 x8 x9 x10 y0 y1 y2 y3 y4 y5 y6 y7 y8 y9 y10 lx ly
          refine world_named (fun u => BothIn w5 w5.heap.size a b2 u ∧ RowAt w w.heap.size (w.heap.size + 1) zeroPkL so l.length c n0 n1 false false l u) ⟨B5.out, KR.out⟩ ?_
          rintro z6 ⟨hb6, hk6⟩
          have B6 := Lib.hid hb6
          clear KR B5
          have KR := Lib.hid hk6
          clear hb6 hk6
          obtain ⟨c0, c1, c2, c3, c4⟩ := pk5 KR.out.qk
          have fq := free_of_lit KR.out.qk
          have lq := heap_lt KR.out.qk
          obtain ⟨x0, x1, x2, x3, x4, x5, x6, x7, x8, x9, x10⟩ := in_cells B6.out.fst
          obtain ⟨y0, y1, y2, y3, y4, y5, y6, y7, y8, y9, y10⟩ := in_cells B6.out.snd
          have lx := heap_lt B6.out.fst
          have ly := heap_lt B6.out.snd
          have m2 : Made z6 (z6.alloc (.cells (flatI [a, b2]).toArray 40)) := (Made.refl z6).alloc (Nat.le_refl _) _
          have KA := Lib.hid (KR.out.next m2)
          have HOL := Lib.hid (insts_olds (insts_lit (l := [a, b2]) (n := 2) (heap_alloc_new z6 (.cells (flatI [a, b2]).toArray 40)) rfl (by omega) HSM.out))
          have hsz := Lib.hid (show w.heap.size + 1 + 1 ≤ (z6.alloc (.cells (flatI [a, b2]).toArray 40)).heap.size from by have := heap_lt KA.out.qk; omega)
          have hmx : l.length + 2 ≤ maxLen := by unfold maxLen; omega
          have hby : (l.length + 2) * 24 ≤ 140737488355328 := by omega
          clear m2
          go_upto_region 19 with (at_builtin; refine wpList_append_each rfl (.tmp 85) (.tmp 88) 27 rfl (w.heap.size + 1 + 1) 40 i0 (In.val inZero) 11 24 Tryz.underlying27 hi0 hz0 hz1 hz2 rfl (by decide) (.slice so l.length c) l.length (flatI l) rfl KA.out.row (some ⟨z6.heap.size, 0, none⟩) 2 2 (flatI [a, b2]) rfl (fun h => by simp at h) rfl HOL.out (flatI_one _) hmx hby hsz.out ?_; intro v7 w9 own1 gr1; obtain ⟨s7, c7, hv7⟩ := own_slice own1; subst hv7; have KG := Lib.hid (row_grows KA.out HSM.out own1 gr1); have q9 := row_far KA.out gr1; obtain ⟨g0, g1, g2, g3, g4⟩ := pk5 q9; have fg := free_of_lit q9; have lg := heap_lt q9; clear own1 gr1 q9)
          clear HOL hsz hmx hby KA
          clear c0 c1 c2 c3 c4 fq lq g0 g1 g2 g3 g4 fg lg x0 x1 x2 x3 x4 x5 x6 x7 x8 x9 x10 y0 y1 y2 y3 y4 y5 y6 y7 y8 y9 y10 lx ly B6 KR
          refine world_named (fun u => RowAt w w.heap.size (w.heap.size + 1) zeroPkL s7 (l.length + 2) c7 n0 n1 false false (l ++ [a, b2]) u) KG.out ?_
          intro z7 hz7
          have KR := Lib.hid hz7
          have KN := Lib.hid (row_dup hz7 true)
          clear hz7 KG
          obtain ⟨c0, c1, c2, c3, c4⟩ := pk5 KR.out.qk
          have fq := free_of_lit KR.out.qk
          have lq := heap_lt KR.out.qk
          have HST := Lib.hid (HSTEP.out _ (HNX.out.symm.trans (HO1.out.symm.trans HOK.out)))
          go_wp2
          go_roundw
          case rel => exact ⟨k + 1, ⟨l ++ [a, b2], true, up, false⟩, _, _, by omega, rfl, rfl, by go_num, HO1.out.symm.trans HOK.out, HST.out.1, fun h => by have := HST.out.2.2.1 h; omega, by rw [List.length_append]; show l.length + 2 ≤ _; omega, by rw [HN0.out, HN1.out, List.length_append]; exact KN.out⟩
          case measure => simp [intOf]; omega
        · have HF := Lib.hid (HFAIL.out ho)
          clear ho hsml
          go_upto_region 17 with (fail)
          clear c0 c1 c2 c3 c4 fq lq
          refine world_named (fun u => RowAt w w.heap.size (w.heap.size + 1) zeroPkL so l.length c n0 n1 false false l u) KR.out ?_
          intro zn hzn
          clear KR
          have KR := Lib.hid hzn
          clear hzn
          obtain ⟨a0, a1, a2, a3, a4⟩ := pk5 KR.out.pk
          have fa := free_of_lit KR.out.pk
          have la := heap_lt KR.out.pk
          go_wp2
          refine bodyPost_ret (v := .tuple #[pkV none 0 0 false false false false, .bool false]) (by simp [results, Tryz.results12, go_sem, a0, a1, a2, a3, a4]) rfl ?_
          exact unpackedR_none HF.out (Below.setCell (Below.setCell (Below.setCell (Below.setCell (Below.setCell KR.out.made (p := ⟨w.heap.size, 0, none⟩) (Nat.le_refl _) _) (p := ⟨w.heap.size, 1, none⟩) (Nat.le_refl _) _) (p := ⟨w.heap.size, 2, none⟩) (Nat.le_refl _) _) (p := ⟨w.heap.size, 3, none⟩) (Nat.le_refl _) _) (p := ⟨w.heap.size, 4, none⟩) (Nat.le_refl _) _)
        · have HF := Lib.hid (HFAIL.out ho)
          clear ho hsml
          go_upto_region 17 with (fail)
          clear c0 c1 c2 c3 c4 fq lq
          refine world_named (fun u => RowAt w w.heap.size (w.heap.size + 1) zeroPkL so l.length c n0 n1 false false l u) KR.out ?_
          intro zn hzn
          clear KR
          have KR := Lib.hid hzn
          clear hzn
          obtain ⟨a0, a1, a2, a3, a4⟩ := pk5 KR.out.pk
          have fa := free_of_lit KR.out.pk
          have la := heap_lt KR.out.pk
          go_wp2
          refine bodyPost_ret (v := .tuple #[pkV none 0 0 false false false false, .bool false]) (by simp [results, Tryz.results12, go_sem, a0, a1, a2, a3, a4]) rfl ?_
          exact unpackedR_none HF.out (Below.setCell (Below.setCell (Below.setCell (Below.setCell (Below.setCell KR.out.made (p := ⟨w.heap.size, 0, none⟩) (Nat.le_refl _) _) (p := ⟨w.heap.size, 1, none⟩) (Nat.le_refl _) _) (p := ⟨w.heap.size, 2, none⟩) (Nat.le_refl _) _) (p := ⟨w.heap.size, 3, none⟩) (Nat.le_refl _) _) (p := ⟨w.heap.size, 4, none⟩) (Nat.le_refl _) _)
      · have hgc := HGC.out
        rewrite [HG.out.1] at hgc
        have HC := Lib.hid hgc
        clear hgc
        have hev : en = false ∨ (en = true ∧ (q == 0) = false) := by
          cases h : en with
          | false => exact .inl rfl
          | true => exact .inr ⟨rfl, beq_eq_false_iff_ne.2 (fun h0 => hnq ⟨HEN.out.1 h, h0⟩)⟩
        rewrite [hcd] at HC
        clear hcd hnq
        rcases hsub with ⟨rfl, ho⟩ | ⟨rfl, hkn, ho⟩ | ⟨rfl, hkn, ho⟩
        · have HF := Lib.hid (HFAIL.out ho)
          clear ho
          rcases hev with hev | ⟨hev, gq⟩
          · first | subst hev | cases hev
            all_goals
              go_upto_region 22 with (first | (go_at_call 20; refine (HP.out _).mono ?_; rintro e w' ⟨rfl, rfl⟩) | (go_at_call 24; refine (HC.out _).mono ?_; rintro e w' ⟨rfl, rfl⟩))
              obtain ⟨a0, a1, a2, a3, a4⟩ := pk5 KR.out.pk
              have fa := free_of_lit KR.out.pk
              have la := heap_lt KR.out.pk
              go_wp2
              refine bodyPost_ret (v := .tuple #[pkV none 0 0 false false false false, .bool false]) (by simp [results, Tryz.results12, go_sem, a0, a1, a2, a3, a4]) rfl ?_
              exact unpackedR_none HF.out (Below.setCell (Below.setCell (Below.setCell (Below.setCell (Below.setCell KR.out.made (p := ⟨w.heap.size, 0, none⟩) (Nat.le_refl _) _) (p := ⟨w.heap.size, 1, none⟩) (Nat.le_refl _) _) (p := ⟨w.heap.size, 2, none⟩) (Nat.le_refl _) _) (p := ⟨w.heap.size, 3, none⟩) (Nat.le_refl _) _) (p := ⟨w.heap.size, 4, none⟩) (Nat.le_refl _) _)
          · first | subst hev | cases hev
            all_goals
              go_upto_region 22 with (first | (go_at_call 20; refine (HP.out _).mono ?_; rintro e w' ⟨rfl, rfl⟩) | (go_at_call 24; refine (HC.out _).mono ?_; rintro e w' ⟨rfl, rfl⟩))
              obtain ⟨a0, a1, a2, a3, a4⟩ := pk5 KR.out.pk
              have fa := free_of_lit KR.out.pk
              have la := heap_lt KR.out.pk
              go_wp2
              refine bodyPost_ret (v := .tuple #[pkV none 0 0 false false false false, .bool false]) (by simp [results, Tryz.results12, go_sem, a0, a1, a2, a3, a4]) rfl ?_
              exact unpackedR_none HF.out (Below.setCell (Below.setCell (Below.setCell (Below.setCell (Below.setCell KR.out.made (p := ⟨w.heap.size, 0, none⟩) (Nat.le_refl _) _) (p := ⟨w.heap.size, 1, none⟩) (Nat.le_refl _) _) (p := ⟨w.heap.size, 2, none⟩) (Nat.le_refl _) _) (p := ⟨w.heap.size, 3, none⟩) (Nat.le_refl _) _) (p := ⟨w.heap.size, 4, none⟩) (Nat.le_refl _) _)
        · have HF := Lib.hid (HFAIL.out ho)
          clear ho
          obtain rfl : en = true := HEN.out.2 hkn
          rcases hev with hev | ⟨hev, gq⟩
          · first | subst hev | cases hev
            all_goals
              go_upto_region 22 with (first | (go_at_call 20; refine (HP.out _).mono ?_; rintro e w' ⟨rfl, rfl⟩) | (go_at_call 24; refine (HC.out _).mono ?_; rintro e w' ⟨rfl, rfl⟩))
              obtain ⟨a0, a1, a2, a3, a4⟩ := pk5 KR.out.pk
              have fa := free_of_lit KR.out.pk
              have la := heap_lt KR.out.pk
              go_wp2
              refine bodyPost_ret (v := .tuple #[pkV none 0 0 false false false false, .bool false]) (by simp [results, Tryz.results12, go_sem, a0, a1, a2, a3, a4]) rfl ?_
              exact unpackedR_none HF.out (Below.setCell (Below.setCell (Below.setCell (Below.setCell (Below.setCell KR.out.made (p := ⟨w.heap.size, 0, none⟩) (Nat.le_refl _) _) (p := ⟨w.heap.size, 1, none⟩) (Nat.le_refl _) _) (p := ⟨w.heap.size, 2, none⟩) (Nat.le_refl _) _) (p := ⟨w.heap.size, 3, none⟩) (Nat.le_refl _) _) (p := ⟨w.heap.size, 4, none⟩) (Nat.le_refl _) _)
          · first | subst hev | cases hev
            all_goals
              go_upto_region 22 with (first | (go_at_call 20; refine (HP.out _).mono ?_; rintro e w' ⟨rfl, rfl⟩) | (go_at_call 24; refine (HC.out _).mono ?_; rintro e w' ⟨rfl, rfl⟩))
              obtain ⟨a0, a1, a2, a3, a4⟩ := pk5 KR.out.pk
              have fa := free_of_lit KR.out.pk
              have la := heap_lt KR.out.pk
              go_wp2
              refine bodyPost_ret (v := .tuple #[pkV none 0 0 false false false false, .bool false]) (by simp [results, Tryz.results12, go_sem, a0, a1, a2, a3, a4]) rfl ?_
              exact unpackedR_none HF.out (Below.setCell (Below.setCell (Below.setCell (Below.setCell (Below.setCell KR.out.made (p := ⟨w.heap.size, 0, none⟩) (Nat.le_refl _) _) (p := ⟨w.heap.size, 1, none⟩) (Nat.le_refl _) _) (p := ⟨w.heap.size, 2, none⟩) (Nat.le_refl _) _) (p := ⟨w.heap.size, 3, none⟩) (Nat.le_refl _) _) (p := ⟨w.heap.size, 4, none⟩) (Nat.le_refl _) _)
        · have HOK := Lib.hid ho
          obtain rfl : en = false := by cases h : en with | false => rfl | true => exact absurd (HEN.out.1 h) hkn
          clear ho hev
          have gcw := fun d os => cell_regrown hcw d os
          obtain ⟨hga, hgb⟩ := get_low13 z
          have HPZ := Lib.hid HG.out.2
          have HA1 := HGA.out
          have HB1 := HGB.out
          generalize getZ z 16 10 = ga at *
          generalize getZ z 0 14 = gb at *
          have HGA2 := Lib.hid (fun u => HA1.makes u)
          have HGB2 := Lib.hid (fun u => HB1.makes u)
          clear HA1 HB1
          go_upto_region 23 with (first | (go_at_call 20; refine (HP.out _).mono ?_; rintro e w' ⟨rfl, rfl⟩) | (go_at_call 24; refine (HC.out _).mono ?_; rintro e w' ⟨rfl, rfl⟩))
          refine wp_region_quiet_below (by kernel_rfl) (by kernel_rfl) ?_
          repeat (go_big_quiet_step ((first
            | (go_at_call 24; with_reducible exact (HGA2.out _).again _ _)
            | (go_at_call 24; with_reducible exact (HGB2.out _).again _ _))))
          refine wpQuiet_nil ?_
          intro z3 hz3
          have KN := Lib.hid (KR.out.next (made_regrown hz3))
          clear hz3 gcw hcw hbw c0 c1 c2 c3 c4 fq lq KR
          have HST := Lib.hid (HSTEP.out _ (HNX.out.symm.trans (HO1.out.symm.trans HOK.out)))
          go_wp2
          go_roundw
          case rel => exact ⟨k + 1, ⟨l, false, payZ z, true⟩, _, _, by omega, by rw [← HPZ.out], rfl, by go_num, HO1.out.symm.trans HOK.out, HST.out.1, fun h => by have := HST.out.2.2.1 h; omega, Nat.le_trans hll (by omega), by rw [HN0.out, HN1.out]; exact KN.out⟩
          case measure => simp [intOf]; omega
      · have hgc := HGC.out
        rewrite [HG.out.1] at hgc
        have HC := Lib.hid hgc
        clear hgc
        have hev : en = false ∨ (en = true ∧ (q == 0) = false) := by
          cases h : en with
          | false => exact .inl rfl
          | true => exact .inr ⟨rfl, beq_eq_false_iff_ne.2 (fun h0 => hnq ⟨HEN.out.1 h, h0⟩)⟩
        have hcf : (codeZ z == 0) = false := beq_eq_false_iff_ne.2 hcd
        clear hcd hnq
        rcases hev with hev | ⟨hev, gq⟩
        · first | subst hev | cases hev
          all_goals
            go_wp2_with (first | (go_at_call 20; refine (HP.out _).mono ?_; rintro e w' ⟨rfl, rfl⟩) | (go_at_call 24; refine (HC.out _).mono ?_; rintro e w' ⟨rfl, rfl⟩))
            refine (HINS.out _).mono ?_
            rintro e w5 ⟨rfl, h5⟩
            have hxs := instP_small z up has pc
            generalize instP z up has pc = x at *
            generalize instB z up has pc = ib at *
            have IB := Lib.hid (show InAt (w5.alloc (.cells x.cells.toArray 40)) w5.heap.size x from heap_alloc_new w5 _)
            have KR6 := Lib.hid ((KR.out.next h5).next (made_alloc (Made.refl w5) (.cells x.cells.toArray 40)))
            clear h5 hcw hbw KR
            rcases hsub with ⟨rfl, ho⟩ | ⟨rfl, ho⟩
            · have HOK := Lib.hid ho
              have HSM := Lib.hid (show ∀ y ∈ [x], y.small from fun y hy => by obtain rfl := List.mem_singleton.1 hy; exact hxs)
              clear ho hxs
              go_upto_region 28 with (fail)
              clear c0 c1 c2 c3 c4 fq lq
              refine world_named (fun u => InAt u w5.heap.size x ∧ RowAt w w.heap.size (w.heap.size + 1) zeroPkL so l.length c n0 n1 false false l u) ⟨IB.out, KR6.out⟩ ?_
              rintro z6 ⟨hb6, hk6⟩
              have B6 := Lib.hid hb6
              have KR := Lib.hid hk6
              clear hb6 hk6 IB KR6
              obtain ⟨c0, c1, c2, c3, c4⟩ := pk5 KR.out.qk
              have fq := free_of_lit KR.out.qk
              have lq := heap_lt KR.out.qk
              obtain ⟨x0, x1, x2, x3, x4, x5, x6, x7, x8, x9, x10⟩ := in_cells B6.out
              have lx := heap_lt B6.out
              have m2 : Made z6 (z6.alloc (.cells (flatI [x]).toArray 40)) := (Made.refl z6).alloc (Nat.le_refl _) _
              have KA := Lib.hid (KR.out.next m2)
              have HOL := Lib.hid (insts_olds (insts_lit (l := [x]) (n := 1) (heap_alloc_new z6 (.cells (flatI [x]).toArray 40)) rfl (by omega) HSM.out))
              have hsz := Lib.hid (show w.heap.size + 1 + 1 ≤ (z6.alloc (.cells (flatI [x]).toArray 40)).heap.size from by have := heap_lt KA.out.qk; omega)
              have hmx : l.length + 1 ≤ maxLen := by unfold maxLen; omega
              have hby : (l.length + 1) * 24 ≤ 140737488355328 := by omega
              clear m2
              go_upto_region 29 with (at_builtin; refine wpList_append_each rfl (.tmp 130) (.tmp 132) 27 rfl (w.heap.size + 1 + 1) 40 i0 (In.val inZero) 11 24 Tryz.underlying27 hi0 hz0 hz1 hz2 rfl (by decide) (.slice so l.length c) l.length (flatI l) rfl KA.out.row (some ⟨z6.heap.size, 0, none⟩) 1 1 (flatI [x]) rfl (fun h => by simp at h) rfl HOL.out (flatI_one _) hmx hby hsz.out ?_; intro v7 w9 own1 gr1; obtain ⟨s7, c7, hv7⟩ := own_slice own1; subst hv7; have KG := Lib.hid (row_grows KA.out HSM.out own1 gr1); have q9 := row_far KA.out gr1; obtain ⟨g0, g1, g2, g3, g4⟩ := pk5 q9; have fg := free_of_lit q9; have lg := heap_lt q9; clear own1 gr1 q9)
              clear HOL hsz hmx hby KA
              clear c0 c1 c2 c3 c4 fq lq g0 g1 g2 g3 g4 fg lg x0 x1 x2 x3 x4 x5 x6 x7 x8 x9 x10 lx B6 KR
              have KN := Lib.hid KG.out
              clear KG
              have HST := Lib.hid (HSTEP.out _ (HNX.out.symm.trans (HO1.out.symm.trans HOK.out)))
              go_wp2
              go_roundw
              case rel => exact ⟨k + 1, ⟨l ++ [x], false, 0, false⟩, _, _, by omega, rfl, rfl, by go_num, HO1.out.symm.trans HOK.out, HST.out.1, fun h => by have := HST.out.2.2.1 h; omega, by rw [List.length_append]; show l.length + 1 ≤ _; omega, by rw [HN0.out, HN1.out, List.length_append]; exact KN.out⟩
              case measure => simp [intOf]; omega
            · have HF := Lib.hid (HFAIL.out ho)
              clear ho hxs
              go_upto_region 27 with (fail)
              clear c0 c1 c2 c3 c4 fq lq
              refine world_named (fun u => RowAt w w.heap.size (w.heap.size + 1) zeroPkL so l.length c n0 n1 false false l u) KR6.out ?_
              intro zn hzn
              clear KR6
              have KR := Lib.hid hzn
              clear hzn
              obtain ⟨a0, a1, a2, a3, a4⟩ := pk5 KR.out.pk
              have fa := free_of_lit KR.out.pk
              have la := heap_lt KR.out.pk
              go_wp2
              refine bodyPost_ret (v := .tuple #[pkV none 0 0 false false false false, .bool false]) (by simp [results, Tryz.results12, go_sem, a0, a1, a2, a3, a4]) rfl ?_
              exact unpackedR_none HF.out (Below.setCell (Below.setCell (Below.setCell (Below.setCell (Below.setCell KR.out.made (p := ⟨w.heap.size, 0, none⟩) (Nat.le_refl _) _) (p := ⟨w.heap.size, 1, none⟩) (Nat.le_refl _) _) (p := ⟨w.heap.size, 2, none⟩) (Nat.le_refl _) _) (p := ⟨w.heap.size, 3, none⟩) (Nat.le_refl _) _) (p := ⟨w.heap.size, 4, none⟩) (Nat.le_refl _) _)
        · first | subst hev | cases hev
          all_goals
            go_wp2_with (first | (go_at_call 20; refine (HP.out _).mono ?_; rintro e w' ⟨rfl, rfl⟩) | (go_at_call 24; refine (HC.out _).mono ?_; rintro e w' ⟨rfl, rfl⟩))
            refine (HINS.out _).mono ?_
            rintro e w5 ⟨rfl, h5⟩
            have hxs := instP_small z up has pc
            generalize instP z up has pc = x at *
            generalize instB z up has pc = ib at *
            have IB := Lib.hid (show InAt (w5.alloc (.cells x.cells.toArray 40)) w5.heap.size x from heap_alloc_new w5 _)
            have KR6 := Lib.hid ((KR.out.next h5).next (made_alloc (Made.refl w5) (.cells x.cells.toArray 40)))
            clear h5 hcw hbw KR
            rcases hsub with ⟨rfl, ho⟩ | ⟨rfl, ho⟩
            · have HOK := Lib.hid ho
              have HSM := Lib.hid (show ∀ y ∈ [x], y.small from fun y hy => by obtain rfl := List.mem_singleton.1 hy; exact hxs)
              clear ho hxs
              go_upto_region 28 with (fail)
              clear c0 c1 c2 c3 c4 fq lq
              refine world_named (fun u => InAt u w5.heap.size x ∧ RowAt w w.heap.size (w.heap.size + 1) zeroPkL so l.length c n0 n1 false false l u) ⟨IB.out, KR6.out⟩ ?_
              rintro z6 ⟨hb6, hk6⟩
              have B6 := Lib.hid hb6
              have KR := Lib.hid hk6
              clear hb6 hk6 IB KR6
              obtain ⟨c0, c1, c2, c3, c4⟩ := pk5 KR.out.qk
              have fq := free_of_lit KR.out.qk
              have lq := heap_lt KR.out.qk
              obtain ⟨x0, x1, x2, x3, x4, x5, x6, x7, x8, x9, x10⟩ := in_cells B6.out
              have lx := heap_lt B6.out
              have m2 : Made z6 (z6.alloc (.cells (flatI [x]).toArray 40)) := (Made.refl z6).alloc (Nat.le_refl _) _
              have KA := Lib.hid (KR.out.next m2)
              have HOL := Lib.hid (insts_olds (insts_lit (l := [x]) (n := 1) (heap_alloc_new z6 (.cells (flatI [x]).toArray 40)) rfl (by omega) HSM.out))
              have hsz := Lib.hid (show w.heap.size + 1 + 1 ≤ (z6.alloc (.cells (flatI [x]).toArray 40)).heap.size from by have := heap_lt KA.out.qk; omega)
              have hmx : l.length + 1 ≤ maxLen := by unfold maxLen; omega
              have hby : (l.length + 1) * 24 ≤ 140737488355328 := by omega
              clear m2
              go_upto_region 29 with (at_builtin; refine wpList_append_each rfl (.tmp 130) (.tmp 132) 27 rfl (w.heap.size + 1 + 1) 40 i0 (In.val inZero) 11 24 Tryz.underlying27 hi0 hz0 hz1 hz2 rfl (by decide) (.slice so l.length c) l.length (flatI l) rfl KA.out.row (some ⟨z6.heap.size, 0, none⟩) 1 1 (flatI [x]) rfl (fun h => by simp at h) rfl HOL.out (flatI_one _) hmx hby hsz.out ?_; intro v7 w9 own1 gr1; obtain ⟨s7, c7, hv7⟩ := own_slice own1; subst hv7; have KG := Lib.hid (row_grows KA.out HSM.out own1 gr1); have q9 := row_far KA.out gr1; obtain ⟨g0, g1, g2, g3, g4⟩ := pk5 q9; have fg := free_of_lit q9; have lg := heap_lt q9; clear own1 gr1 q9)
              clear HOL hsz hmx hby KA
              clear c0 c1 c2 c3 c4 fq lq g0 g1 g2 g3 g4 fg lg x0 x1 x2 x3 x4 x5 x6 x7 x8 x9 x10 lx B6 KR
              have KN := Lib.hid KG.out
              clear KG
              have HST := Lib.hid (HSTEP.out _ (HNX.out.symm.trans (HO1.out.symm.trans HOK.out)))
              go_wp2
              go_roundw
              case rel => exact ⟨k + 1, ⟨l ++ [x], false, 0, false⟩, _, _, by omega, rfl, rfl, by go_num, HO1.out.symm.trans HOK.out, HST.out.1, fun h => by have := HST.out.2.2.1 h; omega, by rw [List.length_append]; show l.length + 1 ≤ _; omega, by rw [HN0.out, HN1.out, List.length_append]; exact KN.out⟩
              case measure => simp [intOf]; omega
            · have HF := Lib.hid (HFAIL.out ho)
              clear ho hxs
              go_upto_region 27 with (fail)
              clear c0 c1 c2 c3 c4 fq lq
              refine world_named (fun u => RowAt w w.heap.size (w.heap.size + 1) zeroPkL so l.length c n0 n1 false false l u) KR6.out ?_
              intro zn hzn
              clear KR6
              have KR := Lib.hid hzn
              clear hzn
              obtain ⟨a0, a1, a2, a3, a4⟩ := pk5 KR.out.pk
              have fa := free_of_lit KR.out.pk
              have la := heap_lt KR.out.pk
              go_wp2
              refine bodyPost_ret (v := .tuple #[pkV none 0 0 false false false false, .bool false]) (by simp [results, Tryz.results12, go_sem, a0, a1, a2, a3, a4]) rfl ?_
              exact unpackedR_none HF.out (Below.setCell (Below.setCell (Below.setCell (Below.setCell (Below.setCell KR.out.made (p := ⟨w.heap.size, 0, none⟩) (Nat.le_refl _) _) (p := ⟨w.heap.size, 1, none⟩) (Nat.le_refl _) _) (p := ⟨w.heap.size, 2, none⟩) (Nat.le_refl _) _) (p := ⟨w.heap.size, 3, none⟩) (Nat.le_refl _) _) (p := ⟨w.heap.size, 4, none⟩) (Nat.le_refl _) _)
end
end Go.Proofs.YtanjmoiepmadhaaGreatDoor
