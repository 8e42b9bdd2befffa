/- LegalRow of the laws of legal returns true, for every packet and any turns, in every world that holds the tables. -/
import Derived.Test.YtaieiaopdbhjaaaDoorLegalLaws
import Derived.Test.YtaieiaopdbhjaaaDoorGBase
import Derived.BigRegion
namespace Go.Proofs.YtaieiaopdbhjaaaDoor
open Go.ChangeShapes Go.WideShapes Go.ChangeAt Go.RowKit Go.Sort BigFrame

namespace legalRow
section
attribute [local irreducible] World.cell?
set_option maxRecDepth 100000 in
set_option maxHeartbeats 32000000 in
theorem walk (W : World) (hT : Tabs W) (ao : Option Addr) (cap : Nat) (l : List In) (e0 e1 raw dup : Bool) (tao : Option Addr) (tc : Nat) (ts : List Nat) (hI : Insts W ao cap l) (hN : Nums .u8 W tao tc ts) (hB : ∀ t, ts.getD t 0 < 256) :
    Calls Tryd.prog 4 #[pkV ao l.length cap e0 e1 raw dup, (.slice tao ts.length tc)] W fun e w' => e = .returned (.bool true) ∧ Made W w' := by
  have HA := Lib.hid (fun (u : World) (hu : Made W u) => awake11_any u (hT.made hu) u (Made.refl u))
  have K0 := Lib.hid (box_start (Made.refl W) (boxL ao l.length cap e0 e1 raw dup))
  have H := Lib.hid hI
  have hmax := hI.max
  have hroom := hI.room
  have hmax2 := hN.max
  have hroom2 := hN.room
  have HT := Lib.hid hT
  have HN := Lib.hid hN
  have HBB := Lib.hid hB
  have HB := Lib.hid (show ao = none → l.length = 0 ∧ cap = 0 from fun h => ⟨by rw [(hI.bare h).1]; rfl, (hI.bare h).2⟩)
  have HSM := Lib.hid hI.small
  unfold maxLen at hmax hmax2
  clear hI hT hN hB
  by_cases hlen : 7 < l.length ∨ 20 < ts.length
  · have hway : 7 < l.length ∨ (¬ 7 < l.length ∧ 20 < ts.length) := by omega
    clear hlen
    rcases hway with h7 | ⟨h7, h20⟩
    all_goals
      go_enter Tryd.func4, Tryd.ntmps4
      go_wp2_with (fail)
      refine (HA.out _ K0.out.made).mono ?_
      rintro e w1 ⟨rfl, hm1⟩
      have K1 := Lib.hid (Made.trans K0.out.made hm1)
      clear hm1
      go_wp2
      go_ret
      exact ⟨rfl, K1.out⟩
  · have h7 : ¬ 7 < l.length := by omega
    have h20 : ¬ 20 < ts.length := by omega
    clear hlen
    obtain ⟨i0, hi0, hz0, hz1, hz2⟩ := info_parts inst_row
    have hb1 : (0 + l.length) * 24 ≤ 140737488355328 := by omega
    have hx1 : 0 + l.length ≤ maxLen := by unfold maxLen; omega
    have hil := flatI_len l
    go_enter Tryd.func4, Tryd.ntmps4
    go_upto_region 4 with (fail)
    refine name_world (fun u => PkTwo W W.heap.size (boxL ao l.length cap e0 e1 raw dup) u) (pkTwo_start W _) ?_
    intro u hu
    have KU := Lib.hid hu
    clear hu K0
    obtain ⟨p0, p1, p2, p3, p4⟩ := pk5 KU.out.pk
    obtain ⟨q0, q1, q2, q3, q4⟩ := pk5 KU.out.qk
    have lp := heap_lt KU.out.pk
    have lq := heap_lt KU.out.qk
    have m2 := (Made.refl u).alloc (Nat.le_refl _) (.cells #[] 24)
    have hown0 := World.ownsRow_made (e := 24) (size := 11) (base := W.heap.size + 1 + 1) u #[] 0 lq (Nat.zero_le _) rfl
    have H0 := Lib.hid hown0
    have HO := Lib.hid (insts_olds (insts_made H.out (Made.trans KU.out.made m2)))
    have K2 := Lib.hid m2
    have hsz := Lib.hid (show W.heap.size + 1 + 1 ≤ (u.alloc (.cells #[] 24)).heap.size from Nat.le_trans lq m2.size)
    clear m2 hown0
    go_upto_region 5 with (at_builtin; refine wpList_append_each rfl (.tmp 27) (.tmp 29) 26 rfl (W.heap.size + 1 + 1) 24 i0 (In.val inZero) 11 24 Tryd.underlying26 hi0 hz0 hz1 hz2 rfl (by decide) (.slice (some ⟨u.heap.size, 0, none⟩) 0 0) 0 [] rfl H0.out ao l.length cap (flatI l) rfl HB.out hil HO.out (flatI_one l) hx1 hb1 hsz.out ?_; intro v1 w1 hown1 hgr1; rewrite [List.nil_append, Nat.zero_add] at hown1; obtain ⟨-, s1, c1, rfl, -⟩ := owns_insts hown1 HSM.out; have hum : Made u w1 := (Below.grown K2.out hgr1 K2.out.size (fun k hk => (by have h2 : u.heap.size = k := (by simpa [Value.ownBlock] using hk); omega))); have K3 := Lib.hid (KU.out.next hum); have I1 := Lib.hid hown1; have d0 := (pk5 K3.out.qk).1; have f0 := free_of_lit K3.out.qk; clear hown1 hgr1 hum)
    refine name_world (fun u => RowAt W W.heap.size (W.heap.size + 1) (boxL ao l.length cap e0 e1 raw dup) s1 l.length c1 e0 e1 raw dup l u) (rowAt_start K3.out I1.out HSM.out) ?_
    intro u2 hu2
    have R0 := Lib.hid hu2
    clear hu2 p0 p1 p2 p3 p4 q0 q1 q2 q3 q4 lp lq K2 H0 HO hsz KU K3 I1 d0 f0
    have hwl := Lib.hid (Nat.le_refl W.heap.size)
    generalize W.heap.size = B at *
    obtain ⟨q0, q1, q2, q3, q4⟩ := pk5 R0.out.qk
    have lq := heap_lt R0.out.qk
    go_wp2_with (fail)
    go_loopw [7] (fun x wr => ∃ (i : Nat) (l' : List In), i ≤ ts.length ∧ x = .int .i64 i ∧ l'.Perm l ∧ RowAt W B (B + 1) (boxL ao l.length cap e0 e1 raw dup) s1 l.length c1 e0 e1 raw dup l' wr) (fun x _ => ts.length - (intOf x).toNat)
    case atStart => exact ⟨0, l, by omega, rfl, List.Perm.refl _, R0.out⟩
    case round =>
      obtain ⟨i, l', hi, rfl, hP, hR⟩ := hrel
      have KR := Lib.hid hR
      have HP := Lib.hid hP
      have hll : l'.length = l.length := hP.length_eq
      clear hR hP q0 q1 q2 q3 q4 lq R0
      obtain ⟨p0, p1, p2, p3, p4⟩ := pk5 KR.out.pk
      obtain ⟨q0, q1, q2, q3, q4⟩ := pk5 KR.out.qk
      have lp := heap_lt KR.out.pk
      have lq := heap_lt KR.out.qk
      by_cases hlt : i < ts.length ∧ 0 < l.length
      · obtain ⟨hit, hl0⟩ := hlt
        obtain ⟨g, rfl, hnc⟩ := row_some KR.out.row hl0
        obtain ⟨ad, rfl⟩ := HN.out.some hit
        have ct := (HN.out.made KR.out.made).cell ad rfl i hit
        have ht256 := HBB.out i
        generalize ts.getD i 0 = t at *
        have hka : ((i : Int)).tmod (l.length : Int) = ((i % l.length : Nat) : Int) := by rw [Int.tmod_eq_emod_of_nonneg (by omega)]; simp
        have hkb : ((t : Int)).tmod (l.length : Int) = ((t % l.length : Nat) : Int) := by rw [Int.tmod_eq_emod_of_nonneg (by omega)]; simp
        have ha : i % l.length < l.length := Nat.mod_lt _ hl0
        have hb : t % l.length < l.length := Nat.mod_lt _ hl0
        go_upto_region 11 with (fail)
        have hia : (i : Int) % (l.length : Int) = ((i % l.length : Nat) : Int) := by simp
        have hib : (t : Int) % (l.length : Int) = ((t % l.length : Nat) : Int) := by simp
        rewrite [hia, hib]
        clear hia hib hka hkb ct ht256
        generalize i % l.length = a at *
        generalize t % l.length = b at *
        have ha2 : a < l'.length := by omega
        have hb2 : b < l'.length := by omega
        obtain ⟨x, hx⟩ : ∃ x, l'[a] = x := ⟨_, rfl⟩
        obtain ⟨y, hy⟩ : ∃ y, l'[b] = y := ⟨_, rfl⟩
        obtain ⟨c0, c1', c2, c3, c4, c5, c6, c7, c8, c9, c10⟩ := rowI_cells KR.out.row ha2 x hx
        obtain ⟨d0, d1, d2, d3, d4, d5, d6, d7, d8, d9, d10⟩ := rowI_cells KR.out.row hb2 y hy
        have fr := KR.out.row.frozenAt
        have lg := (KR.out.row.lt g rfl).2
        have hne : B + 1 ≠ g := by have := (KR.out.row.lt g rfl).1; omega
        have hne2 : g ≠ B + 1 := fun h => hne h.symm
        have HX := Lib.hid hx
        have HY := Lib.hid hy
        have hfar : a = b ∨ (a ≠ b ∧ b ≠ a ∧ b * 11 ≠ a * 11) := by omega
        have hw := KR.out.swap ha2 hb2 x y hx hy
        have hpm : ((l'.set a y).set b x).Perm l := by
          rw [← hx, ← hy]
          exact (swap_perm l' a b ha2 hb2).trans HP.out
        generalize hl2 : (l'.set a y).set b x = l2 at *
        clear hl2
        have HW := Lib.hid hw
        have HPM := Lib.hid hpm
        clear hw hpm hx hy
        rcases hfar with rfl | ⟨hab, hba, hfar⟩
        case' inl =>
          obtain rfl : x = y := HX.out.symm.trans HY.out
          go_region
        case' inr => go_region
        all_goals
          go_upto_region 8 with (fail)
          refine name_world (fun u => RowAt W B (B + 1) (boxL ao l.length cap e0 e1 raw dup) (some ⟨g, 0, none⟩) l.length c1 e0 e1 raw dup l2 u) HW.out ?_
          clear HW
          intro u3 hu3
          have KS := Lib.hid hu3
          clear hu3 p0 p1 p2 p3 p4 q0 q1 q2 q3 q4 lp lq c0 c1' c2 c3 c4 c5 c6 c7 c8 c9 c10 d0 d1 d2 d3 d4 d5 d6 d7 d8 d9 d10 fr lg hne hne2 KR HP HX HY
          go_wp2
          go_roundw
          case rel => exact ⟨i + 1, l2, by omega, by go_num, HPM.out, KS.out⟩
          case measure => simp [intOf]; omega
      · have hway : ¬ i < ts.length ∨ (i < ts.length ∧ ¬ 0 < l.length) := by omega
        obtain ⟨-, s3, c3, e3, hI3⟩ := owns_insts KR.out.row KR.out.small
        obtain ⟨rfl, rfl⟩ : s1 = s3 ∧ c1 = c3 := by simpa using e3
        have hl1k : l.length ≤ 1000 := by omega
        have hl1k' : l'.length ≤ 1000 := by omega
        have hcp : legalP ⟨l', e0, e1, raw, dup⟩ = legalP ⟨l, e0, e1, raw, dup⟩ := legal_perm HP.out rfl rfl rfl rfl
        have htp : takesP ⟨l', e0, e1, raw, dup⟩ = takesP ⟨l, e0, e1, raw, dup⟩ := takes_perm HP.out rfl rfl rfl
        have hwp : wordsP ⟨l', e0, e1, raw, dup⟩ = wordsP ⟨l, e0, e1, raw, dup⟩ := words_perm HP.out rfl
        have hap : anyP l' = anyP l := any_perm HP.out
        have DS1 := Lib.hid (fun (z : World) (hz : Made W z) => lchoose_any ao cap l z (HT.out.made hz) (insts_made H.out hz) hl1k)
        have DS2 := Lib.hid (show ∀ z, Made wr z → Calls Tryd.prog 13 #[.slice s1 l.length c1] z (Chosen l' z) from fun z hz => by
          have h := lchoose_any s1 c1 l' z (HT.out.made (Made.trans KR.out.made hz)) (insts_made hI3 hz) hl1k'
          rw [hll] at h
          exact h)
        have HAP := Lib.hid hap
        have DC1 := Lib.hid (show ∀ v, Made W v → Makes Tryd.prog v 12 #[pkV ao l.length cap e0 e1 raw dup] (.int .i64 (legalP ⟨l, e0, e1, raw, dup⟩)) from fun v hv z hz =>
          (lcheck_any ao cap l e0 e1 raw dup z (HT.out.made (Made.trans hv hz)) (insts_made H.out (Made.trans hv hz)) hl1k).mono fun _ _ ⟨he, hm⟩ => ⟨he, Made.trans hz hm⟩)
        have DC2 := Lib.hid (show ∀ v, Made wr v → Makes Tryd.prog v 12 #[pkV s1 l.length c1 e0 e1 raw dup] (.int .i64 (legalP ⟨l, e0, e1, raw, dup⟩)) from fun v hv z hz => by
          have h := lcheck_any s1 c1 l' e0 e1 raw dup z (HT.out.made (Made.trans KR.out.made (Made.trans hv hz))) (insts_made hI3 (Made.trans hv hz)) hl1k'
          rw [hll, hcp] at h
          exact h.mono fun _ _ ⟨he, hm⟩ => ⟨he, Made.trans hz hm⟩)
        have DT1 := Lib.hid (show ∀ v, Made W v → Makes Tryd.prog v 14 #[pkV ao l.length cap e0 e1 raw dup] (.bool (takesP ⟨l, e0, e1, raw, dup⟩)) from fun v hv z hz =>
          (ltakes_any ao cap l e0 e1 raw dup z (HT.out.made (Made.trans hv hz)) (insts_made H.out (Made.trans hv hz)) hl1k).mono fun _ _ ⟨he, hm⟩ => ⟨he, Made.trans hz hm⟩)
        have DT2 := Lib.hid (show ∀ v, Made wr v → Makes Tryd.prog v 14 #[pkV s1 l.length c1 e0 e1 raw dup] (.bool (takesP ⟨l, e0, e1, raw, dup⟩)) from fun v hv z hz => by
          have h := ltakes_any s1 c1 l' e0 e1 raw dup z (HT.out.made (Made.trans KR.out.made (Made.trans hv hz))) (insts_made hI3 (Made.trans hv hz)) hl1k'
          rw [hll, htp] at h
          exact h.mono fun _ _ ⟨he, hm⟩ => ⟨he, Made.trans hz hm⟩)
        have DW1 := Lib.hid (show ∀ v, Made W v → Makes Tryd.prog v 16 #[pkV ao l.length cap e0 e1 raw dup] (.int .i64 (wordsP ⟨l, e0, e1, raw, dup⟩)) from fun v hv z hz =>
          (lwords_any ao cap l e0 e1 raw dup z (insts_made H.out (Made.trans hv hz)) hl1k).mono fun _ _ ⟨he, hm⟩ => ⟨he, Made.trans hz hm⟩)
        have DW2 := Lib.hid (show ∀ v, Made wr v → Makes Tryd.prog v 16 #[pkV s1 l.length c1 e0 e1 raw dup] (.int .i64 (wordsP ⟨l, e0, e1, raw, dup⟩)) from fun v hv z hz => by
          have h := lwords_any s1 c1 l' e0 e1 raw dup z (insts_made hI3 (Made.trans hv hz)) hl1k'
          rw [hll, hwp] at h
          exact h.mono fun _ _ ⟨he, hm⟩ => ⟨he, Made.trans hz hm⟩)
        clear hcp htp hwp hap hI3 e3 hlt HP hll hl1k hl1k'
        generalize legalP ⟨l, e0, e1, raw, dup⟩ = cv at *
        generalize takesP ⟨l, e0, e1, raw, dup⟩ = tv at *
        generalize wordsP ⟨l, e0, e1, raw, dup⟩ = wv at *
        have hne : (cv == cv) = true := by simp
        have hnt : (tv == tv) = true := by simp
        have hnw : (wv == wv) = true := by simp
        rcases hway with h1 | ⟨h1, h2⟩
        all_goals
          go_wp2_with (fail)
          refine (DS1.out _ KR.out.made).mono ?_
          rintro e z1 ⟨i1, j1, ok, rfl, hch1, hz1⟩
          have A1 := Lib.hid hz1
          have K1 := Lib.hid (KR.out.next hz1)
          have E1 := Lib.hid (choice_any hch1)
          clear hz1 hch1 p0 p1 p2 p3 p4 q0 q1 q2 q3 q4 lp lq
          obtain ⟨q0, q1, q2, q3, q4⟩ := pk5 K1.out.qk
          have lq := heap_lt K1.out.qk
          go_wp2_with (fail)
          refine (DS2.out _ A1.out).mono ?_
          rintro e z2 ⟨i2, j2, is, rfl, hch2, hz2⟩
          have A2 := Lib.hid (Made.trans A1.out hz2)
          have K2 := Lib.hid (K1.out.next hz2)
          obtain rfl : is = ok := by rw [choice_any hch2, E1.out, HAP.out]
          clear hz2 hch2 q0 q1 q2 q3 q4 lq E1 HAP
          obtain ⟨p0, p1, p2, p3, p4⟩ := pk5 K2.out.pk
          obtain ⟨q0, q1, q2, q3, q4⟩ := pk5 K2.out.qk
          have lp := heap_lt K2.out.pk
          have lq := heap_lt K2.out.qk
          have hno : (is == is) = true := by simp
          go_upto_region 14 with (fail)
          have gp0 := fun d os => cell_regrown p0 d os
          have gp1 := fun d os => cell_regrown p1 d os
          have gp2 := fun d os => cell_regrown p2 d os
          have gp3 := fun d os => cell_regrown p3 d os
          have gp4 := fun d os => cell_regrown p4 d os
          have gq0 := fun d os => cell_regrown q0 d os
          have gq1 := fun d os => cell_regrown q1 d os
          have gq2 := fun d os => cell_regrown q2 d os
          have gq3 := fun d os => cell_regrown q3 d os
          have gq4 := fun d os => cell_regrown q4 d os
          have F1 := Lib.hid (DC1.out z2 K2.out.made)
          have F2 := Lib.hid (DC2.out z2 A2.out)
          have F3 := Lib.hid (DT1.out z2 K2.out.made)
          have F4 := Lib.hid (DT2.out z2 A2.out)
          have F5 := Lib.hid (DW1.out z2 K2.out.made)
          have F6 := Lib.hid (DW2.out z2 A2.out)
          have F7 := Lib.hid (awake11_any z2 (HT.out.made K2.out.made))
          refine wp_region_quiet_below (by kernel_rfl) (by kernel_rfl) ?_
          repeat (go_big_quiet_step ((first
            | (go_at_call 12; with_reducible exact F1.out.again _ _)
            | (go_at_call 12; with_reducible exact F2.out.again _ _)
            | (go_at_call 14; with_reducible exact F3.out.again _ _)
            | (go_at_call 14; with_reducible exact F4.out.again _ _)
            | (go_at_call 16; with_reducible exact F5.out.again _ _)
            | (go_at_call 16; with_reducible exact F6.out.again _ _)
            | (go_at_call 15; with_reducible exact F7.out.again _ _))))
          refine wpQuiet_nil ?_
          intro z3 hw9
          have K4 := Lib.hid (K2.out.next (made_regrown hw9))
          clear hw9 gp0 p0 gp1 p1 gp2 p2 gp3 p3 gp4 p4 gq0 q0 gq1 q1 gq2 q2 gq3 q3 gq4 q4 lp lq F1 F2 F3 F4 F5 F6 F7 K2
          go_wp2
          go_ret
          exact ⟨rfl, K4.out.made⟩
end
end legalRow
end Go.Proofs.YtaieiaopdbhjaaaDoor
