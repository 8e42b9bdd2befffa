/- UnpackReads of the laws of unpack returns true, for any words and address, in every world that holds the tables. -/
import Derived.Test.YtanjmoiepmadhaaGreatDoorUnLaws3
import Derived.Test.YtanjmoiepmadhaaGreatDoorUnRef13b
namespace Go.Proofs.YtanjmoiepmadhaaGreatDoor
open Go.ChangeShapes Go.WideShapes Go.ChangeAt Go.RowKit Go.Sort BigFrame

namespace unpackReads
theorem ways {pc : Int} {zs : List Int} {er : Int} {p : Pk} (ht : unTell pc zs = (er, p)) : (lenP zs ≠ (zs.length, true) ∧ er = 1 ∧ p = pkZero) ∨ (lenP zs = (zs.length, true) ∧ ((unP pc zs = none ∧ er = 8 ∧ p = pkZero) ∨ ∃ s, unP pc zs = some s ∧ ((legalP (unPk zs s) ≠ 0 ∧ er = legalP (unPk zs s) ∧ p = pkZero) ∨ (legalP (unPk zs s) = 0 ∧ er = 0 ∧ p = unPk zs s)))) := by
  unfold unTell at ht
  by_cases h1 : lenP zs = (zs.length, true)
  · rw [if_pos h1] at ht
    refine .inr ⟨h1, ?_⟩
    cases h2 : unP pc zs with
    | none =>
      rw [h2] at ht
      exact .inl ⟨rfl, (Prod.mk.inj ht).1.symm, (Prod.mk.inj ht).2.symm⟩
    | some s =>
      rw [h2] at ht
      have ht2 : (if legalP (unPk zs s) = 0 then ((0 : Int), unPk zs s) else (legalP (unPk zs s), pkZero)) = (er, p) := ht
      refine .inr ⟨s, rfl, ?_⟩
      by_cases h3 : legalP (unPk zs s) = 0
      · rw [if_pos h3] at ht2
        exact .inr ⟨h3, (Prod.mk.inj ht2).1.symm, (Prod.mk.inj ht2).2.symm⟩
      · rw [if_neg h3] at ht2
        exact .inl ⟨h3, (Prod.mk.inj ht2).1.symm, (Prod.mk.inj ht2).2.symm⟩
  · rw [if_neg h1] at ht
    exact .inl ⟨h1, (Prod.mk.inj ht).1.symm, (Prod.mk.inj ht).2.symm⟩
section
attribute [local irreducible] World.cell?
set_option maxRecDepth 100000 in
set_option maxHeartbeats 32000000 in
theorem walk (W : World) (hT : Tabs W) (ao : Option Addr) (cap : Nat) (zs : List Int) (pc : Int) (hW : Ws W ao cap zs) (hu : U32s zs) (hpc : (Lit.int .u32 pc).wf = true) :
    Calls Tryz.prog 3 #[.slice ao zs.length cap, .int .u32 pc] W fun e w' => e = .returned (.bool true) ∧ Made W w' := by
  have hp := u32_of13 hpc
  have HA := Lib.hid (fun (u : World) (hu : Made W u) => awake13_any u (hT.made hu))
  have HW := Lib.hid hW
  have HT := Lib.hid hT
  have HU := Lib.hid hu
  clear hT hW hu hpc
  by_cases hlen : 8 < zs.length
  · have hb : decide ((zs.length : Int) > 8) = true := decide_eq_true (by omega)
    go_enter Tryz.func3, Tryz.ntmps3
    go_wp2_with (fail)
    refine (HA.out _ (Made.refl W)).mono ?_
    rintro e w1 ⟨rfl, h1⟩
    have M1 := Lib.hid h1
    clear h1
    go_wp2
    go_ret
    exact ⟨rfl, M1.out⟩
  have hb : decide ((zs.length : Int) > 8) = false := decide_eq_false (by omega)
  obtain ⟨er, p, htl⟩ : ∃ er p, unTell pc zs = (er, p) := ⟨_, _, rfl⟩
  obtain ⟨n, is, hln⟩ : ∃ n is, lenP zs = (n, is) := ⟨_, _, rfl⟩
  have hwy := ways htl
  rewrite [hln] at hwy
  have HWY := Lib.hid hwy
  have HTL := Lib.hid htl
  have HLN := Lib.hid hln
  have hn4 : n ≤ 4 := by
    have h := lenN_le zs 0
    unfold lenP at hln
    rw [hln] at h
    simpa using h
  clear htl hln hwy
  obtain ⟨l, e0, e1, raw, dup⟩ := p
  have hbn : ((n : Int) != (n : Int)) = false := by simp
  have hbi : (is != is) = false := by simp
  go_enter Tryz.func3, Tryz.ntmps3
  go_wp2_with (fail)
  refine (len_at HT.out HW.out HU.out (by omega) HLN.out).mono ?_
  rintro e w1 ⟨rfl, h1⟩
  have M1 := Lib.hid h1
  clear h1
  have hrl := rlen13_any ao cap zs w1 (HW.out.made M1.out) HU.out (by omega)
  unfold LenSays at hrl
  rewrite [HLN.out] at hrl
  have HRL := Lib.hid hrl
  clear hrl
  go_wp2_with (fail)
  refine HRL.out.mono ?_
  rintro e w2 ⟨rfl, h2⟩
  have M2 := Lib.hid (Made.trans M1.out h2)
  clear h2 M1 HRL
  go_wp2_with (fail)
  refine (unpack_at (HT.out.made M2.out) (HW.out.made M2.out) HU.out (by omega) hp HTL.out).mono ?_
  rintro e w3 ⟨so, c, rfl, hI, h3⟩
  have PB := Lib.hid (heap_alloc_new w3 (.cells (boxL so l.length c e0 e1 raw dup).toArray 29))
  have m3 := Lib.hid (made_alloc (Made.refl w3) (.cells (boxL so l.length c e0 e1 raw dup).toArray 29))
  have K3 := Lib.hid (show PkBox W w3.heap.size (boxL so l.length c e0 e1 raw dup) _ from ⟨Made.trans (Made.trans M2.out h3) m3.out, PB.out⟩)
  have I3 := Lib.hid (insts_made hI m3.out)
  clear hI h3 m3 PB M2 hbn hbi
  go_upto_region 8 with (fail)
  refine world_named (fun z => PkBox W w3.heap.size (boxL so l.length c e0 e1 raw dup) z ∧ Insts z so c l) ⟨K3.out, I3.out⟩ ?_
  rintro z3 ⟨k3, i3⟩
  have K4 := Lib.hid k3
  have I4 := Lib.hid i3
  clear k3 i3 K3 I3
  obtain ⟨c0, c1, c2, c3, c4⟩ := pk5 K4.out.at_
  have lc := heap_lt K4.out.at_
  rcases HWY.out with ⟨hne, rfl, hpz⟩ | ⟨hyes, hmore⟩
  · obtain ⟨rfl, rfl, rfl, rfl, rfl⟩ : l = [] ∧ e0 = false ∧ e1 = false ∧ raw = false ∧ dup = false := by simpa [pkZero] using hpz
    have hway : is = false ∨ (is = true ∧ ((n : Int) != (zs.length : Int)) = true) := by
      cases is with
      | false => exact .inl rfl
      | true => exact .inr ⟨rfl, bne_iff_ne.2 (fun h => hne (by rw [show n = zs.length by omega]))⟩
    have HS1 := Lib.hid (same_zero I4.out)
    clear hne hpz HWY HLN
    simp only [List.length_nil] at *
    rcases hway with rfl | ⟨rfl, hb4⟩
    all_goals
      go_wp2_with (fail)
      refine HS1.out.mono ?_
      rintro e w4 ⟨rfl, h4⟩
      have M4 := Lib.hid (Made.trans K4.out.made h4)
      clear h4
      go_wp2_with (fail)
      refine (HA.out _ M4.out).mono ?_
      rintro e w5 ⟨rfl, h5⟩
      have M5 := Lib.hid (Made.trans M4.out h5)
      clear h5
      go_wp2
      go_ret
      exact ⟨rfl, M5.out⟩
  obtain ⟨rfl, rfl⟩ := Prod.mk.inj hyes
  have HMR := Lib.hid hmore
  clear hyes hmore HWY
  have hbz : ((zs.length : Int) != (zs.length : Int)) = false := by simp
  have HRP := Lib.hid (rpacket13_any ao cap zs z3 (HW.out.made K4.out.made) HU.out (by omega) pc hp)
  go_wp2_with (fail)
  refine HRP.out.mono ?_
  rintro e w4 ⟨sq, cq, q, ok, rfl, hIq, h4, hnone, hsome⟩
  obtain ⟨m, f0, f1, fr, fd⟩ := q
  have CB := Lib.hid (heap_alloc_new w4 (.cells (boxL sq m.length cq f0 f1 fr fd).toArray 29))
  have m4 := Lib.hid (made_alloc (Made.refl w4) (.cells (boxL sq m.length cq f0 f1 fr fd).toArray 29))
  have K5 := Lib.hid (show TwoPk W w3.heap.size w4.heap.size (boxL so l.length c e0 e1 raw dup) (boxL sq m.length cq f0 f1 fr fd) _ from
    let k := (K4.out.next h4).next m4.out
    ⟨k.made, k.at_, CB.out⟩)
  have I5 := Lib.hid (And.intro (insts_made I4.out (Made.trans h4 m4.out)) (insts_made hIq m4.out))
  have HN := Lib.hid hnone
  have HSO := Lib.hid hsome
  clear hIq h4 m4 CB K4 I4 hnone hsome c0 c1 c2 c3 c4 lc hbz HRP
  go_upto_region 11 with (fail)
  refine world_named (fun z => TwoPk W w3.heap.size w4.heap.size (boxL so l.length c e0 e1 raw dup) (boxL sq m.length cq f0 f1 fr fd) z ∧ Insts z so c l ∧ Insts z sq cq m) ⟨K5.out, I5.out⟩ ?_
  rintro z5 ⟨k5, i5, j5⟩
  have K6 := Lib.hid k5
  have I6 := Lib.hid i5
  have J6 := Lib.hid j5
  clear k5 i5 j5 K5 I5
  obtain ⟨c0, c1, c2, c3, c4⟩ := pk5 K6.out.pk
  obtain ⟨d0, d1, d2, d3, d4⟩ := pk5 K6.out.qk
  have lc := heap_lt K6.out.pk
  have ld := heap_lt K6.out.qk
  rcases HMR.out with ⟨hun, rfl, hpz⟩ | ⟨s, hun, hrest⟩
  · obtain ⟨rfl, hqz⟩ := HN.out hun
    obtain ⟨rfl, rfl, rfl, rfl, rfl⟩ : l = [] ∧ e0 = false ∧ e1 = false ∧ raw = false ∧ dup = false := by simpa [pkZero] using hpz
    have HS1 := Lib.hid (same_zero I6.out)
    clear hun hpz hqz HMR HN HSO
    simp only [List.length_nil] at *
    go_wp2_with (fail)
    refine HS1.out.mono ?_
    rintro e w5 ⟨rfl, h5⟩
    have M5 := Lib.hid (Made.trans K6.out.made h5)
    clear h5 c0 c1 c2 c3 c4 d0 d1 d2 d3 d4 lc ld
    go_wp2_with (fail)
    refine (HA.out _ M5.out).mono ?_
    rintro e w6 ⟨rfl, h6⟩
    have M6 := Lib.hid (Made.trans M5.out h6)
    clear h6
    go_wp2
    go_ret
    exact ⟨rfl, M6.out⟩
  obtain ⟨rfl, hqs⟩ := HSO.out s hun
  rewrite [← hqs] at hrest
  have HR := Lib.hid hrest
  have hm8 : m.length ≤ 1000 := by
    have h := un_few HU.out hun
    rw [← hqs] at h
    simp only [] at h
    omega
  have HLK := Lib.hid (lcheck_any sq cq m f0 f1 fr fd z5 (HT.out.made K6.out.made) J6.out hm8)
  clear hun hqs hrest HMR HN HSO
  go_wp2_with (fail)
  refine HLK.out.mono ?_
  rintro e w5 ⟨rfl, h5⟩
  have K7 := Lib.hid (K6.out.next h5)
  have I7 := Lib.hid (insts_made I6.out h5)
  have J7 := Lib.hid (insts_made J6.out h5)
  clear h5 c0 c1 c2 c3 c4 d0 d1 d2 d3 d4 lc ld K6 I6 J6 HLK
  obtain ⟨c0, c1, c2, c3, c4⟩ := pk5 K7.out.pk
  obtain ⟨d0, d1, d2, d3, d4⟩ := pk5 K7.out.qk
  have lc := heap_lt K7.out.pk
  have ld := heap_lt K7.out.qk
  generalize legalP ⟨m, f0, f1, fr, fd⟩ = lv at *
  rcases HR.out with ⟨hlv, rfl, hpz⟩ | ⟨rfl, rfl, hpq⟩
  · obtain ⟨rfl, rfl, rfl, rfl, rfl⟩ : l = [] ∧ e0 = false ∧ e1 = false ∧ raw = false ∧ dup = false := by simpa [pkZero] using hpz
    have hb5 : (er != 0) = true := bne_iff_ne.2 hlv
    have hb6 : (er == er) = true := by simp
    have HS1 := Lib.hid (same_zero I7.out)
    clear hpz hlv HR
    simp only [List.length_nil] at *
    go_wp2_with (fail)
    refine HS1.out.mono ?_
    rintro e w6 ⟨rfl, h6⟩
    have M6 := Lib.hid (Made.trans K7.out.made h6)
    clear h6 c0 c1 c2 c3 c4 d0 d1 d2 d3 d4 lc ld
    go_wp2_with (fail)
    refine (HA.out _ M6.out).mono ?_
    rintro e w7 ⟨rfl, h7⟩
    have M7 := Lib.hid (Made.trans M6.out h7)
    clear h7
    go_wp2
    go_ret
    exact ⟨rfl, M7.out⟩
  · have hml : l.length ≤ 1000 := by
      have h : l = m := congrArg Pk.insts hpq
      rw [h]
      exact hm8
    have HS1 := Lib.hid (same_pk ⟨l, e0, e1, raw, dup⟩ ⟨m, f0, f1, fr, fd⟩ l.length m.length rfl rfl e0 e1 raw dup f0 f1 fr fd rfl rfl rfl rfl rfl rfl rfl rfl true ((samePk_iff _ _).2 hpq) w5 so sq c cq I7.out J7.out hml)
    clear hpq HR
    go_wp2_with (fail)
    refine HS1.out.mono ?_
    rintro e w6 ⟨rfl, h6⟩
    have M6 := Lib.hid (Made.trans K7.out.made h6)
    clear h6 c0 c1 c2 c3 c4 d0 d1 d2 d3 d4 lc ld
    go_wp2_with (fail)
    refine (HA.out _ M6.out).mono ?_
    rintro e w7 ⟨rfl, h7⟩
    have M7 := Lib.hid (Made.trans M6.out h7)
    clear h7
    go_wp2
    go_ret
    exact ⟨rfl, M7.out⟩
end
end unpackReads
end Go.Proofs.YtanjmoiepmadhaaGreatDoor
