/- UnpackLegal of the laws of unpack returns true, for any words and address, in every world that holds the tables. -/
import Derived.Test.YtanjmoiepmadhaaGreatDoorUnLaws2
namespace Go.Proofs.YtanjmoiepmadhaaGreatDoor
open Go.ChangeShapes Go.WideShapes Go.ChangeAt Go.RowKit Go.Sort BigFrame

theorem insts_zero (w : World) : Insts w none 0 [] := ⟨Nat.le_refl _, Nat.zero_le _, fun x hx => by simp at hx, fun _ => ⟨rfl, rfl⟩, fun t ht => absurd ht (Nat.not_lt_zero t)⟩
/-- A packet of nothing is the zero packet, wherever its instructions lie. -/
theorem same_zero {w : World} {so : Option Addr} {c : Nat} (h : Insts w so c []) : Calls Tryz.prog 11 #[pkV so 0 c false false false false, pkV none 0 0 false false false false] w fun e w' => e = .returned (.bool true) ∧ Made w w' :=
  same_pk pkZero pkZero 0 0 rfl rfl false false false false false false false false rfl rfl rfl rfl rfl rfl rfl rfl true (samePk_self _) w so none c 0 h (insts_zero w) (by omega)
theorem u32_of13 {a : Int} (h : (Lit.int .u32 a).wf = true) : isU32 a := by
  have e1 : IntKind.u32.min = 0 := rfl
  have e2 : IntKind.u32.max = 4294967295 := rfl
  simp only [Lit.wf, Bool.and_eq_true, decide_eq_true_eq] at h
  unfold isU32
  omega
/-- Two packets' variables that are made one behind the other. -/
structure TwoPk (W : World) (P Q : Nat) (ps qs : List Value) (w : World) : Prop where
  made : Made W w
  pk : w.heap[P]? = some (.cells ps.toArray 29 (0, 0))
  qk : w.heap[Q]? = some (.cells qs.toArray 29 (0, 0))
theorem TwoPk.next {W w w' : World} {P Q : Nat} {ps qs : List Value} (h : TwoPk W P Q ps qs w) (hm : Made w w') : TwoPk W P Q ps qs w' := ⟨Made.trans h.made hm, hm.heap h.pk, hm.heap h.qk⟩
namespace unpackLegal
/-- What Packet and Canonical tell, and what Words tells of the one. -/
theorem ways {pc : Int} {zs : List Int} (hu : U32s zs) {ok : Bool} {q : Pk} (hc : IsCan pc zs ok q) {er : Int} {p : Pk} (ht : unTell pc zs = (er, p)) :
    (∀ x ∈ p.insts, x.small) ∧ ((er ≠ 0 ∧ p = pkZero ∧ ok = false ∧ q = pkZero) ∨ (er = 0 ∧ legalP p = 0 ∧ wordsP p = zs.length ∧ ∀ (e2 : Int) (ys : List Int), IsOut pc p e2 ys → (e2 = 0 ∧ ys = zs ∧ ok = true ∧ q = p) ∨ (e2 = 0 ∧ ys ≠ zs ∧ ok = false ∧ q = pkZero) ∨ (e2 ≠ 0 ∧ ok = false ∧ q = pkZero))) := by
  have hk := un_told (pc := pc) hu
  rw [ht] at hk
  refine ⟨hk.small, ?_⟩
  by_cases h0 : er = 0
  · refine .inr ⟨h0, (hk.ok h0).1, (hk.ok h0).2, fun e2 ys ho => ?_⟩
    cases ok with
    | true =>
      obtain ⟨a, b, c, d⟩ := hc.yes rfl
      rw [ht] at b c d
      obtain ⟨e, f⟩ := ho.ok (hk.ok h0).1 b
      exact .inl ⟨e, words_one f c, rfl, d⟩
    | false =>
      obtain ⟨a, b⟩ := hc.no rfl
      rw [ht] at a
      by_cases h2 : e2 = 0
      · obtain ⟨hl, hs, hw⟩ := out_ok ho h2
        refine .inr (.inl ⟨h2, fun e => ?_, rfl, b⟩)
        subst e
        exact a ⟨h0, hs, hw⟩
      · exact .inr (.inr ⟨h2, rfl, b⟩)
  · refine .inl ⟨h0, hk.bad h0, ?_⟩
    cases ok with
    | true =>
      have := (hc.yes rfl).1
      rw [ht] at this
      exact absurd this h0
    | false => exact ⟨rfl, (hc.no rfl).2⟩
section
attribute [local irreducible] World.cell?
set_option maxRecDepth 100000 in
set_option maxHeartbeats 32000000 in
theorem walk (W : World) (hT : Tabs W) (ao : Option Addr) (cap : Nat) (zs : List Int) (pc : Int) (hW : Ws W ao cap zs) (hu : U32s zs) (hpc : (Lit.int .u32 pc).wf = true) :
    Calls Tryz.prog 6 #[.slice ao zs.length cap, .int .u32 pc] W fun e w' => e = .returned (.bool true) ∧ Made W w' := by
  have hp := u32_of13 hpc
  have HA := Lib.hid (fun (u : World) (hu : Made W u) => awake13_any u (hT.made hu))
  have HW := Lib.hid hW
  have HT := Lib.hid hT
  have HU := Lib.hid hu
  clear hT hW hu hpc
  by_cases hlen : 4 < zs.length
  · have hb : decide ((zs.length : Int) > 4) = true := decide_eq_true (by omega)
    go_enter Tryz.func6, Tryz.ntmps6
    go_wp2_with (fail)
    refine (HA.out _ (Made.refl W)).mono ?_
    rintro e w1 ⟨rfl, h1⟩
    have M1 := Lib.hid h1
    clear h1
    go_wp2
    go_ret
    exact ⟨rfl, M1.out⟩
  have hb : decide ((zs.length : Int) > 4) = false := decide_eq_false (by omega)
  obtain ⟨er, p, htl⟩ : ∃ er p, unTell pc zs = (er, p) := ⟨_, _, rfl⟩
  have HTL := Lib.hid htl
  have HWY := Lib.hid (fun ok q (hc : IsCan pc zs ok q) => ways HU.out hc htl)
  clear htl
  obtain ⟨l, e0, e1, raw, dup⟩ := p
  go_enter Tryz.func6, Tryz.ntmps6
  go_wp2_with (fail)
  refine (unpack_at HT.out HW.out HU.out (by omega) hp HTL.out).mono ?_
  rintro e w1 ⟨so, c, rfl, hI, h1⟩
  have PB := Lib.hid (heap_alloc_new w1 (.cells (boxL so l.length c e0 e1 raw dup).toArray 29))
  have m1 := Lib.hid (made_alloc (Made.refl w1) (.cells (boxL so l.length c e0 e1 raw dup).toArray 29))
  have K1 := Lib.hid (show PkBox W w1.heap.size (boxL so l.length c e0 e1 raw dup) _ from ⟨Made.trans h1 m1.out, PB.out⟩)
  have I1 := Lib.hid (insts_made hI m1.out)
  clear hI h1 m1 PB
  go_upto_region 4 with (fail)
  refine world_named (fun z => PkBox W w1.heap.size (boxL so l.length c e0 e1 raw dup) z ∧ Insts z so c l) ⟨K1.out, I1.out⟩ ?_
  rintro z1 ⟨k1, i1⟩
  have K2 := Lib.hid k1
  have I2 := Lib.hid i1
  clear k1 i1 K1 I1
  go_wp2_with (fail)
  refine (ucan_any ao cap zs z1 (HT.out.made K2.out.made) (HW.out.made K2.out.made) HU.out (by omega) pc hp).mono ?_
  rintro e w2 ⟨sq, cq, q, ok, rfl, hIq, h2, hcan⟩
  obtain ⟨hsm, hwy⟩ := HWY.out ok q hcan
  obtain ⟨m, f0, f1, fr, fd⟩ := q
  have CB := Lib.hid (heap_alloc_new w2 (.cells (boxL sq m.length cq f0 f1 fr fd).toArray 29))
  have m2 := Lib.hid (made_alloc (Made.refl w2) (.cells (boxL sq m.length cq f0 f1 fr fd).toArray 29))
  have K3 := Lib.hid (show TwoPk W w1.heap.size w2.heap.size (boxL so l.length c e0 e1 raw dup) (boxL sq m.length cq f0 f1 fr fd) _ from
    let k := (K2.out.next h2).next m2.out
    ⟨k.made, k.at_, CB.out⟩)
  have I3 := Lib.hid (And.intro (insts_made I2.out (Made.trans h2 m2.out)) (insts_made hIq m2.out))
  have HSM := Lib.hid hsm
  have HY := Lib.hid hwy
  clear hcan hIq h2 m2 CB K2 I2 hsm hwy HWY
  go_upto_region 5 with (fail)
  refine world_named (fun z => TwoPk W w1.heap.size w2.heap.size (boxL so l.length c e0 e1 raw dup) (boxL sq m.length cq f0 f1 fr fd) z ∧ Insts z so c l ∧ Insts z sq cq m) ⟨K3.out, I3.out⟩ ?_
  rintro z2 ⟨k2, i2, j2⟩
  have K4 := Lib.hid k2
  have I4 := Lib.hid i2
  have J4 := Lib.hid j2
  clear k2 i2 j2 K3 I3
  obtain ⟨c0, c1, c2, c3, c4⟩ := pk5 K4.out.pk
  obtain ⟨d0, d1, d2, d3, d4⟩ := pk5 K4.out.qk
  have lc := heap_lt K4.out.pk
  have ld := heap_lt K4.out.qk
  rcases HY.out with ⟨hne, hpz, rfl, hqz⟩ | ⟨rfl, hlg, hwd, hout⟩
  · have hb2 : (er != 0) = true := bne_iff_ne.2 hne
    obtain ⟨rfl, rfl, rfl, rfl, rfl⟩ : l = [] ∧ e0 = false ∧ e1 = false ∧ raw = false ∧ dup = false := by simpa [pkZero] using hpz
    obtain ⟨rfl, rfl, rfl, rfl, rfl⟩ : m = [] ∧ f0 = false ∧ f1 = false ∧ fr = false ∧ fd = false := by simpa [pkZero] using hqz
    have HS1 := Lib.hid (same_zero I4.out)
    clear hne hpz hqz HY
    simp only [List.length_nil] at *
    go_wp2_with (fail)
    refine HS1.out.mono ?_
    rintro e w3 ⟨rfl, h3⟩
    have K5 := Lib.hid (K4.out.next h3)
    have J5 := Lib.hid (insts_made J4.out h3)
    clear h3 c0 c1 c2 c3 c4 d0 d1 d2 d3 d4 lc ld K4 I4 J4 HS1
    obtain ⟨d0, d1, d2, d3, d4⟩ := pk5 K5.out.qk
    have ld := heap_lt K5.out.qk
    have HS2 := Lib.hid (same_zero J5.out)
    go_wp2_with (fail)
    refine HS2.out.mono ?_
    rintro e w4 ⟨rfl, h4⟩
    have M4 := Lib.hid (Made.trans K5.out.made h4)
    clear h4 d0 d1 d2 d3 d4 ld K5 J5 HS2
    go_wp2_with (fail)
    refine (HA.out _ M4.out).mono ?_
    rintro e w5 ⟨rfl, h5⟩
    have M5 := Lib.hid (Made.trans M4.out h5)
    clear h5
    go_wp2
    go_ret
    exact ⟨rfl, M5.out⟩
  have hl4 : l.length ≤ 4 := (legal_len hlg).1
  have HLG := Lib.hid hlg
  have HWD := Lib.hid hwd
  have HO := Lib.hid hout
  have hlk := lcheck_any so c l e0 e1 raw dup z2 (HT.out.made K4.out.made) I4.out (by omega)
  rewrite [hlg] at hlk
  have HLK := Lib.hid hlk
  clear hlg hwd hout hlk HY
  go_wp2_with (fail)
  refine HLK.out.mono ?_
  rintro e w3 ⟨rfl, h3⟩
  have K5 := Lib.hid (K4.out.next h3)
  have I5 := Lib.hid (insts_made I4.out h3)
  have J5 := Lib.hid (insts_made J4.out h3)
  clear h3 c0 c1 c2 c3 c4 d0 d1 d2 d3 d4 lc ld K4 I4 J4 HLK
  obtain ⟨c0, c1, c2, c3, c4⟩ := pk5 K5.out.pk
  have lc := heap_lt K5.out.pk
  have hlw := lwords_any so c l e0 e1 raw dup w3 I5.out (by omega)
  rewrite [HWD.out] at hlw
  have HLW := Lib.hid hlw
  clear hlw
  have hbn : ((zs.length : Int) != (zs.length : Int)) = false := by simp
  go_wp2_with (fail)
  refine HLW.out.mono ?_
  rintro e w4 ⟨rfl, h4⟩
  have K6 := Lib.hid (K5.out.next h4)
  have I6 := Lib.hid (insts_made I5.out h4)
  have J6 := Lib.hid (insts_made J5.out h4)
  clear h4 c0 c1 c2 c3 c4 lc K5 I5 J5 HLW
  obtain ⟨c0, c1, c2, c3, c4⟩ := pk5 K6.out.pk
  have lc := heap_lt K6.out.pk
  go_wp2_with (fail)
  refine (pwords_any so c l e0 e1 raw dup w4 (HT.out.made K6.out.made) I6.out (by omega) pc hp).mono ?_
  rintro e w5 ⟨s2, n2, c2', e2, ys, rfl, hn2, hws2, h5, ho2⟩
  subst hn2
  have K7 := Lib.hid (K6.out.next h5)
  have I7 := Lib.hid (insts_made I6.out h5)
  have J7 := Lib.hid (insts_made J6.out h5)
  have Y7 := Lib.hid hws2
  have HO2 := Lib.hid ho2
  clear h5 c0 c1 c2 c3 c4 lc K6 I6 J6 hws2 ho2 hbn
  rcases HO.out e2 ys HO2.out with ⟨rfl, hys, rfl, hqp⟩ | ⟨rfl, hys, rfl, hqz⟩ | ⟨he2, rfl, hqz⟩
  · have hse := psame_any s2 ao c2' cap ys zs w5 Y7.out (HW.out.made K7.out.made) (by rw [hys]; omega)
    rewrite [decide_eq_true hys] at hse
    have HSE := Lib.hid hse
    have HQP := Lib.hid hqp
    clear hse hys hqp
    go_wp2_with (fail)
    refine HSE.out.mono ?_
    rintro e w6 ⟨rfl, h6⟩
    have K8 := Lib.hid (K7.out.next h6)
    have I8 := Lib.hid (insts_made I7.out h6)
    have J8 := Lib.hid (insts_made J7.out h6)
    clear h6 K7 I7 J7 Y7 HSE
    obtain ⟨c0, c1, c2, c3, c4⟩ := pk5 K8.out.pk
    obtain ⟨d0, d1, d2, d3, d4⟩ := pk5 K8.out.qk
    have lc := heap_lt K8.out.pk
    have ld := heap_lt K8.out.qk
    have HS2 := Lib.hid (same_pk ⟨l, e0, e1, raw, dup⟩ ⟨m, f0, f1, fr, fd⟩ l.length m.length rfl rfl e0 e1 raw dup f0 f1 fr fd rfl rfl rfl rfl rfl rfl rfl rfl true ((samePk_iff _ _).2 HQP.out.symm) w6 so sq c cq I8.out J8.out (by omega))
    go_wp2_with (fail)
    refine HS2.out.mono ?_
    rintro e w8 ⟨rfl, h8⟩
    have M8 := Lib.hid (Made.trans K8.out.made h8)
    clear h8 c0 c1 c2 c3 c4 d0 d1 d2 d3 d4 lc ld HS2
    go_wp2_with (fail)
    refine (HA.out _ M8.out).mono ?_
    rintro e w9 ⟨rfl, h9⟩
    have M9 := Lib.hid (Made.trans M8.out h9)
    clear h9
    go_wp2
    go_ret
    exact ⟨rfl, M9.out⟩
  · have hyl : ys.length ≤ 1000 := by
      have h7 := words_len (out_ok HO2.out rfl).2.2
      have h8 : wordsP ⟨l, e0, e1, raw, dup⟩ = zs.length := HWD.out
      omega
    have hse := psame_any s2 ao c2' cap ys zs w5 Y7.out (HW.out.made K7.out.made) hyl
    rewrite [decide_eq_false hys] at hse
    have HSE := Lib.hid hse
    obtain ⟨hlg2, hsy2, hiw2⟩ := out_ok HO2.out rfl
    have hsd2 := said_of (l := l) HSM.out hsy2
    have HU2 := Lib.hid (words_u32' (p := ⟨l, e0, e1, raw, dup⟩) hsd2 hiw2)
    have HCB := Lib.hid (fun ok p (h : IsCan pc ys ok p) => can_back (p := ⟨l, e0, e1, raw, dup⟩) ((legal_iff _).1 hlg2) hsd2 hsy2 hiw2 h)
    obtain ⟨rfl, rfl, rfl, rfl, rfl⟩ : m = [] ∧ f0 = false ∧ f1 = false ∧ fr = false ∧ fd = false := by simpa [pkZero] using hqz
    clear hse hys hqz hlg2 hsy2 hiw2 hsd2
    simp only [List.length_nil] at *
    go_wp2_with (fail)
    refine HSE.out.mono ?_
    rintro e w6 ⟨rfl, h6⟩
    have K8 := Lib.hid (K7.out.next h6)
    have J8 := Lib.hid (insts_made J7.out h6)
    have Y8 := Lib.hid (Y7.out.made h6)
    clear h6 K7 I7 J7 Y7 HSE
    go_wp2_with (fail)
    refine (can_at (q := (unTell pc ys).2) (HT.out.made K8.out.made) Y8.out HU2.out hyl hp HCB.out).mono ?_
    rintro e w7 ⟨s3, c3, rfl, -, h7⟩
    have m7 := Lib.hid (made_alloc h7 (.cells (boxL s3 (unTell pc ys).2.insts.length c3 (unTell pc ys).2.e0 (unTell pc ys).2.e1 (unTell pc ys).2.raw (unTell pc ys).2.dup).toArray 29))
    have K9 := Lib.hid (K8.out.next m7.out)
    have J9 := Lib.hid (insts_made J8.out m7.out)
    clear h7 m7 K8 J8 Y8
    obtain ⟨d0, d1, d2, d3, d4⟩ := pk5 K9.out.qk
    have ld := heap_lt K9.out.qk
    have HS2 := Lib.hid (same_zero J9.out)
    go_wp2_with (fail)
    refine HS2.out.mono ?_
    rintro e w8 ⟨rfl, h8⟩
    have M8 := Lib.hid (Made.trans K9.out.made h8)
    clear h8 d0 d1 d2 d3 d4 ld HS2
    go_wp2_with (fail)
    refine (HA.out _ M8.out).mono ?_
    rintro e w9 ⟨rfl, h9⟩
    have M9 := Lib.hid (Made.trans M8.out h9)
    clear h9
    go_wp2
    go_ret
    exact ⟨rfl, M9.out⟩
  · have hb3 : (e2 == 0) = false := beq_eq_false_iff_ne.2 he2
    obtain ⟨rfl, rfl, rfl, rfl, rfl⟩ : m = [] ∧ f0 = false ∧ f1 = false ∧ fr = false ∧ fd = false := by simpa [pkZero] using hqz
    clear he2 hqz
    simp only [List.length_nil] at *
    obtain ⟨d0, d1, d2, d3, d4⟩ := pk5 K7.out.qk
    have ld := heap_lt K7.out.qk
    have HS2 := Lib.hid (same_zero J7.out)
    go_wp2_with (fail)
    refine HS2.out.mono ?_
    rintro e w8 ⟨rfl, h8⟩
    have M8 := Lib.hid (Made.trans K7.out.made h8)
    clear h8 d0 d1 d2 d3 d4 ld HS2
    go_wp2_with (fail)
    refine (HA.out _ M8.out).mono ?_
    rintro e w9 ⟨rfl, h9⟩
    have M9 := Lib.hid (Made.trans M8.out h9)
    clear h9
    go_wp2
    go_ret
    exact ⟨rfl, M9.out⟩
end
end unpackLegal
end Go.Proofs.YtanjmoiepmadhaaGreatDoor
