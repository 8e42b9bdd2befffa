/- UnpackBack of the laws of unpack returns true, for any packet and address, in every world that holds the tables. -/
import Derived.Test.YtanjmoiepmadhaaGreatDoorUnLaws
import Derived.Test.YtanjmoiepmadhaaGreatDoorPackMulti
namespace Go.Proofs.YtanjmoiepmadhaaGreatDoor
open Go.ChangeShapes Go.WideShapes Go.ChangeAt Go.RowKit Go.Sort BigFrame

theorem words_u32' {pc : Int} {p : Pk} {zs : List Int} (hs : Said pc p.insts) (hw : IsWords pc p zs) : U32s zs := by
  obtain ⟨i, j, k1, -, rfl⟩ := hw
  have sr : Said pc (rowP pc p.insts) := fun x hx => hs x ((row_perm pc p.insts).mem_iff.1 hx)
  have hb : ∀ w ∈ bareP pc p i j, isU32 w := fun w hw => by
    unfold bareP at hw
    cases hd : p.dup with
    | true =>
      rw [hd, if_pos rfl] at hw
      obtain ⟨pv, hp, hpe⟩ := pair_of_choice (k1 hd)
      unfold dupW at hw
      rcases List.mem_append.1 hw with h | h
      · exact (bareW_ok (fun x hx => sr x (List.mem_of_mem_eraseIdx (List.mem_of_mem_eraseIdx hx))) w h).u
      · obtain rfl := List.mem_singleton.1 h
        rw [hpe]
        exact hp.u32
    | false =>
      rw [hd] at hw
      exact (bareW_ok sr w hw).u
  intro z hz
  obtain ⟨t, ht, rfl⟩ := List.mem_iff_getElem.1 hz
  rw [endsL_len] at ht
  rw [endsL_at _ _ _ _ ht]
  exact put_u32 (hb _ (List.getElem_mem ht))
theorem out_ok {pc : Int} {p : Pk} {zs : List Int} {er : Int} (h : IsOut pc p er zs) (h0 : er = 0) : legalP p = 0 ∧ sayAll pc p.insts = true ∧ IsWords pc p zs := by
  by_cases hl : legalP p = 0
  · cases hs : sayAll pc p.insts with
    | true => exact ⟨hl, rfl, (h.ok hl hs).2⟩
    | false =>
      have := (h.far hl hs).1
      rw [h0] at this
      exact absurd this (by decide)
  · exact absurd ((h.bad hl).1.symm.trans h0) hl
/-- The law's packet, and the two that are read. -/
structure BackAt (W : World) (B Q C : Nat) (ps qs cs : List Value) (w : World) : Prop where
  made : Made W w
  pk : w.heap[B]? = some (.cells ps.toArray 29 (0, 0))
  qk : w.heap[Q]? = some (.cells qs.toArray 29 (0, 0))
  ck : w.heap[C]? = some (.cells cs.toArray 29 (0, 0))
theorem BackAt.next {W w w' : World} {B Q C : Nat} {ps qs cs : List Value} (h : BackAt W B Q C ps qs cs w) (hm : Made w w') : BackAt W B Q C ps qs cs w' := ⟨Made.trans h.made hm, hm.heap h.pk, hm.heap h.qk, hm.heap h.ck⟩
theorem unpack_at {w : World} {ao : Option Addr} {cap : Nat} {zs : List Int} {pc : Int} {q : Pk} {er : Int} (hT : Tabs w) (hW : Ws w ao cap zs) (hu : U32s zs) (hl : zs.length ≤ 1000) (hp : isU32 pc) (ht : unTell pc zs = (er, q)) :
    Calls Tryz.prog 10 #[.slice ao zs.length cap, .int .u32 pc] w fun e w' => ∃ so c, e = .returned (.tuple #[pkOf so c q, .int .i64 er]) ∧ Insts w' so c q.insts ∧ Made w w' := by
  have h := upack_any ao cap zs w hT hW hu hl pc hp
  unfold Unpacked at h
  rw [ht] at h
  exact h
theorem len_at {w : World} {ao : Option Addr} {cap : Nat} {zs : List Int} {n : Nat} {ok : Bool} (hT : Tabs w) (hW : Ws w ao cap zs) (hu : U32s zs) (hl : zs.length ≤ 1000) (ht : lenP zs = (n, ok)) :
    Calls Tryz.prog 8 #[.slice ao zs.length cap] w fun e w' => e = .returned (.tuple #[.int .i64 n, .bool ok]) ∧ Made w w' := by
  have h := ulen_any ao cap zs w hT hW hu hl
  unfold LenSays at h
  rw [ht] at h
  exact h
theorem can_at {w : World} {ao : Option Addr} {cap : Nat} {zs : List Int} {pc : Int} {q : Pk} (hT : Tabs w) (hW : Ws w ao cap zs) (hu : U32s zs) (hl : zs.length ≤ 1000) (hp : isU32 pc) (hc : ∀ ok p, IsCan pc zs ok p → ok = true ∧ p = q) :
    Calls Tryz.prog 14 #[.slice ao zs.length cap, .int .u32 pc] w fun e w' => ∃ so c, e = .returned (.tuple #[pkOf so c q, .bool true]) ∧ Insts w' so c q.insts ∧ Made w w' :=
  (ucan_any ao cap zs w hT hW hu hl pc hp).mono fun e w' h => by
    obtain ⟨so, c, p, ok, he, hi, hm, hk⟩ := h
    obtain ⟨rfl, rfl⟩ := hc ok p hk
    exact ⟨so, c, he, hi, hm⟩
namespace unpackBack
section
attribute [local irreducible] World.cell?
set_option maxRecDepth 100000 in
set_option maxHeartbeats 16000000 in
theorem walk (W : World) (hT : Tabs W) (ao : Option Addr) (cap : Nat) (l : List In) (e0 e1 raw dup : Bool) (pc : Int) (hI : Insts W ao cap l) (hpc : (Lit.int .u32 pc).wf = true) :
    Calls Tryz.prog 5 #[pkV ao l.length cap e0 e1 raw dup, .int .u32 pc] W fun e w' => e = .returned (.bool true) ∧ Made W w' := by
  have hp : isU32 pc := by
    have e1 : IntKind.u32.min = 0 := rfl
    have e2 : IntKind.u32.max = 4294967295 := rfl
    simp only [Lit.wf, Bool.and_eq_true, decide_eq_true_eq] at hpc
    unfold isU32
    omega
  have HA := Lib.hid (fun (u : World) (hu : Made W u) => awake13_any u (hT.made hu))
  have K0 := Lib.hid (box_start (Made.refl W) (boxL ao l.length cap e0 e1 raw dup))
  have H := Lib.hid hI
  have HT := Lib.hid hT
  clear hI hT hpc
  by_cases hlen : 4 < l.length
  · have hb : decide ((l.length : Int) > 4) = true := decide_eq_true (by omega)
    go_enter Tryz.func5, Tryz.ntmps5
    obtain ⟨p0, p1, p2, p3, p4⟩ := box_cells K0.out
    have lp := heap_lt K0.out.at_
    go_wp2_with (fail)
    refine (HA.out _ K0.out.made).mono ?_
    rintro e w1 ⟨rfl, h1⟩
    have M1 := Lib.hid (Made.trans K0.out.made h1)
    clear h1 p0 p1 p2 p3 p4 lp
    go_wp2
    go_ret
    exact ⟨rfl, M1.out⟩
  have hb : decide ((l.length : Int) > 4) = false := decide_eq_false (by omega)
  go_enter Tryz.func5, Tryz.ntmps5
  obtain ⟨p0, p1, p2, p3, p4⟩ := box_cells K0.out
  have lp := heap_lt K0.out.at_
  go_wp2_with (fail)
  refine (pwords_any ao cap l e0 e1 raw dup _ (HT.out.made K0.out.made) (insts_made H.out K0.out.made) (by omega) pc hp).mono ?_
  rintro e w1 ⟨so, n, c, er, zs, rfl, hn, hws, h1, ho⟩
  subst hn
  have K1 := Lib.hid (K0.out.next h1)
  clear p0 p1 p2 p3 p4 lp K0
  by_cases her : er = 0
  rotate_left
  · have hb2 : (er != 0) = true := bne_iff_ne.2 her
    clear her hws h1 ho
    go_wp2_with (fail)
    refine (HA.out _ K1.out.made).mono ?_
    rintro e w2 ⟨rfl, h2⟩
    have M2 := Lib.hid (Made.trans K1.out.made h2)
    clear h2
    go_wp2
    go_ret
    exact ⟨rfl, M2.out⟩
  obtain ⟨hlg, hsy, hiw⟩ := out_ok ho her
  subst her
  have hsd := said_of H.out.small hsy
  have hu := words_u32' (p := ⟨l, e0, e1, raw, dup⟩) hsd hiw
  have hlr := (legal_iff _).1 hlg
  obtain ⟨hlp, q, htl, hpm, q0, q1, qd, qr, hqw, hql⟩ := un_back hlr hsd hiw
  have hzl : zs.length ≤ 1000 := by
    have h5 := words_len hiw
    have h6 := hlr.few
    omega
  have hcb : ∀ ok p, IsCan pc zs ok p → ok = true ∧ p = q := fun ok p h => by
    obtain ⟨a, b⟩ := can_back (p := ⟨l, e0, e1, raw, dup⟩) hlr hsd hsy hiw h
    rw [htl] at b
    exact ⟨a, b⟩
  obtain ⟨lq, f0, f1, fr, fd⟩ := q
  simp only [] at q0 q1 qd qr hpm
  subst q0 q1 qd
  have WS := Lib.hid hws
  have HU := Lib.hid hu
  have HLP := Lib.hid hlp
  have HTL := Lib.hid htl
  have HPM := Lib.hid hpm
  have HCB := Lib.hid hcb
  have HQR := Lib.hid qr
  have hlq : lq.length ≤ 4 := by have := hpm.length_eq; omega
  clear hws h1 ho hlg hsy hiw hsd hu hlr hlp htl hpm qr hqw hql hcb
  go_wp2_with (fail)
  refine (unpack_at (HT.out.made K1.out.made) WS.out HU.out hzl hp HTL.out).mono ?_
  rintro e w2 ⟨sq, cq, rfl, hIq, h2⟩
  have QB := Lib.hid (heap_alloc_new w2 (.cells (boxL sq lq.length cq f0 f1 fr fd).toArray 29))
  have m3 := Lib.hid (made_alloc (Made.refl w2) (.cells (boxL sq lq.length cq f0 f1 fr fd).toArray 29))
  have K3 := Lib.hid ((K1.out.next h2).next m3.out)
  have W3 := Lib.hid (WS.out.made (Made.trans h2 m3.out))
  have I3 := Lib.hid (insts_made hIq m3.out)
  clear h2 hIq m3 K1 WS
  go_upto_region 7 with (fail)
  refine world_named (fun z => PkBox W W.heap.size (boxL ao l.length cap f0 f1 raw fd) z ∧ z.heap[w2.heap.size]? = some (.cells (boxL sq lq.length cq f0 f1 fr fd).toArray 29 (0, 0)) ∧ Ws z so c zs ∧ Insts z sq cq lq) ⟨K3.out, QB.out, W3.out, I3.out⟩ ?_
  rintro z3 ⟨k3, b3, s3, i3⟩
  have K4 := Lib.hid k3
  have B4 := Lib.hid b3
  have W4 := Lib.hid s3
  have I4 := Lib.hid i3
  clear k3 b3 s3 i3 K3 QB W3 I3
  go_wp2_with (fail)
  refine (len_at (HT.out.made K4.out.made) W4.out HU.out hzl HLP.out).mono ?_
  rintro e w4 ⟨rfl, h4⟩
  have K5 := Lib.hid (K4.out.next h4)
  have B5 := Lib.hid (h4.heap B4.out)
  have W5 := Lib.hid (W4.out.made h4)
  have I5 := Lib.hid (insts_made I4.out h4)
  clear h4 K4 B4 W4 I4
  go_wp2_with (fail)
  refine (can_at (HT.out.made K5.out.made) W5.out HU.out hzl hp HCB.out).mono ?_
  rintro e w5 ⟨sc, cc, rfl, hIc, h5⟩
  have CB := Lib.hid (heap_alloc_new w5 (.cells (boxL sc lq.length cc f0 f1 fr fd).toArray 29))
  have m6 := Lib.hid (made_alloc (Made.refl w5) (.cells (boxL sc lq.length cc f0 f1 fr fd).toArray 29))
  have K6 := Lib.hid (show BackAt W W.heap.size w2.heap.size w5.heap.size (boxL ao l.length cap f0 f1 raw fd) (boxL sq lq.length cq f0 f1 fr fd) (boxL sc lq.length cc f0 f1 fr fd) _ from
    let k := (K5.out.next h5).next m6.out
    ⟨k.made, k.at_, (Made.trans h5 m6.out).heap B5.out, CB.out⟩)
  have I6 := Lib.hid (And.intro (insts_made I5.out (Made.trans h5 m6.out)) (insts_made hIc m6.out))
  clear h5 hIc m6 CB K5 B5 W5 I5
  go_upto_region 9 with (fail)
  refine world_named (fun z => BackAt W W.heap.size w2.heap.size w5.heap.size (boxL ao l.length cap f0 f1 raw fd) (boxL sq lq.length cq f0 f1 fr fd) (boxL sc lq.length cc f0 f1 fr fd) z ∧ Insts z sq cq lq ∧ Insts z sc cc lq) ⟨K6.out, I6.out⟩ ?_
  rintro z6 ⟨k6, i6, j6⟩
  have K7 := Lib.hid k6
  have I7 := Lib.hid i6
  have J7 := Lib.hid j6
  clear k6 i6 j6 K6 I6
  have HS := Lib.hid (same_pk ⟨lq, f0, f1, fr, fd⟩ ⟨lq, f0, f1, fr, fd⟩ lq.length lq.length rfl rfl f0 f1 fr fd f0 f1 fr fd rfl rfl rfl rfl rfl rfl rfl rfl true (samePk_self _) z6 sc sq cc cq J7.out I7.out (by omega))
  obtain ⟨c0, c1, c2, c3, c4⟩ := pk5 K7.out.ck
  obtain ⟨d0, d1, d2, d3, d4⟩ := pk5 K7.out.qk
  have lc := heap_lt K7.out.ck
  have ld := heap_lt K7.out.qk
  have hbn : ((zs.length : Int) != (zs.length : Int)) = false := by simp
  go_wp2_with (fail)
  refine HS.out.mono ?_
  rintro e w7 ⟨rfl, h7⟩
  have K8 := Lib.hid (K7.out.next h7)
  have I8 := Lib.hid (insts_made I7.out h7)
  clear h7 c0 c1 c2 c3 c4 d0 d1 d2 d3 d4 lc ld K7 I7 J7 HS hbn
  obtain ⟨p0, p1, p2, p3, p4⟩ := pk5 K8.out.pk
  obtain ⟨d0, d1, d2, d3, d4⟩ := pk5 K8.out.qk
  have lp := heap_lt K8.out.pk
  have ld := heap_lt K8.out.qk
  have HM := Lib.hid (pmulti_any ao sq cap cq l lq w7 (insts_made H.out K8.out.made) I8.out (by omega))
  go_wp2_with (fail)
  refine HM.out.mono ?_
  rintro e w8 ⟨v, rfl, hv, h8⟩
  obtain rfl : v = true := hv.2 HPM.out.symm
  have K9 := Lib.hid (K8.out.next h8)
  clear hv h8 p0 p1 p2 p3 p4 d0 d1 d2 d3 d4 lp ld K8 I8 HM
  obtain ⟨p0, p1, p2, p3, p4⟩ := pk5 K9.out.pk
  obtain ⟨d0, d1, d2, d3, d4⟩ := pk5 K9.out.qk
  have lp := heap_lt K9.out.pk
  have ld := heap_lt K9.out.qk
  have hways : (fd = true ∧ fr = false) ∨ (fd = false ∧ decide ((lq.length : Int) > 1) = true ∧ fr = true) ∨ (fd = false ∧ decide ((lq.length : Int) > 1) = false ∧ fr = false) := by
    rw [HQR.out]
    cases fd with
    | true => exact .inl ⟨rfl, rfl⟩
    | false =>
      by_cases h : 2 ≤ lq.length
      · exact .inr (.inl ⟨rfl, decide_eq_true (by omega), by simp [h]⟩)
      · exact .inr (.inr ⟨rfl, decide_eq_false (by omega), by simp [h]⟩)
  have HA9 := Lib.hid (HA.out w8 K9.out.made)
  rcases hways with ⟨rfl, rfl⟩ | ⟨rfl, hg, rfl⟩ | ⟨rfl, hg, rfl⟩
  all_goals
    go_wp2_with (fail)
    refine HA9.out.mono ?_
    rintro e w9 ⟨rfl, h9⟩
    have M9 := Lib.hid (Made.trans K9.out.made h9)
    clear h9 p0 p1 p2 p3 p4 d0 d1 d2 d3 d4 lp ld
    go_wp2
    go_ret
    exact ⟨rfl, M9.out⟩
end
end unpackBack
end Go.Proofs.YtanjmoiepmadhaaGreatDoor
