/- PackApart of the laws of pack returns true, for any two packets and any address, in every world that holds the tables. -/
import Derived.Test.YtdghnlbfmaehoaaGreatDoorPackLaws
import Derived.Test.YtdghnlbfmaehoaaGreatDoorGPack
namespace Go.Proofs.YtdghnlbfmaehoaaGreatDoor
open Go.ChangeShapes Go.WideShapes Go.ChangeAt Go.RowKit Go.Sort BigFrame

/-- Same words, just if the instructions and the ends are the same. -/
theorem apart_fact {pc : Int} {l m : List In} {a0 a1 ar b0 b1 br : Bool} {zs ys : List Int} (sl : ∀ x ∈ l, x.small) (sm : ∀ x ∈ m, x.small) (h : IsOut pc ⟨l, a0, a1, ar, false⟩ 0 zs) (k : IsOut pc ⟨m, b0, b1, br, false⟩ 0 ys) (v : Bool) (hv : v = true ↔ l.Perm m) :
    decide (zs = ys) = (v && (a0 == b0) && (a1 == b1)) := by
  have open_ : ∀ {l : List In} {a0 a1 ar : Bool} {zs : List Int}, IsOut pc ⟨l, a0, a1, ar, false⟩ 0 zs → legalP ⟨l, a0, a1, ar, false⟩ = 0 ∧ sayAll pc l = true ∧ IsWords pc ⟨l, a0, a1, ar, false⟩ zs := fun {l a0 a1 ar zs} h => by
    by_cases h0 : legalP ⟨l, a0, a1, ar, false⟩ = 0
    · cases h1 : sayAll pc l with
      | false => exact absurd (h.far h0 h1).1 (by decide)
      | true => exact ⟨h0, rfl, (h.ok h0 h1).2⟩
    · exact absurd (h.bad h0).1.symm h0
  obtain ⟨h1, h2, h3⟩ := open_ h
  obtain ⟨k1, k2, k3⟩ := open_ k
  have ends : ∀ {l : List In} {a0 a1 ar : Bool} {zs : List Int}, legalP ⟨l, a0, a1, ar, false⟩ = 0 → IsWords pc ⟨l, a0, a1, ar, false⟩ zs → (a0 = true → 2 ≤ zs.length) ∧ (a1 = true → 3 ≤ zs.length) := fun {l a0 a1 ar zs} hl hz => by
    have e := words_len hz
    have hlong := ((legal_iff _).1 hl).long
    unfold longB at hlong
    rw [← e] at hlong
    simp only [Bool.and_eq_true, Bool.or_eq_true, Bool.not_eq_true', decide_eq_true_eq] at hlong
    constructor
    · intro ha
      have := hlong.1.resolve_left (by rw [ha]; simp)
      omega
    · intro ha
      have := hlong.2.resolve_left (by rw [ha]; simp)
      omega
  have sp : Said pc l := said_of sl h2
  have sq : Said pc m := said_of sm k2
  rw [Bool.eq_iff_iff, decide_eq_true_iff, Bool.and_eq_true, Bool.and_eq_true, beq_iff_eq, beq_iff_eq, hv]
  constructor
  · intro e
    subst e
    obtain ⟨r1, r2, r3⟩ := words_say (p := ⟨l, a0, a1, ar, false⟩) (q := ⟨m, b0, b1, br, false⟩) sp sq rfl rfl h3 k3 (ends h1 h3) (ends k1 k3)
    exact ⟨⟨r1, r2⟩, r3⟩
  · rintro ⟨⟨r1, rfl⟩, rfl⟩
    exact words_one (words_perm' (p := ⟨m, a0, a1, br, false⟩) (q := ⟨l, a0, a1, ar, false⟩) sq r1 rfl rfl rfl k3) h3 |>.symm
/-- Two packets' variables. -/
structure PkBoth (W : World) (B : Nat) (cs ds : List Value) (w : World) : Prop where
  made : Made W w
  pk : w.heap[B]? = some (.cells cs.toArray 30 (0, 0))
  qk : w.heap[B + 1]? = some (.cells ds.toArray 30 (0, 0))
theorem PkBoth.next {W w w' : World} {B : Nat} {cs ds : List Value} (h : PkBoth W B cs ds w) (hm : Made w w') : PkBoth W B cs ds w' := ⟨Made.trans h.made hm, hm.heap h.pk, hm.heap h.qk⟩
theorem pkBoth_start (W : World) (cs ds : List Value) : PkBoth W W.heap.size cs ds ((W.alloc (.cells cs.toArray 30)).alloc (.cells ds.toArray 30)) := by
  have m1 := made_alloc (Made.refl W) (.cells cs.toArray 30)
  have b1 : (W.alloc (.cells cs.toArray 30)).heap[W.heap.size]? = some (.cells cs.toArray 30 (0, 0)) := heap_alloc_new W _
  exact ⟨made_alloc m1 _, (Below.heap_alloc _ _ _ (heap_lt b1)).trans b1, heap_at (by simp)⟩
namespace packApart
section
attribute [local irreducible] World.cell?
set_option maxRecDepth 100000 in
set_option maxHeartbeats 32000000 in
theorem walk (W : World) (hT : Tabs W) (ao : Option Addr) (cap : Nat) (l : List In) (e0 e1 raw dup : Bool) (bo : Option Addr) (cb : Nat) (m : List In) (f0 f1 rb db : Bool) (pc : Int) (hI : Insts W ao cap l) (hJ : Insts W bo cb m) (hpc : (Lit.int .u32 pc).wf = true) :
    Calls Tryz.prog 7 #[pkV ao l.length cap e0 e1 raw dup, pkV bo m.length cb f0 f1 rb db, .int .u32 pc] W fun e w' => e = .returned (.bool true) ∧ Made W w' := by
  have hp := u32_lit hpc
  have HA := Lib.hid (fun (u : World) (hu : Made W u) => awake12_any u (hT.made hu) u (Made.refl u))
  have K0 := Lib.hid (pkBoth_start W (boxL ao l.length cap e0 e1 raw dup) (boxL bo m.length cb f0 f1 rb db))
  have H := Lib.hid hI
  have J := Lib.hid hJ
  have HT := Lib.hid hT
  clear hI hJ hT hpc
  by_cases hlen : 4 < l.length ∨ 4 < m.length
  · have hway : decide ((l.length : Int) > 4) = true ∨ (decide ((l.length : Int) > 4) = false ∧ decide ((m.length : Int) > 4) = true) := by
      by_cases h : 4 < l.length
      · exact .inl (decide_eq_true (by omega))
      · exact .inr ⟨decide_eq_false (by omega), decide_eq_true (by omega)⟩
    clear hlen
    rcases hway with hb | ⟨hb, hb2⟩
    all_goals
      go_enter Tryz.func7, Tryz.ntmps7
      obtain ⟨p0, p1, p2, p3, p4⟩ := pk5 K0.out.pk
      obtain ⟨q0, q1, q2, q3, q4⟩ := pk5 K0.out.qk
      have lp := heap_lt K0.out.pk
      have lq := heap_lt K0.out.qk
      go_wp2_with (fail)
      refine (HA.out _ K0.out.made).mono ?_
      rintro e w1 ⟨rfl, h1⟩
      have M1 := Lib.hid (Made.trans K0.out.made h1)
      clear h1 p0 p1 p2 p3 p4 q0 q1 q2 q3 q4 lp lq
      go_wp2
      go_ret
      exact ⟨rfl, M1.out⟩
  · have hb : decide ((l.length : Int) > 4) = false := decide_eq_false (by omega)
    have hb2 : decide ((m.length : Int) > 4) = false := decide_eq_false (by omega)
    have hl9 : l.length ≤ 1000 := by omega
    have hm9 : m.length ≤ 1000 := by omega
    clear hlen
    go_enter Tryz.func7, Tryz.ntmps7
    go_upto_region 1 with (fail)
    refine name_world (fun u => PkBoth W W.heap.size (boxL ao l.length cap e0 e1 raw dup) (boxL bo m.length cb f0 f1 rb db) u) K0.out ?_
    intro w0 hw0
    have KU := Lib.hid hw0
    clear hw0 K0
    generalize W.heap.size = B at *
    obtain ⟨p0, p1, p2, p3, p4⟩ := pk5 KU.out.pk
    obtain ⟨q0, q1, q2, q3, q4⟩ := pk5 KU.out.qk
    have lp := heap_lt KU.out.pk
    have lq := heap_lt KU.out.qk
    go_wp2_with (fail)
    refine (pwords_any ao cap l e0 e1 raw dup w0 (HT.out.made KU.out.made) (insts_made H.out KU.out.made) hl9 pc hp).mono ?_
    rintro e w1 ⟨so, n, c, er, zs, rfl, hn, hws, h1, ho⟩
    subst hn
    have K1 := Lib.hid (KU.out.next h1)
    have Z1 := Lib.hid hws
    have OZ := Lib.hid ho
    clear h1 hws ho p0 p1 p2 p3 p4 q0 q1 q2 q3 q4 lp lq KU
    obtain ⟨p0, p1, p2, p3, p4⟩ := pk5 K1.out.pk
    obtain ⟨q0, q1, q2, q3, q4⟩ := pk5 K1.out.qk
    have lp := heap_lt K1.out.pk
    have lq := heap_lt K1.out.qk
    go_wp2_with (fail)
    refine (pwords_any bo cb m f0 f1 rb db w1 (HT.out.made K1.out.made) (insts_made J.out K1.out.made) hm9 pc hp).mono ?_
    rintro e w2 ⟨so2, n2, d, fr, ys, rfl, hn, hws, h2, ho⟩
    subst hn
    have K2 := Lib.hid (K1.out.next h2)
    have Z2 := Lib.hid (Z1.out.made h2)
    have Y2 := Lib.hid hws
    have OY := Lib.hid ho
    clear h2 hws ho p0 p1 p2 p3 p4 q0 q1 q2 q3 q4 lp lq K1 Z1
    obtain ⟨p0, p1, p2, p3, p4⟩ := pk5 K2.out.pk
    obtain ⟨q0, q1, q2, q3, q4⟩ := pk5 K2.out.qk
    have lp := heap_lt K2.out.pk
    have lq := heap_lt K2.out.qk
    by_cases hall : er = 0 ∧ fr = 0 ∧ dup = false ∧ db = false
    · obtain ⟨rfl, rfl, rfl, rfl⟩ := hall
      have hz9 : zs.length ≤ 1000 := out_len OZ.out hl9
      have hF := fun v (hv : v = true ↔ l.Perm m) => apart_fact H.out.small J.out.small OZ.out OY.out v hv
      have HF := Lib.hid hF
      clear hF
      go_wp2_with (fail)
      refine (pmulti_any ao bo cap cb l m w2 (insts_made H.out K2.out.made) (insts_made J.out K2.out.made) hl9).mono ?_
      rintro e w3 ⟨v, rfl, hv, h3⟩
      have hD := HF.out v hv
      have K3 := Lib.hid (K2.out.next h3)
      have Z3 := Lib.hid (Z2.out.made h3)
      have Y3 := Lib.hid (Y2.out.made h3)
      obtain ⟨r0, hr0⟩ : ∃ r, (e0 == f0) = r := ⟨_, rfl⟩
      obtain ⟨r1, hr1⟩ : ∃ r, (e1 == f1) = r := ⟨_, rfl⟩
      rewrite [hr0, hr1] at hD
      have HD := Lib.hid hD
      clear hD hv h3 p0 p1 p2 p3 p4 q0 q1 q2 q3 q4 lp lq K2 Z2 Y2 HF
      obtain ⟨p0, p1, p2, p3, p4⟩ := pk5 K3.out.pk
      obtain ⟨q0, q1, q2, q3, q4⟩ := pk5 K3.out.qk
      have lp := heap_lt K3.out.pk
      have lq := heap_lt K3.out.qk
      have hww : ∀ r : Bool, (r == r) = true := fun r => by simp
      obtain ⟨R, hR⟩ : ∃ R, R = (v && r0 && r1) := ⟨_, rfl⟩
      have HD2 := Lib.hid (show decide (zs = ys) = R by rw [hR]; exact HD.out)
      have hrr := hww R
      clear HD hww
      cases v with
      | false =>
        obtain rfl : R = false := hR
        go_wp2_with (fail)
        refine (same_at zs ys zs.length ys.length rfl rfl hz9 false HD2.out w3 _ _ _ _ Z3.out Y3.out).mono ?_
        rintro e w4 ⟨rfl, h4⟩
        have M4 := Lib.hid (Made.trans K3.out.made h4)
        clear h4
        go_wp2_with (fail)
        refine (HA.out _ M4.out).mono ?_
        rintro e w5 ⟨rfl, h5⟩
        have M5 := Lib.hid (Made.trans M4.out h5)
        clear h5
        go_wp2
        go_ret
        exact ⟨rfl, M5.out⟩
      | true =>
        cases r0 with
        | false =>
          obtain rfl : R = false := hR
          go_wp2_with (fail)
          refine (same_at zs ys zs.length ys.length rfl rfl hz9 false HD2.out w3 _ _ _ _ Z3.out Y3.out).mono ?_
          rintro e w4 ⟨rfl, h4⟩
          have M4 := Lib.hid (Made.trans K3.out.made h4)
          clear h4
          go_wp2_with (fail)
          refine (HA.out _ M4.out).mono ?_
          rintro e w5 ⟨rfl, h5⟩
          have M5 := Lib.hid (Made.trans M4.out h5)
          clear h5
          go_wp2
          go_ret
          exact ⟨rfl, M5.out⟩
        | true =>
          obtain rfl : R = r1 := hR
          go_wp2_with (fail)
          refine (same_at zs ys zs.length ys.length rfl rfl hz9 R HD2.out w3 _ _ _ _ Z3.out Y3.out).mono ?_
          rintro e w4 ⟨rfl, h4⟩
          have M4 := Lib.hid (Made.trans K3.out.made h4)
          clear h4
          go_wp2_with (fail)
          refine (HA.out _ M4.out).mono ?_
          rintro e w5 ⟨rfl, h5⟩
          have M5 := Lib.hid (Made.trans M4.out h5)
          clear h5
          go_wp2
          go_ret
          exact ⟨rfl, M5.out⟩
    · have hway : (er != 0) = true ∨ ((er != 0) = false ∧ (fr != 0) = true) ∨ ((er != 0) = false ∧ (fr != 0) = false ∧ dup = true) ∨ ((er != 0) = false ∧ (fr != 0) = false ∧ dup = false ∧ db = true) := by
        by_cases a : er = 0
        · have a' : (er != 0) = false := by rw [a]; rfl
          by_cases b : fr = 0
          · have b' : (fr != 0) = false := by rw [b]; rfl
            cases hd : dup with
            | true => exact .inr (.inr (.inl ⟨a', b', rfl⟩))
            | false =>
              cases he : db with
              | true => exact .inr (.inr (.inr ⟨a', b', rfl, rfl⟩))
              | false => exact absurd ⟨a, b, hd, he⟩ hall
          · exact .inr (.inl ⟨a', bne_iff_ne.2 b⟩)
        · exact .inl (bne_iff_ne.2 a)
      clear hall
      rcases hway with g1 | ⟨g1, g2⟩ | ⟨g1, g2, rfl⟩ | ⟨g1, g2, rfl, rfl⟩
      all_goals
        go_wp2_with (fail)
        refine (HA.out _ K2.out.made).mono ?_
        rintro e w3 ⟨rfl, h3⟩
        have M3 := Lib.hid (Made.trans K2.out.made h3)
        clear h3 p0 p1 p2 p3 p4 q0 q1 q2 q3 q4 lp lq
        go_wp2
        go_ret
        exact ⟨rfl, M3.out⟩
end
end packApart
end Go.Proofs.YtdghnlbfmaehoaaGreatDoor
