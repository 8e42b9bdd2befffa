/- LegalLess of the laws of legal returns true, for every packet and any place, in every world that holds the tables. -/
import Derived.Test.YtaieiaopdbhjaaaDoorLegalLaws
import Derived.Deep.RegionLaw
namespace Go.Proofs.YtaieiaopdbhjaaaDoor
open Go.ChangeShapes Go.WideShapes Go.ChangeAt Go.RowKit Go.Sort BigFrame

theorem made_drew11 {W w : World} (h : Made W w) : Made W w.drew := ⟨h.os, h.tape, h.output, h.size, h.block⟩
/-- The packet's variable and the other packet's. -/
structure Pair11 (W : World) (B Q : Nat) (cs ds : List Value) (w : World) : Prop where
  made : Made W w
  low : W.heap.size ≤ Q
  pk : w.heap[B]? = some (.cells cs.toArray 28 (0, 0))
  qk : w.heap[Q]? = some (.cells ds.toArray 28 (0, 0))
theorem Pair11.next {W w w' : World} {B Q : Nat} {cs ds : List Value} (h : Pair11 W B Q cs ds w) (hm : Made w w') : Pair11 W B Q cs ds w' := ⟨Made.trans h.made hm, h.low, hm.heap h.pk, hm.heap h.qk⟩
namespace legalLess
section
attribute [local irreducible] World.cell?
set_option maxRecDepth 100000 in
set_option maxHeartbeats 32000000 in
theorem walk (W : World) (hT : Tabs W) (ao : Option Addr) (cap : Nat) (l : List In) (e0 e1 raw dup : Bool) (at_ : Nat) (hI : Insts W ao cap l) (hat : at_ < 256) :
    Calls Tryd.prog 6 #[pkV ao l.length cap e0 e1 raw dup, .int .u8 at_] W fun e w' => e = .returned (.bool true) ∧ Made W w' := by
  have HA := Lib.hid (fun (u : World) (hu : Made W u) => awake11_any u (hT.made hu) u (Made.refl u))
  have K0 := Lib.hid (box_start (Made.refl W) (boxL ao l.length cap e0 e1 raw dup))
  have H := Lib.hid hI
  have hmax := hI.max
  have hroom := hI.room
  have HT := Lib.hid hT
  unfold maxLen at hmax
  clear hI hT
  by_cases hlen : 7 < l.length ∨ l.length < 2 ∨ dup = true
  · have hway : 7 < l.length ∨ (¬ 7 < l.length ∧ l.length < 2) ∨ (¬ 7 < l.length ∧ ¬ l.length < 2 ∧ dup = true) := by
      by_cases h7 : 7 < l.length
      · exact .inl h7
      · by_cases h2 : l.length < 2
        · exact .inr (.inl ⟨h7, h2⟩)
        · rcases hlen with h | h | h
          · exact absurd h h7
          · exact absurd h h2
          · exact .inr (.inr ⟨h7, h2, h⟩)
    clear hlen
    rcases hway with h7 | ⟨h7, h2⟩ | ⟨h7, h2, rfl⟩
    all_goals
      go_enter Tryd.func6, Tryd.ntmps6
      go_wp2_with (fail)
      refine (HA.out _ K0.out.made).mono ?_
      rintro e w1 ⟨rfl, hm1⟩
      have K1 := Lib.hid (Made.trans K0.out.made hm1)
      clear hm1
      go_wp2
      go_ret
      exact ⟨rfl, K1.out⟩
  · have h7 : ¬ 7 < l.length := fun h => hlen (.inl h)
    have h2 : ¬ l.length < 2 := fun h => hlen (.inr (.inl h))
    obtain rfl : dup = false := by
      cases dup with
      | true => exact absurd (.inr (.inr rfl)) hlen
      | false => rfl
    have hl7 : l.length ≤ 1000 := by omega
    have HOK := Lib.hid (legal_iff ⟨l, e0, e1, raw, false⟩)
    have WK := Lib.hid (fun (u : World) (hu : Made W u) => lwords_any ao cap l e0 e1 raw false u (insts_made H.out hu) hl7)
    clear hlen
    go_enter Tryd.func6, Tryd.ntmps6
    obtain ⟨p0, p1, p2, p3, p4⟩ := box_cells K0.out
    go_wp2_with (fail)
    refine (lcheck_any ao cap l e0 e1 raw false _ (HT.out.made K0.out.made) (insts_made H.out K0.out.made) hl7).mono ?_
    rintro e w1 ⟨rfl, h1⟩
    have K1 := Lib.hid (K0.out.next h1)
    clear h1 p0 p1 p2 p3 p4
    by_cases hc : legalP ⟨l, e0, e1, raw, false⟩ = 0
    · have LG := Lib.hid (HOK.out.1 hc)
      rewrite [hc]
      clear hc HOK
      obtain ⟨p0, p1, p2, p3, p4⟩ := box_cells K1.out
      have lp := heap_lt K1.out.at_
      have hl0 : 0 < l.length := by omega
      have hkm : at_ % l.length < l.length := Nat.mod_lt _ hl0
      have hkc : ((at_ : Int)).tmod (l.length : Int) = ((at_ % l.length : Nat) : Int) := by rw [Int.tmod_eq_emod_of_nonneg (by omega)]; simp
      go_upto_region 4 with (fail)
      have hkd : (at_ : Int) % (l.length : Int) = ((at_ % l.length : Nat) : Int) := by simp
      rewrite [hkd]
      clear hkc hkd
      generalize at_ % l.length = k at *
      obtain ⟨x, hx⟩ : ∃ x, l[k] = x := ⟨_, rfl⟩
      obtain ⟨b, o, rfl, c0, c1, c2, c3, c4, c5, c6, c7, c8, c9, c10⟩ := insts_cells (insts_made H.out K1.out.made) hkm x hx
      have hsm := H.out.small x (hx ▸ List.getElem_mem hkm)
      have WR := Lib.hid (fun v (hv : Names v) => writes_any v hv x hsm v (Made.refl v))
      have WP := Lib.hid (fun v (hv : Names v) => writesPred_any v hv x hsm v (Made.refl v))
      have HX := Lib.hid hx
      have hsp : l = l.take k ++ x :: l.drop (k + 1) := by
        rw [← hx, ← List.drop_eq_getElem_cons hkm, List.take_append_drop]
      have hll := legal_less (a := l.take k) (b := l.drop (k + 1)) (x := x) (e0 := e0) (e1 := e1) (raw := raw) (by rw [← hsp]; exact LG.out) (by rw [← hsp]; omega)
      rewrite [← hsp] at hll
      have HLL := Lib.hid hll
      clear hsp hx hsm hll
      go_wp2_with (fail)
      refine (WR.out _ (HT.out.made K1.out.made).names).mono ?_
      rintro e w3 ⟨rfl, h3⟩
      have K3 := Lib.hid (K1.out.next h3)
      clear h3 p0 p1 p2 p3 p4 lp c0 c1 c2 c3 c4 c5 c6 c7 c8 c9 c10 K1
      obtain ⟨p0, p1, p2, p3, p4⟩ := box_cells K3.out
      have lp := heap_lt K3.out.at_
      obtain ⟨b2, o2, e2, c0, c1, c2, c3, c4, c5, c6, c7, c8, c9, c10⟩ := insts_cells (insts_made H.out K3.out.made) hkm x HX.out
      obtain ⟨rfl, rfl⟩ : b = b2 ∧ o = o2 := by simpa using e2
      clear e2
      go_wp2_with (fail)
      refine (WP.out _ (HT.out.made K3.out.made).names).mono ?_
      rintro e w4 ⟨rfl, h4⟩
      have K4 := Lib.hid (K3.out.next h4)
      clear h4 p0 p1 p2 p3 p4 lp c0 c1 c2 c3 c4 c5 c6 c7 c8 c9 c10 K3
      obtain ⟨p0, p1, p2, p3, p4⟩ := box_cells K4.out
      have lp := heap_lt K4.out.at_
      go_wp2_with (fail)
      refine (WK.out _ K4.out.made).mono ?_
      rintro e w5 ⟨rfl, h5⟩
      have K5 := Lib.hid (K4.out.next h5)
      clear h5 p0 p1 p2 p3 p4 lp K4
      obtain ⟨p0, p1, p2, p3, p4⟩ := box_cells K5.out
      have lp := heap_lt K5.out.at_
      have m5 : Made w5 (w5.alloc (.cells (boxL (some ⟨b, o, none⟩) l.length cap false false raw false).toArray 28)) := (Made.refl w5).alloc (Nat.le_refl _) _
      obtain ⟨i0, hi0, hz0, hz1, hz2⟩ := info_parts inst_row
      go_upto_region 9 with (fail)
      refine name_world (fun u => Pair11 W W.heap.size w5.heap.size (boxL (some ⟨b, o, none⟩) l.length cap e0 e1 raw false) (boxL (some ⟨b, o, none⟩) l.length cap false false raw false) u) ⟨Made.trans K5.out.made m5, K5.out.made.size, m5.heap K5.out.at_, heap_alloc_new w5 _⟩ ?_
      intro u hu
      have KU := Lib.hid hu
      clear hu K5 p0 p1 p2 p3 p4 lp m5
      generalize w5.heap.size = Q at *
      obtain ⟨p0, p1, p2, p3, p4⟩ := pk5 KU.out.pk
      have lp := heap_lt KU.out.pk
      have lq := heap_lt KU.out.qk
      have hkcap : k ≤ cap := by omega
      have hwr : IntKind.i64.wrap ((k : Int) + 1) = (k : Int) + 1 := by rw [IntKind.wrap_i64]; omega
      have hp0 : (0 : Int) ≤ (k : Int) + 1 := by omega
      have hp1 : (k : Int) + 1 ≤ (l.length : Int) := by omega
      have hp2 : ((k : Int) + 1).toNat = k + 1 := by omega
      have hIU := insts_made H.out KU.out.made
      have m2 := (Made.refl u).alloc (Nat.le_refl _) (.cells #[] 24)
      have M2 := Lib.hid (made_drew11 m2)
      have HO1 := Lib.hid (World.ownsRow.drew (World.ownsRow_made (e := 24) (size := 11) (base := u.heap.size) u #[] 0 (Nat.le_refl _) (Nat.zero_le _) rfl))
      have HC1 := Lib.hid (insts_olds (insts_first (insts_made hIU M2.out) k) ⟨b, o, none⟩ rfl)
      have HS1 := Lib.hid (show ∀ x ∈ l.take k, x.small from fun x hx => H.out.small x (List.mem_of_mem_take hx))
      have HS2 := Lib.hid (show ∀ x ∈ l.take k ++ l.drop (k + 1), x.small from fun x hx => by
        rcases List.mem_append.1 hx with h | h
        · exact H.out.small x (List.mem_of_mem_take h)
        · exact H.out.small x (List.mem_of_mem_drop h))
      have hl1 : (flatI (l.take k)).length = k * 11 := by rw [flatI_len, List.length_take]; omega
      have hl2 : (flatI (l.drop (k + 1))).length = (l.length - (k + 1)) * 11 := by rw [flatI_len, List.length_drop]
      have hb1 : (0 + k) * 24 ≤ 140737488355328 := by omega
      have hx1 : 0 + k ≤ maxLen := by unfold maxLen; omega
      have hb2 : (k + (l.length - (k + 1))) * 24 ≤ 140737488355328 := by omega
      have hx2 : k + (l.length - (k + 1)) ≤ maxLen := by unfold maxLen; omega
      have hsz := Lib.hid M2.out.size
      have HI2 := Lib.hid hIU
      clear m2 hIU
      obtain ⟨A, hA, hA2⟩ : ∃ A : Addr, (if cap = k + 1 then some (⟨b, o, none⟩ : Addr) else some ⟨b, o + (k + 1) * 11, none⟩) = some A ∧ (∀ v, Made u v → ∀ j y, (flatI (l.drop (k + 1)))[j]? = some y → v.cell? (A.add j) = some y) := by
        by_cases h : cap = k + 1
        · refine ⟨_, if_pos h, fun v _ j y hy => ?_⟩
          rw [List.drop_eq_nil_of_le (by omega)] at hy
          simp at hy
        · exact ⟨_, if_neg h, fun v hv => insts_rest (insts_made HI2.out hv) k⟩
      have HC2 := Lib.hid hA2
      clear hA2
      go_region_law (first
        | (refine step_append_each rfl (.tmp 62) (.tmp 66) 26 rfl u.heap.size 24 i0 (In.val inZero) 11 24 Tryd.underlying26 hi0 hz0 hz1 hz2 rfl (by decide) (.slice (some ⟨u.heap.size, 0, none⟩) 0 0) 0 [] (by simp [Act.eval, Act.put]) HO1.out ⟨b, o, none⟩ k cap (flatI (l.take k)) (by simp [Act.eval, Act.put]) hl1 HC1.out (flatI_one _) hx1 hb1 hsz.out ?_
           intro v1 z1 own1 gr1 _
           rewrite [List.nil_append, Nat.zero_add] at own1
           obtain ⟨-, s1, c1, rfl, -⟩ := owns_insts own1 HS1.out
           have Q1 := Lib.hid (Below.grown M2.out gr1 hsz.out (fun j hj => (HO1.out.lt j hj).1))
           have KO1 := Lib.hid own1
           have KP1 := Lib.hid (KU.out.next Q1.out)
           have d0 := (pk5 KP1.out.pk).1
           clear own1 gr1)
        | (refine step_append_each rfl (.tmp 67) (.tmp 72) 26 rfl u.heap.size 24 i0 (In.val inZero) 11 24 Tryd.underlying26 hi0 hz0 hz1 hz2 rfl (by decide) (.slice s1 k c1) k (flatI (l.take k)) (by simp [Act.eval, Act.put]) KO1.out A (l.length - (k + 1)) (cap - (k + 1)) (flatI (l.drop (k + 1))) (by simp [Act.eval, Act.put]) hl2 (HC2.out _ Q1.out) (flatI_one _) hx2 hb2 Q1.out.size ?_
           intro v2 z2 own2 gr2 _
           rewrite [← flatI_app] at own2
           obtain ⟨-, s2, c2, rfl, -⟩ := owns_insts own2 HS2.out
           have Q2 := Lib.hid (Below.grown Q1.out gr2 Q1.out.size (fun j hj => (KO1.out.lt j hj).1))
           have KO2 := Lib.hid own2
           have KP2 := Lib.hid (KU.out.next Q2.out)
           have d0 := (pk5 KP2.out.pk).1
           have g0 := (pk5 KP2.out.qk).1
           have f0 := free_of_lit KP2.out.qk
           clear own2 gr2))
      all_goals
        have KO3 := ownsRow_setCell_below KO2.out lq (a := ⟨Q, 0, none⟩) (.slice s2 (k + (l.length - (k + 1))) c2)
        obtain ⟨hl3, s3, c3, e3, hI3⟩ := owns_insts KO3 HS2.out
        obtain ⟨rfl, rfl⟩ : s2 = s3 ∧ c2 = c3 := by simpa using e3
        have KM := Lib.hid (KP2.out.made.setCell (p := ⟨Q, 0, none⟩) KP2.out.low (.slice s2 (k + (l.length - (k + 1))) c2))
        have KZ := Lib.hid (show PkBox W Q (boxL s2 (k + (l.length - (k + 1))) c2 false false raw false) (z2.setCell ⟨Q, 0, none⟩ (.slice s2 (k + (l.length - (k + 1))) c2)) from ⟨KM.out, heap_setCell_same z2 Q 0 _ _ _ KP2.out.qk⟩)
        have HCC := fun (v : World) (hv : Made (z2.setCell ⟨Q, 0, none⟩ (.slice s2 (k + (l.length - (k + 1))) c2)) v) => lcheck_any s2 c2 (l.take k ++ l.drop (k + 1)) false false raw false v (HT.out.made (Made.trans KM.out hv)) (insts_made hI3 hv) (by rw [hl3]; omega)
        have HWW := fun (v : World) (hv : Made (z2.setCell ⟨Q, 0, none⟩ (.slice s2 (k + (l.length - (k + 1))) c2)) v) => lwords_any s2 c2 (l.take k ++ l.drop (k + 1)) false false raw false v (insts_made hI3 hv) (by rw [hl3]; omega)
        rewrite [hl3] at HCC HWW
        have HC := Lib.hid HCC
        have HW := Lib.hid HWW
        obtain ⟨hv1, hv2, -, -⟩ := legal_words LG.out
        obtain ⟨hres, hw1, hw2⟩ := HLL.out
        clear hI3 KO3 HCC HWW e3 hl3 HLL LG
        generalize z2.setCell ⟨Q, 0, none⟩ (.slice s2 (k + (l.length - (k + 1))) c2) = z3 at *
        generalize wordsP ⟨l, e0, e1, raw, false⟩ = n at *
        generalize wordsP ⟨l.take k ++ l.drop (k + 1), false, false, raw, false⟩ = wq at *
        generalize legalP ⟨l.take k ++ l.drop (k + 1), false, false, raw, false⟩ = ev at *
        generalize (writesP x).2 = wa at *
        generalize (wpredP x).2 = wb at *
        have hway : ev = 0 ∨ (ev = 12 ∧ wa = true) ∨ (ev = 12 ∧ wa = false ∧ wb = true) := by
          rcases hres with h | ⟨h, h2 | h2⟩
          · exact .inl h
          · exact .inr (.inl ⟨h, h2⟩)
          · cases wa with
            | true => exact .inr (.inl ⟨h, rfl⟩)
            | false => exact .inr (.inr ⟨h, rfl, h2⟩)
        have hd1 : decide (wq < n) = true := decide_eq_true hw1
        have hd2 : decide (wq ≥ n - 2) = true := decide_eq_true hw2
        have hd3 : decide (n - 2 ≤ wq) = true := decide_eq_true hw2
        clear hres
        obtain ⟨y0, y1, y2, y3, y4⟩ := box_cells KZ.out
        have ly := heap_lt KZ.out.at_
        rcases hway with rfl | ⟨rfl, rfl⟩ | ⟨rfl, rfl, rfl⟩
        all_goals
          go_wp2_with (fail)
          refine (HC.out _ (Made.refl _)).mono ?_
          rintro e z4 ⟨rfl, h4⟩
          have K5 := Lib.hid (KZ.out.next h4)
          have A5 := Lib.hid h4
          clear h4 y0 y1 y2 y3 y4 ly
          obtain ⟨y0, y1, y2, y3, y4⟩ := box_cells K5.out
          have ly := heap_lt K5.out.at_
          go_wp2_with (fail)
          refine (HW.out _ A5.out).mono ?_
          rintro e z5 ⟨rfl, h5⟩
          have K6 := Lib.hid (K5.out.next h5)
          have A6 := Lib.hid (Made.trans A5.out h5)
          clear h5 y0 y1 y2 y3 y4 ly
          obtain ⟨y0, y1, y2, y3, y4⟩ := box_cells K6.out
          have ly := heap_lt K6.out.at_
          go_wp2_with (fail)
          refine (HW.out _ A6.out).mono ?_
          rintro e z6 ⟨rfl, h6⟩
          have K7 := Lib.hid (K6.out.next h6)
          clear h6 y0 y1 y2 y3 y4 ly
          go_wp2_with (fail)
          refine (HA.out _ K7.out.made).mono ?_
          rintro e z7 ⟨rfl, h7⟩
          have K8 := Lib.hid (Made.trans K7.out.made h7)
          clear h7
          go_wp2
          go_ret
          exact ⟨rfl, K8.out⟩
    · have hcb : (legalP ⟨l, e0, e1, raw, false⟩ != 0) = true := bne_iff_ne.2 hc
      clear hc
      generalize legalP ⟨l, e0, e1, raw, false⟩ = cv at *
      go_wp2_with (fail)
      refine (HA.out _ K1.out.made).mono ?_
      rintro e w2 ⟨rfl, hm2⟩
      have K2 := Lib.hid (Made.trans K1.out.made hm2)
      clear hm2
      go_wp2
      go_ret
      exact ⟨rfl, K2.out⟩
end
theorem walkA (W : World) (hT : Tabs W) (ao : Option Addr) (cap : Nat) (l : List In) (e0 e1 raw dup : Bool) (a1 : Int) (hI : Insts W ao cap l) (w1 : (Lit.int .u8 a1).wf = true) :
    Calls Tryd.prog 6 #[pkV ao l.length cap e0 e1 raw dup, .int .u8 a1] W fun e w' => e = .returned (.bool true) ∧ Made W w' := by
  obtain ⟨t, rfl, ht⟩ : ∃ t : Nat, a1 = t ∧ t < 256 := by
    have k1 : IntKind.u8.min = 0 := rfl
    have k2 : IntKind.u8.max = 255 := rfl
    simp only [Lit.wf, Bool.and_eq_true, decide_eq_true_eq] at w1
    exact ⟨a1.toNat, by omega, by omega⟩
  exact walk W hT ao cap l e0 e1 raw dup t hI ht
end legalLess
end Go.Proofs.YtaieiaopdbhjaaaDoor
