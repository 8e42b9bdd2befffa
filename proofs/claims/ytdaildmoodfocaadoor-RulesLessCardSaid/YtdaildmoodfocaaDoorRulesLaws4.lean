/- RulesLess of the laws of rules returns true, for every packet and any place, in every world that holds the table of names. -/
import Derived.Test.YtdaildmoodfocaaDoorRulesLaws2
import Derived.Test.YtdaildmoodfocaaDoorInstFns
import Derived.Deep.RegionLaw
namespace Go.Proofs.YtdaildmoodfocaaDoor
open Go.ChangeShapes Go.WideShapes Go.ChangeAt Go.RowKit Go.Sort BigFrame

theorem made_drew9 {W w : World} (h : Made W w) : Made W w.drew := ⟨h.os, h.tape, h.output, h.size, h.block⟩
theorem insts_first {w : World} {b o cap : Nat} {l : List In} (h : Insts w (some ⟨b, o, none⟩) cap l) (k : Nat) : Insts w (some ⟨b, o, none⟩) cap (l.take k) := by
  have hr := h.room
  refine ⟨by rw [List.length_take]; omega, h.max, fun x hx => h.small x (List.mem_of_mem_take hx), fun h => by simp at h, fun t ht => ?_⟩
  rw [List.length_take] at ht
  obtain ⟨b', o', e, hc⟩ := h.cell t (by omega)
  refine ⟨b', o', e, fun r hr => ?_⟩
  rw [hc r hr, List.getElem_take]
theorem insts_rest {w : World} {b o cap : Nat} {l : List In} (h : Insts w (some ⟨b, o, none⟩) cap l) (k : Nat) : ∀ j u, (flatI (l.drop (k + 1)))[j]? = some u → w.cell? ((⟨b, o + (k + 1) * 11, none⟩ : Addr).add j) = some u := by
  have hI : Insts w (some ⟨b, o + (k + 1) * 11, none⟩) cap (l.drop (k + 1)) := by
    have hr := h.room
    refine ⟨by rw [List.length_drop]; omega, h.max, fun x hx => h.small x (List.mem_of_mem_drop hx), fun h => by simp at h, fun t ht => ?_⟩
    rw [List.length_drop] at ht
    obtain ⟨b', o', e, hc⟩ := h.cell (k + 1 + t) (by omega)
    obtain ⟨rfl, rfl⟩ : b = b' ∧ o = o' := by simpa using e
    refine ⟨b, _, rfl, fun r hr => ?_⟩
    rw [show o + (k + 1) * 11 + t * 11 + r = o + (k + 1 + t) * 11 + r by omega, hc r hr, List.getElem_drop]
  exact insts_olds hI _ rfl
namespace rulesLess
section
attribute [local irreducible] World.cell?
set_option maxRecDepth 100000 in
set_option maxHeartbeats 32000000 in
theorem walk (W : World) (hT : Names W) (ao : Option Addr) (cap : Nat) (l : List In) (e0 e1 raw dup : Bool) (at_ : Nat) (hI : Insts W ao cap l) (hat : at_ < 256) :
    Calls Tryd.prog 7 #[pkV ao l.length cap e0 e1 raw dup, .int .u8 at_] W fun e w' => e = .returned (.bool true) ∧ Made W w' := by
  have HA := Lib.hid (awake10_any W hT)
  have K0 := Lib.hid (pk_start (Made.refl W) (pkL ao l.length cap e0 e1 raw dup))
  have H := Lib.hid hI
  have hmax := hI.max
  have hroom := hI.room
  have HT := Lib.hid hT
  unfold maxLen at hmax
  clear hI hT
  by_cases hlen : 8 < l.length
  · go_enter Tryd.func7, Tryd.ntmps7
    go_wp2_with (fail)
    refine (HA.out _ K0.out.made).mono ?_
    rintro e w1 ⟨rfl, hm1⟩
    have K1 := Lib.hid hm1
    clear hm1
    go_wp2
    go_ret
    exact ⟨rfl, K1.out⟩
  · have HOK := Lib.hid (ok_iff ⟨l, e0, e1, raw, dup⟩)
    go_enter Tryd.func7, Tryd.ntmps7
    go_wp2_with (fail)
    refine (check_any ao cap l e0 e1 raw dup _ (HT.out.made K0.out.made) (insts_made H.out K0.out.made)).mono ?_
    rintro e w1 ⟨rfl, h1⟩
    have K1 := Lib.hid (K0.out.next h1)
    clear h1 K0
    generalize checkP ⟨l, e0, e1, raw, dup⟩ = cv at *
    by_cases hc : cv = 0
    · subst hc
      have OK := HOK.out.1 rfl
      have HO := Lib.hid OK
      obtain ⟨f1, f2, -, -⟩ := (form_iff _).1 OK.form
      have hl4 : l.length ≤ 4 := f2
      have hl0 : 0 < l.length := List.length_pos_iff.2 f1
      clear OK f1 f2 HOK hlen
      obtain ⟨p0, p1, p2, p3, p4⟩ := pk_cells K1.out
      have lp := heap_lt K1.out.at_
      have hkm : at_ % l.length < l.length := Nat.mod_lt _ hl0
      have hkc : ((at_ : Int)).tmod (l.length : Int) = ((at_ % l.length : Nat) : Int) := by rw [Int.tmod_eq_emod_of_nonneg (by omega)]; simp
      have Q0 := Lib.hid (show checkP ⟨l, false, false, raw, dup⟩ = 0 from (ok_iff _).2 (less_ends HO.out))
      have m1 := (Made.refl w1).alloc (Nat.le_refl _) (.cells (pkL ao l.length cap false false raw dup).toArray 27)
      have M1 := Lib.hid m1
      go_wp2_with (fail)
      refine (check_any ao cap l false false raw dup _ (HT.out.made (Made.trans K1.out.made M1.out)) (insts_made H.out (Made.trans K1.out.made M1.out))).mono ?_
      rintro e w2 ⟨rfl, h2⟩
      have K2 := Lib.hid (K1.out.next (Made.trans M1.out h2))
      clear h2 p0 p1 p2 p3 p4 lp m1 M1 K1
      rewrite [Q0.out]
      obtain ⟨p0, p1, p2, p3, p4⟩ := pk_cells K2.out
      have lp := heap_lt K2.out.at_
      generalize hk : at_ % l.length = k at *
      have HK := Lib.hid hk
      clear hk Q0
      obtain ⟨x, hx⟩ : ∃ x, l[k] = x := ⟨_, rfl⟩
      obtain ⟨b, o, rfl, c0, c1, c2, c3, c4, c5, c6, c7, c8, c9, c10⟩ := insts_cells (insts_made H.out K2.out.made) hkm x hx
      have hsm := H.out.small x (hx ▸ List.getElem_mem hkm)
      have WR := Lib.hid (fun v (hv : Names v) => writes_any v hv x hsm v (Made.refl v))
      have WP := Lib.hid (fun v (hv : Names v) => writesPred_any v hv x hsm v (Made.refl v))
      have HX := Lib.hid hx
      have hsp : l = l.take k ++ x :: l.drop (k + 1) := by
        rw [← hx, ← List.drop_eq_getElem_cons hkm, List.take_append_drop]
      have HL := Lib.hid (show AllOk ⟨l.take k ++ x :: l.drop (k + 1), e0, e1, raw, dup⟩ by rw [← hsp]; exact HO.out)
      have HLL := Lib.hid (fun hw hp hl => less_ok HL.out hw hp (by rw [← hsp]; exact hl) e0 e1 (fun h => h))
      clear hsp hx hsm
      go_wp2_with (fail)
      refine (WR.out _ (HT.out.made K2.out.made)).mono ?_
      rintro e w3 ⟨rfl, h3⟩
      have K3 := Lib.hid (K2.out.next h3)
      clear h3 p0 p1 p2 p3 p4 lp c0 c1 c2 c3 c4 c5 c6 c7 c8 c9 c10 K2
      obtain ⟨p0, p1, p2, p3, p4⟩ := pk_cells K3.out
      have lp := heap_lt K3.out.at_
      obtain ⟨b2, o2, e2, c0, c1, c2, c3, c4, c5, c6, c7, c8, c9, c10⟩ := insts_cells (insts_made H.out K3.out.made) hkm x HX.out
      obtain ⟨rfl, rfl⟩ : b = b2 ∧ o = o2 := by simpa using e2
      clear e2
      go_wp2_with (fail)
      refine (WP.out _ (HT.out.made K3.out.made)).mono ?_
      rintro e w4 ⟨rfl, h4⟩
      have K4 := Lib.hid (K3.out.next h4)
      clear h4 p0 p1 p2 p3 p4 lp c0 c1 c2 c3 c4 c5 c6 c7 c8 c9 c10 K3
      obtain ⟨p0, p1, p2, p3, p4⟩ := pk_cells K4.out
      have lp := heap_lt K4.out.at_
      generalize writesP x = ww at *
      generalize wpredP x = pp at *
      obtain ⟨r, ro⟩ := ww
      obtain ⟨q, qo⟩ := pp
      by_cases hq : ro = true ∨ qo = true ∨ l.length = 1
      · have hway : ro = true ∨ (ro = false ∧ qo = true) ∨ (ro = false ∧ qo = false ∧ ((l.length : Int) == 1) = true) := by
          cases ro <;> cases qo <;> simp_all
        clear hq
        rcases hway with rfl | ⟨rfl, rfl⟩ | ⟨rfl, rfl, hl1⟩
        all_goals
          go_wp2_with (fail)
          refine (HA.out _ K4.out.made).mono ?_
          rintro e w5 ⟨rfl, h5⟩
          have K5 := Lib.hid h5
          clear h5
          go_wp2
          go_ret
          exact ⟨rfl, K5.out⟩
      · obtain ⟨rfl, rfl, hl1⟩ : ro = false ∧ qo = false ∧ l.length ≠ 1 := by cases ro <;> cases qo <;> simp_all
        have hlb : ((l.length : Int) == 1) = false := beq_eq_false_iff_ne.2 (by omega)
        have HN := Lib.hid (HLL.out rfl rfl hl1)
        clear hq HLL hl1
        obtain ⟨i0, hi0, hz0, hz1, hz2⟩ := info_parts inst_row
        go_upto_region 12 with (fail)
        refine name_world (fun u => PkAt W W.heap.size (pkL (some ⟨b, o, none⟩) l.length cap e0 e1 raw dup) u) K4.out ?_
        intro u hu
        have KU := Lib.hid hu
        clear hu K4 p0 p1 p2 p3 p4 lp
        obtain ⟨p0, p1, p2, p3, p4⟩ := pk_cells KU.out
        have lp := heap_lt KU.out.at_
        have hkcap : k ≤ cap := by omega
        have hwr : IntKind.i64.wrap ((k : Int) + 1) = (k : Int) + 1 := by rw [IntKind.wrap_i64]; omega
        have hp0 : (0 : Int) ≤ (k : Int) + 1 := by omega
        have hp1 : (k : Int) + 1 ≤ (l.length : Int) := by omega
        have hp2 : ((k : Int) + 1).toNat = k + 1 := by omega
        have hIU := insts_made H.out KU.out.made
        have m2 := (Made.refl u).alloc (Nat.le_refl _) (.cells #[] 24)
        have M2 := Lib.hid (made_drew9 m2)
        have HO1 := Lib.hid (World.ownsRow.drew (World.ownsRow_made (e := 24) (size := 11) (base := u.heap.size) u #[] 0 (Nat.le_refl _) (Nat.zero_le _) rfl))
        have HC1 := Lib.hid (insts_olds (insts_first (insts_made hIU M2.out) k) ⟨b, o, none⟩ rfl)
        have HS1 := Lib.hid (show ∀ x ∈ l.take k, x.small from fun x hx => H.out.small x (List.mem_of_mem_take hx))
        have HS2 := Lib.hid (show ∀ x ∈ l.take k ++ l.drop (k + 1), x.small from fun x hx => by
          rcases List.mem_append.1 hx with h | h
          · exact H.out.small x (List.mem_of_mem_take h)
          · exact H.out.small x (List.mem_of_mem_drop h))
        have hl1 : (flatI (l.take k)).length = k * 11 := by rw [flatI_len, List.length_take]; omega
        have hl2 : (flatI (l.drop (k + 1))).length = (l.length - (k + 1)) * 11 := by rw [flatI_len, List.length_drop]
        have hb1 : (0 + k) * 24 ≤ 140737488355328 := by omega
        have hx1 : 0 + k ≤ maxLen := by unfold maxLen; omega
        have hb2 : (k + (l.length - (k + 1))) * 24 ≤ 140737488355328 := by omega
        have hx2 : k + (l.length - (k + 1)) ≤ maxLen := by unfold maxLen; omega
        have hsz := Lib.hid M2.out.size
        have HI2 := Lib.hid hIU
        clear m2 hIU
        obtain ⟨A, hA, hA2⟩ : ∃ A : Addr, (if cap = k + 1 then some (⟨b, o, none⟩ : Addr) else some ⟨b, o + (k + 1) * 11, none⟩) = some A ∧ (∀ v, Made u v → ∀ j y, (flatI (l.drop (k + 1)))[j]? = some y → v.cell? (A.add j) = some y) := by
          by_cases h : cap = k + 1
          · refine ⟨_, if_pos h, fun v _ j y hy => ?_⟩
            rw [List.drop_eq_nil_of_le (by omega)] at hy
            simp at hy
          · exact ⟨_, if_neg h, fun v hv => insts_rest (insts_made HI2.out hv) k⟩
        have HC2 := Lib.hid hA2
        clear hA2
        go_region_law (first
          | (refine step_append_each rfl (.tmp 62) (.tmp 66) 25 rfl u.heap.size 24 i0 (In.val inZero) 11 24 Tryd.underlying25 hi0 hz0 hz1 hz2 rfl (by decide) (.slice (some ⟨u.heap.size, 0, none⟩) 0 0) 0 [] (by simp [Act.eval, Act.put]) HO1.out ⟨b, o, none⟩ k cap (flatI (l.take k)) (by simp [Act.eval, Act.put]) hl1 HC1.out (flatI_one _) hx1 hb1 hsz.out ?_
             intro v1 z1 own1 gr1 _
             rewrite [List.nil_append, Nat.zero_add] at own1
             obtain ⟨-, s1, c1, rfl, -⟩ := owns_insts own1 HS1.out
             have Q1 := Lib.hid (Below.grown M2.out gr1 hsz.out (fun j hj => (HO1.out.lt j hj).1))
             have KO1 := Lib.hid own1
             have KP1 := Lib.hid (KU.out.next Q1.out)
             have d0 := (pk_cells KP1.out).1
             clear own1 gr1)
          | (refine step_append_each rfl (.tmp 67) (.tmp 72) 25 rfl u.heap.size 24 i0 (In.val inZero) 11 24 Tryd.underlying25 hi0 hz0 hz1 hz2 rfl (by decide) (.slice s1 k c1) k (flatI (l.take k)) (by simp [Act.eval, Act.put]) KO1.out A (l.length - (k + 1)) (cap - (k + 1)) (flatI (l.drop (k + 1))) (by simp [Act.eval, Act.put]) hl2 (HC2.out _ Q1.out) (flatI_one _) hx2 hb2 Q1.out.size ?_
             intro v2 z2 own2 gr2 _
             rewrite [← flatI_app] at own2
             obtain ⟨-, s2, c2, rfl, -⟩ := owns_insts own2 HS2.out
             have Q2 := Lib.hid (Below.grown Q1.out gr2 Q1.out.size (fun j hj => (KO1.out.lt j hj).1))
             have KO2 := Lib.hid own2
             have KP2 := Lib.hid (KU.out.next Q2.out)
             have d0 := (pk_cells KP2.out).1
             have f0 := free_of_lit KP2.out.at_
             clear own2 gr2))
        all_goals
          have KO3 := ownsRow_setCell_below KO2.out lp (a := ⟨W.heap.size, 0, none⟩) (.slice s2 (k + (l.length - (k + 1))) c2)
          obtain ⟨hl3, s3, c3, e3, hI3⟩ := owns_insts KO3 HS2.out
          obtain ⟨rfl, rfl⟩ : s2 = s3 ∧ c2 = c3 := by simpa using e3
          have KM := Lib.hid (KP2.out.made.setCell (p := ⟨W.heap.size, 0, none⟩) (Nat.le_refl _) (.slice s2 (k + (l.length - (k + 1))) c2))
          have KZ := Lib.hid (show PkAt W W.heap.size (pkL s2 (k + (l.length - (k + 1))) c2 e0 e1 raw dup) (z2.setCell ⟨W.heap.size, 0, none⟩ (.slice s2 (k + (l.length - (k + 1))) c2)) from
            ⟨KM.out, heap_setCell_same z2 W.heap.size 0 _ _ _ KP2.out.at_⟩)
          have HC := check_any s2 c2 (l.take k ++ l.drop (k + 1)) e0 e1 raw dup _ (HT.out.made KM.out) hI3
          rewrite [hl3, (ok_iff _).2 HN.out] at HC
          have HC3 := Lib.hid HC
          clear hI3 KO3 HC e3 hl3
          generalize z2.setCell ⟨W.heap.size, 0, none⟩ (.slice s2 (k + (l.length - (k + 1))) c2) = z3 at *
          obtain ⟨y0, y1, y2, y3, y4⟩ := pk_cells KZ.out
          have ly := heap_lt KZ.out.at_
          go_wp2_with (fail)
          refine HC3.out.mono ?_
          rintro e z4 ⟨rfl, h4⟩
          have K5 := Lib.hid (Made.trans KM.out h4)
          clear h4 y0 y1 y2 y3 y4 ly
          go_wp2_with (fail)
          refine (HA.out _ K5.out).mono ?_
          rintro e z5 ⟨rfl, h5⟩
          have K6 := Lib.hid h5
          clear h5
          go_wp2
          go_ret
          exact ⟨rfl, K6.out⟩
    · have hcb : (cv != 0) = true := bne_iff_ne.2 hc
      clear hc
      go_wp2_with (fail)
      refine (HA.out _ K1.out.made).mono ?_
      rintro e w2 ⟨rfl, hm2⟩
      have K2 := Lib.hid hm2
      clear hm2
      go_wp2
      go_ret
      exact ⟨rfl, K2.out⟩
end
theorem walkA (W : World) (hT : Names W) (ao : Option Addr) (cap : Nat) (l : List In) (e0 e1 raw dup : Bool) (a1 : Int) (hI : Insts W ao cap l) (w1 : (Lit.int .u8 a1).wf = true) :
    Calls Tryd.prog 7 #[pkV ao l.length cap e0 e1 raw dup, .int .u8 a1] W fun e w' => e = .returned (.bool true) ∧ Made W w' := by
  obtain ⟨t, rfl, ht⟩ : ∃ t : Nat, a1 = t ∧ t < 256 := by
    have k1 : IntKind.u8.min = 0 := rfl
    have k2 : IntKind.u8.max = 255 := rfl
    simp only [Lit.wf, Bool.and_eq_true, decide_eq_true_eq] at w1
    exact ⟨a1.toNat, by omega, by omega⟩
  exact walk W hT ao cap l e0 e1 raw dup t hI ht
end rulesLess
end Go.Proofs.YtdaildmoodfocaaDoor
