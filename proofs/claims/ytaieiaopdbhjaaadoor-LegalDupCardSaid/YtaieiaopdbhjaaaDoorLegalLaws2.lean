/- LegalDup of the laws of legal returns true, for every packet, in every world that holds the tables. -/
import Derived.Test.YtaieiaopdbhjaaaDoorLegalLaws
namespace Go.Proofs.YtaieiaopdbhjaaaDoor
open Go.ChangeShapes Go.WideShapes Go.ChangeAt Go.RowKit Go.Sort BigFrame

theorem PkBox.raw {W w : World} {B : Nat} {ao : Option Addr} {n cap : Nat} {e0 e1 raw dup : Bool} (h : PkBox W B (boxL ao n cap e0 e1 raw dup) w) (hB : W.heap.size ≤ B) (v : Bool) : PkBox W B (boxL ao n cap e0 e1 v dup) (w.setCell ⟨B, 3, none⟩ (.bool v)) :=
  ⟨h.made.setCell (p := ⟨B, 3, none⟩) hB _, heap_setCell_same w B 3 _ _ _ h.at_⟩
theorem PkBox.dup {W w : World} {B : Nat} {ao : Option Addr} {n cap : Nat} {e0 e1 raw dup : Bool} (h : PkBox W B (boxL ao n cap e0 e1 raw dup) w) (hB : W.heap.size ≤ B) (v : Bool) : PkBox W B (boxL ao n cap e0 e1 raw v) (w.setCell ⟨B, 4, none⟩ (.bool v)) :=
  ⟨h.made.setCell (p := ⟨B, 4, none⟩) hB _, heap_setCell_same w B 4 _ _ _ h.at_⟩
namespace legalDup
section
attribute [local irreducible] World.cell?
set_option maxRecDepth 100000 in
set_option maxHeartbeats 32000000 in
theorem walk (W : World) (hT : Tabs W) (ao : Option Addr) (cap : Nat) (l : List In) (e0 e1 raw dup : Bool) (hI : Insts W ao cap l) :
    Calls Tryd.prog 5 #[pkV ao l.length cap e0 e1 raw dup] W fun e w' => e = .returned (.bool true) ∧ Made W w' := by
  have HA := Lib.hid (fun (u : World) (hu : Made W u) => awake11_any u (hT.made hu) u (Made.refl u))
  have K0 := Lib.hid (box_start (Made.refl W) (boxL ao l.length cap e0 e1 raw dup))
  have H := Lib.hid hI
  have hmax := hI.max
  have hroom := hI.room
  have HT := Lib.hid hT
  unfold maxLen at hmax
  clear hI hT
  by_cases hlen : 7 < l.length
  · go_enter Tryd.func5, Tryd.ntmps5
    go_wp2_with (fail)
    refine (HA.out _ K0.out.made).mono ?_
    rintro e w1 ⟨rfl, hm1⟩
    have K1 := Lib.hid (Made.trans K0.out.made hm1)
    clear hm1
    go_wp2
    go_ret
    exact ⟨rfl, K1.out⟩
  · have hl7 : l.length ≤ 1000 := by omega
    have CK := Lib.hid (fun (u : World) (hu : Made W u) (f0 f1 r d : Bool) => lcheck_any ao cap l f0 f1 r d u (HT.out.made hu) (insts_made H.out hu) hl7)
    have TK := Lib.hid (fun (u : World) (hu : Made W u) (f0 f1 r d : Bool) => ltakes_any ao cap l f0 f1 r d u (HT.out.made hu) (insts_made H.out hu) hl7)
    have WK := Lib.hid (fun (u : World) (hu : Made W u) (f0 f1 r d : Bool) => lwords_any ao cap l f0 f1 r d u (insts_made H.out hu) hl7)
    have RK := Lib.hid (fun (u : World) (hu : Made W u) (f0 f1 r d : Bool) => check_any ao cap l f0 f1 r d u (HT.out.made hu).names (insts_made H.out hu))
    have SK := Lib.hid (fun (u : World) (hu : Made W u) => lchoose_any ao cap l u (HT.out.made hu) (insts_made H.out hu) hl7)
    have HOK := Lib.hid (legal_iff ⟨l, e0, e1, raw, dup⟩)
    have hB := Nat.le_refl W.heap.size
    go_enter Tryd.func5, Tryd.ntmps5
    obtain ⟨p0, p1, p2, p3, p4⟩ := box_cells K0.out
    go_wp2_with (fail)
    refine (CK.out _ K0.out.made e0 e1 raw dup).mono ?_
    rintro e w1 ⟨rfl, h1⟩
    have K1 := Lib.hid (K0.out.next h1)
    clear h1 p0 p1 p2 p3 p4
    by_cases hc : legalP ⟨l, e0, e1, raw, dup⟩ = 0
    · have LG := Lib.hid (HOK.out.1 hc)
      rewrite [hc]
      clear hc HOK
      obtain ⟨p0, p1, p2, p3, p4⟩ := box_cells K1.out
      have lp := heap_lt K1.out.at_
      go_wp2_with (fail)
      refine (WK.out _ K1.out.made e0 e1 raw dup).mono ?_
      rintro e w2 ⟨rfl, h2⟩
      have K2 := Lib.hid (K1.out.next h2)
      clear h2 p0 p1 p2 p3 p4 lp
      obtain ⟨v1, v2, v3, v4⟩ := legal_words LG.out
      have HW := Lib.hid (show wordsP ⟨l, e0, e1, raw, dup⟩ = wordsP ⟨l, e0, e1, raw, dup⟩ from rfl)
      generalize hn : wordsP ⟨l, e0, e1, raw, dup⟩ = n at v1 v2 v3 v4 ⊢
      have HNN := Lib.hid hn
      clear hn HW
      obtain ⟨p0, p1, p2, p3, p4⟩ := box_cells K2.out
      have lp := heap_lt K2.out.at_
      go_wp2_with (fail)
      refine (RK.out _ K2.out.made e0 e1 raw dup).mono ?_
      rintro e w3 ⟨rfl, h3⟩
      have K3 := Lib.hid (K2.out.next h3)
      clear h3 p0 p1 p2 p3 p4 lp
      rewrite [(ok_iff _).2 LG.out.rules]
      obtain ⟨p0, p1, p2, p3, p4⟩ := box_cells K3.out
      have lp := heap_lt K3.out.at_
      have d1 : decide (n < 1) = false := decide_eq_false (by omega)
      have d2 : decide (n > 4) = false := decide_eq_false (by omega)
      have d3 : (e0 = true ∧ decide (n < 2) = false) ∨ e0 = false := by
        cases e0 with
        | true => exact .inl ⟨rfl, decide_eq_false (by have := v3 rfl; omega)⟩
        | false => exact .inr rfl
      have d4 : (e1 = true ∧ decide (n < 3) = false) ∨ e1 = false := by
        cases e1 with
        | true => exact .inl ⟨rfl, decide_eq_false (by have := v4 rfl; omega)⟩
        | false => exact .inr rfl
      have HD2 := Lib.hid (fun (h : dup = false) (ht : takesP ⟨l, e0, e1, false, false⟩ = true) => legal_dup (p := ⟨l, e0, e1, false, false⟩) (by have := legal_plain LG.out; rw [h] at this; exact this) rfl ht)
      have HD3 := Lib.hid (fun (h : dup = false) => (legal_iff ⟨l, e0, e1, true, false⟩).2 (by have := legal_raw LG.out h; rw [h] at this; exact this))
      have HD4 := Lib.hid (fun (h : dup = true) => (show anyP l = true ∧ raw = false from by
        have h1 := LG.out.placed
        have h2 := ((form_iff _).1 LG.out.rules.form).2.2.1
        rw [h] at h1 h2
        exact ⟨h1, by simpa using h2⟩))
      have HD5 := Lib.hid (fun (h : dup = false) => (show wordsP ⟨l, e0, e1, false, false⟩ = n from by rw [← HNN.out, h]; rfl))
      have HD6 := Lib.hid (show takesP ⟨l, e0, e1, true, false⟩ = false from rfl)
      clear v3 v4 LG HNN
      rcases d3 with ⟨he0, d3⟩ | he0 <;> rcases d4 with ⟨he1, d4⟩ | he1
      all_goals
        rewrite [he0] at p1
        rewrite [he1] at p2
        clear he0 he1
        go_upto_region 6 with (fail)
        clear d1 d2 p0 p1 p2 p3 p4
        obtain ⟨p0, p1, p2, p3, p4⟩ := box_cells K3.out
        cases dup with
        | true =>
          obtain ⟨hany, rfl⟩ := HD4.out rfl
          have HAN := Lib.hid hany
          clear hany HD2 HD3 HD4 HD5 HD6
          go_wp2_with (fail)
          refine (SK.out _ K3.out.made).mono ?_
          rintro e w4 ⟨i, j, ok, rfl, hch, h4⟩
          have K4 := Lib.hid (K3.out.next h4)
          obtain rfl : ok = true := by rw [choice_any hch]; exact HAN.out
          clear h4 hch p0 p1 p2 p3 p4 lp
          obtain ⟨p0, p1, p2, p3, p4⟩ := box_cells K4.out
          go_wp2_with (fail)
          refine (HA.out _ K4.out.made).mono ?_
          rintro e w5 ⟨rfl, h5⟩
          have K5 := Lib.hid (Made.trans K4.out.made h5)
          clear h5
          go_wp2
          go_ret
          exact ⟨rfl, K5.out⟩
        | false =>
          have H2 := Lib.hid (HD2.out rfl)
          have H3 := Lib.hid (HD3.out rfl)
          have H5 := Lib.hid (HD5.out rfl)
          clear HD2 HD3 HD4 HD5
          have m3 : Made w3 (w3.alloc (.cells (boxL ao l.length cap e0 e1 true false).toArray 28)) := (Made.refl w3).alloc (Nat.le_refl _) _
          have Q3 := Lib.hid (show PkBox W w3.heap.size (boxL ao l.length cap e0 e1 true false) (w3.alloc (.cells (boxL ao l.length cap e0 e1 true false).toArray 28)) from ⟨Made.trans K3.out.made m3, heap_alloc_new w3 _⟩)
          have K3' := Lib.hid (K3.out.next m3)
          clear m3
          go_upto_region 11 with (fail)
          refine name_world (fun u => PkBox W w3.heap.size (boxL ao l.length cap e0 e1 true false) u ∧ PkBox W W.heap.size (boxL ao l.length cap e0 e1 raw false) u) ⟨Q3.out, K3'.out⟩ ?_
          rintro z0 ⟨hq, hk⟩
          have QA := Lib.hid hq
          have KA := Lib.hid hk
          clear hq hk Q3 K3' K3 p0 p1 p2 p3 p4 lp
          generalize w3.heap.size = B2 at *
          obtain ⟨q0, q1, q2, q3, q4⟩ := box_cells QA.out
          have lq := heap_lt QA.out.at_
          go_wp2_with (fail)
          refine (CK.out _ QA.out.made e0 e1 true false).mono ?_
          rintro e z1 ⟨rfl, h1⟩
          have QB := Lib.hid (QA.out.next h1)
          have KB := Lib.hid (KA.out.next h1)
          clear h1 q0 q1 q2 q3 q4 lq QA KA
          rewrite [H3.out]
          obtain ⟨q0, q1, q2, q3, q4⟩ := box_cells QB.out
          have lq := heap_lt QB.out.at_
          go_wp2_with (fail)
          refine (TK.out _ QB.out.made e0 e1 true false).mono ?_
          rintro e z2 ⟨rfl, h2⟩
          have KC := Lib.hid (KB.out.next h2)
          clear h2 q0 q1 q2 q3 q4 lq QB KB
          rewrite [HD6.out]
          obtain ⟨p0, p1, p2, p3, p4⟩ := box_cells KC.out
          have lp := heap_lt KC.out.at_
          have fp := free_of_lit KC.out.at_
          go_upto_region 14 with (fail)
          refine name_world (fun u => PkBox W W.heap.size (boxL ao l.length cap e0 e1 false false) u) (KC.out.raw hB false) ?_
          intro z3 hk
          have KD := Lib.hid hk
          clear hk p0 p1 p2 p3 p4 lp fp KC
          obtain ⟨p0, p1, p2, p3, p4⟩ := box_cells KD.out
          have lp := heap_lt KD.out.at_
          go_wp2_with (fail)
          refine (TK.out _ KD.out.made e0 e1 false false).mono ?_
          rintro e z4 ⟨rfl, h4⟩
          have KE := Lib.hid (KD.out.next h4)
          clear h4 p0 p1 p2 p3 p4 lp KD
          obtain ⟨p0, p1, p2, p3, p4⟩ := box_cells KE.out
          have lp := heap_lt KE.out.at_
          have fp := free_of_lit KE.out.at_
          cases htk : takesP ⟨l, e0, e1, false, false⟩ with
          | false =>
            clear htk H2
            go_wp2_with (fail)
            refine (HA.out _ KE.out.made).mono ?_
            rintro e z5 ⟨rfl, h5⟩
            have KF := Lib.hid (Made.trans KE.out.made h5)
            clear h5
            go_wp2
            go_ret
            exact ⟨rfl, KF.out⟩
          | true =>
            obtain ⟨hlg, hwd⟩ := H2.out htk
            have HLG := Lib.hid ((legal_iff ⟨l, e0, e1, false, true⟩).2 hlg)
            have HWD := Lib.hid (show wordsP ⟨l, e0, e1, false, true⟩ = n - 1 from hwd.trans (by rw [H5.out]))
            clear htk H2 hlg hwd
            go_upto_region 17 with (fail)
            refine name_world (fun u => PkBox W W.heap.size (boxL ao l.length cap e0 e1 false true) u) (KE.out.dup hB true) ?_
            intro z5 hk
            have KF := Lib.hid hk
            clear hk p0 p1 p2 p3 p4 lp fp KE
            obtain ⟨p0, p1, p2, p3, p4⟩ := box_cells KF.out
            have lp := heap_lt KF.out.at_
            go_wp2_with (fail)
            refine (CK.out _ KF.out.made e0 e1 false true).mono ?_
            rintro e z6 ⟨rfl, h6⟩
            have KG := Lib.hid (KF.out.next h6)
            clear h6 p0 p1 p2 p3 p4 lp KF
            rewrite [HLG.out]
            obtain ⟨p0, p1, p2, p3, p4⟩ := box_cells KG.out
            have lp := heap_lt KG.out.at_
            go_wp2_with (fail)
            refine (WK.out _ KG.out.made e0 e1 false true).mono ?_
            rintro e z7 ⟨rfl, h7⟩
            have KH := Lib.hid (KG.out.next h7)
            clear h7 p0 p1 p2 p3 p4 lp KG
            rewrite [HWD.out]
            have hne : ((n - 1 : Int) == n - 1) = true := by simp
            go_wp2_with (fail)
            refine (HA.out _ KH.out.made).mono ?_
            rintro e z8 ⟨rfl, h8⟩
            have KI := Lib.hid (Made.trans KH.out.made h8)
            clear h8
            go_wp2
            go_ret
            exact ⟨rfl, KI.out⟩
    · have hcb : (legalP ⟨l, e0, e1, raw, dup⟩ != 0) = true := bne_iff_ne.2 hc
      clear hc
      generalize legalP ⟨l, e0, e1, raw, dup⟩ = cv at *
      go_wp2_with (fail)
      refine (HA.out _ K1.out.made).mono ?_
      rintro e w2 ⟨rfl, hm2⟩
      have K2 := Lib.hid (Made.trans K1.out.made hm2)
      clear hm2
      go_wp2
      go_ret
      exact ⟨rfl, K2.out⟩
end
end legalDup
end Go.Proofs.YtaieiaopdbhjaaaDoor
