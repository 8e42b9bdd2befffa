/- What Words, Choose, Takes and Check of package legal return, for every packet in memory. -/
import Derived.Test.YtanjmoiepmadhaaGreatDoorGLegal
namespace Go.Proofs.YtanjmoiepmadhaaGreatDoor
open Go.ChangeShapes Go.WideShapes Go.ChangeAt Go.RowKit Go.Sort BigFrame

theorem three_le (n : Int) : decide (3 ≤ n) = !decide (n < 3) := by
  by_cases h : n < 3
  · rw [decide_eq_true h, decide_eq_false (show ¬ 3 ≤ n by omega)]; rfl
  · rw [decide_eq_false h, decide_eq_true (show 3 ≤ n by omega)]; rfl
section
attribute [local irreducible] World.cell?
set_option maxRecDepth 100000 in
set_option maxHeartbeats 8000000 in
theorem lwords_any (ao : Option Addr) (cap : Nat) (l : List In) (e0 e1 raw dup : Bool) (w : World) (hI : Insts w ao cap l) (hl : l.length ≤ 1000) :
    Calls Tryz.prog 17 #[pkV ao l.length cap e0 e1 raw dup] w fun e w' => e = .returned (.int .i64 (wordsP ⟨l, e0, e1, raw, dup⟩)) ∧ Made w w' := by
  have K := Lib.hid (box_start (Made.refl w) (boxL ao l.length cap e0 e1 raw dup))
  have hmax := hI.max
  have hroom := hI.room
  unfold maxLen at hmax
  have H := Lib.hid hI
  have HV := Lib.hid (show wordsP ⟨l, e0, e1, raw, dup⟩ = (l.length : Int) + (extN l : Int) - (if dup then 1 else 0) from rfl)
  clear hI
  go_enter Tryz.func17, Tryz.ntmps17
  obtain ⟨p0, p1, p2, p3, p4⟩ := box_cells K.out
  go_wp2_with (fail)
  go_loopw [3, 12] (fun n i wr => ∃ (k : Nat) (m : Nat), k ≤ l.length ∧ n = .int .i64 m ∧ i = .int .i64 k ∧ m = l.length + extN (l.take k) ∧ PkBox w w.heap.size (boxL ao l.length cap e0 e1 raw dup) wr) (fun _ i _ => l.length - (intOf i).toNat)
  case atStart => exact ⟨0, l.length, by omega, rfl, rfl, by simp [extN], K.out⟩
  case round =>
    obtain ⟨k, m, hk, rfl, rfl, hm, hP⟩ := hrel
    have KP := Lib.hid hP
    have hle := ext_le' l k
    have hmb : m ≤ 2000 := by omega
    have HMM := Lib.hid hm
    clear hP hm hle
    obtain ⟨p0, p1, p2, p3, p4⟩ := box_cells KP.out
    have lp := heap_lt KP.out.at_
    by_cases hlt : k < l.length
    · obtain ⟨x, hx⟩ : ∃ x, l[k] = x := ⟨_, rfl⟩
      obtain ⟨b, o, rfl, c0, c1, c2, c3, c4, c5, c6, c7, c8, c9, c10⟩ := insts_cells (insts_made H.out KP.out.made) hlt x hx
      have hn := ext_next' l hlt
      rewrite [hx] at hn
      have lb := World.block_lt_of_cell? wr _ c0
      cases hxe : x.ext with
      | true =>
        have HN := Lib.hid (show m + 1 = l.length + extN (l.take (k + 1)) by rw [hn, hxe, HMM.out]; simp; omega)
        rewrite [hxe] at c8
        clear hn hxe hx
        go_wp2
        go_roundw
        case rel => exact ⟨k + 1, m + 1, by omega, by go_num, by go_num, HN.out, KP.out.next (made_alloc (Made.refl wr) _)⟩
        case measure => simp [intOf]; omega
      | false =>
        have HN := Lib.hid (show m = l.length + extN (l.take (k + 1)) by rw [hn, hxe, HMM.out]; simp)
        rewrite [hxe] at c8
        clear hn hxe hx
        go_wp2
        go_roundw
        case rel => exact ⟨k + 1, m, by omega, by go_num, by go_num, HN.out, KP.out.next (made_alloc (Made.refl wr) _)⟩
        case measure => simp [intOf]; omega
    · obtain rfl : k = l.length := by omega
      have HW := Lib.hid (show (m : Int) = (l.length : Int) + (extN l : Int) by have h := HMM.out; rw [List.take_length] at h; omega)
      cases dup with
      | true =>
        go_wp2
        go_ret
        exact ⟨ret_int (by rw [HV.out, ← HW.out]; rfl), KP.out.made⟩
      | false =>
        go_wp2
        go_ret
        exact ⟨ret_int (by rw [HV.out, ← HW.out]; simp), KP.out.made⟩
set_option maxRecDepth 100000 in
set_option maxHeartbeats 8000000 in
theorem lends_any (ao : Option Addr) (cap : Nat) (l : List In) (e0 e1 raw dup : Bool) (w : World) (hI : Insts w ao cap l) (hl : l.length ≤ 1000) :
    Calls Tryz.prog 28 #[pkV ao l.length cap e0 e1 raw dup] w fun e w' => e = .returned (.bool (longB ⟨l, e0, e1, raw, dup⟩)) ∧ Made w w' := by
  have K := Lib.hid (box_start (Made.refl w) (boxL ao l.length cap e0 e1 raw dup))
  have WK := Lib.hid (fun (u : World) (hu : Made w u) => lwords_any ao cap l e0 e1 raw dup u (insts_made hI hu) hl)
  have HV := Lib.hid (show longB ⟨l, e0, e1, raw, dup⟩ = ((!e0 || decide (2 ≤ wordsP ⟨l, e0, e1, raw, dup⟩)) && (!e1 || decide (3 ≤ wordsP ⟨l, e0, e1, raw, dup⟩))) from rfl)
  clear hI
  generalize wordsP ⟨l, e0, e1, raw, dup⟩ = n at *
  generalize longB ⟨l, e0, e1, raw, dup⟩ = v at *
  have hway : (e0 = true ∧ decide (n < 2) = true ∧ v = false) ∨ ((e0 = false ∨ (e0 = true ∧ decide (n < 2) = false)) ∧ ((e1 = false ∧ v = true) ∨ (e1 = true ∧ v = !decide (n < 3)))) := by
    rw [HV.out]
    by_cases h2 : n < 2
    · cases e0 with
      | true => exact .inl ⟨rfl, by simp [h2], by simp; intro h; omega⟩
      | false =>
        refine .inr ⟨.inl rfl, ?_⟩
        cases e1 with
        | true => exact .inr ⟨rfl, by rw [three_le]; simp⟩
        | false => exact .inl ⟨rfl, by simp⟩
    · refine .inr ⟨?_, ?_⟩
      · cases e0 with
        | true => exact .inr ⟨rfl, by simp; omega⟩
        | false => exact .inl rfl
      · have h3 : decide (2 ≤ n) = true := by simp; omega
        rw [h3]
        cases e1 with
        | true => exact .inr ⟨rfl, by rw [three_le]; simp⟩
        | false => exact .inl ⟨rfl, by simp⟩
  clear HV
  rcases hway with ⟨rfl, h1, rfl⟩ | ⟨rfl | ⟨rfl, h1⟩, ⟨rfl, rfl⟩ | ⟨rfl, rfl⟩⟩
  all_goals
    go_enter Tryz.func28, Tryz.ntmps28
    obtain ⟨p0, p1, p2, p3, p4⟩ := box_cells K.out
    have lp := heap_lt K.out.at_
    go_wp2_with (fail)
    refine (WK.out _ K.out.made).mono ?_
    rintro e w1 ⟨rfl, h1⟩
    have K1 := Lib.hid (K.out.next h1)
    clear h1 p0 p1 p2 p3 p4 lp
    obtain ⟨p0, p1, p2, p3, p4⟩ := box_cells K1.out
    have lp := heap_lt K1.out.at_
    go_wp2
    go_ret
    exact ⟨rfl, K1.out.made⟩
set_option maxRecDepth 100000 in
set_option maxHeartbeats 8000000 in
theorem lchoose_any (ao : Option Addr) (cap : Nat) (l : List In) (w : World) (hT : Tabs w) (hI : Insts w ao cap l) (hl : l.length ≤ 1000) :
    Calls Tryz.prog 66 #[.slice ao l.length cap] w (Chosen l w) := by
  have HP := Lib.hid (fun (u : World) (hu : Made w u) (i j : Nat) (hij : i < j) (hj : j < l.length) => lmay_any ao cap l u (hT.made hu) (insts_made hI hu) hl i j hij hj)
  clear hT hI
  by_cases h4 : 4 < l.length
  · have hb : decide ((l.length : Int) > 4) = true := decide_eq_true (by omega)
    have HO := Lib.hid (none_many l h4)
    go_enter Tryz.func66, Tryz.ntmps66
    go_wp2
    refine bodyPost_ret (v := .tuple #[.int .i64 0, .int .i64 0, .bool false]) (by simp [results, Tryz.results66, go_sem]) rfl ?_
    exact ⟨0, 0, false, rfl, HO.out, Made.refl w⟩
  · have hb : decide ((l.length : Int) > 4) = false := decide_eq_false (by omega)
    go_enter Tryz.func66, Tryz.ntmps66
    go_wp2_with (fail)
    go_loopw [12] (fun x wr => ∃ i : Nat, i ≤ l.length ∧ x = .int .i64 i ∧ NoneTo l i 0 ∧ Made w wr) (fun x _ => l.length - (intOf x).toNat)
    case atStart => exact ⟨0, by omega, rfl, none_start l, Made.refl w⟩
    case round =>
      obtain ⟨i, hi, rfl, hnone, hm⟩ := hrel
      have HN := Lib.hid hnone
      have HM := Lib.hid hm
      clear hnone hm
      by_cases hil : i < l.length
      · go_wp2_with (fail)
        go_loopw [6] (fun x wz => ∃ j : Nat, i < j ∧ j ≤ l.length ∧ x = .int .i64 j ∧ NoneTo l i j ∧ Made w wz) (fun x _ => l.length - (intOf x).toNat)
        case atStart => exact ⟨i + 1, by omega, by omega, by go_num, none_in HN.out, HM.out⟩
        case round =>
          obtain ⟨j, hij, hj, rfl, hnone, hm⟩ := hrel
          have HN2 := Lib.hid hnone
          have HM2 := Lib.hid hm
          clear hnone hm HM
          by_cases hjl : j < l.length
          · have HG := Lib.hid (HP.out _ HM2.out i j hij hjl)
            have HNX := Lib.hid (fun h => nonep_next HN2.out (j := j) h)
            have HCH := Lib.hid (fun h => choice_at HN2.out hij hjl h)
            generalize okAt l i j = ok at *
            go_wp2_with (fail)
            refine HG.out.mono ?_
            rintro e w5 ⟨rfl, h5⟩
            have M5 := Lib.hid (Made.trans HM2.out h5)
            clear h5
            cases ok with
            | true =>
              have HC2 := Lib.hid (HCH.out rfl)
              go_wp2
              refine bodyPost_ret (v := .tuple #[.int .i64 i, .int .i64 j, .bool true]) (by simp [results, Tryz.results66, go_sem]) rfl ?_
              exact ⟨i, j, true, rfl, HC2.out, M5.out⟩
            | false =>
              have HN3 := Lib.hid (HNX.out rfl)
              go_wp2
              go_roundw
              case rel => exact ⟨j + 1, by omega, by omega, by go_num, HN3.out, M5.out⟩
              case measure => simp [intOf]; omega
          · obtain rfl : j = l.length := by omega
            have HO := Lib.hid (none_out HN2.out (Nat.le_refl _))
            go_wp2
            go_roundw
            case rel => exact ⟨i + 1, by omega, by go_num, HO.out, HM2.out⟩
            case measure => simp [intOf]; omega
      · obtain rfl : i = l.length := by omega
        have HO := Lib.hid (none_all HN.out (by omega))
        go_wp2
        refine bodyPost_ret (v := .tuple #[.int .i64 0, .int .i64 0, .bool false]) (by simp [results, Tryz.results66, go_sem]) rfl ?_
        exact ⟨0, 0, false, rfl, HO.out, HM.out⟩
set_option maxRecDepth 100000 in
set_option maxHeartbeats 8000000 in
theorem lpair_any (ao : Option Addr) (cap : Nat) (l : List In) (w : World) (hT : Tabs w) (hI : Insts w ao cap l) (hl : l.length ≤ 1000) :
    Calls Tryz.prog 59 #[.slice ao l.length cap] w fun e w' => e = .returned (.bool (anyP l)) ∧ Made w w' := by
  have HC := Lib.hid (lchoose_any ao cap l w hT hI hl)
  clear hT hI
  go_enter Tryz.func59, Tryz.ntmps59
  go_wp2_with (fail)
  refine HC.out.mono ?_
  rintro e w1 ⟨i, j, ok, rfl, hch, h1⟩
  have HK := Lib.hid (choice_any hch)
  have M1 := Lib.hid h1
  clear h1 hch
  go_wp2
  go_ret
  exact ⟨ret_bool HK.out, M1.out⟩
set_option maxRecDepth 100000 in
set_option maxHeartbeats 8000000 in
theorem lslot_any (ao : Option Addr) (cap : Nat) (l : List In) (e0 e1 raw dup : Bool) (w : World) (hT : Tabs w) (hI : Insts w ao cap l) (hl : l.length ≤ 1000) :
    Calls Tryz.prog 27 #[pkV ao l.length cap e0 e1 raw dup] w fun e w' => e = .returned (.bool (placedB ⟨l, e0, e1, raw, dup⟩)) ∧ Made w w' := by
  have K := Lib.hid (box_start (Made.refl w) (boxL ao l.length cap e0 e1 raw dup))
  have HC := Lib.hid (fun (u : World) (hu : Made w u) => lpair_any ao cap l u (hT.made hu) (insts_made hI hu) hl)
  have HF := fun (u : World) (hu : Made w u) => lfit_any 15 (.inr rfl) ao cap l u (hT.made hu).names (insts_made hI hu) hl
  rewrite [fits_all] at HF
  have HFF := Lib.hid HF
  clear hT hI HF
  cases dup with
  | true =>
    go_enter Tryz.func27, Tryz.ntmps27
    obtain ⟨p0, p1, p2, p3, p4⟩ := box_cells K.out
    have lp := heap_lt K.out.at_
    go_wp2_with (fail)
    refine (HC.out _ K.out.made).mono ?_
    rintro e w1 ⟨rfl, h1⟩
    have K1 := Lib.hid (K.out.next h1)
    clear h1
    go_wp2
    go_ret
    exact ⟨rfl, K1.out.made⟩
  | false =>
    go_enter Tryz.func27, Tryz.ntmps27
    obtain ⟨p0, p1, p2, p3, p4⟩ := box_cells K.out
    have lp := heap_lt K.out.at_
    go_wp2_with (fail)
    refine (HFF.out _ K.out.made).mono ?_
    rintro e w1 ⟨rfl, h1⟩
    have K1 := Lib.hid (K.out.next h1)
    clear h1
    go_wp2
    go_ret
    exact ⟨rfl, K1.out.made⟩
set_option maxRecDepth 100000 in
set_option maxHeartbeats 16000000 in
theorem lcheck_any (ao : Option Addr) (cap : Nat) (l : List In) (e0 e1 raw dup : Bool) (w : World) (hT : Tabs w) (hI : Insts w ao cap l) (hl : l.length ≤ 1000) :
    Calls Tryz.prog 13 #[pkV ao l.length cap e0 e1 raw dup] w fun e w' => e = .returned (.int .i64 (legalP ⟨l, e0, e1, raw, dup⟩)) ∧ Made w w' := by
  have K := Lib.hid (box_start (Made.refl w) (boxL ao l.length cap e0 e1 raw dup))
  have RK := Lib.hid (fun (u : World) (hu : Made w u) => check_any ao cap l e0 e1 raw dup u (hT.made hu).names (insts_made hI hu))
  have SK := Lib.hid (fun (u : World) (hu : Made w u) => lslot_any ao cap l e0 e1 raw dup u (hT.made hu) (insts_made hI hu) hl)
  have LK := Lib.hid (fun (u : World) (hu : Made w u) => lends_any ao cap l e0 e1 raw dup u (insts_made hI hu) hl)
  have WK := Lib.hid (fun (u : World) (hu : Made w u) => lwords_any ao cap l e0 e1 raw dup u (insts_made hI hu) hl)
  have hv : legalP ⟨l, e0, e1, raw, dup⟩ = if checkP ⟨l, e0, e1, raw, dup⟩ = 8 then 8 else if !placedB ⟨l, e0, e1, raw, dup⟩ then 9 else if 4 < wordsP ⟨l, e0, e1, raw, dup⟩ then 10 else if checkP ⟨l, e0, e1, raw, dup⟩ = 0 ∧ longB ⟨l, e0, e1, raw, dup⟩ = false then 13 else checkP ⟨l, e0, e1, raw, dup⟩ := rfl
  clear hT hI
  generalize legalP ⟨l, e0, e1, raw, dup⟩ = v at *
  generalize checkP ⟨l, e0, e1, raw, dup⟩ = cv at *
  generalize wordsP ⟨l, e0, e1, raw, dup⟩ = wv at *
  generalize longB ⟨l, e0, e1, raw, dup⟩ = lv at *
  generalize placedB ⟨l, e0, e1, raw, dup⟩ = pv at *
  have HV := Lib.hid hv
  clear hv
  go_enter Tryz.func13, Tryz.ntmps13
  obtain ⟨p0, p1, p2, p3, p4⟩ := box_cells K.out
  have lp := heap_lt K.out.at_
  go_wp2_with (fail)
  refine (RK.out _ K.out.made).mono ?_
  rintro e w1 ⟨rfl, h1⟩
  have K1 := Lib.hid (K.out.next h1)
  clear h1 p0 p1 p2 p3 p4 lp
  obtain ⟨p0, p1, p2, p3, p4⟩ := box_cells K1.out
  have lp := heap_lt K1.out.at_
  by_cases h8 : cv = 8
  · have hb : (cv == 8) = true := beq_iff_eq.2 h8
    have HR := Lib.hid (show v = 8 by rw [HV.out, if_pos h8])
    clear h8
    go_wp2
    go_ret
    exact ⟨ret_int HR.out.symm, K1.out.made⟩
  · have hb : (cv == 8) = false := beq_eq_false_iff_ne.2 h8
    have HV2 := Lib.hid (show v = if !pv then 9 else if 4 < wv then 10 else if cv = 0 ∧ lv = false then 13 else cv by rw [HV.out, if_neg h8])
    clear h8
    go_wp2_with (fail)
    refine (SK.out _ K1.out.made).mono ?_
    rintro e w2 ⟨rfl, h2⟩
    have K2 := Lib.hid (K1.out.next h2)
    clear h2 p0 p1 p2 p3 p4 lp
    obtain ⟨p0, p1, p2, p3, p4⟩ := box_cells K2.out
    have lp := heap_lt K2.out.at_
    cases pv with
    | false =>
      have HR := Lib.hid (show v = 9 by rw [HV2.out]; rfl)
      go_wp2
      go_ret
      exact ⟨ret_int HR.out.symm, K2.out.made⟩
    | true =>
      have HV3 := Lib.hid (show v = if 4 < wv then 10 else if cv = 0 ∧ lv = false then 13 else cv from HV2.out)
      go_wp2_with (fail)
      refine (WK.out _ K2.out.made).mono ?_
      rintro e w3 ⟨rfl, h3⟩
      have K3 := Lib.hid (K2.out.next h3)
      clear h3 p0 p1 p2 p3 p4 lp
      obtain ⟨p0, p1, p2, p3, p4⟩ := box_cells K3.out
      have lp := heap_lt K3.out.at_
      by_cases h4 : 4 < wv
      · have hb4 : decide (wv > 4) = true := decide_eq_true h4
        have HR := Lib.hid (show v = 10 by rw [HV3.out, if_pos h4])
        clear h4
        go_wp2
        go_ret
        exact ⟨ret_int HR.out.symm, K3.out.made⟩
      · have hb4 : decide (wv > 4) = false := decide_eq_false h4
        have HV4 := Lib.hid (show v = if cv = 0 ∧ lv = false then 13 else cv by rw [HV3.out, if_neg h4])
        clear h4
        by_cases h0 : cv = 0
        · have hb0 : (cv != 0) = false := by rw [h0]; rfl
          have HV5 := Lib.hid (show v = if lv = false then 13 else 0 by rw [HV4.out, h0]; cases lv <;> simp)
          clear h0
          go_wp2_with (fail)
          refine (LK.out _ K3.out.made).mono ?_
          rintro e w4 ⟨rfl, h4⟩
          have K4 := Lib.hid (K3.out.next h4)
          clear h4
          cases lv with
          | false =>
            have HR := Lib.hid (show v = 13 by rw [HV5.out]; rfl)
            go_wp2
            go_ret
            exact ⟨ret_int HR.out.symm, K4.out.made⟩
          | true =>
            have HR := Lib.hid (show v = 0 by rw [HV5.out]; rfl)
            go_wp2
            go_ret
            exact ⟨ret_int HR.out.symm, K4.out.made⟩
        · have hb0 : (cv != 0) = true := bne_iff_ne.2 h0
          have HR := Lib.hid (show v = cv by rw [HV4.out, if_neg (fun h => h0 h.1)])
          clear h0
          go_wp2
          go_ret
          exact ⟨ret_int HR.out.symm, K3.out.made⟩
end
end Go.Proofs.YtanjmoiepmadhaaGreatDoor
