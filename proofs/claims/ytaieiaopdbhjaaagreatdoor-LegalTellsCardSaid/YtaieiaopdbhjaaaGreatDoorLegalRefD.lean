/- What Words, Long, Takes and Check of the document's answer for legal return, for every packet in memory. -/
import Derived.Test.YtaieiaopdbhjaaaGreatDoorLegalRefC
import Derived.Test.YtaieiaopdbhjaaaGreatDoorRulesRefD
namespace Go.Proofs.YtaieiaopdbhjaaaGreatDoor
open Go.ChangeShapes Go.WideShapes Go.ChangeAt Go.RowKit Go.Sort BigFrame

theorem ext_next (l : List In) {k : Nat} (h : k < l.length) : extN (l.take (k + 1)) = extN (l.take k) + if l[k].ext then 1 else 0 := by
  unfold extN
  rw [List.take_succ_eq_append_getElem h, List.countP_append]
  simp [List.countP_cons]
theorem ext_le (l : List In) (k : Nat) : extN (l.take k) ≤ k := Nat.le_trans List.countP_le_length (by rw [List.length_take]; omega)
section
attribute [local irreducible] World.cell?
set_option maxRecDepth 100000 in
set_option maxHeartbeats 8000000 in
theorem rwords_any (ao : Option Addr) (cap : Nat) (l : List In) (e0 e1 raw dup : Bool) (w : World) (hI : Insts w ao cap l) (hl : l.length ≤ 1000) :
    Calls Tryz.prog 10 #[pkV ao l.length cap e0 e1 raw dup] w fun e w' => e = .returned (.int .i64 (wordsP ⟨l, e0, e1, raw, dup⟩)) ∧ Made w w' := by
  have K := Lib.hid (box_start (Made.refl w) (boxL ao l.length cap e0 e1 raw dup))
  have hmax := hI.max
  have hroom := hI.room
  unfold maxLen at hmax
  have H := Lib.hid hI
  have HV := Lib.hid (show wordsP ⟨l, e0, e1, raw, dup⟩ = (l.length : Int) + (extN l : Int) - (if dup then 1 else 0) from rfl)
  clear hI
  go_enter Tryz.func10, Tryz.ntmps10
  go_wp2_with (fail)
  go_loopw [3, 4] (fun n i wr => ∃ (k : Nat) (m : Nat), k ≤ l.length ∧ n = .int .i64 m ∧ i = .int .i64 k ∧ m = k + extN (l.take k) ∧ PkBox w w.heap.size (boxL ao l.length cap e0 e1 raw dup) wr) (fun _ i _ => l.length - (intOf i).toNat)
  case atStart => exact ⟨0, 0, by omega, rfl, rfl, by simp [extN], K.out⟩
  case round =>
    obtain ⟨k, m, hk, rfl, rfl, hm, hP⟩ := hrel
    have KP := Lib.hid hP
    have hle := ext_le l k
    have hmb : m ≤ 2 * k := by omega
    have HMM := Lib.hid hm
    clear hP hm hle
    obtain ⟨p0, p1, p2, p3, p4⟩ := box_cells KP.out
    have lp := heap_lt KP.out.at_
    by_cases hlt : k < l.length
    · obtain ⟨x, hx⟩ : ∃ x, l[k] = x := ⟨_, rfl⟩
      obtain ⟨b, o, rfl, c0, c1, c2, c3, c4, c5, c6, c7, c8, c9, c10⟩ := insts_cells (insts_made H.out KP.out.made) hlt x hx
      have hn := ext_next l hlt
      rewrite [hx] at hn
      have lb := World.block_lt_of_cell? wr _ c0
      cases hxe : x.ext with
      | true =>
        have HN := Lib.hid (show m + 1 + 1 = k + 1 + extN (l.take (k + 1)) by rw [hn, hxe, HMM.out]; simp; omega)
        rewrite [hxe] at c8
        clear hn hxe hx
        go_wp2
        go_roundw
        case rel => exact ⟨k + 1, m + 1 + 1, by omega, by go_num, by go_num, HN.out, KP.out⟩
        case measure => simp [intOf]; omega
      | false =>
        have HN := Lib.hid (show m + 1 = k + 1 + extN (l.take (k + 1)) by rw [hn, hxe, HMM.out]; simp; omega)
        rewrite [hxe] at c8
        clear hn hxe hx
        go_wp2
        go_roundw
        case rel => exact ⟨k + 1, m + 1, by omega, by go_num, by go_num, HN.out, KP.out⟩
        case measure => simp [intOf]; omega
    · obtain rfl : k = l.length := by omega
      have HW := Lib.hid (show (m : Int) = (l.length : Int) + (extN l : Int) by have h := HMM.out; rw [List.take_length] at h; omega)
      cases dup with
      | true =>
        go_wp2
        go_ret
        exact ⟨ret_int (by rw [HV.out, ← HW.out]; rfl), KP.out.made⟩
      | false =>
        go_wp2
        go_ret
        exact ⟨ret_int (by rw [HV.out, ← HW.out]; simp), KP.out.made⟩
set_option maxRecDepth 100000 in
set_option maxHeartbeats 8000000 in
theorem rlong_any (ao : Option Addr) (cap : Nat) (l : List In) (e0 e1 raw dup : Bool) (w : World) (hI : Insts w ao cap l) (hl : l.length ≤ 1000) :
    Calls Tryz.prog 23 #[pkV ao l.length cap e0 e1 raw dup] w fun e w' => e = .returned (.bool (longB ⟨l, e0, e1, raw, dup⟩)) ∧ Made w w' := by
  have K := Lib.hid (box_start (Made.refl w) (boxL ao l.length cap e0 e1 raw dup))
  have WK := Lib.hid (fun (u : World) (hu : Made w u) => rwords_any ao cap l e0 e1 raw dup u (insts_made hI hu) hl)
  have HV := Lib.hid (show longB ⟨l, e0, e1, raw, dup⟩ = ((!e0 || decide (2 ≤ wordsP ⟨l, e0, e1, raw, dup⟩)) && (!e1 || decide (3 ≤ wordsP ⟨l, e0, e1, raw, dup⟩))) from rfl)
  clear hI
  generalize wordsP ⟨l, e0, e1, raw, dup⟩ = n at *
  generalize longB ⟨l, e0, e1, raw, dup⟩ = v at *
  have hway : (e0 = true ∧ decide (n < 2) = true ∧ v = false) ∨ ((e0 = false ∨ (e0 = true ∧ decide (n < 2) = false)) ∧ ((e1 = false ∧ v = true) ∨ (e1 = true ∧ v = decide (n > 2)))) := by
    rw [HV.out]
    by_cases h2 : n < 2
    · cases e0 with
      | true => exact .inl ⟨rfl, by simp [h2], by simp; intro h; omega⟩
      | false =>
        refine .inr ⟨.inl rfl, ?_⟩
        cases e1 with
        | true => exact .inr ⟨rfl, by simp; omega⟩
        | false => exact .inl ⟨rfl, by simp⟩
    · refine .inr ⟨?_, ?_⟩
      · cases e0 with
        | true => exact .inr ⟨rfl, by simp; omega⟩
        | false => exact .inl rfl
      · have h3 : decide (2 ≤ n) = true := by simp; omega
        rw [h3]
        cases e1 with
        | true => exact .inr ⟨rfl, by simp; omega⟩
        | false => exact .inl ⟨rfl, by simp⟩
  clear HV
  rcases hway with ⟨rfl, h1, rfl⟩ | ⟨rfl | ⟨rfl, h1⟩, ⟨rfl, rfl⟩ | ⟨rfl, rfl⟩⟩
  · go_enter Tryz.func23, Tryz.ntmps23
    go_wp2_with (fail)
    refine (WK.out _ K.out.made).mono ?_
    rintro e w1 ⟨rfl, h1⟩
    have K1 := Lib.hid (K.out.next h1)
    clear h1
    obtain ⟨p0, p1, p2, p3, p4⟩ := box_cells K1.out
    have lp := heap_lt K1.out.at_
    go_wp2
    go_ret
    exact ⟨rfl, K1.out.made⟩
  · go_enter Tryz.func23, Tryz.ntmps23
    go_wp2
    go_ret
    exact ⟨rfl, K.out.made⟩
  · go_enter Tryz.func23, Tryz.ntmps23
    go_wp2_with (fail)
    refine (WK.out _ K.out.made).mono ?_
    rintro e w1 ⟨rfl, h1⟩
    have K1 := Lib.hid (K.out.next h1)
    clear h1
    obtain ⟨p0, p1, p2, p3, p4⟩ := box_cells K1.out
    have lp := heap_lt K1.out.at_
    go_wp2
    go_ret
    exact ⟨rfl, K1.out.made⟩
  · go_enter Tryz.func23, Tryz.ntmps23
    go_wp2_with (fail)
    refine (WK.out _ K.out.made).mono ?_
    rintro e w1 ⟨rfl, h1⟩
    have K1 := Lib.hid (K.out.next h1)
    clear h1
    obtain ⟨p0, p1, p2, p3, p4⟩ := box_cells K1.out
    have lp := heap_lt K1.out.at_
    go_wp2
    go_ret
    exact ⟨rfl, K1.out.made⟩
  · go_enter Tryz.func23, Tryz.ntmps23
    go_wp2_with (fail)
    refine (WK.out _ K.out.made).mono ?_
    rintro e w1 ⟨rfl, h1⟩
    have K1 := Lib.hid (K.out.next h1)
    clear h1
    obtain ⟨p0, p1, p2, p3, p4⟩ := box_cells K1.out
    have lp := heap_lt K1.out.at_
    go_wp2_with (fail)
    refine (WK.out _ K1.out.made).mono ?_
    rintro e w2 ⟨rfl, h2⟩
    have K2 := Lib.hid (K1.out.next h2)
    clear h2
    obtain ⟨p0, p1, p2, p3, p4⟩ := box_cells K2.out
    have lp := heap_lt K2.out.at_
    go_wp2
    go_ret
    exact ⟨rfl, K2.out.made⟩
set_option maxRecDepth 100000 in
set_option maxHeartbeats 8000000 in
theorem rtakes_any (ao : Option Addr) (cap : Nat) (l : List In) (e0 e1 raw dup : Bool) (w : World) (hI : Insts w ao cap l) (hl : l.length ≤ 1000) :
    Calls Tryz.prog 12 #[pkV ao l.length cap e0 e1 raw dup] w fun e w' => e = .returned (.bool (takesP ⟨l, e0, e1, raw, dup⟩)) ∧ Made w w' := by
  have CK := Lib.hid (fun (u : World) (hu : Made w u) => rchoose_any ao cap l u (insts_made hI hu) hl)
  have LK := Lib.hid (fun (u : World) (hu : Made w u) => rlong_any ao cap l e0 e1 raw true u (insts_made hI hu) hl)
  have HV := Lib.hid (show takesP ⟨l, e0, e1, raw, dup⟩ = (!raw && anyP l && longB ⟨l, e0, e1, raw, true⟩) from rfl)
  have m1 : Made w (w.alloc (.cells (boxL ao l.length cap e0 e1 raw dup).toArray 24)) := (Made.refl w).alloc (Nat.le_refl _) _
  have m2 := m1.alloc m1.size (.cells (boxL ao l.length cap e0 e1 raw true).toArray 24)
  have hb1 : (w.alloc (.cells (boxL ao l.length cap e0 e1 raw dup).toArray 24)).heap[w.heap.size]? = some (.cells (boxL ao l.length cap e0 e1 raw dup).toArray 24 (0, 0)) := heap_alloc_new w _
  have KA := Lib.hid (show PkBox w w.heap.size (boxL ao l.length cap e0 e1 raw dup) ((w.alloc (.cells (boxL ao l.length cap e0 e1 raw dup).toArray 24)).alloc (.cells (boxL ao l.length cap e0 e1 raw true).toArray 24)) from ⟨m2, (Below.heap_alloc _ _ _ (heap_lt hb1)).trans hb1⟩)
  have QA := Lib.hid (show PkBox w (w.heap.size + 1) (boxL ao l.length cap e0 e1 raw true) ((w.alloc (.cells (boxL ao l.length cap e0 e1 raw dup).toArray 24)).alloc (.cells (boxL ao l.length cap e0 e1 raw true).toArray 24)) from ⟨m2, heap_at (by simp)⟩)
  clear hI m1 m2 hb1
  go_enter Tryz.func12, Tryz.ntmps12
  go_wp2_with (fail)
  refine (CK.out _ KA.out.made).mono ?_
  rintro e w1 ⟨i, j, ok, rfl, hch, h1⟩
  have K1 := Lib.hid (KA.out.next h1)
  have Q1 := Lib.hid (QA.out.next h1)
  have HC := Lib.hid (choice_any hch)
  clear h1 hch KA QA
  obtain ⟨p0, p1, p2, p3, p4⟩ := box_cells K1.out
  obtain ⟨q0, q1, q2, q3, q4⟩ := box_cells Q1.out
  have lp := heap_lt K1.out.at_
  have lq := heap_lt Q1.out.at_
  have hway : (raw = true ∧ takesP ⟨l, e0, e1, raw, dup⟩ = false) ∨ (raw = false ∧ ok = false ∧ takesP ⟨l, e0, e1, raw, dup⟩ = false) ∨ (raw = false ∧ ok = true ∧ takesP ⟨l, e0, e1, raw, dup⟩ = longB ⟨l, e0, e1, raw, true⟩) := by
    rw [HV.out, ← HC.out]
    cases raw <;> cases ok <;> simp
  clear HV HC
  rcases hway with ⟨rfl, hv⟩ | ⟨rfl, rfl, hv⟩ | ⟨rfl, rfl, hv⟩
  · have HV3 := Lib.hid hv
    clear hv
    go_wp2
    go_ret
    exact ⟨ret_bool HV3.out.symm, K1.out.made⟩
  · have HV3 := Lib.hid hv
    clear hv
    go_wp2
    go_ret
    exact ⟨ret_bool HV3.out.symm, K1.out.made⟩
  · have HV3 := Lib.hid hv
    clear hv
    go_wp2_with (fail)
    refine (LK.out _ Q1.out.made).mono ?_
    rintro e w2 ⟨rfl, h2⟩
    have K2 := Lib.hid (K1.out.next h2)
    clear h2
    go_wp2
    go_ret
    exact ⟨ret_bool HV3.out.symm, K2.out.made⟩
theorem free_all : freeV 0 = .agg #[.bool true, .bool true, .bool true, .bool true] := rfl
set_option maxRecDepth 100000 in
set_option maxHeartbeats 16000000 in
theorem rlegal_any (ao : Option Addr) (cap : Nat) (l : List In) (e0 e1 raw dup : Bool) (w : World) (hI : Insts w ao cap l) (hl : l.length ≤ 1000) :
    Calls Tryz.prog 8 #[pkV ao l.length cap e0 e1 raw dup] w fun e w' => e = .returned (.int .i64 (legalP ⟨l, e0, e1, raw, dup⟩)) ∧ Made w w' := by
  have K := Lib.hid (box_start (Made.refl w) (boxL ao l.length cap e0 e1 raw dup))
  have RK := Lib.hid (fun (u : World) (hu : Made w u) => rcheck_any ao cap l e0 e1 raw dup u (insts_made hI hu))
  have CK := Lib.hid (fun (u : World) (hu : Made w u) => rchoose_any ao cap l u (insts_made hI hu) hl)
  have LK := Lib.hid (fun (u : World) (hu : Made w u) => rlong_any ao cap l e0 e1 raw dup u (insts_made hI hu) hl)
  have WK := Lib.hid (fun (u : World) (hu : Made w u) => rwords_any ao cap l e0 e1 raw dup u (insts_made hI hu) hl)
  have FK := Lib.hid (show ∀ (u : World), Made w u → Calls Tryz.prog 18 #[.slice ao l.length cap, .int .i64 0, .agg #[.bool true, .bool true, .bool true, .bool true]] u fun e w' => e = .returned (.bool (placeB l 0)) ∧ Made u w' from fun u hu => by
    have h := rfits_any ao cap l hl (l.length - 0) 0 0 u (insts_made hI hu) rfl (by omega) (by omega)
    rw [List.drop_zero, free_all] at h
    exact h)
  have HV := Lib.hid (show legalP ⟨l, e0, e1, raw, dup⟩ = if checkP ⟨l, e0, e1, raw, dup⟩ = 8 then 8 else if !(if dup then anyP l else placeB l 0) then 9 else if 4 < wordsP ⟨l, e0, e1, raw, dup⟩ then 10 else if checkP ⟨l, e0, e1, raw, dup⟩ = 0 ∧ longB ⟨l, e0, e1, raw, dup⟩ = false then 13 else checkP ⟨l, e0, e1, raw, dup⟩ from rfl)
  clear hI
  generalize legalP ⟨l, e0, e1, raw, dup⟩ = v at *
  generalize checkP ⟨l, e0, e1, raw, dup⟩ = cv at *
  generalize wordsP ⟨l, e0, e1, raw, dup⟩ = wv at *
  generalize longB ⟨l, e0, e1, raw, dup⟩ = lv at *
  generalize placeB l 0 = pv at *
  go_enter Tryz.func8, Tryz.ntmps8
  go_wp2_with (fail)
  refine (RK.out _ K.out.made).mono ?_
  rintro e w1 ⟨rfl, h1⟩
  have K1 := Lib.hid (K.out.next h1)
  clear h1
  by_cases h8 : cv = 8
  · have hb : (cv == 8) = true := beq_iff_eq.2 h8
    have HR := Lib.hid (show v = 8 by rw [HV.out, if_pos h8])
    clear h8
    go_wp2
    go_ret
    exact ⟨ret_int HR.out.symm, K1.out.made⟩
  · have hb : (cv == 8) = false := beq_eq_false_iff_ne.2 h8
    have HV2 := Lib.hid (show v = if !(if dup then anyP l else pv) then 9 else if 4 < wv then 10 else if cv = 0 ∧ lv = false then 13 else cv by rw [HV.out, if_neg h8])
    clear h8
    obtain ⟨p0, p1, p2, p3, p4⟩ := box_cells K1.out
    have lp := heap_lt K1.out.at_
    go_wp2_with (fail)
    refine (FK.out _ K1.out.made).mono ?_
    rintro e w2 ⟨rfl, h2⟩
    have K2 := Lib.hid (K1.out.next h2)
    clear h2 p0 p1 p2 p3 p4 lp
    obtain ⟨p0, p1, p2, p3, p4⟩ := box_cells K2.out
    have lp := heap_lt K2.out.at_
    cases dup with
    | false =>
      have HV5 := Lib.hid (show v = if !pv then 9 else if 4 < wv then 10 else if cv = 0 ∧ lv = false then 13 else cv from HV2.out)
      cases pv with
      | false =>
        have HR := Lib.hid (show v = 9 by rw [HV5.out]; rfl)
        go_wp2
        go_ret
        exact ⟨ret_int HR.out.symm, K2.out.made⟩
      | true =>
        have HV3 := Lib.hid (show v = if 4 < wv then 10 else if cv = 0 ∧ lv = false then 13 else cv by rw [HV5.out]; rfl)
        go_wp2_with (fail)
        refine (WK.out _ K2.out.made).mono ?_
        rintro e w7 ⟨rfl, h7⟩
        have K7 := Lib.hid (K2.out.next h7)
        clear h7 p0 p1 p2 p3 p4 lp
        obtain ⟨p0, p1, p2, p3, p4⟩ := box_cells K7.out
        have lp := heap_lt K7.out.at_
        by_cases h4 : 4 < wv
        · have HR := Lib.hid (show v = 10 by rw [HV3.out, if_pos h4])
          have hd : decide (wv > 4) = true := decide_eq_true h4
          clear h4
          go_wp2
          go_ret
          exact ⟨ret_int HR.out.symm, K7.out.made⟩
        · have HV4 := Lib.hid (show v = if cv = 0 ∧ lv = false then 13 else cv by rw [HV3.out, if_neg h4])
          have hd : decide (wv > 4) = false := decide_eq_false h4
          clear h4
          by_cases h0 : cv = 0
          · have hb0 : (cv == 0) = true := beq_iff_eq.2 h0
            have H0 := Lib.hid h0
            clear h0
            go_wp2_with (fail)
            refine (LK.out _ K7.out.made).mono ?_
            rintro e w8 ⟨rfl, h8⟩
            have K8 := Lib.hid (K7.out.next h8)
            clear h8
            cases lv with
            | true =>
              have HR := Lib.hid (show v = cv by rw [HV4.out, if_neg (by simp)])
              go_wp2
              go_ret
              exact ⟨ret_int HR.out.symm, K8.out.made⟩
            | false =>
              have HR := Lib.hid (show v = 13 by rw [HV4.out, if_pos ⟨H0.out, rfl⟩])
              go_wp2
              go_ret
              exact ⟨ret_int HR.out.symm, K8.out.made⟩
          · have hb0 : (cv == 0) = false := beq_eq_false_iff_ne.2 h0
            have HR := Lib.hid (show v = cv by rw [HV4.out, if_neg (fun h => h0 h.1)])
            clear h0
            go_wp2
            go_ret
            exact ⟨ret_int HR.out.symm, K7.out.made⟩
    | true =>
      have HV5 := Lib.hid (show v = if !anyP l then 9 else if 4 < wv then 10 else if cv = 0 ∧ lv = false then 13 else cv from HV2.out)
      go_wp2_with (fail)
      refine (CK.out _ K2.out.made).mono ?_
      rintro e w3 ⟨i, j, ok, rfl, hch, h3⟩
      have K3 := Lib.hid (K2.out.next h3)
      have hok := choice_any hch
      have HV6 := Lib.hid (show v = if !ok then 9 else if 4 < wv then 10 else if cv = 0 ∧ lv = false then 13 else cv by rw [hok]; exact HV5.out)
      clear h3 hch hok p0 p1 p2 p3 p4 lp
      obtain ⟨p0, p1, p2, p3, p4⟩ := box_cells K3.out
      have lp := heap_lt K3.out.at_
      cases ok with
      | false =>
        have HR := Lib.hid (show v = 9 by rw [HV6.out]; rfl)
        go_wp2
        go_ret
        exact ⟨ret_int HR.out.symm, K3.out.made⟩
      | true =>
        have HV3 := Lib.hid (show v = if 4 < wv then 10 else if cv = 0 ∧ lv = false then 13 else cv by rw [HV6.out]; rfl)
        go_wp2_with (fail)
        refine (WK.out _ K3.out.made).mono ?_
        rintro e w7 ⟨rfl, h7⟩
        have K7 := Lib.hid (K3.out.next h7)
        clear h7 p0 p1 p2 p3 p4 lp
        obtain ⟨p0, p1, p2, p3, p4⟩ := box_cells K7.out
        have lp := heap_lt K7.out.at_
        by_cases h4 : 4 < wv
        · have HR := Lib.hid (show v = 10 by rw [HV3.out, if_pos h4])
          have hd : decide (wv > 4) = true := decide_eq_true h4
          clear h4
          go_wp2
          go_ret
          exact ⟨ret_int HR.out.symm, K7.out.made⟩
        · have HV4 := Lib.hid (show v = if cv = 0 ∧ lv = false then 13 else cv by rw [HV3.out, if_neg h4])
          have hd : decide (wv > 4) = false := decide_eq_false h4
          clear h4
          by_cases h0 : cv = 0
          · have hb0 : (cv == 0) = true := beq_iff_eq.2 h0
            have H0 := Lib.hid h0
            clear h0
            go_wp2_with (fail)
            refine (LK.out _ K7.out.made).mono ?_
            rintro e w8 ⟨rfl, h8⟩
            have K8 := Lib.hid (K7.out.next h8)
            clear h8
            cases lv with
            | true =>
              have HR := Lib.hid (show v = cv by rw [HV4.out, if_neg (by simp)])
              go_wp2
              go_ret
              exact ⟨ret_int HR.out.symm, K8.out.made⟩
            | false =>
              have HR := Lib.hid (show v = 13 by rw [HV4.out, if_pos ⟨H0.out, rfl⟩])
              go_wp2
              go_ret
              exact ⟨ret_int HR.out.symm, K8.out.made⟩
          · have hb0 : (cv == 0) = false := beq_eq_false_iff_ne.2 h0
            have HR := Lib.hid (show v = cv by rw [HV4.out, if_neg (fun h => h0 h.1)])
            clear h0
            go_wp2
            go_ret
            exact ⟨ret_int HR.out.symm, K7.out.made⟩
end
end Go.Proofs.YtaieiaopdbhjaaaGreatDoor
