/- What the program's parse reads is right: all of it; plain data; no condition. -/
import Derived.Test.YtnfmlmamgkpocaaGreatDoorParRt
import Derived.Test.YtnfmlmamgkpocaaGreatDoorGParF
namespace Go.Proofs.YtnfmlmamgkpocaaGreatDoor

def wdAll : List Wd := wdZero :: wordsT.map (·.2)
theorem wd_mem (s : List UInt8) : wdOf s ∈ wdAll := by
  unfold wdOf wordOf wdAll
  cases h : wordsT.find? fun p => p.1 == s with
  | none => exact List.mem_cons_self ..
  | some p => exact List.mem_cons_of_mem _ (List.mem_map.2 ⟨p, List.mem_of_find?_eq_some h, rfl⟩)
theorem wd_ops : ∀ w ∈ wdAll, (w.sets = 0 ∨ (w.sets = 2 ∨ w.sets = 3 ∨ w.sets = 4 ∨ w.sets = 5 ∨ w.sets = 6) ∨ w.sets = 14 ∨ (w.sets = 15 ∨ w.sets = 16 ∨ w.sets = 17) ∨ (w.sets = 18 ∨ w.sets = 19 ∨ w.sets = 20) ∨ (w.sets = 21 ∨ w.sets = 22 ∨ w.sets = 23)) ∧ (w.compares = 0 ∨ w.compares = 10 ∨ w.compares = 11 ∨ w.compares = 12) ∧ (w.begins = 0 ∨ w.begins = 1 ∨ (w.begins = 24 ∨ w.begins = 25 ∨ w.begins = 26) ∨ w.begins = 27 ∨ w.begins = 28 ∨ w.begins = 29 ∨ w.begins = 30) ∧ (w.n = 0 ∨ w.n = 1) := by decide
theorem fine_of {L : List Tk} (o d s t n p m : Int) (w : Bool) (v c : List Tm) (f : Bool) (li co : Int) (href : refB ⟨o, d, s, t, n, p, m, w, false, 0, 0⟩ = true)
    (hr : 0 ≤ o ∧ o ≤ 31 ∧ 0 ≤ d ∧ d < 32 ∧ 0 ≤ s ∧ s < 32 ∧ 0 ≤ t ∧ t < 32 ∧ 0 ≤ n ∧ n < 2 ∧ 0 ≤ p ∧ p < 4 ∧ 0 ≤ m ∧ m ≤ 4) (hv : if hasV o = true then GoodE L v else v = []) (hc : if o = 30 then GoodE L c else c = []) : Fine L ⟨o, d, s, t, n, p, m, w, v, c, f, li, co⟩ :=
  ⟨href, smallL_of hr, hv, hc⟩
section
variable {L : List Tk} {a b : Nat} {y : Ln}
theorem operands_fine {o d p m : Int} (ho : (o = 2 ∨ o = 3 ∨ o = 4 ∨ o = 5 ∨ o = 6) ∨ o = 14 ∨ (o = 15 ∨ o = 16 ∨ o = 17) ∨ (o = 18 ∨ o = 19 ∨ o = 20) ∨ (o = 21 ∨ o = 22 ∨ o = 23)) (hd : 0 ≤ d ∧ d < 32) (hc : CondOk p m) (hm : m = 0 ∨ hasM o = true) (h : operandsP L a ⟨o, d, 0, 0, 0, p, m, false, [], [], false, 0, 0⟩ = .ok b y) : Fine L y := by
  have hc' := hc
  obtain ⟨c0, c1, c2, c3, c4⟩ := hc'
  rcases operands_rt h with ⟨h14, p', s, t, p0, p1, s0, s1, t0, t1, rfl⟩ | ⟨h15, s, e, s0, s1, he, rfl⟩ | ⟨h21, s, f, e, s0, s1, he, rfl⟩ | ⟨h14, h15, h21, s, s0, s1, ⟨t, t0, t1, rfl⟩ | ⟨f, e, hv, hm2, he, rfl⟩⟩
  · obtain rfl : o = 14 := h14
    obtain rfl : m = 0 := by rcases hm with hm | hm; exact hm; cases hm
    exact fine_of 14 d s t 0 p' 0 false [] [] false 0 0 (ref_7 rfl hd ⟨s0, s1⟩ ⟨t0, t1⟩ ⟨p0, p1⟩) (by omega) rfl rfl
  · have h15 : o = 15 ∨ o = 16 ∨ o = 17 := h15
    obtain rfl : m = 0 := by rcases hm with hm | hm; exact hm; rcases h15 with rfl | rfl | rfl <;> cases hm
    obtain rfl : p = 0 := c4 rfl
    exact fine_of o d s 0 0 0 0 false e [] false 0 0 (ref_8 h15 hd ⟨s0, s1⟩) (by omega) (by rcases h15 with rfl | rfl | rfl <;> exact he) (by rcases h15 with rfl | rfl | rfl <;> exact rfl)
  · have h21 : o = 21 ∨ o = 22 ∨ o = 23 := h21
    obtain rfl : m = 0 := by rcases hm with hm | hm; exact hm; rcases h21 with rfl | rfl | rfl <;> cases hm
    obtain rfl : p = 0 := c4 rfl
    exact fine_of o d s 0 0 0 0 false e [] f 0 0 (ref_10 h21 hd ⟨s0, s1⟩) (by omega) (by rcases h21 with rfl | rfl | rfl <;> exact he) (by rcases h21 with rfl | rfl | rfl <;> exact rfl)
  · have h14 : o ≠ 14 := h14
    have h15 : ¬ (o = 15 ∨ o = 16 ∨ o = 17) := h15
    have h21 : ¬ (o = 21 ∨ o = 22 ∨ o = 23) := h21
    rcases ho with ho | ho | ho | ho | ho
    · exact fine_of o d s t 0 p m false [] [] false 0 0 (ref_1 ho hd ⟨s0, s1⟩ ⟨t0, t1⟩ hc) (by omega) (by rcases ho with rfl | rfl | rfl | rfl | rfl <;> exact rfl) (by rcases ho with rfl | rfl | rfl | rfl | rfl <;> exact rfl)
    · exact absurd ho h14
    · exact absurd ho h15
    · obtain rfl : m = 0 := by rcases hm with hm | hm; exact hm; rcases ho with rfl | rfl | rfl <;> cases hm
      obtain rfl : p = 0 := c4 rfl
      exact fine_of o d s t 0 0 0 false [] [] false 0 0 (ref_9 ho hd ⟨s0, s1⟩ ⟨t0, t1⟩) (by omega) (by rcases ho with rfl | rfl | rfl <;> exact rfl) (by rcases ho with rfl | rfl | rfl <;> exact rfl)
    · exact absurd ho h21
  · have hv : valueOp o ≠ 0 := hv
    have hm2 : m = 0 ∨ hasM (valueOp o) = true := hm2
    obtain rfl : o = 2 := by
      unfold valueOp at hv
      by_cases h2 : o = 2
      · exact h2
      · rw [if_neg h2, if_neg (by omega)] at hv
        exact absurd rfl hv
    obtain rfl : m = 0 := by rcases hm2 with hm | hm; exact hm; cases hm
    obtain rfl : p = 0 := c4 rfl
    exact fine_of 7 d s 0 0 0 0 false e [] f 0 0 (ref_2 rfl hd ⟨s0, s1⟩) (by omega) he rfl
theorem compare_fine {o d : Int} (ho : o = 10 ∨ o = 11 ∨ o = 12) (hd : 0 ≤ d ∧ d < 4) (h : operandsP L a ⟨o, d, 0, 0, 0, 0, 0, false, [], [], false, 0, 0⟩ = .ok b y) : Fine L y := by
  rcases operands_rt h with ⟨h14, -⟩ | ⟨h15, -⟩ | ⟨h21, -⟩ | ⟨-, -, -, s, s0, s1, ⟨t, t0, t1, rfl⟩ | ⟨f, e, hv, -, he, rfl⟩⟩
  · have h14 : o = 14 := h14
    omega
  · have h15 : o = 15 ∨ o = 16 ∨ o = 17 := h15
    omega
  · have h21 : o = 21 ∨ o = 22 ∨ o = 23 := h21
    omega
  · exact fine_of o d s t 0 0 0 false [] [] false 0 0 (ref_5 ho hd ⟨s0, s1⟩ ⟨t0, t1⟩) (by omega) (by rcases ho with rfl | rfl | rfl <;> exact rfl) (by rcases ho with rfl | rfl | rfl <;> exact rfl)
  · have hv : valueOp o ≠ 0 := hv
    obtain rfl : o = 10 := by
      unfold valueOp at hv
      by_cases h2 : o = 10
      · exact h2
      · rw [if_neg (by omega), if_neg h2] at hv
        exact absurd rfl hv
    exact fine_of 13 d s 0 0 0 0 false e [] f 0 0 (ref_6 rfl hd ⟨s0, s1⟩) (by omega) he rfl
theorem action_fine {p m : Int} (hc : CondOk p m) (h : actionP L a ⟨0, 0, 0, 0, 0, p, m, false, [], [], false, 0, 0⟩ = .ok b y) : Fine L y := by
  have hc' := hc
  obtain ⟨c0, c1, c2, c3, c4⟩ := hc'
  unfold actionP at h
  by_cases hr : 0 ≤ regZ L a
  · rw [if_pos hr] at h
    have hd : 0 ≤ regZ L a ∧ regZ L a < 32 := ⟨hr, (named_small 114 32 _ (by decide)).2⟩
    generalize regZ L a = d at h hd
    obtain ⟨c, z, h1, h2⟩ := bind_ok' h
    obtain rfl := sgn_rt h1
    unfold assignP at h2
    by_cases hr2 : 0 ≤ regZ L c
    · rw [if_pos hr2] at h2
      have hs : 0 ≤ regZ L c ∧ regZ L c < 32 := ⟨hr2, (named_small 114 32 _ (by decide)).2⟩
      obtain ⟨c2', z, h3, h4⟩ := bind_ok' h2
      obtain rfl := choose_ok h3
      obtain ⟨-, -, rfl⟩ := choose_rt h3
      generalize regZ L c2' = s at h4 hs
      cases h4
      exact fine_of 9 d s 0 0 p m false [] [] false 0 0 (ref_4 rfl hd hs hc) (by omega) rfl rfl
    · rw [if_neg hr2] at h2
      by_cases hb : beginsV L c = true
      · rw [if_pos hb] at h2
        obtain ⟨c2', z, h3, h4⟩ := bind_ok' h2
        obtain ⟨-, -, rfl⟩ := choose_rt h3
        obtain ⟨f, e, he, rfl⟩ := imm_rt h4
        exact fine_of 8 d 0 0 0 p m false e [] f 0 0 (ref_3 rfl hd hc) (by omega) he rfl
      · rw [if_neg hb] at h2
        obtain ⟨c2', z, h3, h4⟩ := bind_ok' h2
        obtain ⟨k1, k2, rfl⟩ := choose_rt h3
        have hops := (wd_ops _ (wd_mem (nameR L c))).1
        generalize (wdOf (nameR L c)).sets = o at *
        exact operands_fine (hops.resolve_left k1) hd hc k2 h4
  · rw [if_neg hr] at h
    by_cases hp : 0 ≤ predZ L a
    · rw [if_pos hp] at h
      have hd : 0 ≤ predZ L a ∧ predZ L a < 4 := ⟨hp, (named_small 112 4 _ (by decide)).2⟩
      generalize predZ L a = d at h hd
      obtain ⟨c, z, h1, h2⟩ := bind_ok' h
      obtain ⟨-, k2, rfl⟩ := choose_rt h1
      have k2 : m = 0 ∨ hasM 10 = true := k2
      obtain rfl : m = 0 := by rcases k2 with hm | hm; exact hm; cases hm
      obtain rfl : p = 0 := c4 rfl
      obtain ⟨c2', z, h3, h4⟩ := bind_ok' h2
      obtain rfl := sgn_rt h3
      unfold compareP at h4
      obtain ⟨c5, z, h5, h6⟩ := bind_ok' h4
      obtain ⟨k1, -, rfl⟩ := choose_rt h5
      have hops := (wd_ops _ (wd_mem (nameR L c2'))).2.1
      generalize (wdOf (nameR L c2')).compares = o at *
      exact compare_fine (hops.resolve_left k1) hd h6
    · rw [if_neg hp] at h
      unfold namedP at h
      obtain ⟨c, z, h1, h2⟩ := bind_ok' h
      obtain ⟨k1, k2, rfl⟩ := choose_rt h1
      obtain ⟨-, -, hops, hn⟩ := wd_ops _ (wd_mem (nameR L a))
      generalize (wdOf (nameR L a)).begins = o at *
      generalize (wdOf (nameR L a)).n = n at *
      have k2 : m = 0 ∨ hasM o = true := k2
      have hn2 : 0 ≤ n ∧ n < 2 := by omega
      unfold bodyP at h2
      rcases hops.resolve_left k1 with rfl | ho | rfl | rfl | rfl | rfl
      · obtain rfl : m = 0 := by rcases k2 with hm | hm; exact hm; cases hm
        obtain rfl : p = 0 := c4 rfl
        cases h2
        exact fine_of 1 0 0 0 0 0 0 false [] [] false 0 0 (ref_17 rfl) (by omega) rfl rfl
      · obtain rfl : m = 0 := by rcases k2 with hm | hm; exact hm; rcases ho with rfl | rfl | rfl <;> cases hm
        obtain rfl : p = 0 := c4 rfl
        have h3 : storeP L (c + 1) (pSetOp ⟨0, 0, 0, 0, 0, 0, 0, false, [], [], false, 0, 0⟩ o) = .ok b y := by
          rcases ho with rfl | rfl | rfl <;> exact h2
        obtain ⟨s, f, e, t, w, s0, s1, he, t0, t1, rfl⟩ := store_rt h3
        exact fine_of o 0 s t 0 0 0 w e [] f 0 0 (ref_11 ho w ⟨s0, s1⟩ ⟨t0, t1⟩) (by omega) (by rcases ho with rfl | rfl | rfl <;> exact he) (by rcases ho with rfl | rfl | rfl <;> exact rfl)
      · have h3 : targetP L (c + 1) (pSetOp ⟨0, 0, 0, 0, 0, p, m, false, [], [], false, 0, 0⟩ 27) = .ok b y := h2
        obtain ⟨f, e, he, rfl⟩ := target_rt h3
        exact fine_of 27 0 0 0 0 p m false e [] f 0 0 (ref_12 rfl hc) (by omega) he rfl
      · have h3 : regP L pSetS (c + 1) (pSetOp ⟨0, 0, 0, 0, 0, p, m, false, [], [], false, 0, 0⟩ 28) = .ok b y := h2
        obtain ⟨s, s0, s1, rfl⟩ := reg_rt h3
        exact fine_of 28 0 s 0 0 p m false [] [] false 0 0 (ref_13 rfl ⟨s0, s1⟩ hc) (by omega) rfl rfl
      · obtain rfl : m = 0 := by rcases k2 with hm | hm; exact hm; cases hm
        obtain rfl : p = 0 := c4 rfl
        have h3 : targetP L (c + 1) (pSetOp ⟨0, 0, 0, 0, 0, 0, 0, false, [], [], false, 0, 0⟩ 29) = .ok b y := h2
        obtain ⟨f, e, he, rfl⟩ := target_rt h3
        exact fine_of 29 0 0 0 0 0 0 false e [] f 0 0 (ref_14 rfl) (by omega) he rfl
      · obtain rfl : m = 0 := by rcases k2 with hm | hm; exact hm; cases hm
        obtain rfl : p = 0 := c4 rfl
        have h3 : loopP L (c + 1) { pSetOp ⟨0, 0, 0, 0, 0, 0, 0, false, [], [], false, 0, 0⟩ 30 with n := n } = .ok b y := h2
        obtain ⟨f, e, he, ⟨q, hq, rfl⟩ | ⟨s, s0, s1, -, rfl⟩⟩ := loop_rt h3
        · exact fine_of 30 0 0 0 n 0 0 false e q f 0 0 (ref_15 rfl hn2) (by omega) he hq
        · exact fine_of 31 0 s 0 n 0 0 false e [] f 0 0 (ref_16 rfl hn2 ⟨s0, s1⟩) (by omega) he rfl
theorem ask_rt {q : Bool} {x : Ln} (h : askP L q a x = .ok b y) : ∃ p m, 0 ≤ p ∧ p < 4 ∧ 1 ≤ m ∧ m ≤ 4 ∧ y = { x with pred := p, mode := m } := by
  unfold askP at h
  split at h
  · rename_i h0
    obtain rfl := sgn_rt h
    refine ⟨_, _, h0, (named_small 112 4 _ (by decide)).2, ?_, ?_, rfl⟩
    · unfold modeZ; split <;> (try split) <;> (try split) <;> decide
    · unfold modeZ; split <;> (try split) <;> (try split) <;> decide
  · cases h
/-- All that is read is right. -/
theorem read_fine (h : readP L = .ok b y) : Fine L y := by
  obtain ⟨c, z, h1, h2⟩ := bind_ok' h
  unfold condP at h1
  split at h1
  · obtain ⟨d, u, h3, h4⟩ := bind_ok' h1
    obtain rfl := sgn_rt h3
    have hask : ∃ p m, 0 ≤ p ∧ p < 4 ∧ 1 ≤ m ∧ m ≤ 4 ∧ z = { lnZero with pred := p, mode := m } := by
      split at h4
      · exact ask_rt h4
      · exact ask_rt h4
    obtain ⟨p, m, p0, p1, m0, m1, rfl⟩ := hask
    exact action_fine (p := p) (m := m) ⟨p0, p1, by omega, m1, fun h => by omega⟩ h2
  · cases h1
    exact action_fine (p := 0) (m := 0) ⟨by decide, by decide, by decide, by decide, fun _ => rfl⟩ h2
end
/-- What Inst tells where it has read an instruction. -/
theorem inst_fine {L : List Tk} {x : Ln} {n : Nat} (h : instP L = (x, n, 0)) : Fine L x ∧ x.line = (L[0]?.map Tk.line).getD 0 ∧ x.col = (L[0]?.map Tk.col).getD 0 := by
  have hf := read_from L
  unfold instP at h
  split at h
  · rename_i a w hr
    have := hf.2.2 a w hr
    cases h
    omega
  · rename_i a y hr
    cases h
    have hfy := read_fine hr
    exact ⟨⟨hfy.ref, hfy.small, hfy.val, hfy.cnt⟩, rfl, rfl⟩
theorem inst_range' {L : List Tk} {x : Ln} {k : Nat} {e : Int} (h : instP L = (x, k, e)) : k ≤ L.length ∧ (e = 0 ∨ e = 3 ∨ e = 8) := by
  have hf := read_from L
  unfold instP at h
  split at h
  · rename_i a w hq
    rw [hq] at hf
    cases h
    exact ⟨hf.2.1, .inr (hf.2.2 _ _ rfl)⟩
  · rename_i a y hq
    rw [hq] at hf
    cases h
    exact ⟨hf.2.1, .inl rfl⟩
end Go.Proofs.YtnfmlmamgkpocaaGreatDoor
