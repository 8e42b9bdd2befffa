/- Reading as a run: what it finds is what is read; as plain data; no condition but those named. -/
import Derived.Test.YtebpimjbjjmpaaaExprVal2
namespace Go.Proofs.Ytebpimjbjjmpaaa

/-- What is read, by so many steps at most. -/
def pf : Nat → Md → Nat → List Tq → Option Rs
  | 0, _, _, _ => none
  | n + 1, .fac, d, ts =>
    if isSg 40 ts then (if d = 16 then some (.bad ts 3) else if d < 16 then (match ts with
      | [] => none
      | _ :: r => match pf n .sum (d + 1) r with
        | none => none
        | some (.bad r1 w) => some (.bad r1 w)
        | some (.ok a r1) => match r1 with
          | [] => some (.bad [] 8)
          | t2 :: r2 => if isSg 41 (t2 :: r2) then some (.ok a r2) else some (.bad (t2 :: r2) 8)) else none)
    else if isSg 45 ts then (if d = 16 then some (.bad ts 3) else if d < 16 then (match ts with
      | [] => none
      | _ :: r => match pf n .fac (d + 1) r with
        | none => none
        | some (.bad r1 w) => some (.bad r1 w)
        | some (.ok a r1) => some (.ok (.neg a) r1)) else none)
    else match ts with
      | [] => some (.bad [] 8)
      | t :: r => if t.kind = 2 ∧ 0 ≤ t.v ∧ t.v ≤ 1099511627776 then some (.ok (.num t.v) r) else if t.kind = 1 ∧ t.text ≠ [] then some (.ok (.nam t.text) r) else some (.bad (t :: r) 8)
  | n + 1, .prod, d, ts => match pf n .fac d ts with
    | none => none
    | some (.bad r w) => some (.bad r w)
    | some (.ok a r) => pf n (.pt a) d r
  | n + 1, .sum, d, ts => match pf n .prod d ts with
    | none => none
    | some (.bad r w) => some (.bad r w)
    | some (.ok a r) => pf n (.st a) d r
  | n + 1, .pt a, d, ts => if isSg 42 ts then (match ts with
      | [] => none
      | _ :: r => match pf n .fac d r with
        | none => none
        | some (.bad r1 w) => some (.bad r1 w)
        | some (.ok b r1) => pf n (.pt (.bin 5 a b)) d r1) else some (.ok a ts)
  | n + 1, .st a, d, ts => if isSg 43 ts then (match ts with
      | [] => none
      | _ :: r => match pf n .prod d r with
        | none => none
        | some (.bad r1 w) => some (.bad r1 w)
        | some (.ok b r1) => pf n (.st (.bin 3 a b)) d r1)
    else if isSg 45 ts then (match ts with
      | [] => none
      | _ :: r => match pf n .prod d r with
        | none => none
        | some (.bad r1 w) => some (.bad r1 w)
        | some (.ok b r1) => pf n (.st (.bin 4 a b)) d r1) else some (.ok a ts)
theorem pf_sound : ∀ (n : Nat) (m : Md) (d : Nat) (ts : List Tq) (res : Rs), pf n m d ts = some res → Rd m d ts res
  | 0, _, _, _, _, h => by cases h
  | n + 1, .prod, d, ts, res, h => by
    simp only [pf] at h
    split at h
    · cases h
    · rename_i r w hq
      cases h
      exact .prodBad (pf_sound n _ _ _ _ hq)
    · rename_i a r hq
      exact .prodOk (pf_sound n _ _ _ _ hq) (pf_sound n _ _ _ _ h)
  | n + 1, .sum, d, ts, res, h => by
    simp only [pf] at h
    split at h
    · cases h
    · rename_i r w hq
      cases h
      exact .sumBad (pf_sound n _ _ _ _ hq)
    · rename_i a r hq
      exact .sumOk (pf_sound n _ _ _ _ hq) (pf_sound n _ _ _ _ h)
  | n + 1, .pt a, d, ts, res, h => by
    simp only [pf] at h
    by_cases hs : isSg 42 ts = true
    · rw [if_pos hs] at h
      cases ts with
      | nil => cases hs
      | cons t r =>
        simp only [] at h
        split at h
        · cases h
        · rename_i r1 w hq
          cases h
          exact .starBad hs (pf_sound n _ _ _ _ hq)
        · rename_i b r1 hq
          exact .starOk hs (pf_sound n _ _ _ _ hq) (pf_sound n _ _ _ _ h)
    · rw [if_neg hs] at h
      cases h
      exact .starEnd (by simpa using hs)
  | n + 1, .st a, d, ts, res, h => by
    simp only [pf] at h
    by_cases hs : isSg 43 ts = true
    · rw [if_pos hs] at h
      cases ts with
      | nil => cases hs
      | cons t r =>
        simp only [] at h
        split at h
        · cases h
        · rename_i r1 w hq
          cases h
          exact .plusBad hs (pf_sound n _ _ _ _ hq)
        · rename_i b r1 hq
          exact .plusOk hs (pf_sound n _ _ _ _ hq) (pf_sound n _ _ _ _ h)
    · rw [if_neg hs] at h
      by_cases hs2 : isSg 45 ts = true
      · rw [if_pos hs2] at h
        cases ts with
        | nil => cases hs2
        | cons t r =>
          simp only [] at h
          split at h
          · cases h
          · rename_i r1 w hq
            cases h
            exact .subBad hs2 (pf_sound n _ _ _ _ hq)
          · rename_i b r1 hq
            exact .subOk hs2 (pf_sound n _ _ _ _ hq) (pf_sound n _ _ _ _ h)
      · rw [if_neg hs2] at h
        cases h
        exact .sumEnd (by simpa using hs) (by simpa using hs2)
  | n + 1, .fac, d, ts, res, h => by
    simp only [pf] at h
    by_cases hs : isSg 40 ts = true
    · rw [if_pos hs] at h
      by_cases hd : d = 16
      · rw [if_pos hd] at h
        cases h
        exact .deepP hs hd
      · rw [if_neg hd] at h
        by_cases hd2 : d < 16
        · rw [if_pos hd2] at h
          cases ts with
          | nil => cases hs
          | cons t r =>
            simp only [] at h
            split at h
            · cases h
            · rename_i r1 w hq
              cases h
              exact .parBad hs hd2 (pf_sound n _ _ _ _ hq)
            · rename_i a r1 hq
              cases r1 with
              | nil =>
                cases h
                exact .parOpen hs hd2 (pf_sound n _ _ _ _ hq) rfl
              | cons t2 r2 =>
                simp only [] at h
                by_cases hc : isSg 41 (t2 :: r2) = true
                · rw [if_pos hc] at h
                  cases h
                  exact .parOk hs hd2 (pf_sound n _ _ _ _ hq) hc
                · rw [if_neg hc] at h
                  cases h
                  exact .parOpen hs hd2 (pf_sound n _ _ _ _ hq) (by simpa using hc)
        · rw [if_neg hd2] at h
          cases h
    · rw [if_neg hs] at h
      by_cases hs2 : isSg 45 ts = true
      · rw [if_pos hs2] at h
        by_cases hd : d = 16
        · rw [if_pos hd] at h
          cases h
          exact .deepN hs2 hd
        · rw [if_neg hd] at h
          by_cases hd2 : d < 16
          · rw [if_pos hd2] at h
            cases ts with
            | nil => cases hs2
            | cons t r =>
              simp only [] at h
              split at h
              · cases h
              · rename_i r1 w hq
                cases h
                exact .negBad hs2 hd2 (pf_sound n _ _ _ _ hq)
              · rename_i a r1 hq
                cases h
                exact .negOk hs2 hd2 (pf_sound n _ _ _ _ hq)
          · rw [if_neg hd2] at h
            cases h
      · rw [if_neg hs2] at h
        cases ts with
        | nil =>
          cases h
          exact .noneEnd
        | cons t r =>
          simp only [] at h
          by_cases h2 : t.kind = 2 ∧ 0 ≤ t.v ∧ t.v ≤ 1099511627776
          · rw [if_pos h2] at h
            cases h
            exact .number h2.1 h2.2.1 h2.2.2
          · rw [if_neg h2] at h
            by_cases h3 : t.kind = 1 ∧ t.text ≠ []
            · rw [if_pos h3] at h
              cases h
              exact .name h3.1 h3.2
            · rw [if_neg h3] at h
              cases h
              exact .noneTok (by simpa using hs) (by simpa using hs2) h2 h3
/-! Readings of texts put together. -/
def sgT (c : UInt8) : Tq := ⟨3, [c], 0⟩
theorem sg_sgT (c : UInt8) (r : List Tq) : isSg c (sgT c :: r) = true := by simp [isSg, sgT]
theorem sg_sgT_ne {c c' : UInt8} (h : c ≠ c') (r : List Tq) : isSg c' (sgT c :: r) = false := sg_not (sg_sgT c r) h
/-- A whole text in brackets is a factor. -/
theorem rd_par {S : List Tq} {a : Ex} (h : Rd .sum 0 S (.ok a [])) {d : Nat} (hd : d + 1 + cntQ S ≤ 16) (p : List Tq) : Rd .fac d (sgT 40 :: (S ++ sgT 41 :: p)) (.ok a p) := by
  obtain ⟨c, e, k⟩ := rd_app h a [] rfl
  rw [List.append_nil] at e
  subst e
  have h1 := k (sgT 41 :: p) (d + 1) ⟨sg_sgT_ne (by decide) _, sg_sgT_ne (by decide) _, sg_sgT_ne (by decide) _⟩ hd
  exact .parOk (sg_sgT 40 _) (by omega) h1 (sg_sgT 41 _)
theorem rd_paren {S : List Tq} {a : Ex} (h : Rd .sum 0 S (.ok a [])) (hn : cntQ S ≤ 15) : Rd .sum 0 (sgT 40 :: (S ++ [sgT 41])) (.ok a []) :=
  .sumOk (.prodOk (rd_par h (by omega) []) (.starEnd rfl)) (.sumEnd rfl rfl)
theorem rd_plus {S T : List Tq} {a b : Ex} (h : Rd .sum 0 S (.ok a [])) (k : Rd .sum 0 T (.ok b [])) (hn : cntQ S ≤ 15) (hm : cntQ T ≤ 15) : Rd .sum 0 (sgT 40 :: (S ++ sgT 41 :: sgT 43 :: sgT 40 :: (T ++ [sgT 41]))) (.ok (.bin 3 a b) []) :=
  .sumOk (.prodOk (rd_par h (by omega) _) (.starEnd (sg_sgT_ne (by decide) _))) (.plusOk (sg_sgT 43 _) (.prodOk (rd_par k (by omega) []) (.starEnd rfl)) (.sumEnd rfl rfl))
theorem rd_minus {S T : List Tq} {a b : Ex} (h : Rd .sum 0 S (.ok a [])) (k : Rd .sum 0 T (.ok b [])) (hn : cntQ S ≤ 15) (hm : cntQ T ≤ 15) : Rd .sum 0 (sgT 40 :: (S ++ sgT 41 :: sgT 45 :: sgT 40 :: (T ++ [sgT 41]))) (.ok (.bin 4 a b) []) :=
  .sumOk (.prodOk (rd_par h (by omega) _) (.starEnd (sg_sgT_ne (by decide) _))) (.subOk (sg_sgT 45 _) (.prodOk (rd_par k (by omega) []) (.starEnd rfl)) (.sumEnd rfl rfl))
theorem rd_times {S T : List Tq} {a b : Ex} (h : Rd .sum 0 S (.ok a [])) (k : Rd .sum 0 T (.ok b [])) (hn : cntQ S ≤ 15) (hm : cntQ T ≤ 15) : Rd .sum 0 (sgT 40 :: (S ++ sgT 41 :: sgT 42 :: sgT 40 :: (T ++ [sgT 41]))) (.ok (.bin 5 a b) []) :=
  .sumOk (.prodOk (rd_par h (by omega) _) (.starOk (sg_sgT 42 _) (rd_par k (by omega) []) (.starEnd rfl))) (.sumEnd rfl rfl)
theorem rd_minus1 {S : List Tq} {a : Ex} (h : Rd .sum 0 S (.ok a [])) (hn : cntQ S ≤ 14) : Rd .sum 0 (sgT 45 :: sgT 40 :: (S ++ [sgT 41])) (.ok (.neg a) []) :=
  .sumOk (.prodOk (.negOk (sg_sgT 45 _) (by decide) (rd_par h (by omega) [])) (.starEnd rfl)) (.sumEnd rfl rfl)
/-- What is read is read as well with other tokens behind. -/
theorem rd_same {m : Md} {d : Nat} {ts : List Tq} {res : Rs} (h : Rd m d ts res) : ∀ a r, res = .ok a r → ∃ c, ts = c ++ r ∧ ∀ p, m.stops p → Rd m d (c ++ p) (.ok a p) := by
  induction h with
  | @parOk d t r0 a0 t2 r2 h hd hs hc ih =>
    intro a r e
    cases e
    obtain ⟨c, e1, k⟩ := ih a0 (t2 :: r2) rfl
    refine ⟨t :: (c ++ [t2]), by rw [e1]; simp, fun p _ => ?_⟩
    have hst : Md.sum.stops (t2 :: p) := ⟨sg_not (c := 41) hc (by decide), sg_not (c := 41) hc (by decide), sg_not (c := 41) hc (by decide)⟩
    have := k (t2 :: p) hst
    rw [List.cons_append, List.append_assoc]
    exact .parOk h hd this hc
  | @negOk d t r0 a0 r1 h hd hs ih =>
    intro a r e
    cases e
    obtain ⟨c, e1, k⟩ := ih a0 r1 rfl
    refine ⟨t :: c, by rw [e1]; rfl, fun p _ => ?_⟩
    exact .negOk h hd (k p trivial)
  | @number d t r0 hk h0 h1 =>
    intro a r e
    cases e
    exact ⟨[t], rfl, fun p _ => .number hk h0 h1⟩
  | @name d t r0 hk h0 =>
    intro a r e
    cases e
    exact ⟨[t], rfl, fun p _ => .name hk h0⟩
  | @prodOk d ts a0 r0 res hf hp ih1 ih2 =>
    intro a r e
    obtain ⟨c1, e1, k1⟩ := ih1 a0 r0 rfl
    obtain ⟨c2, e2, k2⟩ := ih2 a r e
    refine ⟨c1 ++ c2, by rw [e1, e2, List.append_assoc], fun p hst => ?_⟩
    rw [List.append_assoc]
    exact .prodOk (k1 (c2 ++ p) trivial) (k2 p hst)
  | @starOk d t r0 a0 b r1 res h hf hp ih1 ih2 =>
    intro a r e
    obtain ⟨c1, e1, k1⟩ := ih1 b r1 rfl
    obtain ⟨c2, e2, k2⟩ := ih2 a r e
    refine ⟨t :: (c1 ++ c2), by rw [e1, e2]; simp, fun p hst => ?_⟩
    rw [List.cons_append, List.append_assoc]
    exact .starOk h (k1 (c2 ++ p) trivial) (k2 p hst)
  | @starEnd d ts a0 h =>
    intro a r e
    cases e
    exact ⟨[], rfl, fun p hst => .starEnd hst⟩
  | @sumOk d ts a0 r0 res hf hp ih1 ih2 =>
    intro a r e
    obtain ⟨c1, e1, k1⟩ := ih1 a0 r0 rfl
    obtain ⟨c2, e2, k2⟩ := ih2 a r e
    refine ⟨c1 ++ c2, by rw [e1, e2, List.append_assoc], fun p hst => ?_⟩
    rw [List.append_assoc]
    have h42 := rd_star hf a0 r0 rfl (.inl rfl)
    rw [e2] at h42
    exact .sumOk (k1 (c2 ++ p) (sg_app h42 hst.1)) (k2 p hst)
  | @plusOk d t r0 a0 b r1 res h hf hp ih1 ih2 =>
    intro a r e
    obtain ⟨c1, e1, k1⟩ := ih1 b r1 rfl
    obtain ⟨c2, e2, k2⟩ := ih2 a r e
    refine ⟨t :: (c1 ++ c2), by rw [e1, e2]; simp, fun p hst => ?_⟩
    rw [List.cons_append, List.append_assoc]
    have h42 := rd_star hf b r1 rfl (.inl rfl)
    rw [e2] at h42
    exact .plusOk h (k1 (c2 ++ p) (sg_app h42 hst.1)) (k2 p hst)
  | @subOk d t r0 a0 b r1 res h hf hp ih1 ih2 =>
    intro a r e
    obtain ⟨c1, e1, k1⟩ := ih1 b r1 rfl
    obtain ⟨c2, e2, k2⟩ := ih2 a r e
    refine ⟨t :: (c1 ++ c2), by rw [e1, e2]; simp, fun p hst => ?_⟩
    rw [List.cons_append, List.append_assoc]
    have h42 := rd_star hf b r1 rfl (.inl rfl)
    rw [e2] at h42
    exact .subOk h (k1 (c2 ++ p) (sg_app h42 hst.1)) (k2 p hst)
  | @sumEnd d ts a0 h h2 =>
    intro a r e
    cases e
    exact ⟨[], rfl, fun p hst => .sumEnd hst.2.1 hst.2.2⟩
  | _ => intro a r e; cases e
/-- What is read alone of what has been read is the same. -/
theorem rd_again {L : List Tq} {a : Ex} {r : List Tq} (h : Rd .sum 0 L (.ok a r)) : ∃ c, L = c ++ r ∧ Rd .sum 0 c (.ok a []) := by
  obtain ⟨c, e, k⟩ := rd_same h a r rfl
  have h2 := k [] ⟨rfl, rfl, rfl⟩
  rw [List.append_nil] at h2
  exact ⟨c, e, h2⟩
end Go.Proofs.Ytebpimjbjjmpaaa
