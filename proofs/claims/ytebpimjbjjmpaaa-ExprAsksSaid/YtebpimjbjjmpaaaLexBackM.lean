/- A text's tokens, written out with blanks between, are cut into the same tokens, as plain data; no condition. -/
import Derived.Test.YtebpimjbjjmpaaaLexMath
namespace Go.Proofs.Ytebpimjbjjmpaaa

theorem take_idem (p : UInt8 → Bool) : ∀ l : List UInt8, (∀ b ∈ l, p b = true) → l.takeWhile p = l
  | [], _ => rfl
  | a :: l, h => by
    rw [List.takeWhile_cons, h a (List.mem_cons_self ..), if_pos rfl, take_idem p l (fun b hb => h b (List.mem_cons_of_mem _ hb))]
theorem cut_kind (b : UInt8) (r : List UInt8) : 0 ≤ (lxCut b r).kind ∧ (lxCut b r).kind ≤ 3 := by
  unfold lxCut
  repeat' split
  all_goals simp
/-- What a token's text begins with, a blank behind it. -/
theorem cut_again {b : UInt8} {r : List UInt8} (he : (lxCut b r).e = 0) (hk : (lxCut b r).kind ≠ 0) {x : UInt8} (hx : x.toNat = 32) (t : List UInt8) : lxCut b (r.take (lxCut b r).more ++ x :: t) = lxCut b r := by
  have p1 : isNam x = false := by unfold isNam isLet isDig; rw [hx]; rfl
  have p2 : isWrd x = false := by unfold isWrd isLet isDig; rw [hx]; rfl
  have w1 : ∀ p : UInt8 → Bool, p x = false → (r.take (r.takeWhile p).length ++ x :: t).takeWhile p = r.takeWhile p := fun p hp => by
    rw [take_stop p x hp, take_pre, take_idem p _ (take_all p r)]
  by_cases h1 : isBlk b = true
  · exact absurd (show (lxCut b r).kind = 0 by unfold lxCut; rw [if_pos h1]) hk
  by_cases h2 : (isLet b || decide (b.toNat = 46)) = true
  · have e : lxCut b r = ⟨(r.takeWhile isNam).length, 1, 0, if 32 < (r.takeWhile isNam).length + 1 then 3 else 0⟩ := by unfold lxCut; rw [if_neg h1, if_pos h2]
    rw [e]
    show lxCut b (r.take (r.takeWhile isNam).length ++ x :: t) = _
    unfold lxCut
    rw [if_neg h1, if_pos h2, w1 isNam p1]
  by_cases h3 : isDig b = true
  · have e : lxCut b r = ⟨(r.takeWhile isWrd).length, 2, lxNum (b :: r.takeWhile isWrd), if lxNum (b :: r.takeWhile isWrd) = -1 then 8 else if lxNum (b :: r.takeWhile isWrd) = -2 then 6 else 0⟩ := by unfold lxCut; rw [if_neg h1, if_neg h2, if_pos h3]
    rw [e]
    show lxCut b (r.take (r.takeWhile isWrd).length ++ x :: t) = _
    unfold lxCut
    rw [if_neg h1, if_neg h2, if_pos h3, w1 isWrd p2]
  by_cases h4 : b.toNat = 47 ∧ (r.head?.map UInt8.toNat) = some 47
  · exact absurd (show (lxCut b r).kind = 0 by unfold lxCut; rw [if_neg h1, if_neg h2, if_neg h3, if_pos h4]) hk
  by_cases h5 : b.toNat = 35 ∧ (r.head?.map UInt8.toNat) = some 35
  · have e : lxCut b r = ⟨1, 3, 0, 0⟩ := by unfold lxCut; rw [if_neg h1, if_neg h2, if_neg h3, if_neg h4, if_pos h5]
    rw [e]
    show lxCut b (r.take 1 ++ x :: t) = _
    cases r with
    | nil => cases h5.2
    | cons a r =>
      unfold lxCut
      rw [if_neg h1, if_neg h2, if_neg h3, if_neg (fun h => by have h6 := h.1; have h7 := h5.1; omega), if_pos ⟨h5.1, h5.2⟩]
  have h6 : isSgn b = true := by
    by_cases h6 : isSgn b = true
    · exact h6
    · exact absurd he (by unfold lxCut; rw [if_neg h1, if_neg h2, if_neg h3, if_neg h4, if_neg h5, if_neg h6]; decide)
  have e : lxCut b r = ⟨0, 3, 0, 0⟩ := by unfold lxCut; rw [if_neg h1, if_neg h2, if_neg h3, if_neg h4, if_neg h5, if_pos h6]
  rw [e]
  show lxCut b (x :: t) = _
  have hh : ∀ n : Nat, n ≠ 32 → ((x :: t).head?.map UInt8.toNat) ≠ some n := fun n hn h => by
    have : some x.toNat = some n := h
    rw [hx] at this
    exact hn (Option.some.inj this).symm
  unfold lxCut
  rw [if_neg h1, if_neg h2, if_neg h3, if_neg (fun h => hh 47 (by decide) h.2), if_neg (fun h => hh 35 (by decide) h.2), if_pos h6]
/-- The text that is written. -/
def oneB (t : Tk) : List UInt8 := if t.kind = 4 then [10] else t.text ++ [32]
def backL : List Tk → List UInt8
  | [] => []
  | [t] => if t.kind = 4 then [] else t.text ++ [32]
  | t :: u :: r => oneB t ++ backL (u :: r)
theorem back_cons (t : Tk) {r : List Tk} (h : r ≠ []) : backL (t :: r) = oneB t ++ backL r := by
  cases r with
  | nil => exact absurd rfl h
  | cons u r => rfl
theorem run_ne : ∀ (n : Nat) (l : List UInt8), l.length ≤ n → ∀ line col : Int, (lxRun line col l).1 ≠ []
  | _, [], _, line, col => by rw [lxRun_nil]; simp
  | 0, b :: r, h, _, _ => by simp at h
  | n + 1, b :: r, h, line, col => by
    rw [List.length_cons] at h
    by_cases hb : b.toNat = 10
    · rw [lxRun_lf _ _ hb]; simp
    · rw [lxRun_cut _ _ hb]
      intro h2
      exact run_ne n (r.drop (lxCut b r).more) (by rw [List.length_drop]; omega) _ _ (List.append_eq_nil_iff.1 h2).2
def uncol (t : Tk) : Tk := { t with col := 0 }
theorem run_back : ∀ (n : Nat) (l : List UInt8), l.length ≤ n → ∀ line col c : Int, (lxRun line c (backL (lxRun line col l).1)).1.map uncol = (lxRun line col l).1.map uncol ∧ (lxRun line c (backL (lxRun line col l).1)).2 = []
  | _, [], _, line, col, c => by
    rw [lxRun_nil]
    show (lxRun line c []).1.map uncol = _ ∧ (lxRun line c []).2 = []
    rw [lxRun_nil]
    exact ⟨rfl, rfl⟩
  | 0, b :: r, h, _, _, _ => by simp at h
  | n + 1, b :: r, h, line, col, c => by
    rw [List.length_cons] at h
    by_cases hb : b.toNat = 10
    · rw [lxRun_lf _ _ hb]
      have hne := run_ne r.length r (Nat.le_refl _) (line + 1) 1
      obtain ⟨i1, i2⟩ := run_back n r (by omega) (line + 1) 1 1
      simp only []
      rw [back_cons _ hne]
      show (lxRun line c (10 :: backL (lxRun (line + 1) 1 r).1)).1.map uncol = _ ∧ (lxRun line c (10 :: backL (lxRun (line + 1) 1 r).1)).2 = []
      rw [lxRun_lf _ _ (b := 10) rfl]
      refine ⟨?_, i2⟩
      rw [List.map_cons, List.map_cons, i1]
      rfl
    · rw [lxRun_cut _ _ hb]
      have hle := cut_le b r
      generalize hcol : col + ((lxCut b r).more : Nat) + 1 = col2
      have hne := run_ne (r.drop (lxCut b r).more).length (r.drop (lxCut b r).more) (Nat.le_refl _) line col2
      have ih := fun c => run_back n (r.drop (lxCut b r).more) (by rw [List.length_drop]; omega) line col2 c
      simp only []
      generalize (lxRun line col2 (r.drop (lxCut b r).more)).1 = T at *
      unfold lxTok
      by_cases hk : (lxCut b r).e = 0 ∧ (lxCut b r).kind ≠ 0
      · rw [if_pos hk, List.singleton_append, back_cons _ hne]
        have hk4 : (lxCut b r).kind ≠ 4 := by
          have := cut_kind b r
          omega
        have eo : oneB ⟨(lxCut b r).kind, (b :: r).take ((lxCut b r).more + 1), (lxCut b r).v, line, col⟩ ++ backL T = b :: (r.take (lxCut b r).more ++ 32 :: backL T) := by
          unfold oneB
          rw [if_neg hk4, List.take_succ_cons]
          simp
        rw [eo, lxRun_cut _ _ hb, cut_again hk.1 hk.2 (x := 32) rfl]
        have e1 : lxTok b (r.take (lxCut b r).more ++ 32 :: backL T) line c = [⟨(lxCut b r).kind, (b :: r).take ((lxCut b r).more + 1), (lxCut b r).v, line, c⟩] := by
          unfold lxTok
          rw [cut_again hk.1 hk.2 (x := 32) rfl, if_pos hk, List.take_succ_cons, List.take_succ_cons, List.take_append_of_le_length (by rw [List.length_take]; omega), List.take_take, Nat.min_self]
        have e2 : lxBad b (r.take (lxCut b r).more ++ 32 :: backL T) line c = [] := by
          unfold lxBad
          rw [cut_again hk.1 hk.2 (x := 32) rfl, if_pos hk.1]
        have e3 : (r.take (lxCut b r).more ++ 32 :: backL T).drop (lxCut b r).more = 32 :: backL T := by
          rw [List.drop_append_of_le_length (by rw [List.length_take]; omega), List.drop_eq_nil_of_le (by rw [List.length_take]; omega)]
          rfl
        rw [e1, e2, e3, lxRun_cut _ _ (b := 32) (by decide)]
        obtain ⟨i1, i2⟩ := ih (c + ((lxCut b r).more : Nat) + 1 + ((lxCut 32 (backL T)).more : Nat) + 1)
        have d1 : lxCut 32 (backL T) = ⟨0, 0, 0, 0⟩ := rfl
        have d2 : lxTok 32 (backL T) line (c + ((lxCut b r).more : Nat) + 1) = [] := rfl
        have d3 : lxBad 32 (backL T) line (c + ((lxCut b r).more : Nat) + 1) = [] := rfl
        rw [d2, d3]
        have d4 : (backL T).drop (lxCut 32 (backL T)).more = backL T := rfl
        rw [d4]
        refine ⟨?_, i2⟩
        simp only [List.nil_append, List.singleton_append, List.map_cons, i1]
        rfl
      · rw [if_neg hk]
        exact ih c
/-! The lines counted on. -/
def onLine (k : Int) (t : Tk) : Tk := { t with line := t.line + k }
theorem run_shift (k : Int) : ∀ (n : Nat) (l : List UInt8), l.length ≤ n → ∀ line col : Int, (lxRun (line + k) col l).1 = (lxRun line col l).1.map (onLine k)
  | _, [], _, line, col => by
    rw [lxRun_nil, lxRun_nil]
    rfl
  | 0, b :: r, h, _, _ => by simp at h
  | n + 1, b :: r, h, line, col => by
    rw [List.length_cons] at h
    by_cases hb : b.toNat = 10
    · rw [lxRun_lf _ _ hb, lxRun_lf _ _ hb]
      have ih := run_shift k n r (by omega) (line + 1) 1
      simp only []
      rw [show line + k + 1 = line + 1 + k by omega, ih]
      rfl
    · rw [lxRun_cut _ _ hb, lxRun_cut _ _ hb]
      simp only []
      rw [run_shift k n (r.drop (lxCut b r).more) (by rw [List.length_drop]; omega) line, List.map_append]
      congr 1
      unfold lxTok
      split <;> rfl
theorem run_ends : ∀ (n : Nat) (l : List UInt8), l.length ≤ n → ∀ line col : Int, (lxRun line col l).1.countP (fun t => decide (t.kind = 4)) = lfs l + 1
  | _, [], _, line, col => by
    rw [lxRun_nil]
    rfl
  | 0, b :: r, h, _, _ => by simp at h
  | n + 1, b :: r, h, line, col => by
    rw [List.length_cons] at h
    by_cases hb : b.toNat = 10
    · rw [lxRun_lf _ _ hb]
      simp only []
      rw [List.countP_cons, run_ends n r (by omega)]
      unfold lfs
      rw [List.countP_cons, decide_eq_true hb]
      rfl
    · rw [lxRun_cut _ _ hb]
      simp only []
      rw [List.countP_append, run_ends n (r.drop (lxCut b r).more) (by rw [List.length_drop]; omega), drop_nolf hb]
      have h0 : (lxTok b r line col).countP (fun t => decide (t.kind = 4)) = 0 := by
        have hk4 : (lxCut b r).kind ≠ 4 := by
          have := cut_kind b r
          omega
        unfold lxTok
        split
        · rw [List.countP_cons, List.countP_nil, decide_eq_false hk4]
          rfl
        · rfl
      omega
end Go.Proofs.Ytebpimjbjjmpaaa
