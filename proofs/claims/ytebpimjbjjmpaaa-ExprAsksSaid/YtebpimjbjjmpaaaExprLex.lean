/- Tokens without places of texts put together by signs, as plain data; no condition but those named. -/
import Derived.Test.YtebpimjbjjmpaaaExprRun
import Derived.Test.YtebpimjbjjmpaaaLexBackM
namespace Go.Proofs.Ytebpimjbjjmpaaa

/-- The tokens of a text without places. -/
def Qs (s : List UInt8) : List Tq := (lxRun 1 1 s).1.map Tk.q
def endQ : Tq := ⟨4, [], 0⟩
theorem tokQ (b : UInt8) (r : List UInt8) (l1 c1 l2 c2 : Int) : (lxTok b r l1 c1).map Tk.q = (lxTok b r l2 c2).map Tk.q := by
  unfold lxTok
  split <;> rfl
theorem q_pos : ∀ (n : Nat) (s : List UInt8), s.length ≤ n → ∀ l1 c1 l2 c2 : Int, (lxRun l1 c1 s).1.map Tk.q = (lxRun l2 c2 s).1.map Tk.q
  | _, [], _, _, _, _, _ => rfl
  | 0, b :: r, h, _, _, _, _ => by simp at h
  | n + 1, b :: r, h, l1, c1, l2, c2 => by
    rw [List.length_cons] at h
    by_cases hb : b.toNat = 10
    · rw [lxRun_lf _ _ hb, lxRun_lf _ _ hb]
      simp only [List.map_cons]
      rw [q_pos n r (by omega) (l1 + 1) 1 (l2 + 1) 1]
      rfl
    · rw [lxRun_cut _ _ hb, lxRun_cut _ _ hb]
      simp only [List.map_append]
      rw [tokQ b r l1 c1 l2 c2, q_pos n (r.drop (lxCut b r).more) (by rw [List.length_drop]; omega) l1 _ l2 (c2 + ((lxCut b r).more : Nat) + 1)]
/-- ( ) * + - -/
def isOp (x : UInt8) : Prop := x = 40 ∨ x = 41 ∨ x = 42 ∨ x = 43 ∨ x = 45
theorem op_facts {x : UInt8} (h : isOp x) : isNam x = false ∧ isWrd x = false ∧ x.toNat ≠ 35 ∧ x.toNat ≠ 47 ∧ x.toNat ≠ 10 ∧ ∀ t, lxCut x t = ⟨0, 3, 0, 0⟩ := by
  have hf : ∀ t, lxCut x t = ⟨0, 3, 0, 0⟩ := by
    intro t
    rcases h with rfl | rfl | rfl | rfl | rfl
    all_goals
      unfold lxCut
      rw [if_neg (by decide), if_neg (by decide), if_neg (by decide), if_neg (fun h => absurd h.1 (by decide)), if_neg (fun h => absurd h.1 (by decide)), if_pos (by decide)]
  rcases h with rfl | rfl | rfl | rfl | rfl
  all_goals exact ⟨by decide, by decide, by decide, by decide, by decide, hf⟩
theorem cut_op {x : UInt8} (hx : isOp x) (b : UInt8) (hb : b.toNat ≠ 47) (r t : List UInt8) : lxCut b (r ++ x :: t) = lxCut b r := by
  obtain ⟨p1, p2, p3, p4, -, -⟩ := op_facts hx
  have hh : ((r ++ x :: t).head?.map UInt8.toNat) = some 35 ↔ (r.head?.map UInt8.toNat) = some 35 := by
    cases r with
    | nil =>
      show (some x.toNat = some 35) ↔ none = some 35
      simp [p3]
    | cons a r => exact Iff.rfl
  unfold lxCut
  rw [take_stop isNam x p1, take_stop isWrd x p2]
  simp only [hh]
  have e1 : ¬ (b.toNat = 47 ∧ ((r ++ x :: t).head?.map UInt8.toNat) = some 47) := fun h => hb h.1
  have e2 : ¬ (b.toNat = 47 ∧ (r.head?.map UInt8.toNat) = some 47) := fun h => hb h.1
  simp only [if_neg e1, if_neg e2]
/-- How many ( and - a text has. -/
def deepN (s : List UInt8) : Nat := s.countP fun b => decide (b = 40) || decide (b = 45)
theorem deep_cons (b : UInt8) (r : List UInt8) : deepN (b :: r) = (if b = 40 ∨ b = 45 then 1 else 0) + deepN r := by
  unfold deepN
  rw [List.countP_cons]
  simp only [Bool.or_eq_true, decide_eq_true_eq]
  omega
theorem deep_drop (r : List UInt8) (n : Nat) : deepN (r.drop n) ≤ deepN r := by
  unfold deepN
  exact List.Sublist.countP_le (List.drop_sublist n r)
theorem cnt_tok (b : UInt8) (r : List UInt8) (l c : Int) : cntQ ((lxTok b r l c).map Tk.q) ≤ if b = 40 ∨ b = 45 then 1 else 0 := by
  unfold lxTok
  split
  · simp only [List.map_cons, List.map_nil]
    split
    · unfold cntQ
      exact Nat.le_trans List.countP_le_length (Nat.le_refl _)
    · rename_i h1 h2
      refine Nat.le_of_eq ?_
      unfold cntQ
      rw [List.countP_eq_zero]
      intro t ht
      rw [List.mem_singleton] at ht
      subst ht
      simp only [Tk.q, Bool.and_eq_true, Bool.or_eq_true, decide_eq_true_eq, List.take_succ_cons, List.cons.injEq]
      rintro ⟨-, h | h⟩
      · exact h2 (.inl h.1)
      · exact h2 (.inr h.1)
  · simp [cntQ]
/-- A text of one line, without remarks, and what it is ahead of a sign. -/
theorem q_join : ∀ (n : Nat) (s : List UInt8), s.length ≤ n → (∀ b ∈ s, b.toNat ≠ 10 ∧ b.toNat ≠ 47) → ∃ X, (∀ line col : Int, (lxRun line col s).1.map Tk.q = X ++ [endQ]) ∧ cntQ X ≤ deepN s ∧
    ∀ x t, isOp x → ∀ line col : Int, (lxRun line col (s ++ x :: t)).1.map Tk.q = X ++ sgT x :: Qs t
  | _, [], _, _ => by
    refine ⟨[], fun _ _ => rfl, Nat.zero_le _, fun x t hx line col => ?_⟩
    obtain ⟨-, -, -, -, h10, hc⟩ := op_facts hx
    rw [List.nil_append, lxRun_cut _ _ h10]
    simp only [hc, List.map_append, List.drop_zero, lxTok]
    rw [if_pos (by simp), q_pos t.length t (Nat.le_refl _) line _ 1 1]
    rfl
  | 0, b :: r, h, _ => by simp at h
  | n + 1, b :: r, h, hs => by
    rw [List.length_cons] at h
    obtain ⟨h10, h47⟩ := hs b (List.mem_cons_self ..)
    have hle := cut_le b r
    obtain ⟨X, hX, hcn, hj⟩ := q_join n (r.drop (lxCut b r).more) (by rw [List.length_drop]; omega) (fun y hy => hs y (List.mem_cons_of_mem _ (List.mem_of_mem_drop hy)))
    refine ⟨(lxTok b r 1 1).map Tk.q ++ X, fun line col => ?_, ?_, fun x t hx line col => ?_⟩
    · rw [lxRun_cut _ _ h10]
      simp only [List.map_append]
      rw [tokQ b r line col 1 1, hX, List.append_assoc]
    · rw [cnt_app, deep_cons]
      have h1 := cnt_tok b r 1 1
      have h2 := deep_drop r (lxCut b r).more
      omega
    · have hc := cut_op hx b h47 r t
      rw [List.cons_append, lxRun_cut _ _ h10]
      simp only [List.map_append]
      rw [hc, List.drop_append_of_le_length hle, hj x t hx]
      have e1 : lxTok b (r ++ x :: t) line col = lxTok b r line col := by
        unfold lxTok
        rw [hc, ← List.cons_append, List.take_append_of_le_length (by rw [List.length_cons]; omega)]
      rw [e1, tokQ b r line col 1 1, List.append_assoc]
/-- The tokens without the last end. -/
def Ts (s : List UInt8) : List Tq := (Qs s).dropLast
structure Plain (s : List UInt8) : Prop where
  all : ∀ b ∈ s, b.toNat ≠ 10 ∧ b.toNat ≠ 47
theorem qs_join {s : List UInt8} (h : Plain s) {x : UInt8} (hx : isOp x) (t : List UInt8) : Qs (s ++ x :: t) = Ts s ++ sgT x :: Qs t := by
  obtain ⟨X, hX, -, hj⟩ := q_join s.length s (Nat.le_refl _) h.all
  unfold Ts Qs
  rw [hX, hj x t hx, List.dropLast_concat]
  rfl
theorem ts_deep {s : List UInt8} (h : Plain s) : cntQ (Ts s) ≤ deepN s := by
  obtain ⟨X, hX, hc, -⟩ := q_join s.length s (Nat.le_refl _) h.all
  unfold Ts Qs
  rw [hX, List.dropLast_concat]
  exact hc
theorem qs_end {s : List UInt8} (h : Plain s) : Qs s = Ts s ++ [endQ] := by
  obtain ⟨X, hX, -, -⟩ := q_join s.length s (Nat.le_refl _) h.all
  unfold Ts Qs
  rw [hX, List.dropLast_concat]
theorem plain_nil : Plain [] := ⟨fun _ h => by cases h⟩
theorem qs_nil : Qs [] = [endQ] := rfl
theorem ts_of {s : List UInt8} {X : List Tq} (h : Qs s = X ++ [endQ]) : Ts s = X := by
  unfold Ts
  rw [h, List.dropLast_concat]
/-- ( s ) -/
theorem ts_paren {s : List UInt8} (h : Plain s) : Ts (40 :: (s ++ [41])) = sgT 40 :: (Ts s ++ [sgT 41]) := by
  apply ts_of
  have h1 := qs_join plain_nil (x := 40) (.inl rfl) (s ++ [41])
  rw [List.nil_append] at h1
  rw [h1, qs_join h (x := 41) (.inr (.inl rfl)) [], qs_nil]
  simp only [Ts, Qs, List.cons_append, List.nil_append, List.append_assoc]
  rfl
/-- - ( s ) -/
theorem ts_minus {s : List UInt8} (h : Plain s) : Ts (45 :: 40 :: (s ++ [41])) = sgT 45 :: sgT 40 :: (Ts s ++ [sgT 41]) := by
  apply ts_of
  have h0 := qs_join plain_nil (x := 45) (.inr (.inr (.inr (.inr rfl)))) (40 :: (s ++ [41]))
  have h1 := qs_join plain_nil (x := 40) (.inl rfl) (s ++ [41])
  rw [List.nil_append] at h0 h1
  rw [h0, h1, qs_join h (x := 41) (.inr (.inl rfl)) [], qs_nil]
  simp only [Ts, Qs, List.cons_append, List.nil_append, List.append_assoc]
  rfl
/-- ( s ) x ( t ) -/
theorem ts_two {s t : List UInt8} (h : Plain s) (k : Plain t) {x : UInt8} (hx : isOp x) : Ts (40 :: (s ++ 41 :: x :: 40 :: (t ++ [41]))) = sgT 40 :: (Ts s ++ sgT 41 :: sgT x :: sgT 40 :: (Ts t ++ [sgT 41])) := by
  apply ts_of
  have h1 := qs_join plain_nil (x := 40) (.inl rfl) (s ++ 41 :: x :: 40 :: (t ++ [41]))
  have h2 := qs_join plain_nil hx (40 :: (t ++ [41]))
  have h3 := qs_join plain_nil (x := 40) (.inl rfl) (t ++ [41])
  rw [List.nil_append] at h1 h2 h3
  rw [h1, qs_join h (x := 41) (.inr (.inl rfl)) _, h2, h3, qs_join k (x := 41) (.inr (.inl rfl)) [], qs_nil]
  simp only [Ts, Qs, List.cons_append, List.nil_append, List.append_assoc]
  rfl
end Go.Proofs.Ytebpimjbjjmpaaa
