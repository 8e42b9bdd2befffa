/- Whether terms are an expression, which of them it uses, its names and its value, as plain data; what they are of the terms of a tree; no condition but those named. -/
import Derived.Test.YtebpimjbjjmpaaaExprSay
namespace Go.Proofs.Ytebpimjbjjmpaaa

abbrev maxV : Int := 1099511627776
def okT (t : Tm) (i : Nat) : Bool :=
  if t.kind = 1 then decide (0 ≤ t.v ∧ t.v ≤ maxV ∧ t.name = [] ∧ t.a = 0 ∧ t.b = 0)
  else if t.kind = 2 then decide (t.name ≠ [] ∧ t.v = 0 ∧ t.a = 0 ∧ t.b = 0)
  else if t.kind = 3 ∨ t.kind = 4 ∨ t.kind = 5 then decide (0 ≤ t.a ∧ t.a < i ∧ 0 ≤ t.b ∧ t.b < i ∧ t.v = 0 ∧ t.name = [])
  else if t.kind = 6 then decide (0 ≤ t.a ∧ t.a < i ∧ t.b = 0 ∧ t.v = 0 ∧ t.name = [])
  else false
def okFrom : Nat → List Tm → Bool
  | _, [] => true
  | i, t :: r => okT t i && okFrom (i + 1) r
def rightB (e : List Tm) : Bool := okFrom 0 e && decide (e ≠ [])
theorem ok_at : ∀ (e : List Tm) (i k : Nat), okFrom i e = true → ∀ h : k < e.length, okT e[k] (i + k) = true
  | t :: r, i, 0, h, _ => by
    simp only [okFrom, Bool.and_eq_true] at h
    exact h.1
  | t :: r, i, k + 1, h, hk => by
    simp only [okFrom, Bool.and_eq_true] at h
    have := ok_at r (i + 1) k h.2 (by simpa using hk)
    rw [List.getElem_cons_succ, show i + (k + 1) = i + 1 + k by omega]
    exact this
/-- The terms that a term uses. -/
def refsB (t : Tm) (j : Nat) : Bool := (decide (3 ≤ t.kind) && decide (t.a = j)) || (decide (3 ≤ t.kind) && decide (t.kind < 6) && decide (t.b = j))
/-- What is used by the last k terms. -/
def usedK (e : List Tm) : Nat → Nat → Bool
  | 0, _ => false
  | k + 1, j =>
    let u := fun j => usedK e k j || (decide (k = 0) && decide (j + 1 = e.length))
    u j || (u (e.length - 1 - k) && (match e[e.length - 1 - k]? with | some t => refsB t j | none => false))
def usedB (e : List Tm) (j : Nat) : Bool := usedK e e.length j
/-- The names that are used, each once. -/
def namesF (e : List Tm) : Nat → List (List UInt8)
  | 0 => []
  | i + 1 => match e[i]? with
    | some t => if usedB e i = true ∧ t.kind = 2 ∧ t.name ∉ namesF e i then namesF e i ++ [t.name] else namesF e i
    | none => namesF e i
def namesL (e : List Tm) : List (List UInt8) := if rightB e then namesF e e.length else []
/-- The value of a term, by those ahead of it: a value, and what is wrong. -/
def valT (ask : List UInt8 → Int × Int) (t : Tm) (vals : List Int) : Int × Int :=
  if t.kind = 2 then (if (ask t.name).2 = 0 then ((ask t.name).1, 0) else (0, (ask t.name).2))
  else if t.kind = 3 then (vals.getD t.a.toNat 0 + vals.getD t.b.toNat 0, 0)
  else if t.kind = 4 then (vals.getD t.a.toNat 0 - vals.getD t.b.toNat 0, 0)
  else if t.kind = 5 then (vals.getD t.a.toNat 0 * vals.getD t.b.toNat 0, 0)
  else if t.kind = 6 then (- vals.getD t.a.toNat 0, 0)
  else (t.v, 0)
def inR (v : Int) : Bool := decide (-maxV ≤ v) && decide (v ≤ maxV)
def capV (x : Int × Int) : Int × Int := if x.2 ≠ 0 then (0, x.2) else if inR x.1 then (x.1, 0) else (0, 6)
/-- The terms from i on, m of them, by the values ahead. -/
def evF (ask : List UInt8 → Int × Int) (e : List Tm) : Nat → Nat → List Int → Int × Int
  | 0, _, vals => (vals.getLastD 0, 0)
  | m + 1, i, vals => match e[i]? with
    | none => (0, 0)
    | some t => if usedB e i then (if (capV (valT ask t vals)).2 = 0 then evF ask e m (i + 1) (vals ++ [(capV (valT ask t vals)).1]) else capV (valT ask t vals)) else evF ask e m (i + 1) (vals ++ [0])
def evL (ask : List UInt8 → Int × Int) (e : List Tm) : Int × Int := if rightB e then evF ask e e.length 0 [] else (0, 1)
/-! The terms of a tree. -/
/-- A tree that reading makes. -/
def Ex.fine : Ex → Prop
  | .num v => 0 ≤ v ∧ v ≤ maxV
  | .nam s => s ≠ []
  | .bin k a b => (k = 3 ∨ k = 4 ∨ k = 5) ∧ a.fine ∧ b.fine
  | .neg a => a.fine
theorem rd_fine {m : Md} {d : Nat} {ts : List Tq} {res : Rs} (h : Rd m d ts res) : ∀ a r, res = .ok a r → (match m with | .pt x => x.fine | .st x => x.fine | _ => True) → a.fine := by
  induction h with
  | parOk h hd hs hc ih => intro a r e _; cases e; exact ih _ _ rfl trivial
  | negOk h hd hs ih => intro a r e _; cases e; have h9 := ih _ _ rfl trivial; exact h9
  | number hk h0 h1 => intro a r e _; cases e; exact ⟨h0, h1⟩
  | name hk h0 => intro a r e _; cases e; exact h0
  | prodOk hf hp ih1 ih2 => intro a r e _; exact ih2 a r e (ih1 _ _ rfl trivial)
  | starOk h hf hp ih1 ih2 => intro a r e hm; exact ih2 a r e ⟨.inr (.inr rfl), hm, ih1 _ _ rfl trivial⟩
  | starEnd h => intro a r e hm; cases e; exact hm
  | sumOk hf hp ih1 ih2 => intro a r e _; exact ih2 a r e (ih1 _ _ rfl trivial)
  | plusOk h hf hp ih1 ih2 => intro a r e hm; exact ih2 a r e ⟨.inl rfl, hm, ih1 _ _ rfl trivial⟩
  | subOk h hf hp ih1 ih2 => intro a r e hm; exact ih2 a r e ⟨.inr (.inl rfl), hm, ih1 _ _ rfl trivial⟩
  | sumEnd h h2 => intro a r e hm; cases e; exact hm
  | _ => intro a r e; cases e
theorem okFrom_app : ∀ (a b : List Tm) (i : Nat), okFrom i (a ++ b) = (okFrom i a && okFrom (i + a.length) b)
  | [], b, i => by simp [okFrom]
  | t :: a, b, i => by
    rw [List.cons_append]
    simp only [okFrom]
    rw [okFrom_app a b (i + 1), List.length_cons, show i + 1 + a.length = i + (a.length + 1) by omega, Bool.and_assoc]
theorem post_ok : ∀ (t : Ex) (m : Nat), t.fine → okFrom m (t.post m) = true
  | .num v, m, h => by simp [Ex.post, okFrom, okT, h.1, h.2]
  | .nam s, m, h => by simp only [Ex.fine] at h; simp [Ex.post, okFrom, okT, h]
  | .bin k a b, m, h => by
    have h1 := post_ok a m h.2.1
    have h2 := post_ok b (m + a.size) h.2.2
    have p1 := size_pos a
    have p2 := size_pos b
    simp only [Ex.post]
    rw [okFrom_app, okFrom_app, List.length_append, post_len, post_len, h1, h2]
    have hk := h.1
    simp only [okFrom, okT, Bool.true_and, Bool.and_true]
    rw [if_neg (by omega), if_neg (by omega), if_pos hk]
    exact decide_eq_true ⟨by omega, by omega, by omega, by omega, trivial, trivial⟩
  | .neg a, m, h => by
    have h1 := post_ok a m h
    have p1 := size_pos a
    simp only [Ex.post]
    rw [okFrom_app, post_len, h1]
    simp only [okFrom, okT, Bool.true_and, Bool.and_true]
    rw [if_neg (by decide), if_neg (by decide), if_neg (by decide), if_pos trivial]
    exact decide_eq_true ⟨by omega, by omega, trivial, trivial, trivial⟩
theorem post_ne (t : Ex) (m : Nat) : t.post m ≠ [] := by
  intro h
  have := congrArg List.length h
  rw [post_len] at this
  have := size_pos t
  simp at *
  omega
theorem post_right {t : Ex} (h : t.fine) : rightB (t.post 0) = true := by
  unfold rightB
  rw [post_ok t 0 h, decide_eq_true (post_ne t 0)]
  rfl
/-- How often a term is used by others. -/
def cntR (e : List Tm) (j : Nat) : Nat := (e.map fun t => (if 3 ≤ t.kind ∧ t.a = (j : Int) then 1 else 0) + (if 3 ≤ t.kind ∧ t.kind < 6 ∧ t.b = (j : Int) then 1 else 0)).sum
theorem cntR_app (a b : List Tm) (j : Nat) : cntR (a ++ b) j = cntR a j + cntR b j := by
  unfold cntR
  rw [List.map_append, List.sum_append]
/-- In a tree's terms each but the last is used once, and nothing outside. -/
def oneN (m j n : Nat) : Nat := if m ≤ j ∧ j + 1 < m + n then 1 else 0
theorem post_cnt : ∀ (t : Ex) (m : Nat), t.fine → ∀ j, cntR (t.post m) j = oneN m j t.size
  | .num v, m, _, j => by
    simp only [Ex.post, Ex.size, cntR, List.map_cons, List.map_nil, List.sum_cons, List.sum_nil]
    unfold oneN
    repeat' split
    all_goals omega
  | .nam s, m, _, j => by
    simp only [Ex.post, Ex.size, cntR, List.map_cons, List.map_nil, List.sum_cons, List.sum_nil]
    unfold oneN
    repeat' split
    all_goals omega
  | .bin k a b, m, h, j => by
    have h1 := post_cnt a m h.2.1 j
    have h2 := post_cnt b (m + a.size) h.2.2 j
    have p1 := size_pos a
    have p2 := size_pos b
    have hk := h.1
    simp only [Ex.post, Ex.size]
    rw [cntR_app, cntR_app, h1, h2]
    simp only [cntR, List.map_cons, List.map_nil, List.sum_cons, List.sum_nil]
    unfold oneN
    repeat' split
    all_goals omega
  | .neg a, m, h, j => by
    have h1 := post_cnt a m h j
    have p1 := size_pos a
    simp only [Ex.post, Ex.size]
    rw [cntR_app, h1]
    simp only [cntR, List.map_cons, List.map_nil, List.sum_cons, List.sum_nil]
    unfold oneN
    repeat' split
    all_goals omega
end Go.Proofs.Ytebpimjbjjmpaaa
