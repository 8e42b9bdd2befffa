/- Expressions read of tokens, as plain data: what is read, or where and why there is none; no condition but those named. -/
import Derived.Test.YtebpimjbjjmpaaaLexMath
namespace Go.Proofs.Ytebpimjbjjmpaaa

/-- A token without its place. -/
structure Tq where
  kind : Int
  text : List UInt8
  v : Int
  deriving DecidableEq
def Tk.q (t : Tk) : Tq := ⟨t.kind, t.text, t.v⟩
inductive Ex where
  | num (v : Int)
  | nam (s : List UInt8)
  | bin (k : Int) (a b : Ex)
  | neg (a : Ex)
inductive Md where
  | fac
  | prod
  | sum
  | pt (a : Ex)
  | st (a : Ex)
inductive Rs where
  | ok (a : Ex) (r : List Tq)
  | bad (r : List Tq) (why : Int)
def isSg (c : UInt8) : List Tq → Bool
  | [] => false
  | t :: _ => decide (t.kind = 3) && decide (t.text = [c])
/-- ( is 40, ) 41, * 42, + 43, - 45. -/
inductive Rd : Md → Nat → List Tq → Rs → Prop
  | deepP {d ts} (h : isSg 40 ts = true) (hd : d = 16) : Rd .fac d ts (.bad ts 3)
  | deepN {d ts} (h : isSg 45 ts = true) (hd : d = 16) : Rd .fac d ts (.bad ts 3)
  | parOk {d t r a t2 r2} (h : isSg 40 (t :: r) = true) (hd : d < 16) (hs : Rd .sum (d + 1) r (.ok a (t2 :: r2))) (hc : isSg 41 (t2 :: r2) = true) : Rd .fac d (t :: r) (.ok a r2)
  | parOpen {d t r a r1} (h : isSg 40 (t :: r) = true) (hd : d < 16) (hs : Rd .sum (d + 1) r (.ok a r1)) (hc : isSg 41 r1 = false) : Rd .fac d (t :: r) (.bad r1 8)
  | parBad {d t r r1 w} (h : isSg 40 (t :: r) = true) (hd : d < 16) (hs : Rd .sum (d + 1) r (.bad r1 w)) : Rd .fac d (t :: r) (.bad r1 w)
  | negOk {d t r a r1} (h : isSg 45 (t :: r) = true) (hd : d < 16) (hs : Rd .fac (d + 1) r (.ok a r1)) : Rd .fac d (t :: r) (.ok (.neg a) r1)
  | negBad {d t r r1 w} (h : isSg 45 (t :: r) = true) (hd : d < 16) (hs : Rd .fac (d + 1) r (.bad r1 w)) : Rd .fac d (t :: r) (.bad r1 w)
  | number {d t r} (hk : t.kind = 2) (h0 : 0 ≤ t.v) (h1 : t.v ≤ 1099511627776) : Rd .fac d (t :: r) (.ok (.num t.v) r)
  | name {d t r} (hk : t.kind = 1) (h0 : t.text ≠ []) : Rd .fac d (t :: r) (.ok (.nam t.text) r)
  | noneEnd {d} : Rd .fac d [] (.bad [] 8)
  | noneTok {d t r} (h0 : isSg 40 (t :: r) = false) (h1 : isSg 45 (t :: r) = false) (h2 : ¬ (t.kind = 2 ∧ 0 ≤ t.v ∧ t.v ≤ 1099511627776)) (h3 : ¬ (t.kind = 1 ∧ t.text ≠ [])) : Rd .fac d (t :: r) (.bad (t :: r) 8)
  | prodOk {d ts a r res} (hf : Rd .fac d ts (.ok a r)) (hp : Rd (.pt a) d r res) : Rd .prod d ts res
  | prodBad {d ts r w} (hf : Rd .fac d ts (.bad r w)) : Rd .prod d ts (.bad r w)
  | starOk {d t r a b r1 res} (h : isSg 42 (t :: r) = true) (hf : Rd .fac d r (.ok b r1)) (hp : Rd (.pt (.bin 5 a b)) d r1 res) : Rd (.pt a) d (t :: r) res
  | starBad {d t r a r1 w} (h : isSg 42 (t :: r) = true) (hf : Rd .fac d r (.bad r1 w)) : Rd (.pt a) d (t :: r) (.bad r1 w)
  | starEnd {d ts a} (h : isSg 42 ts = false) : Rd (.pt a) d ts (.ok a ts)
  | sumOk {d ts a r res} (hf : Rd .prod d ts (.ok a r)) (hp : Rd (.st a) d r res) : Rd .sum d ts res
  | sumBad {d ts r w} (hf : Rd .prod d ts (.bad r w)) : Rd .sum d ts (.bad r w)
  | plusOk {d t r a b r1 res} (h : isSg 43 (t :: r) = true) (hf : Rd .prod d r (.ok b r1)) (hp : Rd (.st (.bin 3 a b)) d r1 res) : Rd (.st a) d (t :: r) res
  | plusBad {d t r a r1 w} (h : isSg 43 (t :: r) = true) (hf : Rd .prod d r (.bad r1 w)) : Rd (.st a) d (t :: r) (.bad r1 w)
  | subOk {d t r a b r1 res} (h : isSg 45 (t :: r) = true) (hf : Rd .prod d r (.ok b r1)) (hp : Rd (.st (.bin 4 a b)) d r1 res) : Rd (.st a) d (t :: r) res
  | subBad {d t r a r1 w} (h : isSg 45 (t :: r) = true) (hf : Rd .prod d r (.bad r1 w)) : Rd (.st a) d (t :: r) (.bad r1 w)
  | sumEnd {d ts a} (h : isSg 43 ts = false) (h2 : isSg 45 ts = false) : Rd (.st a) d ts (.ok a ts)
theorem sg_one {c c' : UInt8} {ts : List Tq} (h : isSg c ts = true) (h' : isSg c' ts = true) : c = c' := by
  cases ts with
  | nil => cases h
  | cons t r =>
    simp only [isSg, Bool.and_eq_true, decide_eq_true_eq] at h h'
    have := h.2.symm.trans h'.2
    simpa using this
theorem sg_not {c c' : UInt8} {ts : List Tq} (h : isSg c ts = true) (hc : c ≠ c') : isSg c' ts = false := by
  cases hx : isSg c' ts with
  | false => rfl
  | true => exact absurd (sg_one h hx) hc
theorem sg_kind {c : UInt8} {t : Tq} {r : List Tq} (h : isSg c (t :: r) = true) : t.kind = 3 ∧ t.text = [c] := by
  simpa only [isSg, Bool.and_eq_true, decide_eq_true_eq] using h
theorem sg_head {c : UInt8} {t : Tq} {r r' : List Tq} : isSg c (t :: r) = isSg c (t :: r') := rfl
/-! How much is left. -/
def Rs.rest : Rs → List Tq
  | .ok _ r => r
  | .bad r _ => r
def Md.eats : Md → Nat
  | .pt _ => 0
  | .st _ => 0
  | _ => 1
/-- What is left is shorter, where something is read. -/
theorem rd_len {m : Md} {d : Nat} {ts : List Tq} {res : Rs} (h : Rd m d ts res) : res.rest.length ≤ ts.length ∧ ∀ a r, res = .ok a r → r.length + m.eats ≤ ts.length := by
  induction h with
  | deepP h hd => exact ⟨Nat.le_refl _, fun a r e => by cases e⟩
  | deepN h hd => exact ⟨Nat.le_refl _, fun a r e => by cases e⟩
  | parOk h hd hs hc ih =>
    have := ih.2 _ _ rfl
    simp only [Rs.rest, Md.eats, List.length_cons] at this ⊢
    exact ⟨by omega, fun a r e => by cases e; omega⟩
  | parOpen h hd hs hc ih =>
    have := ih.1
    simp only [Rs.rest, List.length_cons] at this ⊢
    exact ⟨by omega, fun a r e => by cases e⟩
  | parBad h hd hs ih =>
    have := ih.1
    simp only [Rs.rest, List.length_cons] at this ⊢
    exact ⟨by omega, fun a r e => by cases e⟩
  | negOk h hd hs ih =>
    have := ih.2 _ _ rfl
    simp only [Rs.rest, Md.eats, List.length_cons] at this ⊢
    exact ⟨by omega, fun a r e => by cases e; omega⟩
  | negBad h hd hs ih =>
    have := ih.1
    simp only [Rs.rest, List.length_cons] at this ⊢
    exact ⟨by omega, fun a r e => by cases e⟩
  | number hk h0 h1 =>
    simp only [Rs.rest, Md.eats, List.length_cons]
    exact ⟨by omega, fun a r e => by cases e; omega⟩
  | name hk h0 =>
    simp only [Rs.rest, Md.eats, List.length_cons]
    exact ⟨by omega, fun a r e => by cases e; omega⟩
  | noneEnd => exact ⟨Nat.le_refl _, fun a r e => by cases e⟩
  | noneTok h0 h1 h2 h3 => exact ⟨Nat.le_refl _, fun a r e => by cases e⟩
  | prodOk hf hp ih1 ih2 =>
    have h1 := ih1.2 _ _ rfl
    have h2 := ih2.1
    simp only [Md.eats] at h1
    refine ⟨by omega, fun a r e => ?_⟩
    have := ih2.2 a r e
    simp only [Md.eats] at this ⊢
    omega
  | prodBad hf ih => exact ⟨ih.1, fun a r e => by cases e⟩
  | starOk h hf hp ih1 ih2 =>
    have h1 := ih1.2 _ _ rfl
    have h2 := ih2.1
    simp only [Md.eats, List.length_cons] at h1 ⊢
    refine ⟨by omega, fun a r e => ?_⟩
    have := ih2.2 a r e
    simp only [Md.eats] at this
    omega
  | starBad h hf ih =>
    have := ih.1
    simp only [Rs.rest, List.length_cons] at this ⊢
    exact ⟨by omega, fun a r e => by cases e⟩
  | starEnd h => exact ⟨Nat.le_refl _, fun a r e => by cases e; exact Nat.le_refl _⟩
  | sumOk hf hp ih1 ih2 =>
    have h1 := ih1.2 _ _ rfl
    have h2 := ih2.1
    simp only [Md.eats] at h1
    refine ⟨by omega, fun a r e => ?_⟩
    have := ih2.2 a r e
    simp only [Md.eats] at this ⊢
    omega
  | sumBad hf ih => exact ⟨ih.1, fun a r e => by cases e⟩
  | plusOk h hf hp ih1 ih2 =>
    have h1 := ih1.2 _ _ rfl
    have h2 := ih2.1
    simp only [Md.eats, List.length_cons] at h1 ⊢
    refine ⟨by omega, fun a r e => ?_⟩
    have := ih2.2 a r e
    simp only [Md.eats] at this
    omega
  | plusBad h hf ih =>
    have := ih.1
    simp only [Rs.rest, List.length_cons] at this ⊢
    exact ⟨by omega, fun a r e => by cases e⟩
  | subOk h hf hp ih1 ih2 =>
    have h1 := ih1.2 _ _ rfl
    have h2 := ih2.1
    simp only [Md.eats, List.length_cons] at h1 ⊢
    refine ⟨by omega, fun a r e => ?_⟩
    have := ih2.2 a r e
    simp only [Md.eats] at this
    omega
  | subBad h hf ih =>
    have := ih.1
    simp only [Rs.rest, List.length_cons] at this ⊢
    exact ⟨by omega, fun a r e => by cases e⟩
  | sumEnd h h2 => exact ⟨Nat.le_refl _, fun a r e => by cases e; exact Nat.le_refl _⟩
/-! Whatever the tokens, something is told. -/
theorem pt_total {n : Nat} (hf : ∀ ts : List Tq, ts.length ≤ n → ∀ d, d ≤ 16 → ∃ res, Rd .fac d ts res) : ∀ (k : Nat) (ts : List Tq), ts.length ≤ k → ts.length ≤ n → ∀ d, d ≤ 16 → ∀ a, ∃ res, Rd (.pt a) d ts res
  | k, [], _, _, d, _, a => ⟨_, .starEnd rfl⟩
  | 0, t :: r, h, _, _, _, _ => by simp at h
  | k + 1, t :: r, h, hn, d, hd, a => by
    rw [List.length_cons] at h hn
    cases hs : isSg 42 (t :: r) with
    | false => exact ⟨_, .starEnd hs⟩
    | true =>
      obtain ⟨res, hr⟩ := hf r (by omega) d hd
      cases res with
      | bad r1 w => exact ⟨_, .starBad hs hr⟩
      | ok b r1 =>
        have hl := (rd_len hr).1
        simp only [Rs.rest] at hl
        obtain ⟨res, h2⟩ := pt_total hf k r1 (by omega) (by omega) d hd (.bin 5 a b)
        exact ⟨_, .starOk hs hr h2⟩
theorem prod_total {n : Nat} (hf : ∀ ts : List Tq, ts.length ≤ n → ∀ d, d ≤ 16 → ∃ res, Rd .fac d ts res) (ts : List Tq) (h : ts.length ≤ n) (d : Nat) (hd : d ≤ 16) : ∃ res, Rd .prod d ts res := by
  obtain ⟨res, hr⟩ := hf ts h d hd
  cases res with
  | bad r1 w => exact ⟨_, .prodBad hr⟩
  | ok b r1 =>
    have hl := (rd_len hr).1
    simp only [Rs.rest] at hl
    obtain ⟨res, h2⟩ := pt_total hf r1.length r1 (Nat.le_refl _) (by omega) d hd b
    exact ⟨_, .prodOk hr h2⟩
theorem st_total {n : Nat} (hf : ∀ ts : List Tq, ts.length ≤ n → ∀ d, d ≤ 16 → ∃ res, Rd .fac d ts res) : ∀ (k : Nat) (ts : List Tq), ts.length ≤ k → ts.length ≤ n → ∀ d, d ≤ 16 → ∀ a, ∃ res, Rd (.st a) d ts res
  | k, [], _, _, d, _, a => ⟨_, .sumEnd rfl rfl⟩
  | 0, t :: r, h, _, _, _, _ => by simp at h
  | k + 1, t :: r, h, hn, d, hd, a => by
    rw [List.length_cons] at h hn
    obtain ⟨res, hr⟩ := prod_total hf r (by omega) d hd
    cases hs : isSg 43 (t :: r) with
    | true =>
      cases res with
      | bad r1 w => exact ⟨_, .plusBad hs hr⟩
      | ok b r1 =>
        have hl := (rd_len hr).1
        simp only [Rs.rest] at hl
        obtain ⟨res, h2⟩ := st_total hf k r1 (by omega) (by omega) d hd (.bin 3 a b)
        exact ⟨_, .plusOk hs hr h2⟩
    | false =>
      cases hs2 : isSg 45 (t :: r) with
      | false => exact ⟨_, .sumEnd hs hs2⟩
      | true =>
        cases res with
        | bad r1 w => exact ⟨_, .subBad hs2 hr⟩
        | ok b r1 =>
          have hl := (rd_len hr).1
          simp only [Rs.rest] at hl
          obtain ⟨res, h2⟩ := st_total hf k r1 (by omega) (by omega) d hd (.bin 4 a b)
          exact ⟨_, .subOk hs2 hr h2⟩
theorem sum_total {n : Nat} (hf : ∀ ts : List Tq, ts.length ≤ n → ∀ d, d ≤ 16 → ∃ res, Rd .fac d ts res) (ts : List Tq) (h : ts.length ≤ n) (d : Nat) (hd : d ≤ 16) : ∃ res, Rd .sum d ts res := by
  obtain ⟨res, hr⟩ := prod_total hf ts h d hd
  cases res with
  | bad r1 w => exact ⟨_, .sumBad hr⟩
  | ok b r1 =>
    have hl := (rd_len hr).1
    simp only [Rs.rest] at hl
    obtain ⟨res, h2⟩ := st_total hf r1.length r1 (Nat.le_refl _) (by omega) d hd b
    exact ⟨_, .sumOk hr h2⟩
theorem fac_total : ∀ (n : Nat) (ts : List Tq), ts.length ≤ n → ∀ d, d ≤ 16 → ∃ res, Rd .fac d ts res
  | _, [], _, d, _ => ⟨_, .noneEnd⟩
  | 0, t :: r, h, _, _ => by simp at h
  | n + 1, t :: r, h, d, hd => by
    rw [List.length_cons] at h
    cases h0 : isSg 40 (t :: r) with
    | true =>
      rcases Nat.lt_or_ge d 16 with h16 | h16
      · obtain ⟨res, hs⟩ := sum_total (fac_total n) r (by omega) (d + 1) (by omega)
        cases res with
        | bad r1 w => exact ⟨_, .parBad h0 h16 hs⟩
        | ok a r1 =>
          cases hc : isSg 41 r1 with
          | false => exact ⟨_, .parOpen h0 h16 hs hc⟩
          | true =>
            cases r1 with
            | nil => cases hc
            | cons t2 r2 => exact ⟨_, .parOk h0 h16 hs hc⟩
      · exact ⟨_, .deepP h0 (by omega)⟩
    | false =>
      cases h1 : isSg 45 (t :: r) with
      | true =>
        rcases Nat.lt_or_ge d 16 with h16 | h16
        · obtain ⟨res, hs⟩ := fac_total n r (by omega) (d + 1) (by omega)
          cases res with
          | bad r1 w => exact ⟨_, .negBad h1 h16 hs⟩
          | ok a r1 => exact ⟨_, .negOk h1 h16 hs⟩
        · exact ⟨_, .deepN h1 (by omega)⟩
      | false =>
        by_cases h2 : t.kind = 2 ∧ 0 ≤ t.v ∧ t.v ≤ 1099511627776
        · exact ⟨_, .number h2.1 h2.2.1 h2.2.2⟩
        · by_cases h3 : t.kind = 1 ∧ t.text ≠ []
          · exact ⟨_, .name h3.1 h3.2⟩
          · exact ⟨_, .noneTok h0 h1 h2 h3⟩
theorem rd_total (ts : List Tq) : ∃ res, Rd .sum 0 ts res := sum_total (fac_total ts.length) ts (Nat.le_refl _) 0 (Nat.zero_le _)
/-! What is read is read as well with other tokens behind, and at another depth. -/
def Md.stops : Md → List Tq → Prop
  | .fac, _ => True
  | .prod, p => isSg 42 p = false
  | .pt _, p => isSg 42 p = false
  | .sum, p => isSg 42 p = false ∧ isSg 43 p = false ∧ isSg 45 p = false
  | .st _, p => isSg 42 p = false ∧ isSg 43 p = false ∧ isSg 45 p = false
/-- How many ( and - there are. -/
def cntQ (ts : List Tq) : Nat := ts.countP fun t => decide (t.kind = 3) && (decide (t.text = [40]) || decide (t.text = [45]))
theorem cnt_app (a b : List Tq) : cntQ (a ++ b) = cntQ a + cntQ b := List.countP_append ..
theorem cnt_cons (t : Tq) (r : List Tq) : cntQ (t :: r) = cntQ [t] + cntQ r := cnt_app [t] r
theorem cnt_open {t : Tq} {r : List Tq} (h : isSg 40 (t :: r) = true ∨ isSg 45 (t :: r) = true) : cntQ [t] = 1 := by
  have hk : t.kind = 3 ∧ (t.text = [40] ∨ t.text = [45]) := by
    rcases h with h | h
    · exact ⟨(sg_kind h).1, .inl (sg_kind h).2⟩
    · exact ⟨(sg_kind h).1, .inr (sg_kind h).2⟩
  unfold cntQ
  rw [List.countP_cons_of_pos]
  · rfl
  · simp [hk]
/-- A product's rest begins with no *. -/
theorem rd_star {m : Md} {d : Nat} {ts : List Tq} {res : Rs} (h : Rd m d ts res) : ∀ a r, res = .ok a r → (m = .prod ∨ ∃ a, m = .pt a) → isSg 42 r = false := by
  induction h with
  | prodOk hf hp ih1 ih2 => intro a r e _; exact ih2 a r e (.inr ⟨_, rfl⟩)
  | starOk h hf hp ih1 ih2 => intro a r e _; exact ih2 a r e (.inr ⟨_, rfl⟩)
  | starEnd h => intro a r e _; cases e; exact h
  | prodBad => intro a r e; cases e
  | starBad => intro a r e; cases e
  | _ => intro a r e hm; rcases hm with hm | ⟨_, hm⟩ <;> cases hm
theorem sg_app {c : UInt8} {x r p : List Tq} (h1 : isSg c (x ++ r) = false) (h2 : isSg c p = false) : isSg c (x ++ p) = false := by
  cases x with
  | nil => exact h2
  | cons t x => exact h1
theorem rd_app {m : Md} {d : Nat} {ts : List Tq} {res : Rs} (h : Rd m d ts res) : ∀ a r, res = .ok a r → ∃ c, ts = c ++ r ∧ ∀ p d', m.stops p → d' + cntQ c ≤ 16 → Rd m d' (c ++ p) (.ok a p) := by
  induction h with
  | @parOk d t r0 a0 t2 r2 h hd hs hc ih =>
    intro a r e
    cases e
    obtain ⟨c, e1, k⟩ := ih a0 (t2 :: r2) rfl
    refine ⟨t :: (c ++ [t2]), by rw [e1]; simp, fun p d' _ hn => ?_⟩
    have hcn : cntQ [t] = 1 := cnt_open (.inl h)
    rw [cnt_cons, cnt_app] at hn
    have hst : Md.sum.stops (t2 :: p) := ⟨sg_not (c := 41) hc (by decide), sg_not (c := 41) hc (by decide), sg_not (c := 41) hc (by decide)⟩
    have := k (t2 :: p) (d' + 1) hst (by omega)
    rw [List.cons_append, List.append_assoc]
    exact .parOk h (by omega) this hc
  | @negOk d t r0 a0 r1 h hd hs ih =>
    intro a r e
    cases e
    obtain ⟨c, e1, k⟩ := ih a0 r1 rfl
    refine ⟨t :: c, by rw [e1]; rfl, fun p d' _ hn => ?_⟩
    have hcn : cntQ [t] = 1 := cnt_open (.inr h)
    rw [cnt_cons] at hn
    exact .negOk h (by omega) (k p (d' + 1) trivial (by omega))
  | @number d t r0 hk h0 h1 =>
    intro a r e
    cases e
    exact ⟨[t], rfl, fun p d' _ _ => .number hk h0 h1⟩
  | @name d t r0 hk h0 =>
    intro a r e
    cases e
    exact ⟨[t], rfl, fun p d' _ _ => .name hk h0⟩
  | @prodOk d ts a0 r0 res hf hp ih1 ih2 =>
    intro a r e
    obtain ⟨c1, e1, k1⟩ := ih1 a0 r0 rfl
    obtain ⟨c2, e2, k2⟩ := ih2 a r e
    refine ⟨c1 ++ c2, by rw [e1, e2, List.append_assoc], fun p d' hst hn => ?_⟩
    rw [cnt_app] at hn
    rw [List.append_assoc]
    exact .prodOk (k1 (c2 ++ p) d' trivial (by omega)) (k2 p d' hst (by omega))
  | @starOk d t r0 a0 b r1 res h hf hp ih1 ih2 =>
    intro a r e
    obtain ⟨c1, e1, k1⟩ := ih1 b r1 rfl
    obtain ⟨c2, e2, k2⟩ := ih2 a r e
    refine ⟨t :: (c1 ++ c2), by rw [e1, e2]; simp, fun p d' hst hn => ?_⟩
    rw [cnt_cons, cnt_app] at hn
    rw [List.cons_append, List.append_assoc]
    exact .starOk h (k1 (c2 ++ p) d' trivial (by omega)) (k2 p d' hst (by omega))
  | @starEnd d ts a0 h =>
    intro a r e
    cases e
    exact ⟨[], rfl, fun p d' hst _ => .starEnd hst⟩
  | @sumOk d ts a0 r0 res hf hp ih1 ih2 =>
    intro a r e
    obtain ⟨c1, e1, k1⟩ := ih1 a0 r0 rfl
    obtain ⟨c2, e2, k2⟩ := ih2 a r e
    refine ⟨c1 ++ c2, by rw [e1, e2, List.append_assoc], fun p d' hst hn => ?_⟩
    rw [cnt_app] at hn
    rw [List.append_assoc]
    have h42 := rd_star hf a0 r0 rfl (.inl rfl)
    rw [e2] at h42
    exact .sumOk (k1 (c2 ++ p) d' (sg_app h42 hst.1) (by omega)) (k2 p d' hst (by omega))
  | @plusOk d t r0 a0 b r1 res h hf hp ih1 ih2 =>
    intro a r e
    obtain ⟨c1, e1, k1⟩ := ih1 b r1 rfl
    obtain ⟨c2, e2, k2⟩ := ih2 a r e
    refine ⟨t :: (c1 ++ c2), by rw [e1, e2]; simp, fun p d' hst hn => ?_⟩
    rw [cnt_cons, cnt_app] at hn
    rw [List.cons_append, List.append_assoc]
    have h42 := rd_star hf b r1 rfl (.inl rfl)
    rw [e2] at h42
    exact .plusOk h (k1 (c2 ++ p) d' (sg_app h42 hst.1) (by omega)) (k2 p d' hst (by omega))
  | @subOk d t r0 a0 b r1 res h hf hp ih1 ih2 =>
    intro a r e
    obtain ⟨c1, e1, k1⟩ := ih1 b r1 rfl
    obtain ⟨c2, e2, k2⟩ := ih2 a r e
    refine ⟨t :: (c1 ++ c2), by rw [e1, e2]; simp, fun p d' hst hn => ?_⟩
    rw [cnt_cons, cnt_app] at hn
    rw [List.cons_append, List.append_assoc]
    have h42 := rd_star hf b r1 rfl (.inl rfl)
    rw [e2] at h42
    exact .subOk h (k1 (c2 ++ p) d' (sg_app h42 hst.1) (by omega)) (k2 p d' hst (by omega))
  | @sumEnd d ts a0 h h2 =>
    intro a r e
    cases e
    exact ⟨[], rfl, fun p d' hst _ => .sumEnd hst.2.1 hst.2.2⟩
  | _ => intro a r e; cases e
end Go.Proofs.Ytebpimjbjjmpaaa
