/- Expressions read of tokens, as plain data: what is read, or where and why there is none; no condition but those named. · Terms in memory; what Parse of package expr, and the document's, tells; no condition. · Whether terms are an expression, which of them it uses, its names and its value, as plain data; what they are of the terms of a tree; no condition but those named. · The value of the terms of a tree is the tree's; all its terms are used; as plain data; no condition but those named. · Reading as a run: what it finds is what is read; as plain data; no condition but those named. · Tokens without places of texts put together by signs, as plain data; no condition but those named. · Rows of texts, and of names and their values, in memory; no condition. · A function value that is asked for names, whatever it is; what Eval of package expr tells of it; no condition. -/
import Derived.Test.YtnfmlmamgkpocaaGreatDoorGLexM
namespace Go.Proofs.YtnfmlmamgkpocaaGreatDoor
section

/-- A token without its place. -/
structure Tq where
  kind : Int
  text : List UInt8
  v : Int
  deriving DecidableEq
def Tk.q (t : Tk) : Tq := ⟨t.kind, t.text, t.v⟩
inductive Ex where
  | num (v : Int)
  | nam (s : List UInt8)
  | bin (k : Int) (a b : Ex)
  | neg (a : Ex)
inductive Md where
  | fac
  | prod
  | sum
  | pt (a : Ex)
  | st (a : Ex)
inductive Rs where
  | ok (a : Ex) (r : List Tq)
  | bad (r : List Tq) (why : Int)
def isSg (c : UInt8) : List Tq → Bool
  | [] => false
  | t :: _ => decide (t.kind = 3) && decide (t.text = [c])
/-- ( is 40, ) 41, * 42, + 43, - 45. -/
inductive Rd : Md → Nat → List Tq → Rs → Prop
  | deepP {d ts} (h : isSg 40 ts = true) (hd : d = 16) : Rd .fac d ts (.bad ts 3)
  | deepN {d ts} (h : isSg 45 ts = true) (hd : d = 16) : Rd .fac d ts (.bad ts 3)
  | parOk {d t r a t2 r2} (h : isSg 40 (t :: r) = true) (hd : d < 16) (hs : Rd .sum (d + 1) r (.ok a (t2 :: r2))) (hc : isSg 41 (t2 :: r2) = true) : Rd .fac d (t :: r) (.ok a r2)
  | parOpen {d t r a r1} (h : isSg 40 (t :: r) = true) (hd : d < 16) (hs : Rd .sum (d + 1) r (.ok a r1)) (hc : isSg 41 r1 = false) : Rd .fac d (t :: r) (.bad r1 8)
  | parBad {d t r r1 w} (h : isSg 40 (t :: r) = true) (hd : d < 16) (hs : Rd .sum (d + 1) r (.bad r1 w)) : Rd .fac d (t :: r) (.bad r1 w)
  | negOk {d t r a r1} (h : isSg 45 (t :: r) = true) (hd : d < 16) (hs : Rd .fac (d + 1) r (.ok a r1)) : Rd .fac d (t :: r) (.ok (.neg a) r1)
  | negBad {d t r r1 w} (h : isSg 45 (t :: r) = true) (hd : d < 16) (hs : Rd .fac (d + 1) r (.bad r1 w)) : Rd .fac d (t :: r) (.bad r1 w)
  | number {d t r} (hk : t.kind = 2) (h0 : 0 ≤ t.v) (h1 : t.v ≤ 1099511627776) : Rd .fac d (t :: r) (.ok (.num t.v) r)
  | name {d t r} (hk : t.kind = 1) (h0 : t.text ≠ []) : Rd .fac d (t :: r) (.ok (.nam t.text) r)
  | noneEnd {d} : Rd .fac d [] (.bad [] 8)
  | noneTok {d t r} (h0 : isSg 40 (t :: r) = false) (h1 : isSg 45 (t :: r) = false) (h2 : ¬ (t.kind = 2 ∧ 0 ≤ t.v ∧ t.v ≤ 1099511627776)) (h3 : ¬ (t.kind = 1 ∧ t.text ≠ [])) : Rd .fac d (t :: r) (.bad (t :: r) 8)
  | prodOk {d ts a r res} (hf : Rd .fac d ts (.ok a r)) (hp : Rd (.pt a) d r res) : Rd .prod d ts res
  | prodBad {d ts r w} (hf : Rd .fac d ts (.bad r w)) : Rd .prod d ts (.bad r w)
  | starOk {d t r a b r1 res} (h : isSg 42 (t :: r) = true) (hf : Rd .fac d r (.ok b r1)) (hp : Rd (.pt (.bin 5 a b)) d r1 res) : Rd (.pt a) d (t :: r) res
  | starBad {d t r a r1 w} (h : isSg 42 (t :: r) = true) (hf : Rd .fac d r (.bad r1 w)) : Rd (.pt a) d (t :: r) (.bad r1 w)
  | starEnd {d ts a} (h : isSg 42 ts = false) : Rd (.pt a) d ts (.ok a ts)
  | sumOk {d ts a r res} (hf : Rd .prod d ts (.ok a r)) (hp : Rd (.st a) d r res) : Rd .sum d ts res
  | sumBad {d ts r w} (hf : Rd .prod d ts (.bad r w)) : Rd .sum d ts (.bad r w)
  | plusOk {d t r a b r1 res} (h : isSg 43 (t :: r) = true) (hf : Rd .prod d r (.ok b r1)) (hp : Rd (.st (.bin 3 a b)) d r1 res) : Rd (.st a) d (t :: r) res
  | plusBad {d t r a r1 w} (h : isSg 43 (t :: r) = true) (hf : Rd .prod d r (.bad r1 w)) : Rd (.st a) d (t :: r) (.bad r1 w)
  | subOk {d t r a b r1 res} (h : isSg 45 (t :: r) = true) (hf : Rd .prod d r (.ok b r1)) (hp : Rd (.st (.bin 4 a b)) d r1 res) : Rd (.st a) d (t :: r) res
  | subBad {d t r a r1 w} (h : isSg 45 (t :: r) = true) (hf : Rd .prod d r (.bad r1 w)) : Rd (.st a) d (t :: r) (.bad r1 w)
  | sumEnd {d ts a} (h : isSg 43 ts = false) (h2 : isSg 45 ts = false) : Rd (.st a) d ts (.ok a ts)
theorem sg_one {c c' : UInt8} {ts : List Tq} (h : isSg c ts = true) (h' : isSg c' ts = true) : c = c' := by
  cases ts with
  | nil => cases h
  | cons t r =>
    simp only [isSg, Bool.and_eq_true, decide_eq_true_eq] at h h'
    have := h.2.symm.trans h'.2
    simpa using this
theorem sg_not {c c' : UInt8} {ts : List Tq} (h : isSg c ts = true) (hc : c ≠ c') : isSg c' ts = false := by
  cases hx : isSg c' ts with
  | false => rfl
  | true => exact absurd (sg_one h hx) hc
theorem sg_kind {c : UInt8} {t : Tq} {r : List Tq} (h : isSg c (t :: r) = true) : t.kind = 3 ∧ t.text = [c] := by
  simpa only [isSg, Bool.and_eq_true, decide_eq_true_eq] using h
theorem sg_head {c : UInt8} {t : Tq} {r r' : List Tq} : isSg c (t :: r) = isSg c (t :: r') := rfl
/-! How much is left. -/
def Rs.rest : Rs → List Tq
  | .ok _ r => r
  | .bad r _ => r
def Md.eats : Md → Nat
  | .pt _ => 0
  | .st _ => 0
  | _ => 1
/-- What is left is shorter, where something is read. -/
theorem rd_len {m : Md} {d : Nat} {ts : List Tq} {res : Rs} (h : Rd m d ts res) : res.rest.length ≤ ts.length ∧ ∀ a r, res = .ok a r → r.length + m.eats ≤ ts.length := by
  induction h with
  | deepP h hd => exact ⟨Nat.le_refl _, fun a r e => by cases e⟩
  | deepN h hd => exact ⟨Nat.le_refl _, fun a r e => by cases e⟩
  | parOk h hd hs hc ih =>
    have := ih.2 _ _ rfl
    simp only [Rs.rest, Md.eats, List.length_cons] at this ⊢
    exact ⟨by omega, fun a r e => by cases e; omega⟩
  | parOpen h hd hs hc ih =>
    have := ih.1
    simp only [Rs.rest, List.length_cons] at this ⊢
    exact ⟨by omega, fun a r e => by cases e⟩
  | parBad h hd hs ih =>
    have := ih.1
    simp only [Rs.rest, List.length_cons] at this ⊢
    exact ⟨by omega, fun a r e => by cases e⟩
  | negOk h hd hs ih =>
    have := ih.2 _ _ rfl
    simp only [Rs.rest, Md.eats, List.length_cons] at this ⊢
    exact ⟨by omega, fun a r e => by cases e; omega⟩
  | negBad h hd hs ih =>
    have := ih.1
    simp only [Rs.rest, List.length_cons] at this ⊢
    exact ⟨by omega, fun a r e => by cases e⟩
  | number hk h0 h1 =>
    simp only [Rs.rest, Md.eats, List.length_cons]
    exact ⟨by omega, fun a r e => by cases e; omega⟩
  | name hk h0 =>
    simp only [Rs.rest, Md.eats, List.length_cons]
    exact ⟨by omega, fun a r e => by cases e; omega⟩
  | noneEnd => exact ⟨Nat.le_refl _, fun a r e => by cases e⟩
  | noneTok h0 h1 h2 h3 => exact ⟨Nat.le_refl _, fun a r e => by cases e⟩
  | prodOk hf hp ih1 ih2 =>
    have h1 := ih1.2 _ _ rfl
    have h2 := ih2.1
    simp only [Md.eats] at h1
    refine ⟨by omega, fun a r e => ?_⟩
    have := ih2.2 a r e
    simp only [Md.eats] at this ⊢
    omega
  | prodBad hf ih => exact ⟨ih.1, fun a r e => by cases e⟩
  | starOk h hf hp ih1 ih2 =>
    have h1 := ih1.2 _ _ rfl
    have h2 := ih2.1
    simp only [Md.eats, List.length_cons] at h1 ⊢
    refine ⟨by omega, fun a r e => ?_⟩
    have := ih2.2 a r e
    simp only [Md.eats] at this
    omega
  | starBad h hf ih =>
    have := ih.1
    simp only [Rs.rest, List.length_cons] at this ⊢
    exact ⟨by omega, fun a r e => by cases e⟩
  | starEnd h => exact ⟨Nat.le_refl _, fun a r e => by cases e; exact Nat.le_refl _⟩
  | sumOk hf hp ih1 ih2 =>
    have h1 := ih1.2 _ _ rfl
    have h2 := ih2.1
    simp only [Md.eats] at h1
    refine ⟨by omega, fun a r e => ?_⟩
    have := ih2.2 a r e
    simp only [Md.eats] at this ⊢
    omega
  | sumBad hf ih => exact ⟨ih.1, fun a r e => by cases e⟩
  | plusOk h hf hp ih1 ih2 =>
    have h1 := ih1.2 _ _ rfl
    have h2 := ih2.1
    simp only [Md.eats, List.length_cons] at h1 ⊢
    refine ⟨by omega, fun a r e => ?_⟩
    have := ih2.2 a r e
    simp only [Md.eats] at this
    omega
  | plusBad h hf ih =>
    have := ih.1
    simp only [Rs.rest, List.length_cons] at this ⊢
    exact ⟨by omega, fun a r e => by cases e⟩
  | subOk h hf hp ih1 ih2 =>
    have h1 := ih1.2 _ _ rfl
    have h2 := ih2.1
    simp only [Md.eats, List.length_cons] at h1 ⊢
    refine ⟨by omega, fun a r e => ?_⟩
    have := ih2.2 a r e
    simp only [Md.eats] at this
    omega
  | subBad h hf ih =>
    have := ih.1
    simp only [Rs.rest, List.length_cons] at this ⊢
    exact ⟨by omega, fun a r e => by cases e⟩
  | sumEnd h h2 => exact ⟨Nat.le_refl _, fun a r e => by cases e; exact Nat.le_refl _⟩
/-! Whatever the tokens, something is told. -/
theorem pt_total {n : Nat} (hf : ∀ ts : List Tq, ts.length ≤ n → ∀ d, d ≤ 16 → ∃ res, Rd .fac d ts res) : ∀ (k : Nat) (ts : List Tq), ts.length ≤ k → ts.length ≤ n → ∀ d, d ≤ 16 → ∀ a, ∃ res, Rd (.pt a) d ts res
  | k, [], _, _, d, _, a => ⟨_, .starEnd rfl⟩
  | 0, t :: r, h, _, _, _, _ => by simp at h
  | k + 1, t :: r, h, hn, d, hd, a => by
    rw [List.length_cons] at h hn
    cases hs : isSg 42 (t :: r) with
    | false => exact ⟨_, .starEnd hs⟩
    | true =>
      obtain ⟨res, hr⟩ := hf r (by omega) d hd
      cases res with
      | bad r1 w => exact ⟨_, .starBad hs hr⟩
      | ok b r1 =>
        have hl := (rd_len hr).1
        simp only [Rs.rest] at hl
        obtain ⟨res, h2⟩ := pt_total hf k r1 (by omega) (by omega) d hd (.bin 5 a b)
        exact ⟨_, .starOk hs hr h2⟩
theorem prod_total {n : Nat} (hf : ∀ ts : List Tq, ts.length ≤ n → ∀ d, d ≤ 16 → ∃ res, Rd .fac d ts res) (ts : List Tq) (h : ts.length ≤ n) (d : Nat) (hd : d ≤ 16) : ∃ res, Rd .prod d ts res := by
  obtain ⟨res, hr⟩ := hf ts h d hd
  cases res with
  | bad r1 w => exact ⟨_, .prodBad hr⟩
  | ok b r1 =>
    have hl := (rd_len hr).1
    simp only [Rs.rest] at hl
    obtain ⟨res, h2⟩ := pt_total hf r1.length r1 (Nat.le_refl _) (by omega) d hd b
    exact ⟨_, .prodOk hr h2⟩
theorem st_total {n : Nat} (hf : ∀ ts : List Tq, ts.length ≤ n → ∀ d, d ≤ 16 → ∃ res, Rd .fac d ts res) : ∀ (k : Nat) (ts : List Tq), ts.length ≤ k → ts.length ≤ n → ∀ d, d ≤ 16 → ∀ a, ∃ res, Rd (.st a) d ts res
  | k, [], _, _, d, _, a => ⟨_, .sumEnd rfl rfl⟩
  | 0, t :: r, h, _, _, _, _ => by simp at h
  | k + 1, t :: r, h, hn, d, hd, a => by
    rw [List.length_cons] at h hn
    obtain ⟨res, hr⟩ := prod_total hf r (by omega) d hd
    cases hs : isSg 43 (t :: r) with
    | true =>
      cases res with
      | bad r1 w => exact ⟨_, .plusBad hs hr⟩
      | ok b r1 =>
        have hl := (rd_len hr).1
        simp only [Rs.rest] at hl
        obtain ⟨res, h2⟩ := st_total hf k r1 (by omega) (by omega) d hd (.bin 3 a b)
        exact ⟨_, .plusOk hs hr h2⟩
    | false =>
      cases hs2 : isSg 45 (t :: r) with
      | false => exact ⟨_, .sumEnd hs hs2⟩
      | true =>
        cases res with
        | bad r1 w => exact ⟨_, .subBad hs2 hr⟩
        | ok b r1 =>
          have hl := (rd_len hr).1
          simp only [Rs.rest] at hl
          obtain ⟨res, h2⟩ := st_total hf k r1 (by omega) (by omega) d hd (.bin 4 a b)
          exact ⟨_, .subOk hs2 hr h2⟩
theorem sum_total {n : Nat} (hf : ∀ ts : List Tq, ts.length ≤ n → ∀ d, d ≤ 16 → ∃ res, Rd .fac d ts res) (ts : List Tq) (h : ts.length ≤ n) (d : Nat) (hd : d ≤ 16) : ∃ res, Rd .sum d ts res := by
  obtain ⟨res, hr⟩ := prod_total hf ts h d hd
  cases res with
  | bad r1 w => exact ⟨_, .sumBad hr⟩
  | ok b r1 =>
    have hl := (rd_len hr).1
    simp only [Rs.rest] at hl
    obtain ⟨res, h2⟩ := st_total hf r1.length r1 (Nat.le_refl _) (by omega) d hd b
    exact ⟨_, .sumOk hr h2⟩
theorem fac_total : ∀ (n : Nat) (ts : List Tq), ts.length ≤ n → ∀ d, d ≤ 16 → ∃ res, Rd .fac d ts res
  | _, [], _, d, _ => ⟨_, .noneEnd⟩
  | 0, t :: r, h, _, _ => by simp at h
  | n + 1, t :: r, h, d, hd => by
    rw [List.length_cons] at h
    cases h0 : isSg 40 (t :: r) with
    | true =>
      rcases Nat.lt_or_ge d 16 with h16 | h16
      · obtain ⟨res, hs⟩ := sum_total (fac_total n) r (by omega) (d + 1) (by omega)
        cases res with
        | bad r1 w => exact ⟨_, .parBad h0 h16 hs⟩
        | ok a r1 =>
          cases hc : isSg 41 r1 with
          | false => exact ⟨_, .parOpen h0 h16 hs hc⟩
          | true =>
            cases r1 with
            | nil => cases hc
            | cons t2 r2 => exact ⟨_, .parOk h0 h16 hs hc⟩
      · exact ⟨_, .deepP h0 (by omega)⟩
    | false =>
      cases h1 : isSg 45 (t :: r) with
      | true =>
        rcases Nat.lt_or_ge d 16 with h16 | h16
        · obtain ⟨res, hs⟩ := fac_total n r (by omega) (d + 1) (by omega)
          cases res with
          | bad r1 w => exact ⟨_, .negBad h1 h16 hs⟩
          | ok a r1 => exact ⟨_, .negOk h1 h16 hs⟩
        · exact ⟨_, .deepN h1 (by omega)⟩
      | false =>
        by_cases h2 : t.kind = 2 ∧ 0 ≤ t.v ∧ t.v ≤ 1099511627776
        · exact ⟨_, .number h2.1 h2.2.1 h2.2.2⟩
        · by_cases h3 : t.kind = 1 ∧ t.text ≠ []
          · exact ⟨_, .name h3.1 h3.2⟩
          · exact ⟨_, .noneTok h0 h1 h2 h3⟩
theorem rd_total (ts : List Tq) : ∃ res, Rd .sum 0 ts res := sum_total (fac_total ts.length) ts (Nat.le_refl _) 0 (Nat.zero_le _)
/-! What is read is read as well with other tokens behind, and at another depth. -/
def Md.stops : Md → List Tq → Prop
  | .fac, _ => True
  | .prod, p => isSg 42 p = false
  | .pt _, p => isSg 42 p = false
  | .sum, p => isSg 42 p = false ∧ isSg 43 p = false ∧ isSg 45 p = false
  | .st _, p => isSg 42 p = false ∧ isSg 43 p = false ∧ isSg 45 p = false
/-- How many ( and - there are. -/
def cntQ (ts : List Tq) : Nat := ts.countP fun t => decide (t.kind = 3) && (decide (t.text = [40]) || decide (t.text = [45]))
theorem cnt_app (a b : List Tq) : cntQ (a ++ b) = cntQ a + cntQ b := List.countP_append ..
theorem cnt_cons (t : Tq) (r : List Tq) : cntQ (t :: r) = cntQ [t] + cntQ r := cnt_app [t] r
theorem cnt_open {t : Tq} {r : List Tq} (h : isSg 40 (t :: r) = true ∨ isSg 45 (t :: r) = true) : cntQ [t] = 1 := by
  have hk : t.kind = 3 ∧ (t.text = [40] ∨ t.text = [45]) := by
    rcases h with h | h
    · exact ⟨(sg_kind h).1, .inl (sg_kind h).2⟩
    · exact ⟨(sg_kind h).1, .inr (sg_kind h).2⟩
  unfold cntQ
  rw [List.countP_cons_of_pos]
  · rfl
  · simp [hk]
/-- A product's rest begins with no *. -/
theorem rd_star {m : Md} {d : Nat} {ts : List Tq} {res : Rs} (h : Rd m d ts res) : ∀ a r, res = .ok a r → (m = .prod ∨ ∃ a, m = .pt a) → isSg 42 r = false := by
  induction h with
  | prodOk hf hp ih1 ih2 => intro a r e _; exact ih2 a r e (.inr ⟨_, rfl⟩)
  | starOk h hf hp ih1 ih2 => intro a r e _; exact ih2 a r e (.inr ⟨_, rfl⟩)
  | starEnd h => intro a r e _; cases e; exact h
  | prodBad => intro a r e; cases e
  | starBad => intro a r e; cases e
  | _ => intro a r e hm; rcases hm with hm | ⟨_, hm⟩ <;> cases hm
theorem sg_app {c : UInt8} {x r p : List Tq} (h1 : isSg c (x ++ r) = false) (h2 : isSg c p = false) : isSg c (x ++ p) = false := by
  cases x with
  | nil => exact h2
  | cons t x => exact h1
theorem rd_app {m : Md} {d : Nat} {ts : List Tq} {res : Rs} (h : Rd m d ts res) : ∀ a r, res = .ok a r → ∃ c, ts = c ++ r ∧ ∀ p d', m.stops p → d' + cntQ c ≤ 16 → Rd m d' (c ++ p) (.ok a p) := by
  induction h with
  | @parOk d t r0 a0 t2 r2 h hd hs hc ih =>
    intro a r e
    cases e
    obtain ⟨c, e1, k⟩ := ih a0 (t2 :: r2) rfl
    refine ⟨t :: (c ++ [t2]), by rw [e1]; simp, fun p d' _ hn => ?_⟩
    have hcn : cntQ [t] = 1 := cnt_open (.inl h)
    rw [cnt_cons, cnt_app] at hn
    have hst : Md.sum.stops (t2 :: p) := ⟨sg_not (c := 41) hc (by decide), sg_not (c := 41) hc (by decide), sg_not (c := 41) hc (by decide)⟩
    have := k (t2 :: p) (d' + 1) hst (by omega)
    rw [List.cons_append, List.append_assoc]
    exact .parOk h (by omega) this hc
  | @negOk d t r0 a0 r1 h hd hs ih =>
    intro a r e
    cases e
    obtain ⟨c, e1, k⟩ := ih a0 r1 rfl
    refine ⟨t :: c, by rw [e1]; rfl, fun p d' _ hn => ?_⟩
    have hcn : cntQ [t] = 1 := cnt_open (.inr h)
    rw [cnt_cons] at hn
    exact .negOk h (by omega) (k p (d' + 1) trivial (by omega))
  | @number d t r0 hk h0 h1 =>
    intro a r e
    cases e
    exact ⟨[t], rfl, fun p d' _ _ => .number hk h0 h1⟩
  | @name d t r0 hk h0 =>
    intro a r e
    cases e
    exact ⟨[t], rfl, fun p d' _ _ => .name hk h0⟩
  | @prodOk d ts a0 r0 res hf hp ih1 ih2 =>
    intro a r e
    obtain ⟨c1, e1, k1⟩ := ih1 a0 r0 rfl
    obtain ⟨c2, e2, k2⟩ := ih2 a r e
    refine ⟨c1 ++ c2, by rw [e1, e2, List.append_assoc], fun p d' hst hn => ?_⟩
    rw [cnt_app] at hn
    rw [List.append_assoc]
    exact .prodOk (k1 (c2 ++ p) d' trivial (by omega)) (k2 p d' hst (by omega))
  | @starOk d t r0 a0 b r1 res h hf hp ih1 ih2 =>
    intro a r e
    obtain ⟨c1, e1, k1⟩ := ih1 b r1 rfl
    obtain ⟨c2, e2, k2⟩ := ih2 a r e
    refine ⟨t :: (c1 ++ c2), by rw [e1, e2]; simp, fun p d' hst hn => ?_⟩
    rw [cnt_cons, cnt_app] at hn
    rw [List.cons_append, List.append_assoc]
    exact .starOk h (k1 (c2 ++ p) d' trivial (by omega)) (k2 p d' hst (by omega))
  | @starEnd d ts a0 h =>
    intro a r e
    cases e
    exact ⟨[], rfl, fun p d' hst _ => .starEnd hst⟩
  | @sumOk d ts a0 r0 res hf hp ih1 ih2 =>
    intro a r e
    obtain ⟨c1, e1, k1⟩ := ih1 a0 r0 rfl
    obtain ⟨c2, e2, k2⟩ := ih2 a r e
    refine ⟨c1 ++ c2, by rw [e1, e2, List.append_assoc], fun p d' hst hn => ?_⟩
    rw [cnt_app] at hn
    rw [List.append_assoc]
    have h42 := rd_star hf a0 r0 rfl (.inl rfl)
    rw [e2] at h42
    exact .sumOk (k1 (c2 ++ p) d' (sg_app h42 hst.1) (by omega)) (k2 p d' hst (by omega))
  | @plusOk d t r0 a0 b r1 res h hf hp ih1 ih2 =>
    intro a r e
    obtain ⟨c1, e1, k1⟩ := ih1 b r1 rfl
    obtain ⟨c2, e2, k2⟩ := ih2 a r e
    refine ⟨t :: (c1 ++ c2), by rw [e1, e2]; simp, fun p d' hst hn => ?_⟩
    rw [cnt_cons, cnt_app] at hn
    rw [List.cons_append, List.append_assoc]
    have h42 := rd_star hf b r1 rfl (.inl rfl)
    rw [e2] at h42
    exact .plusOk h (k1 (c2 ++ p) d' (sg_app h42 hst.1) (by omega)) (k2 p d' hst (by omega))
  | @subOk d t r0 a0 b r1 res h hf hp ih1 ih2 =>
    intro a r e
    obtain ⟨c1, e1, k1⟩ := ih1 b r1 rfl
    obtain ⟨c2, e2, k2⟩ := ih2 a r e
    refine ⟨t :: (c1 ++ c2), by rw [e1, e2]; simp, fun p d' hst hn => ?_⟩
    rw [cnt_cons, cnt_app] at hn
    rw [List.cons_append, List.append_assoc]
    have h42 := rd_star hf b r1 rfl (.inl rfl)
    rw [e2] at h42
    exact .subOk h (k1 (c2 ++ p) d' (sg_app h42 hst.1) (by omega)) (k2 p d' hst (by omega))
  | @sumEnd d ts a0 h h2 =>
    intro a r e
    cases e
    exact ⟨[], rfl, fun p d' hst _ => .sumEnd hst.2.1 hst.2.2⟩
  | _ => intro a r e; cases e
end
section
open Go.ChangeShapes Go.WideShapes Go.ChangeAt Go.RowKit Go.Sort BigFrame

/-- A term. -/
structure Tm where
  kind : Int
  v : Int
  name : List UInt8
  a : Int
  b : Int
  deriving DecidableEq
abbrev Tm.cells (t : Tm) : List Value := [.int .u8 t.kind, .int .i64 t.v, .string (strOf t.name), .int .i64 t.a, .int .i64 t.b]
abbrev Tm.val (t : Tm) : Value := .agg #[.int .u8 t.kind, .int .i64 t.v, .string (strOf t.name), .int .i64 t.a, .int .i64 t.b]
theorem tm_len (t : Tm) : t.cells.length = 5 := rfl
theorem tm_one (l : List Tm) : ∀ u ∈ l.flatMap Tm.cells, u.oneCell' = true := by
  intro u hu
  obtain ⟨x, _, h⟩ := List.mem_flatMap.1 hu
  simp only [List.mem_cons, List.not_mem_nil, or_false] at h
  rcases h with rfl | rfl | rfl | rfl | rfl <;> rfl
abbrev Tms (w : World) (ao : Option Addr) (cap : Nat) (l : List Tm) : Prop := Recs Tm.cells 5 w ao cap l
theorem tms_cells {w : World} {ao : Option Addr} {cap : Nat} {l : List Tm} (h : Tms w ao cap l) {t : Nat} (ht : t < l.length) (x : Tm) (hx : l[t] = x) : ∃ b o, ao = some ⟨b, o, none⟩ ∧
    w.cell? ⟨b, o + t * 5, none⟩ = some (.int .u8 x.kind) ∧ w.cell? ⟨b, o + t * 5 + 1, none⟩ = some (.int .i64 x.v) ∧ w.cell? ⟨b, o + t * 5 + 2, none⟩ = some (.string (strOf x.name)) ∧
    w.cell? ⟨b, o + t * 5 + 3, none⟩ = some (.int .i64 x.a) ∧ w.cell? ⟨b, o + t * 5 + 4, none⟩ = some (.int .i64 x.b) := by
  subst hx
  obtain ⟨b, o, e, hc⟩ := h.cell t ht
  exact ⟨b, o, e, hc 0 (by omega), hc 1 (by omega), hc 2 (by omega), hc 3 (by omega), hc 4 (by omega)⟩
/-! The terms of an expression. -/
def Ex.size : Ex → Nat
  | .num _ => 1
  | .nam _ => 1
  | .bin _ a b => a.size + b.size + 1
  | .neg a => a.size + 1
/-- Its terms, behind m others. -/
def Ex.post : Ex → Nat → List Tm
  | .num v, _ => [⟨1, v, [], 0, 0⟩]
  | .nam s, _ => [⟨2, 0, s, 0, 0⟩]
  | .bin k a b, m => a.post m ++ b.post (m + a.size) ++ [⟨k, 0, [], m + a.size - 1, m + a.size + b.size - 1⟩]
  | .neg a, m => a.post m ++ [⟨6, 0, [], m + a.size - 1, 0⟩]
theorem size_pos (t : Ex) : 0 < t.size := by cases t <;> simp [Ex.size]
theorem post_len : ∀ (t : Ex) (m : Nat), (t.post m).length = t.size
  | .num _, _ => rfl
  | .nam _, _ => rfl
  | .bin k a b, m => by
    have h1 := post_len a m
    have h2 := post_len b (m + a.size)
    simp only [Ex.post, Ex.size, List.length_append, List.length_singleton, h1, h2]
  | .neg a, m => by
    have h1 := post_len a m
    simp only [Ex.post, Ex.size, List.length_append, List.length_singleton, h1]
/-- The terms are at most as many as the tokens that are read. -/
theorem rd_few {m : Md} {d : Nat} {ts : List Tq} {res : Rs} (h : Rd m d ts res) : ∀ a r, res = .ok a r → a.size + r.length ≤ ts.length + (match m with | .pt x => x.size | .st x => x.size | _ => 0) := by
  induction h with
  | parOk h hd hs hc ih =>
    intro a r e; cases e
    have := ih _ _ rfl
    simp only [List.length_cons] at this ⊢
    omega
  | negOk h hd hs ih =>
    intro a r e; cases e
    have := ih _ _ rfl
    simp only [Ex.size, List.length_cons] at this ⊢
    omega
  | number hk h0 h1 =>
    intro a r e; cases e
    simp only [Ex.size, List.length_cons]
    omega
  | name hk h0 =>
    intro a r e; cases e
    simp only [Ex.size, List.length_cons]
    omega
  | prodOk hf hp ih1 ih2 =>
    intro a r e
    have h1 := ih1 _ _ rfl
    have h2 := ih2 a r e
    simp only at h1 h2 ⊢
    omega
  | starOk h hf hp ih1 ih2 =>
    intro a r e
    have h1 := ih1 _ _ rfl
    have h2 := ih2 a r e
    simp only [Ex.size, List.length_cons] at h1 h2 ⊢
    omega
  | starEnd h =>
    intro a r e; cases e
    simp only
    omega
  | sumOk hf hp ih1 ih2 =>
    intro a r e
    have h1 := ih1 _ _ rfl
    have h2 := ih2 a r e
    simp only at h1 h2 ⊢
    omega
  | plusOk h hf hp ih1 ih2 =>
    intro a r e
    have h1 := ih1 _ _ rfl
    have h2 := ih2 a r e
    simp only [Ex.size, List.length_cons] at h1 h2 ⊢
    omega
  | subOk h hf hp ih1 ih2 =>
    intro a r e
    have h1 := ih1 _ _ rfl
    have h2 := ih2 a r e
    simp only [Ex.size, List.length_cons] at h1 h2 ⊢
    omega
  | sumEnd h h2 =>
    intro a r e; cases e
    simp only
    omega
  | _ => intro a r e; cases e
theorem rd_why {m : Md} {d : Nat} {ts : List Tq} {res : Rs} (h : Rd m d ts res) : ∀ r w, res = .bad r w → w = 3 ∨ w = 8 := by
  induction h with
  | deepP => intro r w e; cases e; exact .inl rfl
  | deepN => intro r w e; cases e; exact .inl rfl
  | parOpen => intro r w e; cases e; exact .inr rfl
  | noneEnd => intro r w e; cases e; exact .inr rfl
  | noneTok => intro r w e; cases e; exact .inr rfl
  | parBad h hd hs ih => intro r w e; cases e; exact ih _ _ rfl
  | negBad h hd hs ih => intro r w e; cases e; exact ih _ _ rfl
  | prodBad hf ih => intro r w e; cases e; exact ih _ _ rfl
  | starBad h hf ih => intro r w e; cases e; exact ih _ _ rfl
  | sumBad hf ih => intro r w e; cases e; exact ih _ _ rfl
  | plusBad h hf ih => intro r w e; cases e; exact ih _ _ rfl
  | subBad h hf ih => intro r w e; cases e; exact ih _ _ rfl
  | prodOk hf hp ih1 ih2 => exact ih2
  | starOk h hf hp ih1 ih2 => exact ih2
  | sumOk hf hp ih1 ih2 => exact ih2
  | plusOk h hf hp ih1 ih2 => exact ih2
  | subOk h hf hp ih1 ih2 => exact ih2
  | _ => intro r w e; cases e
/-- What is left is the end of what there was. -/
theorem rd_tail {m : Md} {d : Nat} {ts : List Tq} {res : Rs} (h : Rd m d ts res) : ∃ c, ts = c ++ res.rest := by
  induction h with
  | deepP => exact ⟨[], rfl⟩
  | deepN => exact ⟨[], rfl⟩
  | @parOk d t r a t2 r2 h hd hs hc ih => obtain ⟨c, e⟩ := ih; exact ⟨t :: (c ++ [t2]), by rw [e]; simp [Rs.rest]⟩
  | @parOpen d t r a r1 h hd hs hc ih => obtain ⟨c, e⟩ := ih; exact ⟨t :: c, congrArg (t :: ·) e⟩
  | @parBad d t r r1 w h hd hs ih => obtain ⟨c, e⟩ := ih; exact ⟨t :: c, congrArg (t :: ·) e⟩
  | @negOk d t r a r1 h hd hs ih => obtain ⟨c, e⟩ := ih; exact ⟨t :: c, congrArg (t :: ·) e⟩
  | @negBad d t r r1 w h hd hs ih => obtain ⟨c, e⟩ := ih; exact ⟨t :: c, congrArg (t :: ·) e⟩
  | @number d t r hk h0 h1 => exact ⟨[t], rfl⟩
  | @name d t r hk h0 => exact ⟨[t], rfl⟩
  | noneEnd => exact ⟨[], rfl⟩
  | noneTok => exact ⟨[], rfl⟩
  | prodOk hf hp ih1 ih2 => obtain ⟨c1, e1⟩ := ih1; obtain ⟨c2, e2⟩ := ih2; exact ⟨c1 ++ c2, by rw [e1, List.append_assoc, ← e2]; rfl⟩
  | prodBad hf ih => obtain ⟨c, e⟩ := ih; exact ⟨c, e⟩
  | @starOk d t r a b r1 res h hf hp ih1 ih2 => obtain ⟨c1, e1⟩ := ih1; obtain ⟨c2, e2⟩ := ih2; exact ⟨t :: (c1 ++ c2), by rw [e1, List.cons_append, List.append_assoc, ← e2]; rfl⟩
  | @starBad d t r a r1 w h hf ih => obtain ⟨c, e⟩ := ih; exact ⟨t :: c, congrArg (t :: ·) e⟩
  | starEnd h => exact ⟨[], rfl⟩
  | sumOk hf hp ih1 ih2 => obtain ⟨c1, e1⟩ := ih1; obtain ⟨c2, e2⟩ := ih2; exact ⟨c1 ++ c2, by rw [e1, List.append_assoc, ← e2]; rfl⟩
  | sumBad hf ih => obtain ⟨c, e⟩ := ih; exact ⟨c, e⟩
  | @plusOk d t r a b r1 res h hf hp ih1 ih2 => obtain ⟨c1, e1⟩ := ih1; obtain ⟨c2, e2⟩ := ih2; exact ⟨t :: (c1 ++ c2), by rw [e1, List.cons_append, List.append_assoc, ← e2]; rfl⟩
  | @plusBad d t r a r1 w h hf ih => obtain ⟨c, e⟩ := ih; exact ⟨t :: c, congrArg (t :: ·) e⟩
  | @subOk d t r a b r1 res h hf hp ih1 ih2 => obtain ⟨c1, e1⟩ := ih1; obtain ⟨c2, e2⟩ := ih2; exact ⟨t :: (c1 ++ c2), by rw [e1, List.cons_append, List.append_assoc, ← e2]; rfl⟩
  | @subBad d t r a r1 w h hf ih => obtain ⟨c, e⟩ := ih; exact ⟨t :: c, congrArg (t :: ·) e⟩
  | sumEnd h h2 => exact ⟨[], rfl⟩
/-- The rest is what lies behind some first tokens. -/
theorem rest_drop {m : Md} {d : Nat} {L : List Tq} {k : Nat} {res : Rs} (h : Rd m d (L.drop k) res) (hk : k ≤ L.length) : ∃ k', k ≤ k' ∧ k' ≤ L.length ∧ res.rest = L.drop k' := by
  obtain ⟨c, e⟩ := rd_tail h
  refine ⟨k + c.length, by omega, ?_, ?_⟩
  · have := congrArg List.length e
    rw [List.length_drop, List.length_append] at this
    omega
  · rw [← List.drop_drop, e, List.drop_left]
/-- What Parse tells. -/
def PSays (ts : List Tq) (w : World) : Rs → Ending → World → Prop
  | .ok a r, e, w' => ∃ so c, e = .returned (.tuple #[.slice so a.size c, .int .i64 ((ts.length : Int) - r.length), .int .i64 0]) ∧ Tms w' so c (a.post 0) ∧ Made w w'
  | .bad r why, e, w' => e = .returned (.tuple #[.slice none 0 0, .int .i64 ((ts.length : Int) - r.length), .int .i64 why]) ∧ Made w w'
end
section

abbrev maxV : Int := 1099511627776
def okT (t : Tm) (i : Nat) : Bool :=
  if t.kind = 1 then decide (0 ≤ t.v ∧ t.v ≤ maxV ∧ t.name = [] ∧ t.a = 0 ∧ t.b = 0)
  else if t.kind = 2 then decide (t.name ≠ [] ∧ t.v = 0 ∧ t.a = 0 ∧ t.b = 0)
  else if t.kind = 3 ∨ t.kind = 4 ∨ t.kind = 5 then decide (0 ≤ t.a ∧ t.a < i ∧ 0 ≤ t.b ∧ t.b < i ∧ t.v = 0 ∧ t.name = [])
  else if t.kind = 6 then decide (0 ≤ t.a ∧ t.a < i ∧ t.b = 0 ∧ t.v = 0 ∧ t.name = [])
  else false
def okFrom : Nat → List Tm → Bool
  | _, [] => true
  | i, t :: r => okT t i && okFrom (i + 1) r
def rightXB (e : List Tm) : Bool := okFrom 0 e && decide (e ≠ [])
theorem ok_at : ∀ (e : List Tm) (i k : Nat), okFrom i e = true → ∀ h : k < e.length, okT e[k] (i + k) = true
  | t :: r, i, 0, h, _ => by
    simp only [okFrom, Bool.and_eq_true] at h
    exact h.1
  | t :: r, i, k + 1, h, hk => by
    simp only [okFrom, Bool.and_eq_true] at h
    have := ok_at r (i + 1) k h.2 (by simpa using hk)
    rw [List.getElem_cons_succ, show i + (k + 1) = i + 1 + k by omega]
    exact this
/-- The terms that a term uses. -/
def refsB (t : Tm) (j : Nat) : Bool := (decide (3 ≤ t.kind) && decide (t.a = j)) || (decide (3 ≤ t.kind) && decide (t.kind < 6) && decide (t.b = j))
/-- What is used by the last k terms. -/
def usedK (e : List Tm) : Nat → Nat → Bool
  | 0, _ => false
  | k + 1, j =>
    let u := fun j => usedK e k j || (decide (k = 0) && decide (j + 1 = e.length))
    u j || (u (e.length - 1 - k) && (match e[e.length - 1 - k]? with | some t => refsB t j | none => false))
def usedB (e : List Tm) (j : Nat) : Bool := usedK e e.length j
/-- The names that are used, each once. -/
def namesF (e : List Tm) : Nat → List (List UInt8)
  | 0 => []
  | i + 1 => match e[i]? with
    | some t => if usedB e i = true ∧ t.kind = 2 ∧ t.name ∉ namesF e i then namesF e i ++ [t.name] else namesF e i
    | none => namesF e i
def xNamesL (e : List Tm) : List (List UInt8) := if rightXB e then namesF e e.length else []
/-- The value of a term, by those ahead of it: a value, and what is wrong. -/
def valT (ask : List UInt8 → Int × Int) (t : Tm) (vals : List Int) : Int × Int :=
  if t.kind = 2 then (if (ask t.name).2 = 0 then ((ask t.name).1, 0) else (0, (ask t.name).2))
  else if t.kind = 3 then (vals.getD t.a.toNat 0 + vals.getD t.b.toNat 0, 0)
  else if t.kind = 4 then (vals.getD t.a.toNat 0 - vals.getD t.b.toNat 0, 0)
  else if t.kind = 5 then (vals.getD t.a.toNat 0 * vals.getD t.b.toNat 0, 0)
  else if t.kind = 6 then (- vals.getD t.a.toNat 0, 0)
  else (t.v, 0)
def inR (v : Int) : Bool := decide (-maxV ≤ v) && decide (v ≤ maxV)
def capV (x : Int × Int) : Int × Int := if x.2 ≠ 0 then (0, x.2) else if inR x.1 then (x.1, 0) else (0, 6)
/-- The terms from i on, m of them, by the values ahead. -/
def evF (ask : List UInt8 → Int × Int) (e : List Tm) : Nat → Nat → List Int → Int × Int
  | 0, _, vals => (vals.getLastD 0, 0)
  | m + 1, i, vals => match e[i]? with
    | none => (0, 0)
    | some t => if usedB e i then (if (capV (valT ask t vals)).2 = 0 then evF ask e m (i + 1) (vals ++ [(capV (valT ask t vals)).1]) else capV (valT ask t vals)) else evF ask e m (i + 1) (vals ++ [0])
def evL (ask : List UInt8 → Int × Int) (e : List Tm) : Int × Int := if rightXB e then evF ask e e.length 0 [] else (0, 1)
/-! The terms of a tree. -/
/-- A tree that reading makes. -/
def Ex.fine : Ex → Prop
  | .num v => 0 ≤ v ∧ v ≤ maxV
  | .nam s => s ≠ []
  | .bin k a b => (k = 3 ∨ k = 4 ∨ k = 5) ∧ a.fine ∧ b.fine
  | .neg a => a.fine
theorem rd_fine {m : Md} {d : Nat} {ts : List Tq} {res : Rs} (h : Rd m d ts res) : ∀ a r, res = .ok a r → (match m with | .pt x => x.fine | .st x => x.fine | _ => True) → a.fine := by
  induction h with
  | parOk h hd hs hc ih => intro a r e _; cases e; exact ih _ _ rfl trivial
  | negOk h hd hs ih => intro a r e _; cases e; have h9 := ih _ _ rfl trivial; exact h9
  | number hk h0 h1 => intro a r e _; cases e; exact ⟨h0, h1⟩
  | name hk h0 => intro a r e _; cases e; exact h0
  | prodOk hf hp ih1 ih2 => intro a r e _; exact ih2 a r e (ih1 _ _ rfl trivial)
  | starOk h hf hp ih1 ih2 => intro a r e hm; exact ih2 a r e ⟨.inr (.inr rfl), hm, ih1 _ _ rfl trivial⟩
  | starEnd h => intro a r e hm; cases e; exact hm
  | sumOk hf hp ih1 ih2 => intro a r e _; exact ih2 a r e (ih1 _ _ rfl trivial)
  | plusOk h hf hp ih1 ih2 => intro a r e hm; exact ih2 a r e ⟨.inl rfl, hm, ih1 _ _ rfl trivial⟩
  | subOk h hf hp ih1 ih2 => intro a r e hm; exact ih2 a r e ⟨.inr (.inl rfl), hm, ih1 _ _ rfl trivial⟩
  | sumEnd h h2 => intro a r e hm; cases e; exact hm
  | _ => intro a r e; cases e
theorem okFrom_app : ∀ (a b : List Tm) (i : Nat), okFrom i (a ++ b) = (okFrom i a && okFrom (i + a.length) b)
  | [], b, i => by simp [okFrom]
  | t :: a, b, i => by
    rw [List.cons_append]
    simp only [okFrom]
    rw [okFrom_app a b (i + 1), List.length_cons, show i + 1 + a.length = i + (a.length + 1) by omega, Bool.and_assoc]
theorem post_ok : ∀ (t : Ex) (m : Nat), t.fine → okFrom m (t.post m) = true
  | .num v, m, h => by simp [Ex.post, okFrom, okT, h.1, h.2]
  | .nam s, m, h => by simp only [Ex.fine] at h; simp [Ex.post, okFrom, okT, h]
  | .bin k a b, m, h => by
    have h1 := post_ok a m h.2.1
    have h2 := post_ok b (m + a.size) h.2.2
    have p1 := size_pos a
    have p2 := size_pos b
    simp only [Ex.post]
    rw [okFrom_app, okFrom_app, List.length_append, post_len, post_len, h1, h2]
    have hk := h.1
    simp only [okFrom, okT, Bool.true_and, Bool.and_true]
    rw [if_neg (by omega), if_neg (by omega), if_pos hk]
    exact decide_eq_true ⟨by omega, by omega, by omega, by omega, trivial, trivial⟩
  | .neg a, m, h => by
    have h1 := post_ok a m h
    have p1 := size_pos a
    simp only [Ex.post]
    rw [okFrom_app, post_len, h1]
    simp only [okFrom, okT, Bool.true_and, Bool.and_true]
    rw [if_neg (by decide), if_neg (by decide), if_neg (by decide), if_pos trivial]
    exact decide_eq_true ⟨by omega, by omega, trivial, trivial, trivial⟩
theorem post_ne (t : Ex) (m : Nat) : t.post m ≠ [] := by
  intro h
  have := congrArg List.length h
  rw [post_len] at this
  have := size_pos t
  simp at *
  omega
theorem post_right {t : Ex} (h : t.fine) : rightXB (t.post 0) = true := by
  unfold rightXB
  rw [post_ok t 0 h, decide_eq_true (post_ne t 0)]
  rfl
/-- How often a term is used by others. -/
def cntR (e : List Tm) (j : Nat) : Nat := (e.map fun t => (if 3 ≤ t.kind ∧ t.a = (j : Int) then 1 else 0) + (if 3 ≤ t.kind ∧ t.kind < 6 ∧ t.b = (j : Int) then 1 else 0)).sum
theorem cntR_app (a b : List Tm) (j : Nat) : cntR (a ++ b) j = cntR a j + cntR b j := by
  unfold cntR
  rw [List.map_append, List.sum_append]
/-- In a tree's terms each but the last is used once, and nothing outside. -/
def oneN (m j n : Nat) : Nat := if m ≤ j ∧ j + 1 < m + n then 1 else 0
theorem post_cnt : ∀ (t : Ex) (m : Nat), t.fine → ∀ j, cntR (t.post m) j = oneN m j t.size
  | .num v, m, _, j => by
    simp only [Ex.post, Ex.size, cntR, List.map_cons, List.map_nil, List.sum_cons, List.sum_nil]
    unfold oneN
    repeat' split
    all_goals omega
  | .nam s, m, _, j => by
    simp only [Ex.post, Ex.size, cntR, List.map_cons, List.map_nil, List.sum_cons, List.sum_nil]
    unfold oneN
    repeat' split
    all_goals omega
  | .bin k a b, m, h, j => by
    have h1 := post_cnt a m h.2.1 j
    have h2 := post_cnt b (m + a.size) h.2.2 j
    have p1 := size_pos a
    have p2 := size_pos b
    have hk := h.1
    simp only [Ex.post, Ex.size]
    rw [cntR_app, cntR_app, h1, h2]
    simp only [cntR, List.map_cons, List.map_nil, List.sum_cons, List.sum_nil]
    unfold oneN
    repeat' split
    all_goals omega
  | .neg a, m, h, j => by
    have h1 := post_cnt a m h j
    have p1 := size_pos a
    simp only [Ex.post, Ex.size]
    rw [cntR_app, h1]
    simp only [cntR, List.map_cons, List.map_nil, List.sum_cons, List.sum_nil]
    unfold oneN
    repeat' split
    all_goals omega
end
section

theorem used_mono (e : List Tm) (j : Nat) : ∀ (k d : Nat), usedK e k j = true → usedK e (k + d) j = true
  | _, 0, h => h
  | k, d + 1, h => by
    have := used_mono e j k d h
    show usedK e (k + d + 1) j = true
    simp only [usedK, this, Bool.true_or]
theorem used_step {e : List Tm} {k j : Nat} (hk : k < e.length) (hm : (usedK e k (e.length - 1 - k) || (decide (k = 0) && decide (e.length - 1 - k + 1 = e.length))) = true) (hr : refsB e[e.length - 1 - k] j = true) : usedK e (k + 1) j = true := by
  have h9 : e[e.length - 1 - k]? = some e[e.length - 1 - k] := List.getElem?_eq_getElem (by omega)
  simp only [usedK, hm, h9, hr, Bool.and_true, Bool.or_true]
theorem cnt_some : ∀ (e : List Tm) (j : Nat), cntR e j ≠ 0 → ∃ (i : Nat) (h : i < e.length), refsB e[i] j = true
  | [], j, h => absurd rfl h
  | t :: r, j, h => by
    by_cases h1 : refsB t j = true
    · exact ⟨0, by simp, h1⟩
    · have h2 : cntR r j ≠ 0 := by
        intro h3
        apply h
        unfold cntR at h3 ⊢
        rw [List.map_cons, List.sum_cons, h3]
        have h4 : refsB t j = false := by simpa using h1
        unfold refsB at h4
        simp only [Bool.or_eq_false_iff, Bool.and_eq_false_iff, decide_eq_false_iff_not] at h4
        rw [if_neg (by omega), if_neg (by omega)]
      obtain ⟨i, hi, hr⟩ := cnt_some r j h2
      exact ⟨i + 1, by simpa using hi, by rw [List.getElem_cons_succ]; exact hr⟩
theorem refs_lt {t : Tm} {i j : Nat} (h : okT t i = true) (hr : refsB t j = true) : j < i := by
  unfold refsB at hr
  simp only [Bool.or_eq_true, Bool.and_eq_true, decide_eq_true_eq] at hr
  unfold okT at h
  split at h
  · omega
  split at h
  · omega
  split at h
  · have := of_decide_eq_true h
    omega
  split at h
  · have := of_decide_eq_true h
    omega
  · cases h
theorem used_all {e : List Tm} (h : okFrom 0 e = true) (hu : ∀ j, j + 1 < e.length → cntR e j ≠ 0) : ∀ (q j : Nat), j < e.length → e.length - 1 - j = q → (usedK e q j || (decide (q = 0) && decide (j + 1 = e.length))) = true := by
  intro q
  induction q using Nat.strongRecOn with
  | _ q ih =>
    intro j hj hq
    by_cases hl : j + 1 = e.length
    · have : q = 0 := by omega
      subst this
      simp [hl]
    · obtain ⟨i, hi, hr⟩ := cnt_some e j (hu j (by omega))
      have hok := ok_at e 0 i h hi
      rw [Nat.zero_add] at hok
      have hlt := refs_lt hok hr
      have h1 := ih (e.length - 1 - i) (by omega) i hi rfl
      have ei : e.length - 1 - (e.length - 1 - i) = i := by omega
      have h2 := used_step (e := e) (k := e.length - 1 - i) (j := j) (by omega) (by rw [ei]; exact h1) (by simp only [ei]; exact hr)
      have h3 := used_mono e j _ (q - (e.length - 1 - i + 1)) h2
      rw [show e.length - 1 - i + 1 + (q - (e.length - 1 - i + 1)) = q by omega] at h3
      rw [h3]
      rfl
theorem used_of {e : List Tm} (h : okFrom 0 e = true) (hu : ∀ j, j + 1 < e.length → cntR e j ≠ 0) (j : Nat) (hj : j < e.length) : usedB e j = true := by
  have h1 := used_all h hu (e.length - 1 - j) j hj rfl
  have h2 : usedK e (e.length - 1 - j + 1) j = true := by
    simp only [usedK]
    simp only [h1, Bool.true_or]
  have h3 := used_mono e j _ j h2
  unfold usedB
  rwa [show e.length - 1 - j + 1 + j = e.length by omega] at h3
theorem post_used {t : Ex} (h : t.fine) (j : Nat) (hj : j < t.size) : usedB (t.post 0) j = true := by
  refine used_of (post_ok t 0 h) (fun j hj => ?_) j (by rw [post_len]; exact hj)
  rw [post_len] at hj
  rw [post_cnt t 0 h]
  unfold oneN
  rw [if_pos (by omega)]
  decide
/-! The tree's own value. -/
def opV (k a b : Int) : Int := if k = 3 then a + b else if k = 4 then a - b else a * b
def evT (ask : List UInt8 → Int × Int) : Ex → Int × Int
  | .num v => capV (v, 0)
  | .nam s => capV (if (ask s).2 = 0 then ((ask s).1, 0) else (0, (ask s).2))
  | .bin k a b => if (evT ask a).2 = 0 then (if (evT ask b).2 = 0 then capV (opV k (evT ask a).1 (evT ask b).1, 0) else (0, (evT ask b).2)) else (0, (evT ask a).2)
  | .neg a => if (evT ask a).2 = 0 then capV (- (evT ask a).1, 0) else (0, (evT ask a).2)
theorem cap_err {x : Int × Int} (h : (capV x).2 ≠ 0) : capV x = (0, (capV x).2) := by
  unfold capV at h ⊢
  split
  · rfl
  · split
    · rename_i h1 h2
      rw [if_neg h1, if_pos h2] at h
      exact absurd rfl h
    · rfl
theorem ev_step {ask : List UInt8 → Int × Int} {e : List Tm} {q i : Nat} {vals : List Int} (hi : i < e.length) (hu : usedB e i = true) : evF ask e (q + 1) i vals = if (capV (valT ask e[i] vals)).2 = 0 then evF ask e q (i + 1) (vals ++ [(capV (valT ask e[i] vals)).1]) else capV (valT ask e[i] vals) := by
  simp only [evF, List.getElem?_eq_getElem hi, hu, if_true]
theorem getD_at {l : List Int} {x : Int} {i : Nat} (h : l[i]? = some x) : l.getD i 0 = x := by
  rw [List.getD_eq_getElem?_getD, h]
  rfl
theorem ev_seg (ask : List UInt8 → Int × Int) (e : List Tm) (hU : ∀ j, j < e.length → usedB e j = true) : ∀ (t : Ex) (m : Nat) (pre suf : List Tm) (vals : List Int), t.fine → e = pre ++ t.post m ++ suf → pre.length = m → vals.length = m →
    ((evT ask t).2 = 0 → ∃ vs : List Int, vs.length = t.size ∧ vs[t.size - 1]? = some (evT ask t).1 ∧ ∀ q, evF ask e (t.size + q) m vals = evF ask e q (m + t.size) (vals ++ vs)) ∧
    ((evT ask t).2 ≠ 0 → ∀ q, evF ask e (t.size + q) m vals = (0, (evT ask t).2)) := by
  have leaf : ∀ (x : Tm) (m : Nat) (pre suf : List Tm) (vals : List Int), e = pre ++ [x] ++ suf → pre.length = m → ∀ q, evF ask e (q + 1) m vals = if (capV (valT ask x vals)).2 = 0 then evF ask e q (m + 1) (vals ++ [(capV (valT ask x vals)).1]) else capV (valT ask x vals) := by
    intro x m pre suf vals he hp q
    have hi : m < e.length := by rw [he]; simp; omega
    have hx : e[m] = x := by
      subst hp
      simp [he]
    rw [ev_step hi (hU m hi), hx]
  intro t
  induction t with
  | num v =>
    intro m pre suf vals hf he hp hv
    have h1 := leaf ⟨1, v, [], 0, 0⟩ m pre suf vals he hp
    have h2 : valT ask ⟨1, v, [], 0, 0⟩ vals = (v, 0) := rfl
    have e1 : evT ask (.num v) = capV (v, 0) := rfl
    rw [h2, ← e1] at h1
    constructor
    · intro h0
      refine ⟨[(evT ask (.num v)).1], rfl, rfl, fun q => ?_⟩
      have := h1 q
      rw [if_pos h0] at this
      rw [show (Ex.num v).size + q = q + 1 by simp only [Ex.size]; omega, this]
      rfl
    · intro h0 q
      have := h1 q
      rw [if_neg h0] at this
      rw [show (Ex.num v).size + q = q + 1 by simp only [Ex.size]; omega, this]
      exact cap_err h0
  | nam s =>
    intro m pre suf vals hf he hp hv
    have h1 := leaf ⟨2, 0, s, 0, 0⟩ m pre suf vals he hp
    have h2 : valT ask ⟨2, 0, s, 0, 0⟩ vals = (if (ask s).2 = 0 then ((ask s).1, 0) else (0, (ask s).2)) := rfl
    have e1 : evT ask (.nam s) = capV (if (ask s).2 = 0 then ((ask s).1, 0) else (0, (ask s).2)) := rfl
    rw [h2, ← e1] at h1
    constructor
    · intro h0
      refine ⟨[(evT ask (.nam s)).1], rfl, rfl, fun q => ?_⟩
      have := h1 q
      rw [if_pos h0] at this
      rw [show (Ex.nam s).size + q = q + 1 by simp only [Ex.size]; omega, this]
      rfl
    · intro h0 q
      have := h1 q
      rw [if_neg h0] at this
      rw [show (Ex.nam s).size + q = q + 1 by simp only [Ex.size]; omega, this]
      exact cap_err h0
  | bin k a b iha ihb =>
    intro m pre suf vals hf he hp hv
    have pa := size_pos a
    have pb := size_pos b
    have hla := post_len a m
    have hlb := post_len b (m + a.size)
    simp only [Ex.post] at he
    obtain ⟨ga, ba⟩ := iha m pre (b.post (m + a.size) ++ [⟨k, 0, [], m + a.size - 1, m + a.size + b.size - 1⟩] ++ suf) vals hf.2.1 (by rw [he]; simp only [List.append_assoc]) hp hv
    have hsz : ∀ q, (Ex.bin k a b).size + q = a.size + (b.size + (q + 1)) := fun q => by simp only [Ex.size]; omega
    by_cases ha : (evT ask a).2 = 0
    · obtain ⟨va, hva, hva1, hga⟩ := ga ha
      obtain ⟨gb, bb⟩ := ihb (m + a.size) (pre ++ a.post m) ([⟨k, 0, [], m + a.size - 1, m + a.size + b.size - 1⟩] ++ suf) (vals ++ va) hf.2.2 (by rw [he]; simp only [List.append_assoc]) (by rw [List.length_append, hp, hla]) (by rw [List.length_append, hv, hva])
      by_cases hb : (evT ask b).2 = 0
      · obtain ⟨vb, hvb, hvb1, hgb⟩ := gb hb
        have h1 := leaf ⟨k, 0, [], m + a.size - 1, m + a.size + b.size - 1⟩ (m + a.size + b.size) (pre ++ a.post m ++ b.post (m + a.size)) suf (vals ++ va ++ vb) (by rw [he]; simp only [List.append_assoc]) (by rw [List.length_append, List.length_append, hp, hla, hlb])
        have g1 : (vals ++ va ++ vb).getD ((m : Int) + a.size - 1).toNat 0 = (evT ask a).1 := by
          apply getD_at
          rw [show ((m : Int) + a.size - 1).toNat = m + (a.size - 1) by omega, List.getElem?_append_left (by rw [List.length_append, hv, hva]; omega), List.getElem?_append_right (by omega), hv, Nat.add_sub_cancel_left]
          exact hva1
        have g2 : (vals ++ va ++ vb).getD ((m : Int) + a.size + b.size - 1).toNat 0 = (evT ask b).1 := by
          apply getD_at
          rw [show ((m : Int) + a.size + b.size - 1).toNat = m + a.size + (b.size - 1) by omega, List.getElem?_append_right (by rw [List.length_append, hv, hva]; omega), List.length_append, hv, hva, Nat.add_sub_cancel_left]
          exact hvb1
        have h2 : valT ask ⟨k, 0, [], m + a.size - 1, m + a.size + b.size - 1⟩ (vals ++ va ++ vb) = (opV k (evT ask a).1 (evT ask b).1, 0) := by
          unfold valT opV
          simp only [g1, g2]
          rcases hf.1 with rfl | rfl | rfl <;> simp
        have e1 : evT ask (.bin k a b) = capV (opV k (evT ask a).1 (evT ask b).1, 0) := by simp only [evT, ha, hb, if_true]
        rw [h2, ← e1] at h1
        constructor
        · intro h0
          refine ⟨va ++ vb ++ [(evT ask (.bin k a b)).1], by simp only [List.length_append, hva, hvb, List.length_singleton, Ex.size], ?_, fun q => ?_⟩
          · simp only [Ex.size]
            rw [List.getElem?_append_right (by rw [List.length_append, hva, hvb]; omega), List.length_append, hva, hvb, show a.size + b.size + 1 - 1 - (a.size + b.size) = 0 by omega]
            rfl
          · have h3 := h1 q
            rw [if_pos h0] at h3
            rw [hsz, hga, hgb, h3]
            simp only [List.append_assoc, Ex.size, Nat.add_assoc]
        · intro h0 q
          have h3 := h1 q
          rw [if_neg h0] at h3
          rw [hsz, hga, hgb, h3, e1]
          rw [e1] at h0
          exact cap_err h0
      · have e1 : evT ask (.bin k a b) = (0, (evT ask b).2) := by simp only [evT, ha, hb, if_true, if_false]
        constructor
        · intro h0
          rw [e1] at h0
          exact absurd h0 hb
        · intro _ q
          rw [hsz, hga, bb hb, e1]
    · have e1 : evT ask (.bin k a b) = (0, (evT ask a).2) := by simp only [evT, ha, if_false]
      constructor
      · intro h0
        rw [e1] at h0
        exact absurd h0 ha
      · intro _ q
        rw [hsz, ba ha, e1]
  | neg a iha =>
    intro m pre suf vals hf he hp hv
    have pa := size_pos a
    have hla := post_len a m
    simp only [Ex.post] at he
    obtain ⟨ga, ba⟩ := iha m pre ([⟨6, 0, [], m + a.size - 1, 0⟩] ++ suf) vals hf (by rw [he]; simp only [List.append_assoc]) hp hv
    have hsz : ∀ q, (Ex.neg a).size + q = a.size + (q + 1) := fun q => by simp only [Ex.size]; omega
    by_cases ha : (evT ask a).2 = 0
    · obtain ⟨va, hva, hva1, hga⟩ := ga ha
      have h1 := leaf ⟨6, 0, [], m + a.size - 1, 0⟩ (m + a.size) (pre ++ a.post m) suf (vals ++ va) (by rw [he]; simp only [List.append_assoc]) (by rw [List.length_append, hp, hla])
      have g1 : (vals ++ va).getD ((m : Int) + a.size - 1).toNat 0 = (evT ask a).1 := by
        apply getD_at
        rw [show ((m : Int) + a.size - 1).toNat = m + (a.size - 1) by omega, List.getElem?_append_right (by omega), hv, Nat.add_sub_cancel_left]
        exact hva1
      have h2 : valT ask ⟨6, 0, [], m + a.size - 1, 0⟩ (vals ++ va) = (- (evT ask a).1, 0) := by
        unfold valT
        simp only [g1]
        rfl
      have e1 : evT ask (.neg a) = capV (- (evT ask a).1, 0) := by simp only [evT, ha, if_true]
      rw [h2, ← e1] at h1
      constructor
      · intro h0
        refine ⟨va ++ [(evT ask (.neg a)).1], by simp only [List.length_append, hva, List.length_singleton, Ex.size], ?_, fun q => ?_⟩
        · simp only [Ex.size]
          rw [List.getElem?_append_right (by omega), hva, show a.size + 1 - 1 - a.size = 0 by omega]
          rfl
        · have h3 := h1 q
          rw [if_pos h0] at h3
          rw [hsz, hga, h3]
          simp only [List.append_assoc, Ex.size, Nat.add_assoc]
      · intro h0 q
        have h3 := h1 q
        rw [if_neg h0] at h3
        rw [hsz, hga, h3, e1]
        rw [e1] at h0
        exact cap_err h0
    · have e1 : evT ask (.neg a) = (0, (evT ask a).2) := by simp only [evT, ha, if_false]
      constructor
      · intro h0
        rw [e1] at h0
        exact absurd h0 ha
      · intro _ q
        rw [hsz, ba ha, e1]
theorem evT_err (ask : List UInt8 → Int × Int) (t : Ex) (h : (evT ask t).2 ≠ 0) : evT ask t = (0, (evT ask t).2) := by
  cases t with
  | num v => exact cap_err h
  | nam s => exact cap_err h
  | bin k a b =>
    by_cases ha : (evT ask a).2 = 0
    · by_cases hb : (evT ask b).2 = 0
      · have e1 : evT ask (.bin k a b) = capV (opV k (evT ask a).1 (evT ask b).1, 0) := by simp only [evT, ha, hb, if_true]
        rw [e1] at h ⊢
        exact cap_err h
      · have e1 : evT ask (.bin k a b) = (0, (evT ask b).2) := by simp only [evT, ha, hb, if_true, if_false]
        rw [e1]
    · have e1 : evT ask (.bin k a b) = (0, (evT ask a).2) := by simp only [evT, ha, if_false]
      rw [e1]
  | neg a =>
    by_cases ha : (evT ask a).2 = 0
    · have e1 : evT ask (.neg a) = capV (- (evT ask a).1, 0) := by simp only [evT, ha, if_true]
      rw [e1] at h ⊢
      exact cap_err h
    · have e1 : evT ask (.neg a) = (0, (evT ask a).2) := by simp only [evT, ha, if_false]
      rw [e1]
theorem ev_tree (ask : List UInt8 → Int × Int) {t : Ex} (h : t.fine) : evL ask (t.post 0) = evT ask t := by
  unfold evL
  rw [post_right h, if_pos rfl, post_len]
  obtain ⟨g, b⟩ := ev_seg ask (t.post 0) (fun j hj => post_used h j (by rwa [post_len] at hj)) t 0 [] [] [] h (by simp) rfl rfl
  by_cases h0 : (evT ask t).2 = 0
  · obtain ⟨vs, hvs, hv1, hg⟩ := g h0
    have h1 := hg 0
    rw [Nat.add_zero] at h1
    rw [h1, List.nil_append]
    show (vs.getLastD 0, 0) = _
    have h2 : vs.getLastD 0 = (evT ask t).1 := by
      rw [List.getLastD_eq_getLast?, List.getLast?_eq_getElem?, hvs, hv1]
      rfl
    rw [h2, ← h0]
  · have h1 := b h0 0
    rw [Nat.add_zero] at h1
    rw [h1]
    exact (evT_err ask t h0).symm
end
section

/-- What is read, by so many steps at most. -/
def pf : Nat → Md → Nat → List Tq → Option Rs
  | 0, _, _, _ => none
  | n + 1, .fac, d, ts =>
    if isSg 40 ts then (if d = 16 then some (.bad ts 3) else if d < 16 then (match ts with
      | [] => none
      | _ :: r => match pf n .sum (d + 1) r with
        | none => none
        | some (.bad r1 w) => some (.bad r1 w)
        | some (.ok a r1) => match r1 with
          | [] => some (.bad [] 8)
          | t2 :: r2 => if isSg 41 (t2 :: r2) then some (.ok a r2) else some (.bad (t2 :: r2) 8)) else none)
    else if isSg 45 ts then (if d = 16 then some (.bad ts 3) else if d < 16 then (match ts with
      | [] => none
      | _ :: r => match pf n .fac (d + 1) r with
        | none => none
        | some (.bad r1 w) => some (.bad r1 w)
        | some (.ok a r1) => some (.ok (.neg a) r1)) else none)
    else match ts with
      | [] => some (.bad [] 8)
      | t :: r => if t.kind = 2 ∧ 0 ≤ t.v ∧ t.v ≤ 1099511627776 then some (.ok (.num t.v) r) else if t.kind = 1 ∧ t.text ≠ [] then some (.ok (.nam t.text) r) else some (.bad (t :: r) 8)
  | n + 1, .prod, d, ts => match pf n .fac d ts with
    | none => none
    | some (.bad r w) => some (.bad r w)
    | some (.ok a r) => pf n (.pt a) d r
  | n + 1, .sum, d, ts => match pf n .prod d ts with
    | none => none
    | some (.bad r w) => some (.bad r w)
    | some (.ok a r) => pf n (.st a) d r
  | n + 1, .pt a, d, ts => if isSg 42 ts then (match ts with
      | [] => none
      | _ :: r => match pf n .fac d r with
        | none => none
        | some (.bad r1 w) => some (.bad r1 w)
        | some (.ok b r1) => pf n (.pt (.bin 5 a b)) d r1) else some (.ok a ts)
  | n + 1, .st a, d, ts => if isSg 43 ts then (match ts with
      | [] => none
      | _ :: r => match pf n .prod d r with
        | none => none
        | some (.bad r1 w) => some (.bad r1 w)
        | some (.ok b r1) => pf n (.st (.bin 3 a b)) d r1)
    else if isSg 45 ts then (match ts with
      | [] => none
      | _ :: r => match pf n .prod d r with
        | none => none
        | some (.bad r1 w) => some (.bad r1 w)
        | some (.ok b r1) => pf n (.st (.bin 4 a b)) d r1) else some (.ok a ts)
theorem pf_sound : ∀ (n : Nat) (m : Md) (d : Nat) (ts : List Tq) (res : Rs), pf n m d ts = some res → Rd m d ts res
  | 0, _, _, _, _, h => by cases h
  | n + 1, .prod, d, ts, res, h => by
    simp only [pf] at h
    split at h
    · cases h
    · rename_i r w hq
      cases h
      exact .prodBad (pf_sound n _ _ _ _ hq)
    · rename_i a r hq
      exact .prodOk (pf_sound n _ _ _ _ hq) (pf_sound n _ _ _ _ h)
  | n + 1, .sum, d, ts, res, h => by
    simp only [pf] at h
    split at h
    · cases h
    · rename_i r w hq
      cases h
      exact .sumBad (pf_sound n _ _ _ _ hq)
    · rename_i a r hq
      exact .sumOk (pf_sound n _ _ _ _ hq) (pf_sound n _ _ _ _ h)
  | n + 1, .pt a, d, ts, res, h => by
    simp only [pf] at h
    by_cases hs : isSg 42 ts = true
    · rw [if_pos hs] at h
      cases ts with
      | nil => cases hs
      | cons t r =>
        simp only [] at h
        split at h
        · cases h
        · rename_i r1 w hq
          cases h
          exact .starBad hs (pf_sound n _ _ _ _ hq)
        · rename_i b r1 hq
          exact .starOk hs (pf_sound n _ _ _ _ hq) (pf_sound n _ _ _ _ h)
    · rw [if_neg hs] at h
      cases h
      exact .starEnd (by simpa using hs)
  | n + 1, .st a, d, ts, res, h => by
    simp only [pf] at h
    by_cases hs : isSg 43 ts = true
    · rw [if_pos hs] at h
      cases ts with
      | nil => cases hs
      | cons t r =>
        simp only [] at h
        split at h
        · cases h
        · rename_i r1 w hq
          cases h
          exact .plusBad hs (pf_sound n _ _ _ _ hq)
        · rename_i b r1 hq
          exact .plusOk hs (pf_sound n _ _ _ _ hq) (pf_sound n _ _ _ _ h)
    · rw [if_neg hs] at h
      by_cases hs2 : isSg 45 ts = true
      · rw [if_pos hs2] at h
        cases ts with
        | nil => cases hs2
        | cons t r =>
          simp only [] at h
          split at h
          · cases h
          · rename_i r1 w hq
            cases h
            exact .subBad hs2 (pf_sound n _ _ _ _ hq)
          · rename_i b r1 hq
            exact .subOk hs2 (pf_sound n _ _ _ _ hq) (pf_sound n _ _ _ _ h)
      · rw [if_neg hs2] at h
        cases h
        exact .sumEnd (by simpa using hs) (by simpa using hs2)
  | n + 1, .fac, d, ts, res, h => by
    simp only [pf] at h
    by_cases hs : isSg 40 ts = true
    · rw [if_pos hs] at h
      by_cases hd : d = 16
      · rw [if_pos hd] at h
        cases h
        exact .deepP hs hd
      · rw [if_neg hd] at h
        by_cases hd2 : d < 16
        · rw [if_pos hd2] at h
          cases ts with
          | nil => cases hs
          | cons t r =>
            simp only [] at h
            split at h
            · cases h
            · rename_i r1 w hq
              cases h
              exact .parBad hs hd2 (pf_sound n _ _ _ _ hq)
            · rename_i a r1 hq
              cases r1 with
              | nil =>
                cases h
                exact .parOpen hs hd2 (pf_sound n _ _ _ _ hq) rfl
              | cons t2 r2 =>
                simp only [] at h
                by_cases hc : isSg 41 (t2 :: r2) = true
                · rw [if_pos hc] at h
                  cases h
                  exact .parOk hs hd2 (pf_sound n _ _ _ _ hq) hc
                · rw [if_neg hc] at h
                  cases h
                  exact .parOpen hs hd2 (pf_sound n _ _ _ _ hq) (by simpa using hc)
        · rw [if_neg hd2] at h
          cases h
    · rw [if_neg hs] at h
      by_cases hs2 : isSg 45 ts = true
      · rw [if_pos hs2] at h
        by_cases hd : d = 16
        · rw [if_pos hd] at h
          cases h
          exact .deepN hs2 hd
        · rw [if_neg hd] at h
          by_cases hd2 : d < 16
          · rw [if_pos hd2] at h
            cases ts with
            | nil => cases hs2
            | cons t r =>
              simp only [] at h
              split at h
              · cases h
              · rename_i r1 w hq
                cases h
                exact .negBad hs2 hd2 (pf_sound n _ _ _ _ hq)
              · rename_i a r1 hq
                cases h
                exact .negOk hs2 hd2 (pf_sound n _ _ _ _ hq)
          · rw [if_neg hd2] at h
            cases h
      · rw [if_neg hs2] at h
        cases ts with
        | nil =>
          cases h
          exact .noneEnd
        | cons t r =>
          simp only [] at h
          by_cases h2 : t.kind = 2 ∧ 0 ≤ t.v ∧ t.v ≤ 1099511627776
          · rw [if_pos h2] at h
            cases h
            exact .number h2.1 h2.2.1 h2.2.2
          · rw [if_neg h2] at h
            by_cases h3 : t.kind = 1 ∧ t.text ≠ []
            · rw [if_pos h3] at h
              cases h
              exact .name h3.1 h3.2
            · rw [if_neg h3] at h
              cases h
              exact .noneTok (by simpa using hs) (by simpa using hs2) h2 h3
/-! Readings of texts put together. -/
def sgT (c : UInt8) : Tq := ⟨3, [c], 0⟩
theorem sg_sgT (c : UInt8) (r : List Tq) : isSg c (sgT c :: r) = true := by simp [isSg, sgT]
theorem sg_sgT_ne {c c' : UInt8} (h : c ≠ c') (r : List Tq) : isSg c' (sgT c :: r) = false := sg_not (sg_sgT c r) h
/-- A whole text in brackets is a factor. -/
theorem rd_par {S : List Tq} {a : Ex} (h : Rd .sum 0 S (.ok a [])) {d : Nat} (hd : d + 1 + cntQ S ≤ 16) (p : List Tq) : Rd .fac d (sgT 40 :: (S ++ sgT 41 :: p)) (.ok a p) := by
  obtain ⟨c, e, k⟩ := rd_app h a [] rfl
  rw [List.append_nil] at e
  subst e
  have h1 := k (sgT 41 :: p) (d + 1) ⟨sg_sgT_ne (by decide) _, sg_sgT_ne (by decide) _, sg_sgT_ne (by decide) _⟩ hd
  exact .parOk (sg_sgT 40 _) (by omega) h1 (sg_sgT 41 _)
theorem rd_paren {S : List Tq} {a : Ex} (h : Rd .sum 0 S (.ok a [])) (hn : cntQ S ≤ 15) : Rd .sum 0 (sgT 40 :: (S ++ [sgT 41])) (.ok a []) :=
  .sumOk (.prodOk (rd_par h (by omega) []) (.starEnd rfl)) (.sumEnd rfl rfl)
theorem rd_plus {S T : List Tq} {a b : Ex} (h : Rd .sum 0 S (.ok a [])) (k : Rd .sum 0 T (.ok b [])) (hn : cntQ S ≤ 15) (hm : cntQ T ≤ 15) : Rd .sum 0 (sgT 40 :: (S ++ sgT 41 :: sgT 43 :: sgT 40 :: (T ++ [sgT 41]))) (.ok (.bin 3 a b) []) :=
  .sumOk (.prodOk (rd_par h (by omega) _) (.starEnd (sg_sgT_ne (by decide) _))) (.plusOk (sg_sgT 43 _) (.prodOk (rd_par k (by omega) []) (.starEnd rfl)) (.sumEnd rfl rfl))
theorem rd_minus {S T : List Tq} {a b : Ex} (h : Rd .sum 0 S (.ok a [])) (k : Rd .sum 0 T (.ok b [])) (hn : cntQ S ≤ 15) (hm : cntQ T ≤ 15) : Rd .sum 0 (sgT 40 :: (S ++ sgT 41 :: sgT 45 :: sgT 40 :: (T ++ [sgT 41]))) (.ok (.bin 4 a b) []) :=
  .sumOk (.prodOk (rd_par h (by omega) _) (.starEnd (sg_sgT_ne (by decide) _))) (.subOk (sg_sgT 45 _) (.prodOk (rd_par k (by omega) []) (.starEnd rfl)) (.sumEnd rfl rfl))
theorem rd_times {S T : List Tq} {a b : Ex} (h : Rd .sum 0 S (.ok a [])) (k : Rd .sum 0 T (.ok b [])) (hn : cntQ S ≤ 15) (hm : cntQ T ≤ 15) : Rd .sum 0 (sgT 40 :: (S ++ sgT 41 :: sgT 42 :: sgT 40 :: (T ++ [sgT 41]))) (.ok (.bin 5 a b) []) :=
  .sumOk (.prodOk (rd_par h (by omega) _) (.starOk (sg_sgT 42 _) (rd_par k (by omega) []) (.starEnd rfl))) (.sumEnd rfl rfl)
theorem rd_minus1 {S : List Tq} {a : Ex} (h : Rd .sum 0 S (.ok a [])) (hn : cntQ S ≤ 14) : Rd .sum 0 (sgT 45 :: sgT 40 :: (S ++ [sgT 41])) (.ok (.neg a) []) :=
  .sumOk (.prodOk (.negOk (sg_sgT 45 _) (by decide) (rd_par h (by omega) [])) (.starEnd rfl)) (.sumEnd rfl rfl)
/-- What is read is read as well with other tokens behind. -/
theorem rd_same {m : Md} {d : Nat} {ts : List Tq} {res : Rs} (h : Rd m d ts res) : ∀ a r, res = .ok a r → ∃ c, ts = c ++ r ∧ ∀ p, m.stops p → Rd m d (c ++ p) (.ok a p) := by
  induction h with
  | @parOk d t r0 a0 t2 r2 h hd hs hc ih =>
    intro a r e
    cases e
    obtain ⟨c, e1, k⟩ := ih a0 (t2 :: r2) rfl
    refine ⟨t :: (c ++ [t2]), by rw [e1]; simp, fun p _ => ?_⟩
    have hst : Md.sum.stops (t2 :: p) := ⟨sg_not (c := 41) hc (by decide), sg_not (c := 41) hc (by decide), sg_not (c := 41) hc (by decide)⟩
    have := k (t2 :: p) hst
    rw [List.cons_append, List.append_assoc]
    exact .parOk h hd this hc
  | @negOk d t r0 a0 r1 h hd hs ih =>
    intro a r e
    cases e
    obtain ⟨c, e1, k⟩ := ih a0 r1 rfl
    refine ⟨t :: c, by rw [e1]; rfl, fun p _ => ?_⟩
    exact .negOk h hd (k p trivial)
  | @number d t r0 hk h0 h1 =>
    intro a r e
    cases e
    exact ⟨[t], rfl, fun p _ => .number hk h0 h1⟩
  | @name d t r0 hk h0 =>
    intro a r e
    cases e
    exact ⟨[t], rfl, fun p _ => .name hk h0⟩
  | @prodOk d ts a0 r0 res hf hp ih1 ih2 =>
    intro a r e
    obtain ⟨c1, e1, k1⟩ := ih1 a0 r0 rfl
    obtain ⟨c2, e2, k2⟩ := ih2 a r e
    refine ⟨c1 ++ c2, by rw [e1, e2, List.append_assoc], fun p hst => ?_⟩
    rw [List.append_assoc]
    exact .prodOk (k1 (c2 ++ p) trivial) (k2 p hst)
  | @starOk d t r0 a0 b r1 res h hf hp ih1 ih2 =>
    intro a r e
    obtain ⟨c1, e1, k1⟩ := ih1 b r1 rfl
    obtain ⟨c2, e2, k2⟩ := ih2 a r e
    refine ⟨t :: (c1 ++ c2), by rw [e1, e2]; simp, fun p hst => ?_⟩
    rw [List.cons_append, List.append_assoc]
    exact .starOk h (k1 (c2 ++ p) trivial) (k2 p hst)
  | @starEnd d ts a0 h =>
    intro a r e
    cases e
    exact ⟨[], rfl, fun p hst => .starEnd hst⟩
  | @sumOk d ts a0 r0 res hf hp ih1 ih2 =>
    intro a r e
    obtain ⟨c1, e1, k1⟩ := ih1 a0 r0 rfl
    obtain ⟨c2, e2, k2⟩ := ih2 a r e
    refine ⟨c1 ++ c2, by rw [e1, e2, List.append_assoc], fun p hst => ?_⟩
    rw [List.append_assoc]
    have h42 := rd_star hf a0 r0 rfl (.inl rfl)
    rw [e2] at h42
    exact .sumOk (k1 (c2 ++ p) (sg_app h42 hst.1)) (k2 p hst)
  | @plusOk d t r0 a0 b r1 res h hf hp ih1 ih2 =>
    intro a r e
    obtain ⟨c1, e1, k1⟩ := ih1 b r1 rfl
    obtain ⟨c2, e2, k2⟩ := ih2 a r e
    refine ⟨t :: (c1 ++ c2), by rw [e1, e2]; simp, fun p hst => ?_⟩
    rw [List.cons_append, List.append_assoc]
    have h42 := rd_star hf b r1 rfl (.inl rfl)
    rw [e2] at h42
    exact .plusOk h (k1 (c2 ++ p) (sg_app h42 hst.1)) (k2 p hst)
  | @subOk d t r0 a0 b r1 res h hf hp ih1 ih2 =>
    intro a r e
    obtain ⟨c1, e1, k1⟩ := ih1 b r1 rfl
    obtain ⟨c2, e2, k2⟩ := ih2 a r e
    refine ⟨t :: (c1 ++ c2), by rw [e1, e2]; simp, fun p hst => ?_⟩
    rw [List.cons_append, List.append_assoc]
    have h42 := rd_star hf b r1 rfl (.inl rfl)
    rw [e2] at h42
    exact .subOk h (k1 (c2 ++ p) (sg_app h42 hst.1)) (k2 p hst)
  | @sumEnd d ts a0 h h2 =>
    intro a r e
    cases e
    exact ⟨[], rfl, fun p hst => .sumEnd hst.2.1 hst.2.2⟩
  | _ => intro a r e; cases e
/-- What is read alone of what has been read is the same. -/
theorem rd_again {L : List Tq} {a : Ex} {r : List Tq} (h : Rd .sum 0 L (.ok a r)) : ∃ c, L = c ++ r ∧ Rd .sum 0 c (.ok a []) := by
  obtain ⟨c, e, k⟩ := rd_same h a r rfl
  have h2 := k [] ⟨rfl, rfl, rfl⟩
  rw [List.append_nil] at h2
  exact ⟨c, e, h2⟩
end
section

/-- The tokens of a text without places. -/
def Qs (s : List UInt8) : List Tq := (lxRun 1 1 s).1.map Tk.q
def endQ : Tq := ⟨4, [], 0⟩
theorem tokQ (b : UInt8) (r : List UInt8) (l1 c1 l2 c2 : Int) : (lxTok b r l1 c1).map Tk.q = (lxTok b r l2 c2).map Tk.q := by
  unfold lxTok
  split <;> rfl
theorem q_pos : ∀ (n : Nat) (s : List UInt8), s.length ≤ n → ∀ l1 c1 l2 c2 : Int, (lxRun l1 c1 s).1.map Tk.q = (lxRun l2 c2 s).1.map Tk.q
  | _, [], _, _, _, _, _ => rfl
  | 0, b :: r, h, _, _, _, _ => by simp at h
  | n + 1, b :: r, h, l1, c1, l2, c2 => by
    rw [List.length_cons] at h
    by_cases hb : b.toNat = 10
    · rw [lxRun_lf _ _ hb, lxRun_lf _ _ hb]
      simp only [List.map_cons]
      rw [q_pos n r (by omega) (l1 + 1) 1 (l2 + 1) 1]
      rfl
    · rw [lxRun_cut _ _ hb, lxRun_cut _ _ hb]
      simp only [List.map_append]
      rw [tokQ b r l1 c1 l2 c2, q_pos n (r.drop (lxCut b r).more) (by rw [List.length_drop]; omega) l1 _ l2 (c2 + ((lxCut b r).more : Nat) + 1)]
/-- ( ) * + - -/
def isOpX (x : UInt8) : Prop := x = 40 ∨ x = 41 ∨ x = 42 ∨ x = 43 ∨ x = 45
theorem op_facts {x : UInt8} (h : isOpX x) : isNam x = false ∧ isWrd x = false ∧ x.toNat ≠ 35 ∧ x.toNat ≠ 47 ∧ x.toNat ≠ 10 ∧ ∀ t, lxCut x t = ⟨0, 3, 0, 0⟩ := by
  have hf : ∀ t, lxCut x t = ⟨0, 3, 0, 0⟩ := by
    intro t
    rcases h with rfl | rfl | rfl | rfl | rfl
    all_goals
      unfold lxCut
      rw [if_neg (by decide), if_neg (by decide), if_neg (by decide), if_neg (fun h => absurd h.1 (by decide)), if_neg (fun h => absurd h.1 (by decide)), if_pos (by decide)]
  rcases h with rfl | rfl | rfl | rfl | rfl
  all_goals exact ⟨by decide, by decide, by decide, by decide, by decide, hf⟩
theorem cut_op {x : UInt8} (hx : isOpX x) (b : UInt8) (hb : b.toNat ≠ 47) (r t : List UInt8) : lxCut b (r ++ x :: t) = lxCut b r := by
  obtain ⟨p1, p2, p3, p4, -, -⟩ := op_facts hx
  have hh : ((r ++ x :: t).head?.map UInt8.toNat) = some 35 ↔ (r.head?.map UInt8.toNat) = some 35 := by
    cases r with
    | nil =>
      show (some x.toNat = some 35) ↔ none = some 35
      simp [p3]
    | cons a r => exact Iff.rfl
  unfold lxCut
  rw [take_stop isNam x p1, take_stop isWrd x p2]
  simp only [hh]
  have e1 : ¬ (b.toNat = 47 ∧ ((r ++ x :: t).head?.map UInt8.toNat) = some 47) := fun h => hb h.1
  have e2 : ¬ (b.toNat = 47 ∧ (r.head?.map UInt8.toNat) = some 47) := fun h => hb h.1
  simp only [if_neg e1, if_neg e2]
/-- How many ( and - a text has. -/
def deepN (s : List UInt8) : Nat := s.countP fun b => decide (b = 40) || decide (b = 45)
theorem deep_cons (b : UInt8) (r : List UInt8) : deepN (b :: r) = (if b = 40 ∨ b = 45 then 1 else 0) + deepN r := by
  unfold deepN
  rw [List.countP_cons]
  simp only [Bool.or_eq_true, decide_eq_true_eq]
  omega
theorem deep_drop (r : List UInt8) (n : Nat) : deepN (r.drop n) ≤ deepN r := by
  unfold deepN
  exact List.Sublist.countP_le (List.drop_sublist n r)
theorem cnt_tok (b : UInt8) (r : List UInt8) (l c : Int) : cntQ ((lxTok b r l c).map Tk.q) ≤ if b = 40 ∨ b = 45 then 1 else 0 := by
  unfold lxTok
  split
  · simp only [List.map_cons, List.map_nil]
    split
    · unfold cntQ
      exact Nat.le_trans List.countP_le_length (Nat.le_refl _)
    · rename_i h1 h2
      refine Nat.le_of_eq ?_
      unfold cntQ
      rw [List.countP_eq_zero]
      intro t ht
      rw [List.mem_singleton] at ht
      subst ht
      simp only [Tk.q, Bool.and_eq_true, Bool.or_eq_true, decide_eq_true_eq, List.take_succ_cons, List.cons.injEq]
      rintro ⟨-, h | h⟩
      · exact h2 (.inl h.1)
      · exact h2 (.inr h.1)
  · simp [cntQ]
/-- A text of one line, without remarks, and what it is ahead of a sign. -/
theorem q_join : ∀ (n : Nat) (s : List UInt8), s.length ≤ n → (∀ b ∈ s, b.toNat ≠ 10 ∧ b.toNat ≠ 47) → ∃ X, (∀ line col : Int, (lxRun line col s).1.map Tk.q = X ++ [endQ]) ∧ cntQ X ≤ deepN s ∧
    ∀ x t, isOpX x → ∀ line col : Int, (lxRun line col (s ++ x :: t)).1.map Tk.q = X ++ sgT x :: Qs t
  | _, [], _, _ => by
    refine ⟨[], fun _ _ => rfl, Nat.zero_le _, fun x t hx line col => ?_⟩
    obtain ⟨-, -, -, -, h10, hc⟩ := op_facts hx
    rw [List.nil_append, lxRun_cut _ _ h10]
    simp only [hc, List.map_append, List.drop_zero, lxTok]
    rw [if_pos (by simp), q_pos t.length t (Nat.le_refl _) line _ 1 1]
    rfl
  | 0, b :: r, h, _ => by simp at h
  | n + 1, b :: r, h, hs => by
    rw [List.length_cons] at h
    obtain ⟨h10, h47⟩ := hs b (List.mem_cons_self ..)
    have hle := cut_le b r
    obtain ⟨X, hX, hcn, hj⟩ := q_join n (r.drop (lxCut b r).more) (by rw [List.length_drop]; omega) (fun y hy => hs y (List.mem_cons_of_mem _ (List.mem_of_mem_drop hy)))
    refine ⟨(lxTok b r 1 1).map Tk.q ++ X, fun line col => ?_, ?_, fun x t hx line col => ?_⟩
    · rw [lxRun_cut _ _ h10]
      simp only [List.map_append]
      rw [tokQ b r line col 1 1, hX, List.append_assoc]
    · rw [cnt_app, deep_cons]
      have h1 := cnt_tok b r 1 1
      have h2 := deep_drop r (lxCut b r).more
      omega
    · have hc := cut_op hx b h47 r t
      rw [List.cons_append, lxRun_cut _ _ h10]
      simp only [List.map_append]
      rw [hc, List.drop_append_of_le_length hle, hj x t hx]
      have e1 : lxTok b (r ++ x :: t) line col = lxTok b r line col := by
        unfold lxTok
        rw [hc, ← List.cons_append, List.take_append_of_le_length (by rw [List.length_cons]; omega)]
      rw [e1, tokQ b r line col 1 1, List.append_assoc]
/-- The tokens without the last end. -/
def Ts (s : List UInt8) : List Tq := (Qs s).dropLast
structure Plain (s : List UInt8) : Prop where
  all : ∀ b ∈ s, b.toNat ≠ 10 ∧ b.toNat ≠ 47
theorem qs_join {s : List UInt8} (h : Plain s) {x : UInt8} (hx : isOpX x) (t : List UInt8) : Qs (s ++ x :: t) = Ts s ++ sgT x :: Qs t := by
  obtain ⟨X, hX, -, hj⟩ := q_join s.length s (Nat.le_refl _) h.all
  unfold Ts Qs
  rw [hX, hj x t hx, List.dropLast_concat]
  rfl
theorem ts_deep {s : List UInt8} (h : Plain s) : cntQ (Ts s) ≤ deepN s := by
  obtain ⟨X, hX, hc, -⟩ := q_join s.length s (Nat.le_refl _) h.all
  unfold Ts Qs
  rw [hX, List.dropLast_concat]
  exact hc
theorem qs_end {s : List UInt8} (h : Plain s) : Qs s = Ts s ++ [endQ] := by
  obtain ⟨X, hX, -, -⟩ := q_join s.length s (Nat.le_refl _) h.all
  unfold Ts Qs
  rw [hX, List.dropLast_concat]
theorem plain_nil : Plain [] := ⟨fun _ h => by cases h⟩
theorem qs_nil : Qs [] = [endQ] := rfl
theorem ts_of {s : List UInt8} {X : List Tq} (h : Qs s = X ++ [endQ]) : Ts s = X := by
  unfold Ts
  rw [h, List.dropLast_concat]
/-- ( s ) -/
theorem ts_paren {s : List UInt8} (h : Plain s) : Ts (40 :: (s ++ [41])) = sgT 40 :: (Ts s ++ [sgT 41]) := by
  apply ts_of
  have h1 := qs_join plain_nil (x := 40) (.inl rfl) (s ++ [41])
  rw [List.nil_append] at h1
  rw [h1, qs_join h (x := 41) (.inr (.inl rfl)) [], qs_nil]
  simp only [Ts, Qs, List.cons_append, List.nil_append, List.append_assoc]
  rfl
/-- - ( s ) -/
theorem ts_minus {s : List UInt8} (h : Plain s) : Ts (45 :: 40 :: (s ++ [41])) = sgT 45 :: sgT 40 :: (Ts s ++ [sgT 41]) := by
  apply ts_of
  have h0 := qs_join plain_nil (x := 45) (.inr (.inr (.inr (.inr rfl)))) (40 :: (s ++ [41]))
  have h1 := qs_join plain_nil (x := 40) (.inl rfl) (s ++ [41])
  rw [List.nil_append] at h0 h1
  rw [h0, h1, qs_join h (x := 41) (.inr (.inl rfl)) [], qs_nil]
  simp only [Ts, Qs, List.cons_append, List.nil_append, List.append_assoc]
  rfl
/-- ( s ) x ( t ) -/
theorem ts_two {s t : List UInt8} (h : Plain s) (k : Plain t) {x : UInt8} (hx : isOpX x) : Ts (40 :: (s ++ 41 :: x :: 40 :: (t ++ [41]))) = sgT 40 :: (Ts s ++ sgT 41 :: sgT x :: sgT 40 :: (Ts t ++ [sgT 41])) := by
  apply ts_of
  have h1 := qs_join plain_nil (x := 40) (.inl rfl) (s ++ 41 :: x :: 40 :: (t ++ [41]))
  have h2 := qs_join plain_nil hx (40 :: (t ++ [41]))
  have h3 := qs_join plain_nil (x := 40) (.inl rfl) (t ++ [41])
  rw [List.nil_append] at h1 h2 h3
  rw [h1, qs_join h (x := 41) (.inr (.inl rfl)) _, h2, h3, qs_join k (x := 41) (.inr (.inl rfl)) [], qs_nil]
  simp only [Ts, Qs, List.cons_append, List.nil_append, List.append_assoc]
  rfl
end
section
open Go.ChangeShapes Go.WideShapes Go.ChangeAt Go.RowKit Go.Sort BigFrame

/-- A row of texts. -/
abbrev txC (s : List UInt8) : List Value := [.string (strOf s)]
theorem tx_len (s : List UInt8) : (txC s).length = 1 := rfl
abbrev Txs (w : World) (ao : Option Addr) (cap : Nat) (l : List (List UInt8)) : Prop := Recs txC 1 w ao cap l
theorem txs_cell {w : World} {ao : Option Addr} {cap : Nat} {l : List (List UInt8)} (h : Txs w ao cap l) {t : Nat} (ht : t < l.length) (x : List UInt8) (hx : l[t] = x) : ∃ b o, ao = some ⟨b, o, none⟩ ∧ w.cell? ⟨b, o + t, none⟩ = some (.string (strOf x)) := by
  subst hx
  obtain ⟨b, o, e, hc⟩ := h.cell t ht
  have h1 := hc 0 (by omega)
  rw [Nat.mul_one] at h1
  exact ⟨b, o, e, h1⟩
theorem tx_one (l : List (List UInt8)) : ∀ u ∈ l.flatMap txC, u.oneCell' = true := by
  intro u hu
  obtain ⟨x, _, h⟩ := List.mem_flatMap.1 hu
  simp only [List.mem_cons, List.not_mem_nil, or_false] at h
  rw [h]
  rfl
theorem tx_olds (w : World) (t : List UInt8) : ∀ ad, (some ⟨w.heap.size, 0, none⟩ : Option Addr) = some ad → ∀ j u, ([t].flatMap txC)[j]? = some u → (w.alloc (.cells ([t].flatMap txC).toArray 9)).cell? (ad.add j) = some u :=
  recs_olds tx_len (by decide) (recs_lit (l := [t]) (n := 1) tx_len (heap_alloc_new w _) rfl (by omega))
theorem str_row : (Tryz.prog.info? 9).map (fun i => (i.zero, i.size, i.bytes)) = some (some (Value.string ⟨#[]⟩), 1, 16) := by kernel_rfl
/-- What Names tells. -/
def NamesSays (W : World) (l : List (List UInt8)) (x : Ending) (w' : World) : Prop := ∃ so c, x = .returned (.slice so l.length c) ∧ Txs w' so c l ∧ Made W w'
/-- A name, its value, and what is answered with it. -/
structure Nm where
  name : List UInt8
  v : Int
  e : Int
abbrev Nm.cells (t : Nm) : List Value := [.string (strOf t.name), .int .i64 t.v, .int .i64 t.e]
theorem nm_len (t : Nm) : t.cells.length = 3 := rfl
abbrev Nms (w : World) (ao : Option Addr) (cap : Nat) (l : List Nm) : Prop := Recs Nm.cells 3 w ao cap l
theorem nms_cells {w : World} {ao : Option Addr} {cap : Nat} {l : List Nm} (h : Nms w ao cap l) {t : Nat} (ht : t < l.length) (x : Nm) (hx : l[t] = x) : ∃ b o, ao = some ⟨b, o, none⟩ ∧
    w.cell? ⟨b, o + t * 3, none⟩ = some (.string (strOf x.name)) ∧ w.cell? ⟨b, o + t * 3 + 1, none⟩ = some (.int .i64 x.v) ∧ w.cell? ⟨b, o + t * 3 + 2, none⟩ = some (.int .i64 x.e) := by
  subst hx
  obtain ⟨b, o, e, hc⟩ := h.cell t ht
  exact ⟨b, o, e, hc 0 (by omega), hc 1 (by omega), hc 2 (by omega)⟩
/-- What is answered for a name. -/
def askL : List Nm → List UInt8 → Int × Int
  | [], _ => (0, 4)
  | x :: r, s => if x.name = s then (x.v, x.e) else askL r s
end
section
open Go.ChangeShapes Go.WideShapes Go.ChangeAt Go.RowKit Go.Sort BigFrame

abbrev EntersX (K : FuncId) : Prop := ∀ (args : Array Value) (w : World), Sem.run Tryz.prog (callFunc K args) w = .ok (.enter K args) w
/-- All blocks but F's stand. -/
structure Out (F : Nat → Prop) (u u' : World) : Prop where
  os : u'.os = u.os
  tape : u'.tape = u.tape
  output : u'.output = u.output
  size : u.heap.size ≤ u'.heap.size
  block : ∀ g, g < u.heap.size → ¬ F g → u'.heap[g]? = u.heap[g]?
theorem Out.refl (F : Nat → Prop) (u : World) : Out F u u := ⟨rfl, rfl, rfl, Nat.le_refl _, fun _ _ _ => rfl⟩
theorem Out.made {F : Nat → Prop} {u u' : World} (h : Made u u') : Out F u u' := ⟨h.os, h.tape, h.output, h.size, fun g hg _ => h.block g hg⟩
theorem Out.none {F : Nat → Prop} {u u' : World} (h : Out F u u') (hF : ∀ g, ¬ F g) : Made u u' := ⟨h.os, h.tape, h.output, h.size, fun g hg => h.block g hg (hF g)⟩
/-- A function value K with captured cells is asked: it tells ask; R: what it has been asked, its own blocks F, the world; W: the world in which the asking begins. -/
structure Asks (W : World) (K : FuncId) (caps : Array Value) (ask : List UInt8 → Int × Int) (R : List (List UInt8) → (Nat → Prop) → World → Prop) : Prop where
  enters : EntersX K
  keep : ∀ acc F u u', R acc F u → (∀ g, F g ∨ g < W.heap.size → u'.heap[g]? = u.heap[g]?) → u'.os = u.os → u'.tape = u.tape → u'.output = u.output → u.heap.size ≤ u'.heap.size → R acc F u'
  fits : ∀ acc F u, R acc F u → ∀ g, F g → g < u.heap.size
  ask : ∀ acc F u s, R acc F u → Calls Tryz.prog K (#[.string (strOf s)] ++ caps) u fun x u' => x = .returned (.tuple #[.int .i64 (ask s).1, .int .i64 (ask s).2]) ∧ ∃ F', R (acc ++ [s]) F' u' ∧ (∀ g, F' g → F g ∨ u.heap.size ≤ g) ∧ Out F u u'
/-- The names that are asked. -/
def askF (ask : List UInt8 → Int × Int) (e : List Tm) : Nat → Nat → List Int → List (List UInt8)
  | 0, _, _ => []
  | m + 1, i, vals => match e[i]? with
    | none => []
    | some t => if usedB e i then (if t.kind = 2 then [t.name] else []) ++ (if (capV (valT ask t vals)).2 = 0 then askF ask e m (i + 1) (vals ++ [(capV (valT ask t vals)).1]) else []) else askF ask e m (i + 1) (vals ++ [0])
def askedL (ask : List UInt8 → Int × Int) (e : List Tm) : List (List UInt8) := if rightXB e then askF ask e e.length 0 [] else []
def EvSays (w : World) (F : Nat → Prop) (ask : List UInt8 → Int × Int) (e : List Tm) (R : List (List UInt8) → (Nat → Prop) → World → Prop) (x : Ending) (w' : World) : Prop :=
  x = .returned (.tuple #[.int .i64 (evL ask e).1, .int .i64 (evL ask e).2]) ∧ ∃ F', R (askedL ask e) F' w' ∧ (∀ g, F' g → F g ∨ w.heap.size ≤ g) ∧ Out F w w'
end
end Go.Proofs.YtnfmlmamgkpocaaGreatDoor
