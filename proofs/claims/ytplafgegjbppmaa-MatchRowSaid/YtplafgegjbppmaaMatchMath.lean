/- Masks and assignments as plain data: the least assignment as the first one that a search in order finds; there is one just if Hall's condition holds; it does not hang on the order of the masks, nor on higher bits. No condition but the ranges named. -/
namespace Go.Proofs.Ytplafgegjbppmaa

def hasN (m s : Nat) : Bool := m / 2 ^ s % 2 == 1
/-- One slot tried for the next mask, behind what is taken. -/
def pickS (k : List Nat → Option (List Nat)) (m : Nat) (a : List Nat) (s : Nat) : Option (List Nat) := if hasN m s && !a.contains s then k (a ++ [s]) else none
/-- The first assignment that goes on from some slots. -/
def search : List Nat → List Nat → Option (List Nat)
  | [], a => some a
  | m :: r, a => (pickS (search r) m a 0).or ((pickS (search r) m a 1).or ((pickS (search r) m a 2).or (pickS (search r) m a 3)))
def fitsN (ns : List Nat) : Bool := (search ns []).isSome

theorem search_hit (m : Nat) (r a l : List Nat) (s : Nat) (hs : s < 4) (h0 : ∀ j, j < s → pickS (search r) m a j = none) (h : pickS (search r) m a s = some l) : search (m :: r) a = some l := by
  unfold search
  have hc : s = 0 ∨ s = 1 ∨ s = 2 ∨ s = 3 := by omega
  rcases hc with rfl | rfl | rfl | rfl
  · rw [h]; rfl
  · rw [h0 0 (by omega), h]; rfl
  · rw [h0 0 (by omega), h0 1 (by omega), h]; rfl
  · rw [h0 0 (by omega), h0 1 (by omega), h0 2 (by omega), h]; rfl
theorem search_miss (m : Nat) (r a : List Nat) (h0 : ∀ j, j < 4 → pickS (search r) m a j = none) : search (m :: r) a = none := by
  unfold search
  rw [h0 0 (by omega), h0 1 (by omega), h0 2 (by omega), h0 3 (by omega)]; rfl
theorem search_some (m : Nat) (r a l : List Nat) (h : search (m :: r) a = some l) : ∃ s, s < 4 ∧ pickS (search r) m a s = some l := by
  unfold search at h
  cases h0 : pickS (search r) m a 0 with
  | some x => rw [h0] at h; exact ⟨0, by omega, h0.trans h⟩
  | none =>
    cases h1 : pickS (search r) m a 1 with
    | some x => rw [h0, h1] at h; exact ⟨1, by omega, h1.trans h⟩
    | none =>
      cases h2 : pickS (search r) m a 2 with
      | some x => rw [h0, h1, h2] at h; exact ⟨2, by omega, h2.trans h⟩
      | none =>
        rw [h0, h1, h2] at h
        exact ⟨3, by omega, h⟩
/-- Each mask allows its slot. -/
def good : List Nat → List Nat → Prop
  | [], [] => True
  | m :: r, s :: t => hasN m s = true ∧ s < 4 ∧ good r t
  | _, _ => False
theorem good_len : ∀ (r t : List Nat), good r t → t.length = r.length
  | [], [], _ => rfl
  | _ :: r, _ :: t, h => by simp [good_len r t h.2.2]
  | [], _ :: _, h => absurd h (by simp [good])
  | _ :: _, [], h => absurd h (by simp [good])
theorem pick_some (k : List Nat → Option (List Nat)) (m : Nat) (a l : List Nat) (s : Nat) (h : pickS k m a s = some l) : hasN m s = true ∧ s ∉ a ∧ k (a ++ [s]) = some l := by
  unfold pickS at h
  by_cases hc : (hasN m s && !a.contains s) = true
  · rw [if_pos hc] at h
    simp only [Bool.and_eq_true, Bool.not_eq_true', List.contains_eq_mem, decide_eq_false_iff_not] at hc
    exact ⟨hc.1, hc.2, h⟩
  · rw [if_neg hc] at h
    exact absurd h (by simp)
theorem search_good : ∀ (r a l : List Nat), a.Nodup → search r a = some l → ∃ t, l = a ++ t ∧ good r t ∧ l.Nodup
  | [], a, l, ha, h => by
    have h2 : some a = some l := h
    injection h2 with h2
    subst h2
    exact ⟨[], by simp, trivial, ha⟩
  | m :: r, a, l, ha, h => by
    obtain ⟨s, hs, hp⟩ := search_some m r a l h
    obtain ⟨h1, h2, h3⟩ := pick_some _ m a l s hp
    have hn : (a ++ [s]).Nodup := by
      rw [List.nodup_append]
      refine ⟨ha, by simp, ?_⟩
      intro x hx y hy
      simp only [List.mem_singleton] at hy
      subst hy
      exact fun e => h2 (e ▸ hx)
    obtain ⟨t, rfl, hg, hl⟩ := search_good r (a ++ [s]) l hn h3
    exact ⟨s :: t, by simp, ⟨h1, hs, hg⟩, hl⟩
theorem or_some {α : Type} (x y : Option α) (h : x.isSome = true ∨ y.isSome = true) : (x.or y).isSome = true := by
  cases x <;> cases y <;> simp_all
theorem search_any (m : Nat) (r a : List Nat) (s : Nat) (hs : s < 4) (h : (pickS (search r) m a s).isSome = true) : (search (m :: r) a).isSome = true := by
  unfold search
  have hc : s = 0 ∨ s = 1 ∨ s = 2 ∨ s = 3 := by omega
  rcases hc with rfl | rfl | rfl | rfl
  · exact or_some _ _ (.inl h)
  · exact or_some _ _ (.inr (or_some _ _ (.inl h)))
  · exact or_some _ _ (.inr (or_some _ _ (.inr (or_some _ _ (.inl h)))))
  · exact or_some _ _ (.inr (or_some _ _ (.inr (or_some _ _ (.inr h)))))
theorem good_search : ∀ (r t a : List Nat), good r t → (a ++ t).Nodup → (search r a).isSome = true
  | [], [], a, _, _ => rfl
  | m :: r, s :: t, a, h, hn => by
    have hn2 : ((a ++ [s]) ++ t).Nodup := by simpa using hn
    have h1 := good_search r t (a ++ [s]) h.2.2 hn2
    have hsa : s ∉ a := fun hm => by
      rw [List.nodup_append] at hn
      exact hn.2.2 s hm s (by simp) rfl
    refine search_any m r a s h.2.1 ?_
    unfold pickS
    rw [if_pos (by simp [h.1, hsa])]
    exact h1
  | [], _ :: _, _, h, _ => absurd h (by simp [good])
  | _ :: _, [], _, h, _ => absurd h (by simp [good])
theorem fits_iff (ns : List Nat) : fitsN ns = true ↔ ∃ t, good ns t ∧ t.Nodup := by
  constructor
  · intro h
    cases hs : search ns [] with
    | none => unfold fitsN at h; rw [hs] at h; exact absurd h (by simp)
    | some l =>
      obtain ⟨t, e, hg, hl⟩ := search_good ns [] l (by simp) hs
      have e2 : l = t := e
      exact ⟨t, hg, e2 ▸ hl⟩
  · rintro ⟨t, hg, hn⟩
    exact good_search ns t [] hg (by simpa using hn)

/-! By a function of the places. -/
def fun_ (ns : List Nat) (f : Nat → Nat) : Prop := (∀ i, i < ns.length → f i < 4 ∧ hasN (ns.getD i 0) (f i) = true) ∧ ∀ i j, i < ns.length → j < ns.length → f i = f j → i = j
theorem good_at : ∀ (r t : List Nat), good r t → ∀ i, i < r.length → t.getD i 0 < 4 ∧ hasN (r.getD i 0) (t.getD i 0) = true
  | m :: r, s :: t, h, 0, _ => ⟨h.2.1, h.1⟩
  | m :: r, s :: t, h, i + 1, hi => good_at r t h.2.2 i (by simpa using hi)
  | [], _ :: _, h, _, _ => absurd h (by simp [good])
  | _ :: _, [], h, _, _ => absurd h (by simp [good])
  | [], [], _, _, hi => absurd hi (by simp)
theorem good_of : ∀ (r t : List Nat), t.length = r.length → (∀ i, i < r.length → t.getD i 0 < 4 ∧ hasN (r.getD i 0) (t.getD i 0) = true) → good r t
  | [], [], _, _ => trivial
  | m :: r, s :: t, hl, h => ⟨(h 0 (by simp)).2, (h 0 (by simp)).1, good_of r t (by simpa using hl) fun i hi => h (i + 1) (by simpa using hi)⟩
  | [], _ :: _, hl, _ => absurd hl (by simp)
  | _ :: _, [], hl, _ => absurd hl (by simp)
theorem getD_lt (t : List Nat) (i : Nat) (h : i < t.length) : t.getD i 0 = t[i] := by simp [List.getD, h]
theorem fits_fun (ns : List Nat) : fitsN ns = true ↔ ∃ f, fun_ ns f := by
  rw [fits_iff]
  constructor
  · rintro ⟨t, hg, hn⟩
    have hl := good_len ns t hg
    refine ⟨fun i => t.getD i 0, good_at ns t hg, fun i j hi hj e => ?_⟩
    have e2 : t.getD i 0 = t.getD j 0 := e
    rw [getD_lt t i (by omega), getD_lt t j (by omega)] at e2
    exact (List.getElem_inj hn).1 e2
  · rintro ⟨f, h1, h2⟩
    refine ⟨(List.range ns.length).map f, good_of _ _ (by simp) fun i hi => ?_, ?_⟩
    · have : ((List.range ns.length).map f).getD i 0 = f i := by simp [List.getD, hi]
      rw [this]
      exact h1 i hi
    · rw [List.nodup_iff_pairwise_ne, List.pairwise_iff_getElem]
      intro i j hi hj hij e
      simp only [List.length_map, List.length_range] at hi hj
      simp only [List.getElem_map, List.getElem_range] at e
      have := h2 i j hi hj e
      omega
/-- The masks in another order, with other higher bits. -/
theorem fits_turned (ns os : List Nat) (σ : Nat → Nat) (hl : os.length = ns.length) (hσ : ∀ i, i < ns.length → σ i < ns.length ∧ σ (σ i) = i)
    (h : ∀ i, i < ns.length → ∀ s, s < 4 → hasN (os.getD i 0) s = hasN (ns.getD (σ i) 0) s) : fitsN os = fitsN ns := by
  have key : ∀ a b : List Nat, b.length = a.length → (∀ i, i < a.length → σ i < a.length ∧ σ (σ i) = i) → (∀ i, i < a.length → ∀ s, s < 4 → hasN (b.getD i 0) s = hasN (a.getD (σ i) 0) s) → fitsN a = true → fitsN b = true := by
    intro a b hl hσ h ha
    obtain ⟨f, h1, h2⟩ := (fits_fun a).1 ha
    refine (fits_fun b).2 ⟨fun i => f (σ i), fun i hi => ?_, fun i j hi hj e => ?_⟩
    · have hi' : i < a.length := by omega
      have h3 := h1 (σ i) (hσ i hi').1
      exact ⟨h3.1, by rw [h i hi' _ h3.1]; exact h3.2⟩
    · have h3 := h2 (σ i) (σ j) (hσ i (by omega)).1 (hσ j (by omega)).1 e
      have h4 := congrArg σ h3
      rwa [(hσ i (by omega)).2, (hσ j (by omega)).2] at h4
  have r := key ns os hl hσ h
  have l := key os ns hl.symm (by rw [hl]; exact hσ) (fun i hi s hs => by
    rw [hl] at hi
    have := h (σ i) (hσ i hi).1 s hs
    rw [(hσ i hi).2] at this
    exact this.symm)
  cases h1 : fitsN ns with
  | true => exact r h1
  | false =>
    cases h2 : fitsN os with
    | true => exact absurd (l h2) (by rw [h1]; simp)
    | false => rfl
theorem fits_tail (m : Nat) (r : List Nat) (h : fitsN (m :: r) = true) : fitsN r = true := by
  obtain ⟨f, h1, h2⟩ := (fits_fun _).1 h
  refine (fits_fun r).2 ⟨fun i => f (i + 1), fun i hi => h1 (i + 1) (by simpa using hi), fun i j hi hj e => ?_⟩
  have := h2 (i + 1) (j + 1) (by simpa using hi) (by simpa using hj) e
  omega
theorem nodup_le : ∀ (t l : List Nat), t.Nodup → (∀ x ∈ t, x ∈ l) → t.length ≤ l.length
  | [], l, _, _ => by simp
  | x :: t, l, hn, hs => by
    rw [List.nodup_cons] at hn
    have hx := hs x (by simp)
    have h1 := nodup_le t (l.erase x) hn.2 fun y hy => by
      have hne : y ≠ x := fun e => hn.1 (e ▸ hy)
      exact (List.mem_erase_of_ne hne).2 (hs y (by simp [hy]))
    have h2 := List.length_erase_of_mem hx
    have h3 := List.length_pos_of_mem hx
    simp only [List.length_cons]
    omega
theorem fits_few (ns : List Nat) (h : fitsN ns = true) : ns.length ≤ 4 := by
  obtain ⟨t, hg, hn⟩ := (fits_iff ns).1 h
  have hl := good_len ns t hg
  have hs : ∀ x ∈ t, x ∈ List.range 4 := fun x hx => by
    obtain ⟨i, hi, rfl⟩ := List.mem_iff_getElem.1 hx
    have := (good_at ns t hg i (by omega)).1
    rw [getD_lt t i hi] at this
    simp only [List.mem_range]
    exact this
  have h4 := nodup_le t _ hn hs
  rw [List.length_range] at h4
  omega

/-! Hall's condition. -/
/-- Of a choice of masks: how many, and the slots that they have together. -/
def stF : List Nat → Nat → Nat × Nat → Nat × Nat
  | [], _, st => st
  | m :: r, pick, st => stF r (pick / 2) (if pick % 2 = 1 then (st.1 + 1, st.2 ||| m % 16) else st)
def popN (a : Nat) : Nat := a % 2 + a / 2 % 2 + a / 4 % 2 + a / 8 % 2
def okPick (ns : List Nat) (pick : Nat) : Bool := decide ((stF ns pick (0, 0)).1 ≤ popN (stF ns pick (0, 0)).2)
theorem stF_snoc (l : List Nat) (m : Nat) : ∀ (pick : Nat) (st : Nat × Nat), stF (l ++ [m]) pick st = if pick / 2 ^ l.length % 2 = 1 then ((stF l pick st).1 + 1, (stF l pick st).2 ||| m % 16) else stF l pick st := by
  induction l with
  | nil => intro pick st; simp [stF]
  | cons x r ih =>
    intro pick st
    have e : pick / 2 ^ (x :: r).length = pick / 2 / 2 ^ r.length := by
      rw [Nat.div_div_eq_div_mul, List.length_cons, Nat.pow_succ, Nat.mul_comm]
    rw [e]
    exact ih (pick / 2) _
def hallN : List Nat → Nat → Nat → Bool
  | [], n, a => Nat.ble n (popN a)
  | m :: r, n, a => hallN r n a && hallN r (n + 1) (Nat.lor a (m % 16))
theorem hall_picks : ∀ (ns : List Nat) (n a : Nat), hallN ns n a = true ↔ ∀ pick, pick < 2 ^ ns.length → (stF ns pick (n, a)).1 ≤ popN (stF ns pick (n, a)).2
  | [], n, a => by
    constructor
    · intro h pick _; exact Nat.le_of_ble_eq_true h
    · intro h; exact Nat.ble_eq_true_of_le (h 0 (by simp))
  | m :: r, n, a => by
    have i0 := hall_picks r n a
    have i1 := hall_picks r (n + 1) (a ||| m % 16)
    have e : hallN (m :: r) n a = (hallN r n a && hallN r (n + 1) (a ||| m % 16)) := rfl
    rw [e, Bool.and_eq_true, i0, i1]
    constructor
    · rintro ⟨h0, h1⟩ pick hp
      have hp2 : pick / 2 < 2 ^ r.length := by
        rw [List.length_cons, Nat.pow_succ] at hp
        omega
      unfold stF
      split
      · exact h1 _ hp2
      · exact h0 _ hp2
    · intro h
      refine ⟨fun pick hp => ?_, fun pick hp => ?_⟩
      · have := h (2 * pick) (by rw [List.length_cons, Nat.pow_succ]; omega)
        unfold stF at this
        rw [if_neg (by omega), show 2 * pick / 2 = pick by omega] at this
        exact this
      · have := h (2 * pick + 1) (by rw [List.length_cons, Nat.pow_succ]; omega)
        unfold stF at this
        rw [if_pos (by omega), show (2 * pick + 1) / 2 = pick by omega] at this
        exact this
/-- A search that keeps the taken slots as bits. -/
def searchN : List Nat → Nat → Bool
  | [], _ => true
  | m :: r, u => (hasN m 0 && !hasN u 0 && searchN r (u + 1)) || (hasN m 1 && !hasN u 1 && searchN r (u + 2)) || (hasN m 2 && !hasN u 2 && searchN r (u + 4)) || (hasN m 3 && !hasN u 3 && searchN r (u + 8))
def allBelow (p : Nat → Bool) : Nat → Bool
  | 0 => true
  | k + 1 => p k && allBelow p k
theorem allBelow_at {p : Nat → Bool} : ∀ {n : Nat}, allBelow p n = true → ∀ k, k < n → p k = true
  | 0, _, _, h => absurd h (Nat.not_lt_zero _)
  | n + 1, h, k, hk => by
    have h' : (p n && allBelow p n) = true := h
    rw [Bool.and_eq_true] at h'
    rcases Nat.lt_or_ge k n with h2 | h2
    · exact allBelow_at h'.2 k h2
    · obtain rfl : k = n := by omega
      exact h'.1
theorem bit_add : ∀ u, u < 16 → ∀ s, s < 4 → hasN u s = false → u + 2 ^ s < 16 ∧ ∀ x, x < 4 → hasN (u + 2 ^ s) x = (hasN u x || x == s) := by
  have h : allBelow (fun u => allBelow (fun s => hasN u s || (decide (u + 2 ^ s < 16) && allBelow (fun x => hasN (u + 2 ^ s) x == (hasN u x || x == s)) 4)) 4) 16 = true := by decide +kernel
  intro u hu s hs h0
  have h1 := allBelow_at (allBelow_at h u hu) s hs
  simp only [h0, Bool.false_or, Bool.and_eq_true, decide_eq_true_eq] at h1
  exact ⟨h1.1, fun x hx => by simpa using allBelow_at h1.2 x hx⟩
theorem searchN_step (m u : Nat) (r : List Nat) : searchN (m :: r) u = true ↔ ∃ s, s < 4 ∧ hasN m s = true ∧ hasN u s = false ∧ searchN r (u + 2 ^ s) = true := by
  have e : searchN (m :: r) u = ((hasN m 0 && !hasN u 0 && searchN r (u + 1)) || (hasN m 1 && !hasN u 1 && searchN r (u + 2)) || (hasN m 2 && !hasN u 2 && searchN r (u + 4)) || (hasN m 3 && !hasN u 3 && searchN r (u + 8))) := rfl
  rw [e]
  simp only [Bool.or_eq_true, Bool.and_eq_true, Bool.not_eq_true']
  constructor
  · rintro (((⟨⟨h1, h2⟩, h3⟩ | ⟨⟨h1, h2⟩, h3⟩) | ⟨⟨h1, h2⟩, h3⟩) | ⟨⟨h1, h2⟩, h3⟩)
    · exact ⟨0, by omega, h1, h2, h3⟩
    · exact ⟨1, by omega, h1, h2, h3⟩
    · exact ⟨2, by omega, h1, h2, h3⟩
    · exact ⟨3, by omega, h1, h2, h3⟩
  · rintro ⟨s, hs, h1, h2, h3⟩
    have hc : s = 0 ∨ s = 1 ∨ s = 2 ∨ s = 3 := by omega
    rcases hc with rfl | rfl | rfl | rfl
    · exact .inl (.inl (.inl ⟨⟨h1, h2⟩, h3⟩))
    · exact .inl (.inl (.inr ⟨⟨h1, h2⟩, h3⟩))
    · exact .inl (.inr ⟨⟨h1, h2⟩, h3⟩)
    · exact .inr ⟨⟨h1, h2⟩, h3⟩
theorem searchN_iff : ∀ (r : List Nat) (u : Nat), u < 16 → (searchN r u = true ↔ ∃ t, good r t ∧ t.Nodup ∧ ∀ x ∈ t, hasN u x = false)
  | [], u, _ => by
    constructor
    · intro _; exact ⟨[], trivial, by simp, by simp⟩
    · intro _; rfl
  | m :: r, u, hu => by
    rw [searchN_step]
    constructor
    · rintro ⟨s, hs, h1, h2, h3⟩
      obtain ⟨hlt, hb⟩ := bit_add u hu s hs h2
      obtain ⟨t, hg, hn, hd⟩ := (searchN_iff r (u + 2 ^ s) hlt).1 h3
      have hx4 : ∀ x ∈ t, x < 4 := fun x hx => by
        obtain ⟨i, hi, rfl⟩ := List.mem_iff_getElem.1 hx
        have := (good_at r t hg i (by have := good_len r t hg; omega)).1
        rwa [getD_lt t i hi] at this
      refine ⟨s :: t, ⟨h1, hs, hg⟩, ?_, ?_⟩
      · rw [List.nodup_cons]
        refine ⟨fun hm => ?_, hn⟩
        have := hd s hm
        rw [hb s hs] at this
        simp at this
      · intro x hx
        rcases List.mem_cons.1 hx with rfl | hx
        · exact h2
        · have := hd x hx
          rw [hb x (hx4 x hx)] at this
          simp only [Bool.or_eq_false_iff] at this
          exact this.1
    · rintro ⟨t, hg, hn, hd⟩
      match t, hg with
      | s :: t, hg =>
        rw [List.nodup_cons] at hn
        have h2 := hd s (by simp)
        obtain ⟨hlt, hb⟩ := bit_add u hu s hg.2.1 h2
        have hx4 : ∀ x ∈ t, x < 4 := fun x hx => by
          obtain ⟨i, hi, rfl⟩ := List.mem_iff_getElem.1 hx
          have := (good_at r t hg.2.2 i (by have := good_len r t hg.2.2; omega)).1
          rwa [getD_lt t i hi] at this
        refine ⟨s, hg.2.1, hg.1, h2, (searchN_iff r (u + 2 ^ s) hlt).2 ⟨t, hg.2.2, hn.2, fun x hx => ?_⟩⟩
        rw [hb x (hx4 x hx), hd x (by simp [hx])]
        simp only [Bool.false_or, beq_eq_false_iff_ne]
        exact fun e => hn.1 (e ▸ hx)
theorem fits_searchN (ns : List Nat) : fitsN ns = searchN ns 0 := by
  have h0 : ∀ x, hasN 0 x = false := fun x => by simp [hasN]
  have h : fitsN ns = true ↔ searchN ns 0 = true := by
    rw [fits_iff, searchN_iff ns 0 (by omega)]
    exact ⟨fun ⟨t, a, b⟩ => ⟨t, a, b, fun x _ => h0 x⟩, fun ⟨t, a, b, _⟩ => ⟨t, a, b⟩⟩
  cases h1 : fitsN ns with
  | true => exact (h.1 h1).symm
  | false =>
    cases h2 : searchN ns 0 with
    | true => exact absurd (h.2 h2) (by rw [h1]; simp)
    | false => rfl
theorem has_mod (m s : Nat) (hs : s < 4) : hasN (m % 16) s = hasN m s := by
  have hc : s = 0 ∨ s = 1 ∨ s = 2 ∨ s = 3 := by omega
  unfold hasN
  rcases hc with rfl | rfl | rfl | rfl
  · rw [show m % 16 / 2 ^ 0 % 2 = m / 2 ^ 0 % 2 by simp]
  · rw [show m % 16 / 2 ^ 1 % 2 = m / 2 ^ 1 % 2 by simp; omega]
  · rw [show m % 16 / 2 ^ 2 % 2 = m / 2 ^ 2 % 2 by simp; omega]
  · rw [show m % 16 / 2 ^ 3 % 2 = m / 2 ^ 3 % 2 by simp; omega]
theorem searchN_mod : ∀ (ns : List Nat) (u : Nat), searchN (ns.map (· % 16)) u = searchN ns u
  | [], _ => rfl
  | m :: r, u => by
    simp only [List.map_cons, searchN, searchN_mod r, has_mod m 0 (by omega), has_mod m 1 (by omega), has_mod m 2 (by omega), has_mod m 3 (by omega)]
theorem hallN_mod : ∀ (ns : List Nat) (n a : Nat), hallN (ns.map (· % 16)) n a = hallN ns n a
  | [], _, _ => rfl
  | m :: r, n, a => by
    simp only [List.map_cons, hallN, hallN_mod r, Nat.mod_mod]
theorem hall_0 : hallN [] 0 0 = searchN [] 0 := by decide +kernel
theorem hall_1 : allBelow (fun a => hallN [a] 0 0 == searchN [a] 0) 16 = true := by decide +kernel
theorem hall_2 : allBelow (fun a => allBelow (fun b => hallN [a, b] 0 0 == searchN [a, b] 0) 16) 16 = true := by decide +kernel
theorem hall_3 : allBelow (fun a => allBelow (fun b => allBelow (fun c => hallN [a, b, c] 0 0 == searchN [a, b, c] 0) 16) 16) 16 = true := by decide +kernel
theorem hall_4 : allBelow (fun a => allBelow (fun b => allBelow (fun c => allBelow (fun d => hallN [a, b, c, d] 0 0 == searchN [a, b, c, d] 0) 16) 16) 16) 16 = true := by decide +kernel
theorem hall_small (ns : List Nat) (h : ns.length ≤ 4) : hallN ns 0 0 = searchN ns 0 := by
  rw [← hallN_mod ns, ← searchN_mod ns]
  match ns, h with
  | [], _ => exact hall_0
  | [a], _ => simpa using allBelow_at hall_1 (a % 16) (by omega)
  | [a, b], _ => simpa using allBelow_at (allBelow_at hall_2 (a % 16) (by omega)) (b % 16) (by omega)
  | [a, b, c], _ => simpa using allBelow_at (allBelow_at (allBelow_at hall_3 (a % 16) (by omega)) (b % 16) (by omega)) (c % 16) (by omega)
  | [a, b, c, d], _ => simpa using allBelow_at (allBelow_at (allBelow_at (allBelow_at hall_4 (a % 16) (by omega)) (b % 16) (by omega)) (c % 16) (by omega)) (d % 16) (by omega)
theorem stF_all : ∀ (ns : List Nat) (st : Nat × Nat), (stF ns (2 ^ ns.length - 1) st).1 = st.1 + ns.length
  | [], _ => rfl
  | m :: r, st => by
    have hp : 0 < 2 ^ r.length := Nat.pow_pos (by omega)
    have e0 : 2 ^ (m :: r).length = 2 * 2 ^ r.length := by rw [List.length_cons, Nat.pow_succ, Nat.mul_comm]
    have e1 : (2 ^ (m :: r).length - 1) % 2 = 1 := by rw [e0]; omega
    have e2 : (2 ^ (m :: r).length - 1) / 2 = 2 ^ r.length - 1 := by rw [e0]; omega
    unfold stF
    rw [if_pos e1, e2, stF_all r]
    simp only [List.length_cons]
    omega
theorem pop_le (a : Nat) : popN a ≤ 4 := by unfold popN; omega
/-- There is an assignment just if of each choice of masks the slots that they have together are not fewer than they are. -/
theorem hall_fits (ns : List Nat) : fitsN ns = true ↔ ∀ pick, pick < 2 ^ ns.length → okPick ns pick = true := by
  have h0 : (∀ pick, pick < 2 ^ ns.length → okPick ns pick = true) ↔ hallN ns 0 0 = true := by
    rw [hall_picks]
    simp only [okPick, decide_eq_true_eq]
  rw [h0, fits_searchN]
  by_cases hl : ns.length ≤ 4
  · rw [hall_small ns hl]
  · constructor
    · intro h
      rw [← fits_searchN] at h
      exact absurd (fits_few ns h) hl
    · intro h
      have h2 := (hall_picks ns 0 0).1 h (2 ^ ns.length - 1) (by have : 0 < 2 ^ ns.length := Nat.pow_pos (by omega); omega)
      rw [stF_all] at h2
      have h3 := pop_le (stF ns (2 ^ ns.length - 1) (0, 0)).2
      simp only [Nat.zero_add] at h2
      omega
end Go.Proofs.Ytplafgegjbppmaa
