/- Masks and assignments as plain data: the least assignment as the first one that a search in order finds; there is one just if Hall's condition holds; it does not hang on the order of the masks, nor on higher bits. No condition but the ranges named. · One mask that asks for a slot, moving others if need be: if it gets one, all that had a slot still have one; if not, no assignment gives all of them one. The seats as lists of slots. No condition but those named. · What allows of package match returns. · What Go's slices.Index and slices.Contains return at a slice of ints that lies in memory. · The blocks of the slots' occupants and of the slots that may not be asked for; what seat of package match returns. -/
import Derived.Test.YtanjmoiepmadhaaGreatDoorGBase
import Derived.Deep.Cut
import Derived.BigQuiet
namespace Go.Proofs.YtanjmoiepmadhaaGreatDoor
section

def hasN (m s : Nat) : Bool := m / 2 ^ s % 2 == 1
/-- One slot tried for the next mask, behind what is taken. -/
def pickS (k : List Nat → Option (List Nat)) (m : Nat) (a : List Nat) (s : Nat) : Option (List Nat) := if hasN m s && !a.contains s then k (a ++ [s]) else none
/-- The first assignment that goes on from some slots. -/
def search : List Nat → List Nat → Option (List Nat)
  | [], a => some a
  | m :: r, a => (pickS (search r) m a 0).or ((pickS (search r) m a 1).or ((pickS (search r) m a 2).or (pickS (search r) m a 3)))
def fitsN (ns : List Nat) : Bool := (search ns []).isSome

theorem search_some (m : Nat) (r a l : List Nat) (h : search (m :: r) a = some l) : ∃ s, s < 4 ∧ pickS (search r) m a s = some l := by
  unfold search at h
  cases h0 : pickS (search r) m a 0 with
  | some x => rw [h0] at h; exact ⟨0, by omega, h0.trans h⟩
  | none =>
    cases h1 : pickS (search r) m a 1 with
    | some x => rw [h0, h1] at h; exact ⟨1, by omega, h1.trans h⟩
    | none =>
      cases h2 : pickS (search r) m a 2 with
      | some x => rw [h0, h1, h2] at h; exact ⟨2, by omega, h2.trans h⟩
      | none =>
        rw [h0, h1, h2] at h
        exact ⟨3, by omega, h⟩
/-- Each mask allows its slot. -/
def good : List Nat → List Nat → Prop
  | [], [] => True
  | m :: r, s :: t => hasN m s = true ∧ s < 4 ∧ good r t
  | _, _ => False
theorem good_len : ∀ (r t : List Nat), good r t → t.length = r.length
  | [], [], _ => rfl
  | _ :: r, _ :: t, h => by simp [good_len r t h.2.2]
  | [], _ :: _, h => absurd h (by simp [good])
  | _ :: _, [], h => absurd h (by simp [good])
theorem pick_some (k : List Nat → Option (List Nat)) (m : Nat) (a l : List Nat) (s : Nat) (h : pickS k m a s = some l) : hasN m s = true ∧ s ∉ a ∧ k (a ++ [s]) = some l := by
  unfold pickS at h
  by_cases hc : (hasN m s && !a.contains s) = true
  · rw [if_pos hc] at h
    simp only [Bool.and_eq_true, Bool.not_eq_true', List.contains_eq_mem, decide_eq_false_iff_not] at hc
    exact ⟨hc.1, hc.2, h⟩
  · rw [if_neg hc] at h
    exact absurd h (by simp)
theorem search_good : ∀ (r a l : List Nat), a.Nodup → search r a = some l → ∃ t, l = a ++ t ∧ good r t ∧ l.Nodup
  | [], a, l, ha, h => by
    have h2 : some a = some l := h
    injection h2 with h2
    subst h2
    exact ⟨[], by simp, trivial, ha⟩
  | m :: r, a, l, ha, h => by
    obtain ⟨s, hs, hp⟩ := search_some m r a l h
    obtain ⟨h1, h2, h3⟩ := pick_some _ m a l s hp
    have hn : (a ++ [s]).Nodup := by
      rw [List.nodup_append]
      refine ⟨ha, by simp, ?_⟩
      intro x hx y hy
      simp only [List.mem_singleton] at hy
      subst hy
      exact fun e => h2 (e ▸ hx)
    obtain ⟨t, rfl, hg, hl⟩ := search_good r (a ++ [s]) l hn h3
    exact ⟨s :: t, by simp, ⟨h1, hs, hg⟩, hl⟩
theorem or_some {α : Type} (x y : Option α) (h : x.isSome = true ∨ y.isSome = true) : (x.or y).isSome = true := by
  cases x <;> cases y <;> simp_all
theorem search_any (m : Nat) (r a : List Nat) (s : Nat) (hs : s < 4) (h : (pickS (search r) m a s).isSome = true) : (search (m :: r) a).isSome = true := by
  unfold search
  have hc : s = 0 ∨ s = 1 ∨ s = 2 ∨ s = 3 := by omega
  rcases hc with rfl | rfl | rfl | rfl
  · exact or_some _ _ (.inl h)
  · exact or_some _ _ (.inr (or_some _ _ (.inl h)))
  · exact or_some _ _ (.inr (or_some _ _ (.inr (or_some _ _ (.inl h)))))
  · exact or_some _ _ (.inr (or_some _ _ (.inr (or_some _ _ (.inr h)))))
theorem good_search : ∀ (r t a : List Nat), good r t → (a ++ t).Nodup → (search r a).isSome = true
  | [], [], a, _, _ => rfl
  | m :: r, s :: t, a, h, hn => by
    have hn2 : ((a ++ [s]) ++ t).Nodup := by simpa using hn
    have h1 := good_search r t (a ++ [s]) h.2.2 hn2
    have hsa : s ∉ a := fun hm => by
      rw [List.nodup_append] at hn
      exact hn.2.2 s hm s (by simp) rfl
    refine search_any m r a s h.2.1 ?_
    unfold pickS
    rw [if_pos (by simp [h.1, hsa])]
    exact h1
  | [], _ :: _, _, h, _ => absurd h (by simp [good])
  | _ :: _, [], _, h, _ => absurd h (by simp [good])
theorem fits_iff (ns : List Nat) : fitsN ns = true ↔ ∃ t, good ns t ∧ t.Nodup := by
  constructor
  · intro h
    cases hs : search ns [] with
    | none => unfold fitsN at h; rw [hs] at h; exact absurd h (by simp)
    | some l =>
      obtain ⟨t, e, hg, hl⟩ := search_good ns [] l (by simp) hs
      have e2 : l = t := e
      exact ⟨t, hg, e2 ▸ hl⟩
  · rintro ⟨t, hg, hn⟩
    exact good_search ns t [] hg (by simpa using hn)

/-! By a function of the places. -/
theorem good_at : ∀ (r t : List Nat), good r t → ∀ i, i < r.length → t.getD i 0 < 4 ∧ hasN (r.getD i 0) (t.getD i 0) = true
  | m :: r, s :: t, h, 0, _ => ⟨h.2.1, h.1⟩
  | m :: r, s :: t, h, i + 1, hi => good_at r t h.2.2 i (by simpa using hi)
  | [], _ :: _, h, _, _ => absurd h (by simp [good])
  | _ :: _, [], h, _, _ => absurd h (by simp [good])
  | [], [], _, _, hi => absurd hi (by simp)
theorem good_of : ∀ (r t : List Nat), t.length = r.length → (∀ i, i < r.length → t.getD i 0 < 4 ∧ hasN (r.getD i 0) (t.getD i 0) = true) → good r t
  | [], [], _, _ => trivial
  | m :: r, s :: t, hl, h => ⟨(h 0 (by simp)).2, (h 0 (by simp)).1, good_of r t (by simpa using hl) fun i hi => h (i + 1) (by simpa using hi)⟩
  | [], _ :: _, hl, _ => absurd hl (by simp)
  | _ :: _, [], hl, _ => absurd hl (by simp)
theorem getD_lt (t : List Nat) (i : Nat) (h : i < t.length) : t.getD i 0 = t[i] := by simp [List.getD, h]
theorem nodup_le : ∀ (t l : List Nat), t.Nodup → (∀ x ∈ t, x ∈ l) → t.length ≤ l.length
  | [], l, _, _ => by simp
  | x :: t, l, hn, hs => by
    rw [List.nodup_cons] at hn
    have hx := hs x (by simp)
    have h1 := nodup_le t (l.erase x) hn.2 fun y hy => by
      have hne : y ≠ x := fun e => hn.1 (e ▸ hy)
      exact (List.mem_erase_of_ne hne).2 (hs y (by simp [hy]))
    have h2 := List.length_erase_of_mem hx
    have h3 := List.length_pos_of_mem hx
    simp only [List.length_cons]
    omega
/-! Hall's condition. -/
/-- A search that keeps the taken slots as bits. -/
def searchN : List Nat → Nat → Bool
  | [], _ => true
  | m :: r, u => (hasN m 0 && !hasN u 0 && searchN r (u + 1)) || (hasN m 1 && !hasN u 1 && searchN r (u + 2)) || (hasN m 2 && !hasN u 2 && searchN r (u + 4)) || (hasN m 3 && !hasN u 3 && searchN r (u + 8))
def allBelow (p : Nat → Bool) : Nat → Bool
  | 0 => true
  | k + 1 => p k && allBelow p k
theorem allBelow_at {p : Nat → Bool} : ∀ {n : Nat}, allBelow p n = true → ∀ k, k < n → p k = true
  | 0, _, _, h => absurd h (Nat.not_lt_zero _)
  | n + 1, h, k, hk => by
    have h' : (p n && allBelow p n) = true := h
    rw [Bool.and_eq_true] at h'
    rcases Nat.lt_or_ge k n with h2 | h2
    · exact allBelow_at h'.2 k h2
    · obtain rfl : k = n := by omega
      exact h'.1
theorem bit_add : ∀ u, u < 16 → ∀ s, s < 4 → hasN u s = false → u + 2 ^ s < 16 ∧ ∀ x, x < 4 → hasN (u + 2 ^ s) x = (hasN u x || x == s) := by
  have h : allBelow (fun u => allBelow (fun s => hasN u s || (decide (u + 2 ^ s < 16) && allBelow (fun x => hasN (u + 2 ^ s) x == (hasN u x || x == s)) 4)) 4) 16 = true := by decide +kernel
  intro u hu s hs h0
  have h1 := allBelow_at (allBelow_at h u hu) s hs
  simp only [h0, Bool.false_or, Bool.and_eq_true, decide_eq_true_eq] at h1
  exact ⟨h1.1, fun x hx => by simpa using allBelow_at h1.2 x hx⟩
theorem searchN_step (m u : Nat) (r : List Nat) : searchN (m :: r) u = true ↔ ∃ s, s < 4 ∧ hasN m s = true ∧ hasN u s = false ∧ searchN r (u + 2 ^ s) = true := by
  have e : searchN (m :: r) u = ((hasN m 0 && !hasN u 0 && searchN r (u + 1)) || (hasN m 1 && !hasN u 1 && searchN r (u + 2)) || (hasN m 2 && !hasN u 2 && searchN r (u + 4)) || (hasN m 3 && !hasN u 3 && searchN r (u + 8))) := rfl
  rw [e]
  simp only [Bool.or_eq_true, Bool.and_eq_true, Bool.not_eq_true']
  constructor
  · rintro (((⟨⟨h1, h2⟩, h3⟩ | ⟨⟨h1, h2⟩, h3⟩) | ⟨⟨h1, h2⟩, h3⟩) | ⟨⟨h1, h2⟩, h3⟩)
    · exact ⟨0, by omega, h1, h2, h3⟩
    · exact ⟨1, by omega, h1, h2, h3⟩
    · exact ⟨2, by omega, h1, h2, h3⟩
    · exact ⟨3, by omega, h1, h2, h3⟩
  · rintro ⟨s, hs, h1, h2, h3⟩
    have hc : s = 0 ∨ s = 1 ∨ s = 2 ∨ s = 3 := by omega
    rcases hc with rfl | rfl | rfl | rfl
    · exact .inl (.inl (.inl ⟨⟨h1, h2⟩, h3⟩))
    · exact .inl (.inl (.inr ⟨⟨h1, h2⟩, h3⟩))
    · exact .inl (.inr ⟨⟨h1, h2⟩, h3⟩)
    · exact .inr ⟨⟨h1, h2⟩, h3⟩
theorem searchN_iff : ∀ (r : List Nat) (u : Nat), u < 16 → (searchN r u = true ↔ ∃ t, good r t ∧ t.Nodup ∧ ∀ x ∈ t, hasN u x = false)
  | [], u, _ => by
    constructor
    · intro _; exact ⟨[], trivial, by simp, by simp⟩
    · intro _; rfl
  | m :: r, u, hu => by
    rw [searchN_step]
    constructor
    · rintro ⟨s, hs, h1, h2, h3⟩
      obtain ⟨hlt, hb⟩ := bit_add u hu s hs h2
      obtain ⟨t, hg, hn, hd⟩ := (searchN_iff r (u + 2 ^ s) hlt).1 h3
      have hx4 : ∀ x ∈ t, x < 4 := fun x hx => by
        obtain ⟨i, hi, rfl⟩ := List.mem_iff_getElem.1 hx
        have := (good_at r t hg i (by have := good_len r t hg; omega)).1
        rwa [getD_lt t i hi] at this
      refine ⟨s :: t, ⟨h1, hs, hg⟩, ?_, ?_⟩
      · rw [List.nodup_cons]
        refine ⟨fun hm => ?_, hn⟩
        have := hd s hm
        rw [hb s hs] at this
        simp at this
      · intro x hx
        rcases List.mem_cons.1 hx with rfl | hx
        · exact h2
        · have := hd x hx
          rw [hb x (hx4 x hx)] at this
          simp only [Bool.or_eq_false_iff] at this
          exact this.1
    · rintro ⟨t, hg, hn, hd⟩
      match t, hg with
      | s :: t, hg =>
        rw [List.nodup_cons] at hn
        have h2 := hd s (by simp)
        obtain ⟨hlt, hb⟩ := bit_add u hu s hg.2.1 h2
        have hx4 : ∀ x ∈ t, x < 4 := fun x hx => by
          obtain ⟨i, hi, rfl⟩ := List.mem_iff_getElem.1 hx
          have := (good_at r t hg.2.2 i (by have := good_len r t hg.2.2; omega)).1
          rwa [getD_lt t i hi] at this
        refine ⟨s, hg.2.1, hg.1, h2, (searchN_iff r (u + 2 ^ s) hlt).2 ⟨t, hg.2.2, hn.2, fun x hx => ?_⟩⟩
        rw [hb x (hx4 x hx), hd x (by simp [hx])]
        simp only [Bool.false_or, beq_eq_false_iff_ne]
        exact fun e => hn.1 (e ▸ hx)
theorem fits_searchN (ns : List Nat) : fitsN ns = searchN ns 0 := by
  have h0 : ∀ x, hasN 0 x = false := fun x => by simp [hasN]
  have h : fitsN ns = true ↔ searchN ns 0 = true := by
    rw [fits_iff, searchN_iff ns 0 (by omega)]
    exact ⟨fun ⟨t, a, b⟩ => ⟨t, a, b, fun x _ => h0 x⟩, fun ⟨t, a, b, _⟩ => ⟨t, a, b⟩⟩
  cases h1 : fitsN ns with
  | true => exact (h.1 h1).symm
  | false =>
    cases h2 : searchN ns 0 with
    | true => exact absurd (h.2 h2) (by rw [h1]; simp)
    | false => rfl
end
section

def upd {α : Type} (o : Nat → α) (s : Nat) (v : α) : Nat → α := fun t => if t = s then v else o t
theorem upd_same {α : Type} (o : Nat → α) (s : Nat) (v : α) : upd o s v s = v := if_pos rfl
theorem upd_ne {α : Type} (o : Nat → α) {s t : Nat} (v : α) (h : t ≠ s) : upd o s v t = o t := if_neg h
def allowN (ns : List Nat) (k : Int) (s : Nat) : Bool := hasN (ns.getD k.toNat 0) s
/-- Each slot has nobody, or the number of a mask that allows it. -/
def Val (ns : List Nat) (o : Nat → Int) : Prop := ∀ s, s < 4 → o s = -1 ∨ (0 ≤ o s ∧ o s < ns.length ∧ allowN ns (o s) s = true)
/-- What is so before a mask asks: 'c': the slots that may not be asked for. -/
structure Pre (ns : List Nat) (o : Nat → Int) (c : Nat → Bool) (i : Int) : Prop where
  lo : 0 ≤ i
  hi : i < ns.length
  val : Val ns o
  inj : ∀ s t, s < 4 → t < 4 → c s = false → c t = false → o s = o t → o s ≠ -1 → s = t
  new : ∀ s, s < 4 → c s = false → o s ≠ i
/-- What is so where it got one. -/
structure Post (ns : List Nat) (o : Nat → Int) (c : Nat → Bool) (i : Int) (o' : Nat → Int) : Prop where
  val : Val ns o'
  same : ∀ s, s < 4 → c s = true → o' s = o s
  inj : ∀ s t, s < 4 → t < 4 → c s = false → c t = false → o' s = o' t → o' s ≠ -1 → s = t
  mem : ∀ k : Int, k ≠ -1 → ((∃ s, s < 4 ∧ c s = false ∧ o' s = k) ↔ (k = i ∨ ∃ s, s < 4 ∧ c s = false ∧ o s = k))
/-- The slots that were asked for in vain. -/
structure Dead (ns : List Nat) (o : Nat → Int) (c c' : Nat → Bool) : Prop where
  mono : ∀ s, s < 4 → c s = true → c' s = true
  dead : ∀ s, s < 4 → c' s = true → c s = false → o s ≠ -1 ∧ ∀ t, t < 4 → allowN ns (o s) t = true → c' t = true
/-- Of the slots below s none is left to ask for. -/
structure Mid (ns : List Nat) (o : Nat → Int) (c : Nat → Bool) (i : Int) (s : Nat) (c' : Nat → Bool) : Prop where
  dead : Dead ns o c c'
  all : ∀ t, t < s → t < 4 → allowN ns i t = true → c' t = true
theorem mid_start (ns : List Nat) (o : Nat → Int) (c : Nat → Bool) (i : Int) : Mid ns o c i 0 c :=
  ⟨⟨fun _ _ h => h, fun _ _ h h' => absurd h (by rw [h']; simp)⟩, fun t ht => absurd ht (Nat.not_lt_zero t)⟩
theorem mid_skip {ns : List Nat} {o : Nat → Int} {c c' : Nat → Bool} {i : Int} {s : Nat} (h : Mid ns o c i s c') (hs : c' s = true ∨ allowN ns i s = false) : Mid ns o c i (s + 1) c' := by
  refine ⟨h.dead, fun t ht h4 ha => ?_⟩
  rcases Nat.lt_or_ge t s with h1 | h1
  · exact h.all t h1 h4 ha
  · obtain rfl : t = s := by omega
    rcases hs with hs | hs
    · exact hs
    · exact absurd ha (by rw [hs]; simp)
theorem open_of {ns : List Nat} {o : Nat → Int} {c c' : Nat → Bool} (h : Dead ns o c c') {s : Nat} (hs : s < 4) (hc : c' s = false) : c s = false := by
  cases h1 : c s with
  | false => rfl
  | true => exact absurd (h.mono s hs h1) (by rw [hc]; simp)
theorem upd_false {c : Nat → Bool} {s t : Nat} (h : upd c s true t = false) : t ≠ s ∧ c t = false := by
  by_cases e : t = s
  · subst e
    rw [upd_same] at h
    exact absurd h (by simp)
  · rw [upd_ne _ _ e] at h
    exact ⟨e, h⟩
theorem pre_next {ns : List Nat} {o : Nat → Int} {c c' : Nat → Bool} {i : Int} {s : Nat} (hp : Pre ns o c i) (hm : Mid ns o c i s c') (hs : s < 4) (hc : c' s = false) (ho : o s ≠ -1) : Pre ns o (upd c' s true) (o s) := by
  have hv := (hp.val s hs).resolve_left ho
  refine ⟨hv.1, hv.2.1, hp.val, fun a b ha hb h1 h2 => hp.inj a b ha hb (open_of hm.dead ha (upd_false h1).2) (open_of hm.dead hb (upd_false h2).2), fun a ha h1 e => ?_⟩
  exact (upd_false h1).1 (hp.inj a s ha hs (open_of hm.dead ha (upd_false h1).2) (open_of hm.dead hs hc) e (by rw [e]; exact ho))
theorem mid_fail {ns : List Nat} {o : Nat → Int} {c c' c2 : Nat → Bool} {i : Int} {s : Nat} (hm : Mid ns o c i s c') (ho : o s ≠ -1) (hd : Dead ns o (upd c' s true) c2)
    (ha : ∀ t, t < 4 → allowN ns (o s) t = true → c2 t = true) (hs : s < 4) : Mid ns o c i (s + 1) c2 := by
  have hup : ∀ t, t < 4 → c' t = true → c2 t = true := by
    intro t ht h
    refine hd.mono t ht ?_
    by_cases e : t = s
    · subst e; exact upd_same ..
    · rw [upd_ne _ _ e]; exact h
  have hs2 : c2 s = true := hd.mono s hs (upd_same ..)
  refine ⟨⟨fun t ht h => hup t ht (hm.dead.mono t ht h), fun t ht h2 h0 => ?_⟩, fun t ht h4 h => ?_⟩
  · by_cases e : t = s
    · subst e; exact ⟨ho, ha⟩
    · cases h1 : c' t with
      | true =>
        obtain ⟨d1, d2⟩ := hm.dead.dead t ht h1 h0
        exact ⟨d1, fun u hu hau => hup u hu (d2 u hu hau)⟩
      | false => exact hd.dead t ht h2 (by rw [upd_ne _ _ e]; exact h1)
  · rcases Nat.lt_or_ge t s with h1 | h1
    · exact hup t h4 (hm.all t h1 h4 h)
    · obtain rfl : t = s := by omega
      exact hs2
theorem val_upd {ns : List Nat} {o : Nat → Int} {i : Int} {s : Nat} (hv : Val ns o) (lo : 0 ≤ i) (hi : i < ns.length) (ha : allowN ns i s = true) : Val ns (upd o s i) := by
  intro t ht
  by_cases e : t = s
  · subst e; rw [upd_same]; exact .inr ⟨lo, hi, ha⟩
  · rw [upd_ne _ _ e]; exact hv t ht
theorem post_free {ns : List Nat} {o : Nat → Int} {c c' : Nat → Bool} {i : Int} {s : Nat} (hp : Pre ns o c i) (hm : Mid ns o c i s c') (hs : s < 4) (hc : c' s = false) (ha : allowN ns i s = true) (ho : o s = -1) : Post ns o c i (upd o s i) := by
  have hcs := open_of hm.dead hs hc
  refine ⟨val_upd hp.val hp.lo hp.hi ha, fun t ht h => upd_ne _ _ (fun e => by subst e; rw [hcs] at h; exact absurd h (by simp)), fun t u ht hu h1 h2 e hn => ?_, fun k hk => ⟨?_, ?_⟩⟩
  · by_cases et : t = s
    · by_cases eu : u = s
      · omega
      · subst et
        rw [upd_same, upd_ne _ _ eu] at e
        exact absurd e.symm (hp.new u hu h2)
    · by_cases eu : u = s
      · subst eu
        rw [upd_same, upd_ne _ _ et] at e
        exact absurd e (hp.new t ht h1)
      · rw [upd_ne _ _ et, upd_ne _ _ eu] at e
        rw [upd_ne _ _ et] at hn
        exact hp.inj t u ht hu h1 h2 e hn
  · rintro ⟨t, ht, h1, rfl⟩
    by_cases et : t = s
    · subst et; exact .inl (upd_same ..)
    · exact .inr ⟨t, ht, h1, (upd_ne _ _ et).symm⟩
  · rintro (rfl | ⟨t, ht, h1, rfl⟩)
    · exact ⟨s, hs, hcs, upd_same ..⟩
    · refine ⟨t, ht, h1, upd_ne _ _ fun e => ?_⟩
      subst e
      exact hk ho
theorem post_rec {ns : List Nat} {o o1 : Nat → Int} {c c' : Nat → Bool} {i : Int} {s : Nat} (hp : Pre ns o c i) (hm : Mid ns o c i s c') (hs : s < 4) (hc : c' s = false) (ha : allowN ns i s = true) (ho : o s ≠ -1)
    (hr : Post ns o (upd c' s true) (o s) o1) : Post ns o c i (upd o1 s i) := by
  have hcs := open_of hm.dead hs hc
  -- what a slot but s holds now: as before, or one out of the open ones
  have key : ∀ t, t < 4 → t ≠ s → c t = false → (upd c' s true t = true ∧ o1 t = o t) ∨ (upd c' s true t = false ∧ (o1 t = -1 ∨ ∃ v, v < 4 ∧ c v = false ∧ o v = o1 t ∧ (v = s ∨ upd c' s true v = false))) := by
    intro t ht hne hct
    cases h1 : upd c' s true t with
    | true => exact .inl ⟨rfl, hr.same t ht h1⟩
    | false =>
      refine .inr ⟨rfl, ?_⟩
      by_cases hn : o1 t = -1
      · exact .inl hn
      · rcases (hr.mem (o1 t) hn).1 ⟨t, ht, h1, rfl⟩ with h2 | ⟨v, hv, h2, h3⟩
        · exact .inr ⟨s, hs, hcs, h2.symm, .inl rfl⟩
        · exact .inr ⟨v, hv, open_of hm.dead hv (upd_false h2).2, h3, .inr h2⟩
  have hne_i : ∀ t, t < 4 → t ≠ s → c t = false → o1 t ≠ i := by
    intro t ht hne hct e
    rcases key t ht hne hct with ⟨_, h2⟩ | ⟨_, h2⟩
    · exact hp.new t ht hct (h2 ▸ e)
    · rcases h2 with h2 | ⟨v, hv, h3, h4, _⟩
      · have := hp.lo; omega
      · exact hp.new v hv h3 (h4.trans e)
  have inj1 : ∀ t u, t < 4 → u < 4 → t ≠ s → u ≠ s → c t = false → c u = false → o1 t = o1 u → o1 t ≠ -1 → t = u := by
    have half : ∀ t u, t < 4 → u < 4 → t ≠ s → u ≠ s → c t = false → c u = false → o1 t = o1 u → o1 t ≠ -1 → upd c' s true t = true → t = u := by
      intro t u ht hu et eu h1 h2 e hn h3
      have h4 := hr.same t ht h3
      rcases key u hu eu h2 with ⟨_, k2⟩ | ⟨k1, k2⟩
      · exact hp.inj t u ht hu h1 h2 (by rw [← h4, ← k2]; exact e) (by rw [← h4]; exact hn)
      · rcases k2 with k2 | ⟨v, hv, k3, k4, k5⟩
        · exact absurd (e.trans k2) hn
        · have k6 : o t = o v := by rw [← h4, k4]; exact e
          have k7 := hp.inj t v ht hv h1 k3 k6 (by rw [← h4]; exact hn)
          subst k7
          rcases k5 with k5 | k5
          · exact absurd k5 et
          · exact absurd h3 (by rw [k5]; simp)
    intro t u ht hu et eu h1 h2 e hn
    cases h3 : upd c' s true t with
    | true => exact half t u ht hu et eu h1 h2 e hn h3
    | false =>
      cases h4 : upd c' s true u with
      | true => exact (half u t hu ht eu et h2 h1 e.symm (e ▸ hn) h4).symm
      | false => exact hr.inj t u ht hu h3 h4 e hn
  refine ⟨val_upd hr.val hp.lo hp.hi ha, fun t ht h => ?_, fun t u ht hu h1 h2 e hn => ?_, fun k hk => ⟨?_, ?_⟩⟩
  · have et : t ≠ s := fun e => by subst e; rw [hcs] at h; exact absurd h (by simp)
    rw [upd_ne _ _ et]
    exact hr.same t ht (by rw [upd_ne _ _ et]; exact hm.dead.mono t ht h)
  · by_cases et : t = s
    · by_cases eu : u = s
      · omega
      · subst et
        rw [upd_same, upd_ne _ _ eu] at e
        exact absurd e.symm (hne_i u hu eu h2)
    · by_cases eu : u = s
      · subst eu
        rw [upd_same, upd_ne _ _ et] at e
        exact absurd e (hne_i t ht et h1)
      · rw [upd_ne _ _ et, upd_ne _ _ eu] at e
        rw [upd_ne _ _ et] at hn
        exact inj1 t u ht hu et eu h1 h2 e hn
  · rintro ⟨t, ht, h1, rfl⟩
    by_cases et : t = s
    · subst et; exact .inl (upd_same ..)
    · rw [upd_ne _ _ et] at hk ⊢
      rcases key t ht et h1 with ⟨_, k2⟩ | ⟨_, k2⟩
      · exact .inr ⟨t, ht, h1, k2.symm⟩
      · rcases k2 with k2 | ⟨v, hv, k3, k4, _⟩
        · exact absurd k2 hk
        · exact .inr ⟨v, hv, k3, k4⟩
  · rintro (rfl | ⟨t, ht, h1, rfl⟩)
    · exact ⟨s, hs, hcs, upd_same ..⟩
    · cases h3 : upd c' s true t with
      | true =>
        by_cases et : t = s
        · subst et
          obtain ⟨u, hu, h4, h5⟩ := (hr.mem (o t) ho).2 (.inl rfl)
          exact ⟨u, hu, open_of hm.dead hu (upd_false h4).2, by rw [upd_ne _ _ (upd_false h4).1]; exact h5⟩
        · exact ⟨t, ht, h1, by rw [upd_ne _ _ et]; exact hr.same t ht h3⟩
      | false =>
        obtain ⟨u, hu, h4, h5⟩ := (hr.mem (o t) hk).2 (.inr ⟨t, ht, h3, rfl⟩)
        exact ⟨u, hu, open_of hm.dead hu (upd_false h4).2, by rw [upd_ne _ _ (upd_false h4).1]; exact h5⟩
/-- How many slots may be asked for. -/
def openN (c : Nat → Bool) : Nat := (if c 0 then 0 else 1) + (if c 1 then 0 else 1) + (if c 2 then 0 else 1) + (if c 3 then 0 else 1)
theorem openN_mono {c c' : Nat → Bool} (h : ∀ s, s < 4 → c s = true → c' s = true) : openN c' ≤ openN c := by
  have h0 := h 0 (by omega)
  have h1 := h 1 (by omega)
  have h2 := h 2 (by omega)
  have h3 := h 3 (by omega)
  unfold openN
  cases e0 : c 0 <;> cases e1 : c 1 <;> cases e2 : c 2 <;> cases e3 : c 3 <;> simp_all <;> (repeat' split) <;> omega
theorem openN_upd {c : Nat → Bool} {s : Nat} (hs : s < 4) (h : c s = false) : openN (upd c s true) < openN c := by
  have hc : s = 0 ∨ s = 1 ∨ s = 2 ∨ s = 3 := by omega
  unfold openN upd
  rcases hc with rfl | rfl | rfl | rfl <;> simp [h] <;> (repeat' split) <;> omega
theorem openN_le (c : Nat → Bool) : openN c ≤ 4 := by
  unfold openN
  (repeat' split) <;> omega
theorem openN_next {ns : List Nat} {o : Nat → Int} {c c' : Nat → Bool} {i : Int} {s : Nat} (hm : Mid ns o c i s c') (hs : s < 4) (hc : c' s = false) : openN (upd c' s true) < openN c :=
  Nat.lt_of_lt_of_le (openN_upd hs hc) (openN_mono hm.dead.mono)

/-! Slots that are fixed for the first masks. -/
/-- The first k of the fixed ones have their seats. -/
structure SeatAt (fs : List Nat) (k : Nat) (o : Nat → Int) (c : Nat → Bool) : Prop where
  none : ∀ s, s < 4 → (∀ j, j < k → fs.getD j 9 ≠ s) → o s = -1 ∧ c s = false
  some : ∀ j, j < k → o (fs.getD j 9) = j ∧ c (fs.getD j 9) = true
theorem seat_start (fs : List Nat) : SeatAt fs 0 (fun _ => -1) (fun _ => false) := ⟨fun _ _ _ => ⟨rfl, rfl⟩, fun j hj => absurd hj (Nat.not_lt_zero j)⟩
theorem nodup_at {l : List Nat} (h : l.Nodup) {i j d e : Nat} (hi : i < l.length) (hj : j < l.length) (he : l.getD i d = l.getD j e) : i = j := by
  have h1 : l.getD i d = l[i] := by simp [List.getD, hi]
  have h2 : l.getD j e = l[j] := by simp [List.getD, hj]
  rw [h1, h2] at he
  exact (List.getElem_inj h).1 he
theorem seat_step {fs : List Nat} {k : Nat} {o : Nat → Int} {c : Nat → Bool} (h : SeatAt fs k o c) (hn : fs.Nodup) (hk : k < fs.length) : SeatAt fs (k + 1) (upd o (fs.getD k 9) k) (upd c (fs.getD k 9) true) := by
  refine ⟨fun s hs hne => ?_, fun j hj => ?_⟩
  · have e : s ≠ fs.getD k 9 := fun e => hne k (by omega) e.symm
    rw [upd_ne _ _ e, upd_ne _ _ e]
    exact h.none s hs fun j hj => hne j (by omega)
  · by_cases e : j = k
    · subst e
      exact ⟨upd_same .., upd_same ..⟩
    · have ne : fs.getD j 9 ≠ fs.getD k 9 := fun e2 => e (nodup_at hn (by omega) hk e2)
      rw [upd_ne _ _ ne, upd_ne _ _ ne]
      exact h.some j (by omega)

/-- The masks from the fixed ones on, up to i, have slots. -/
structure Filled (ns fs : List Nat) (kept : Nat → Bool) (o : Nat → Int) (i : Nat) : Prop where
  val : Val ns o
  keeps : ∀ s, s < 4 → kept s = true → ∃ j, j < fs.length ∧ fs.getD j 9 = s ∧ o s = j
  fixed : ∀ j, j < fs.length → kept (fs.getD j 9) = true ∧ o (fs.getD j 9) = j
  inj : ∀ s t, s < 4 → t < 4 → kept s = false → kept t = false → o s = o t → o s ≠ -1 → s = t
  mem : ∀ k : Int, k ≠ -1 → ((∃ s, s < 4 ∧ kept s = false ∧ o s = k) ↔ ((fs.length : Int) ≤ k ∧ k < i))
/-- What the fixed slots are: one for each of the first masks, allowed, none twice. -/
structure FixOk (ns fs : List Nat) : Prop where
  le : fs.length ≤ ns.length
  nodup : fs.Nodup
  ok : ∀ j, j < fs.length → fs.getD j 9 < 4 ∧ hasN (ns.getD j 0) (fs.getD j 9) = true
theorem filled_start {ns fs : List Nat} {o : Nat → Int} {c : Nat → Bool} (hf : FixOk ns fs) (h : SeatAt fs fs.length o c) : Filled ns fs c o fs.length := by
  have hk : ∀ s, s < 4 → (∃ j, j < fs.length ∧ fs.getD j 9 = s ∧ o s = j) ∨ (o s = -1 ∧ c s = false) := by
    intro s hs
    by_cases hx : ∃ j, j < fs.length ∧ fs.getD j 9 = s
    · obtain ⟨j, hj, rfl⟩ := hx
      exact .inl ⟨j, hj, rfl, (h.some j hj).1⟩
    · exact .inr (h.none s hs fun j hj e => hx ⟨j, hj, e⟩)
  have hopen : ∀ s, s < 4 → c s = false → o s = -1 := by
    intro s hs hc
    rcases hk s hs with ⟨j, hj, rfl, _⟩ | h2
    · exact absurd (h.some j hj).2 (by rw [hc]; simp)
    · exact h2.1
  refine ⟨fun s hs => ?_, fun s hs hc => ?_, fun j hj => ⟨(h.some j hj).2, (h.some j hj).1⟩, fun s t hs ht h1 h2 e hn => absurd (hopen s hs h1) hn, fun k hk' => ⟨?_, ?_⟩⟩
  · rcases hk s hs with ⟨j, hj, rfl, e⟩ | h2
    · have hle := hf.le
      exact .inr ⟨by omega, by omega, by unfold allowN; rw [e]; exact (hf.ok j hj).2⟩
    · exact .inl h2.1
  · rcases hk s hs with h2 | h2
    · exact h2
    · exact absurd hc (by rw [h2.2]; simp)
  · rintro ⟨s, hs, h1, rfl⟩
    exact absurd (hopen s hs h1) hk'
  · rintro ⟨h1, h2⟩
    omega
theorem filled_pre {ns fs : List Nat} {kept : Nat → Bool} {o : Nat → Int} {i : Nat} (h : Filled ns fs kept o i) (hi : i < ns.length) : Pre ns o kept i :=
  ⟨by omega, by omega, h.val, h.inj, fun s hs hc e => by
    have := (h.mem i (by omega)).1 ⟨s, hs, hc, e⟩
    omega⟩
theorem filled_next {ns fs : List Nat} {kept : Nat → Bool} {o o' : Nat → Int} {i : Nat} (h : Filled ns fs kept o i) (hm : fs.length ≤ i) (hp : Post ns o kept i o') (hf : FixOk ns fs) : Filled ns fs kept o' (i + 1) := by
  refine ⟨hp.val, fun s hs hc => ?_, fun j hj => ⟨(h.fixed j hj).1, (hp.same _ (hf.ok j hj).1 (h.fixed j hj).1).trans (h.fixed j hj).2⟩, hp.inj, fun k hk => ?_⟩
  · rw [hp.same s hs hc]
    exact h.keeps s hs hc
  · rw [hp.mem k hk, h.mem k hk]
    omega
theorem filled_inj {ns fs : List Nat} {kept : Nat → Bool} {o : Nat → Int} {i : Nat} (h : Filled ns fs kept o i) : ∀ s t, s < 4 → t < 4 → o s = o t → o s ≠ -1 → s = t := by
  intro s t hs ht e hn
  cases h1 : kept s with
  | false =>
    have k1 := (h.mem (o s) hn).1 ⟨s, hs, h1, rfl⟩
    cases h2 : kept t with
    | false => exact h.inj s t hs ht h1 h2 e hn
    | true =>
      obtain ⟨j, hj, _, e2⟩ := h.keeps t ht h2
      omega
  | true =>
    obtain ⟨j, hj, e1, e2⟩ := h.keeps s hs h1
    cases h2 : kept t with
    | false =>
      have k1 := (h.mem (o t) (e ▸ hn)).1 ⟨t, ht, h2, rfl⟩
      omega
    | true =>
      obtain ⟨j', hj', e3, e4⟩ := h.keeps t ht h2
      obtain rfl : j = j' := by omega
      omega
/-- An assignment that goes on from the fixed slots. -/
theorem whole_of {ns fs t : List Nat} (hf : FixOk ns fs) (h : good (ns.drop fs.length) t) : good ns (fs ++ t) := by
  have hl := good_len _ _ h
  have hle := hf.le
  rw [List.length_drop] at hl
  refine good_of _ _ (by simp; omega) fun i hi => ?_
  by_cases h1 : i < fs.length
  · have h2 := hf.ok i h1
    have e : (fs ++ t).getD i 0 = fs.getD i 9 := by simp [List.getD, List.getElem?_append_left h1, h1]
    rw [e]
    exact h2
  · have h2 := good_at _ _ h (i - fs.length) (by rw [List.length_drop]; omega)
    have e : (fs ++ t).getD i 0 = t.getD (i - fs.length) 0 := by simp [List.getD, List.getElem?_append_right (show fs.length ≤ i by omega)]
    have e2 : (ns.drop fs.length).getD (i - fs.length) 0 = ns.getD i 0 := by
      simp only [List.getD, List.getElem?_drop]
      rw [show fs.length + (i - fs.length) = i by omega]
    rw [e, ← e2]
    exact h2
/-- Where a mask got no slot no assignment goes on from the fixed ones. -/
theorem filled_fail {ns fs : List Nat} {kept c' : Nat → Bool} {o : Nat → Int} {i : Nat} (h : Filled ns fs kept o i) (hf : FixOk ns fs) (hm : fs.length ≤ i) (hi : i < ns.length) (hd : Dead ns o kept c')
    (ha : ∀ t, t < 4 → allowN ns i t = true → c' t = true) : search (ns.drop fs.length) fs = none := by
  cases hs : search (ns.drop fs.length) fs with
  | none => rfl
  | some l =>
    exfalso
    obtain ⟨t, rfl, hg, hn⟩ := search_good _ fs l hf.nodup hs
    have hw := whole_of hf hg
    have hl := good_len _ _ hw
    generalize hL : fs ++ t = L at *
    have hfix : ∀ j, j < fs.length → L.getD j 0 = fs.getD j 9 := fun j hj => by rw [← hL]; simp [List.getD, List.getElem?_append_left hj, hj]
    have hat := good_at _ _ hw
    let D := (List.range 4).filter fun s => c' s && !kept s
    have hD : ∀ s, s ∈ D ↔ s < 4 ∧ c' s = true ∧ kept s = false := by intro s; simp [D]
    have hocc : ∀ s, s ∈ D → (fs.length : Int) ≤ o s ∧ o s < i := fun s hs' => by
      obtain ⟨h4, h5, h6⟩ := (hD s).1 hs'
      exact (h.mem (o s) (hd.dead s h4 h5 h6).1).1 ⟨s, h4, h6, rfl⟩
    -- where the assignment puts one of them lies in D
    have into : ∀ x, fs.length ≤ x → x < ns.length → (∀ s, s < 4 → allowN ns x s = true → c' s = true) → L.getD x 0 ∈ D := by
      intro x hx hxn hall
      obtain ⟨h4, h5⟩ := hat x hxn
      refine (hD _).2 ⟨h4, hall _ h4 (by simpa [allowN] using h5), ?_⟩
      cases hk : kept (L.getD x 0) with
      | false => rfl
      | true =>
        obtain ⟨j, hj, e, _⟩ := h.keeps _ h4 hk
        rw [← hfix j hj] at e
        have := nodup_at hn (by omega) (by omega) e
        omega
    have hDn : D.Nodup := List.Nodup.sublist List.filter_sublist List.nodup_range
    let X := i :: D.map fun s => (o s).toNat
    have hX : ∀ x, x ∈ X → fs.length ≤ x ∧ x < ns.length ∧ L.getD x 0 ∈ D := by
      intro x hx
      rcases List.mem_cons.1 hx with rfl | hx
      · exact ⟨hm, hi, into _ hm hi ha⟩
      · obtain ⟨s, hs', rfl⟩ := List.mem_map.1 hx
        have h1 := hocc s hs'
        obtain ⟨h4, h5, h6⟩ := (hD s).1 hs'
        refine ⟨by omega, by omega, into _ (by omega) (by omega) fun u hu hau => (hd.dead s h4 h5 h6).2 u hu ?_⟩
        rw [show ((o s).toNat : Int) = o s by omega] at hau
        exact hau
    have hXn : X.Nodup := by
      refine List.nodup_cons.2 ⟨fun hx => ?_, ?_⟩
      · obtain ⟨s, hs', e⟩ := List.mem_map.1 hx
        have := hocc s hs'
        omega
      · rw [List.nodup_iff_pairwise_ne, List.pairwise_map]
        refine List.Pairwise.imp_of_mem ?_ (List.nodup_iff_pairwise_ne.1 hDn)
        intro a b ha' hb' hne e
        have h1 := hocc a ha'
        have h2 := hocc b hb'
        obtain ⟨h4, _, h6⟩ := (hD a).1 ha'
        obtain ⟨k4, _, k6⟩ := (hD b).1 hb'
        exact hne (h.inj a b h4 k4 h6 k6 (by omega) (by omega))
    have hXm : (X.map fun x => L.getD x 0).Nodup := by
      rw [List.nodup_iff_pairwise_ne, List.pairwise_map]
      refine List.Pairwise.imp_of_mem ?_ (List.nodup_iff_pairwise_ne.1 hXn)
      intro a b ha' hb' hne e
      exact hne (nodup_at hn (by rw [hl]; exact (hX a ha').2.1) (by rw [hl]; exact (hX b hb').2.1) e)
    have hle := nodup_le _ D hXm fun y hy => by
      obtain ⟨x, hx, rfl⟩ := List.mem_map.1 hy
      exact (hX x hx).2.2
    simp [X] at hle
    omega

/-! The slots as a list. -/
def fillL (o : Nat → Int) (n : Nat) : Nat → List Nat
  | 0 => List.replicate n 0
  | s + 1 => if o s = -1 then fillL o n s else (fillL o n s).set (o s).toNat s
theorem fillL_len (o : Nat → Int) (n : Nat) : ∀ s, (fillL o n s).length = n
  | 0 => by simp [fillL]
  | s + 1 => by unfold fillL; split <;> simp [fillL_len o n s]
theorem fillL_at (o : Nat → Int) (n k : Nat) (hk : k < n) : ∀ m, (∀ s, s < m → o s = -1 ∨ 0 ≤ o s) → (∃ s, s < m ∧ o s = k) → (fillL o n m).getD k 0 < m ∧ o ((fillL o n m).getD k 0) = k
  | 0, _, ⟨s, hs, _⟩ => absurd hs (Nat.not_lt_zero s)
  | m + 1, hlo, ⟨s, hs, e⟩ => by
    have hlo2 : ∀ s, s < m → o s = -1 ∨ 0 ≤ o s := fun s h => hlo s (by omega)
    unfold fillL
    by_cases hm : o m = -1
    · rw [if_pos hm]
      have hsm : s < m := by
        rcases Nat.lt_or_ge s m with h | h
        · exact h
        · obtain rfl : s = m := by omega
          omega
      have := fillL_at o n k hk m hlo2 ⟨s, hsm, e⟩
      exact ⟨by omega, this.2⟩
    · rw [if_neg hm]
      have h0 := (hlo m (by omega)).resolve_left hm
      by_cases hmk : o m = k
      · have e3 : ((fillL o n m).set (o m).toNat m).getD k 0 = m := by
          rw [hmk]
          simp [List.getD, fillL_len, hk]
        rw [e3]
        exact ⟨by omega, hmk⟩
      · have hsm : s < m := by
          rcases Nat.lt_or_ge s m with h | h
          · exact h
          · obtain rfl : s = m := by omega
            exact absurd e hmk
        have e3 : ((fillL o n m).set (o m).toNat m).getD k 0 = (fillL o n m).getD k 0 := by
          simp only [List.getD]
          rw [List.getElem?_set_ne (by omega)]
        rw [e3]
        have := fillL_at o n k hk m hlo2 ⟨s, hsm, e⟩
        exact ⟨by omega, this.2⟩
/-- An assignment of all masks, no slot twice. -/
structure Whole (ns l : List Nat) : Prop where
  good : good ns l
  nodup : l.Nodup
theorem filled_end {ns fs : List Nat} {kept : Nat → Bool} {o : Nat → Int} (h : Filled ns fs kept o ns.length) (hf : FixOk ns fs) :
    Whole ns (fillL o ns.length 4) ∧ (fillL o ns.length 4).take fs.length = fs := by
  have hlen := fillL_len o ns.length 4
  have hall : ∀ k, k < ns.length → ∃ s, s < 4 ∧ o s = k := by
    intro k hk
    by_cases h1 : k < fs.length
    · exact ⟨_, (hf.ok k h1).1, (h.fixed k h1).2⟩
    · obtain ⟨s, hs, _, e⟩ := (h.mem k (by omega)).2 ⟨by omega, by omega⟩
      exact ⟨s, hs, e⟩
  have hat : ∀ k, k < ns.length → (fillL o ns.length 4).getD k 0 < 4 ∧ o ((fillL o ns.length 4).getD k 0) = k := fun k hk => fillL_at o ns.length k hk 4 (fun s hs => (h.val s hs).imp_right (·.1)) (hall k hk)
  generalize fillL o ns.length 4 = l at *
  refine ⟨⟨good_of _ _ hlen fun k hk => ?_, ?_⟩, ?_⟩
  · obtain ⟨h1, h2⟩ := hat k hk
    refine ⟨h1, ?_⟩
    have h3 := ((h.val _ h1).resolve_left (by omega)).2.2
    rw [h2] at h3
    simpa [allowN] using h3
  · rw [List.nodup_iff_pairwise_ne, List.pairwise_iff_getElem]
    intro i j hi hj hij e
    have h1 := (hat i (by omega)).2
    have h2 := (hat j (by omega)).2
    rw [getD_lt l i hi] at h1
    rw [getD_lt l j hj] at h2
    rw [e] at h1
    omega
  · have hle := hf.le
    refine List.ext_getElem (by simp; omega) fun k h1 h2 => ?_
    rw [List.getElem_take]
    obtain ⟨h3, h4⟩ := hat k (by omega)
    have h5 := (h.fixed k h2).2
    have e := filled_inj h _ _ h3 (hf.ok k h2).1 (h4.trans h5.symm) (by omega)
    rw [getD_lt l k (by omega)] at e
    rw [e]
    simp [List.getD, h2]
theorem fix_nil (ns : List Nat) : FixOk ns [] := ⟨by simp, by simp, fun j hj => absurd hj (by simp)⟩
end
section
open Go.ChangeShapes Go.WideShapes Go.ChangeAt Go.RowKit Go.Sort BigFrame

theorem and_one (x : Int) (h0 : 0 ≤ x) (h1 : x < 256) : bits .and .u8 x 1 = x % 2 := by
  have h : allBelow (fun n => bits .and .u8 (n : Int) 1 == (n : Int) % 2) 256 = true := by decide +kernel
  have h2 := allBelow_at h x.toNat (by omega)
  rw [show ((x.toNat : Nat) : Int) = x by omega] at h2
  simpa using h2
theorem has_bits (m s : Nat) (hm : m < 256) : (bits .and .u8 ((m : Int) / 2 ^ s) 1 == 1) = hasN m s := by
  have h0 : (0 : Int) ≤ (m : Int) / 2 ^ s := Int.ediv_nonneg (by omega) (Int.le_of_lt (Int.pow_pos (by decide)))
  have h1 : (m : Int) / 2 ^ s ≤ m := Int.ediv_le_self _ (by omega)
  rw [and_one _ h0 (by omega)]
  unfold hasN
  have e : (m : Int) / 2 ^ s % 2 = ((m / 2 ^ s % 2 : Nat) : Int) := by simp
  rw [e]
  generalize m / 2 ^ s % 2 = x
  cases h : decide (x = 1)
  · have h2 : x ≠ 1 := by simpa using h
    rw [beq_eq_false_iff_ne.2 h2]
    exact beq_eq_false_iff_ne.2 (by omega)
  · have h2 : x = 1 := by simpa using h
    subst h2; rfl
theorem allows_any (m s : Nat) (hm : m < 256) (hs : s < 4) : Still Tryz.prog 180 #[.int .u8 m, .int .i64 s] (.bool (hasN m s)) := by
  intro w
  have e := has_bits m s hm
  have HE := Lib.hid e
  clear e
  go_enter Tryz.func180, Tryz.ntmps180
  go_wp2
  go_ret
  exact ⟨ret_bool HE.out, rfl⟩
end
section
open Go.ChangeShapes Go.WideShapes Go.ChangeAt Go.RowKit Go.Sort BigFrame

section
attribute [local irreducible] World.cell?
end
end
section
open Go.ChangeShapes Go.WideShapes Go.ChangeAt Go.RowKit Go.Sort BigFrame

abbrev occL (o : Nat → Int) : List Value := [.int .i64 (o 0), .int .i64 (o 1), .int .i64 (o 2), .int .i64 (o 3)]
abbrev marksL (c : Nat → Bool) : List Value := [.bool (c 0), .bool (c 1), .bool (c 2), .bool (c 3)]
abbrev Occ (w : World) (b : Nat) (o : Nat → Int) : Prop := w.heap[b]? = some (.cells (occL o).toArray 191 (0, 0))
abbrev Mark (w : World) (b : Nat) (c : Nat → Bool) : Prop := w.heap[b]? = some (.cells (marksL c).toArray 193 (0, 0))
theorem four {s : Nat} (h : s < 4) : s = 0 ∨ s = 1 ∨ s = 2 ∨ s = 3 := by omega
theorem occ_cell {w : World} {b : Nat} {o : Nat → Int} (h : Occ w b o) {s : Nat} (hs : s < 4) : w.cell? ⟨b, s, none⟩ = some (.int .i64 (o s)) := by
  rw [cell_of_lit h s]
  rcases four hs with rfl | rfl | rfl | rfl <;> rfl
theorem marks_cell {w : World} {b : Nat} {c : Nat → Bool} (h : Mark w b c) {s : Nat} (hs : s < 4) : w.cell? ⟨b, s, none⟩ = some (.bool (c s)) := by
  rw [cell_of_lit h s]
  rcases four hs with rfl | rfl | rfl | rfl <;> rfl
theorem occ_set {w : World} {b : Nat} {o : Nat → Int} (h : Occ w b o) {s : Nat} (hs : s < 4) (v : Int) : Occ (w.setCell ⟨b, s, none⟩ (.int .i64 v)) b (upd o s v) := by
  refine (heap_setCell_same w b s _ _ _ h).trans ?_
  rcases four hs with rfl | rfl | rfl | rfl <;> rfl
theorem mark_set {w : World} {b : Nat} {c : Nat → Bool} (h : Mark w b c) {s : Nat} (hs : s < 4) (v : Bool) : Mark (w.setCell ⟨b, s, none⟩ (.bool v)) b (upd c s v) := by
  refine (heap_setCell_same w b s _ _ _ h).trans ?_
  rcases four hs with rfl | rfl | rfl | rfl <;> rfl
abbrev occV (o : Nat → Int) : Value := .agg (occL o).toArray
abbrev markV (c : Nat → Bool) : Value := .agg (marksL c).toArray
/-- The two blocks while seats are taken. -/
structure Seats (w0 w : World) (o : Nat → Int) (c : Nat → Bool) : Prop where
  made : Made w0 w
  occ : Occ w w0.heap.size o
  mark : Mark w (w0.heap.size + 1) c
theorem Seats.setO {w0 w : World} {o : Nat → Int} {c : Nat → Bool} (h : Seats w0 w o c) {s : Nat} (hs : s < 4) (v : Int) : Seats w0 (w.setCell ⟨w0.heap.size, s, none⟩ (.int .i64 v)) (upd o s v) c :=
  ⟨h.made.setCell (p := ⟨w0.heap.size, s, none⟩) (Nat.le_refl _) _, occ_set h.occ hs v, (heap_setCell_other w ⟨w0.heap.size, s, none⟩ _ _ (by simp)).trans h.mark⟩
theorem Seats.setM {w0 w : World} {o : Nat → Int} {c : Nat → Bool} (h : Seats w0 w o c) {s : Nat} (hs : s < 4) (v : Bool) : Seats w0 (w.setCell ⟨w0.heap.size + 1, s, none⟩ (.bool v)) o (upd c s v) :=
  ⟨h.made.setCell (p := ⟨w0.heap.size + 1, s, none⟩) (by simp) _, (heap_setCell_other w ⟨w0.heap.size + 1, s, none⟩ _ _ (by simp)).trans h.occ, mark_set h.mark hs v⟩
theorem seats_start (w : World) : Seats w ((w.alloc (.cells (occL fun _ => 0).toArray 191)).alloc (.cells (marksL fun _ => false).toArray 193)) (fun _ => 0) (fun _ => false) := by
  have m1 := (Made.refl w).alloc (Nat.le_refl _) (.cells (occL fun _ => 0).toArray 191)
  have b1 : (w.alloc (.cells (occL fun _ => 0).toArray 191)).heap[w.heap.size]? = some (.cells (occL fun _ => 0).toArray 191 (0, 0)) := heap_alloc_new w _
  exact ⟨m1.alloc m1.size _, (Below.heap_alloc _ _ _ (heap_lt b1)).trans b1, heap_at (by simp)⟩
theorem seat_ext {fs : List Nat} {k : Nat} {o o' : Nat → Int} {c : Nat → Bool} (h : SeatAt fs k o c) (e : ∀ s, s < 4 → o' s = o s) (hf : ∀ j, j < k → fs.getD j 9 < 4) : SeatAt fs k o' c :=
  ⟨fun s hs hn => by rw [e s hs]; exact h.none s hs hn, fun j hj => by rw [e _ (hf j hj)]; exact h.some j hj⟩
section
attribute [local irreducible] World.cell?
set_option maxRecDepth 100000 in
set_option maxHeartbeats 2000000 in
theorem seat_any (ao : Option Addr) (cap : Nat) (fs : List Nat) (w : World) (hN : Nums .i64 w ao cap fs) (hl : fs.length ≤ 1000) (h4 : ∀ j, j < fs.length → fs.getD j 9 < 4) (hn : fs.Nodup) :
    Calls Tryz.prog 152 #[.slice ao fs.length cap] w fun e w' => ∃ o c, e = .returned (.tuple #[occV o, markV c]) ∧ SeatAt fs fs.length o c ∧ Made w w' := by
  have K0 := Lib.hid (seats_start w)
  go_enter Tryz.func152, Tryz.ntmps152
  go_wp2_with (fail)
  refine world_named (fun u => Seats w u (fun _ => 0) (fun _ => false)) K0.out ?_
  intro u hu
  have KU := Lib.hid hu
  clear hu K0
  go_loopw [7] (fun i wr => ∃ (k : Nat) (o : Nat → Int), k ≤ 4 ∧ i = .int .i64 k ∧ (∀ s, s < k → o s = -1) ∧ Seats w wr o (fun _ => false)) (fun i _ => 4 - (intOf i).toNat)
  case atStart => exact ⟨0, fun _ => 0, by omega, rfl, fun s hs => absurd hs (Nat.not_lt_zero s), KU.out⟩
  case round =>
    obtain ⟨k, o, hk, rfl, ho, hwr⟩ := hrel
    have HO := Lib.hid ho
    have KR := Lib.hid hwr
    clear ho hwr
    by_cases hlt : k < 4
    · have hc := occ_cell KR.out.occ hlt
      have fr := free_of_lit KR.out.occ
      have KX := Lib.hid (KR.out.setO hlt (-1))
      go_wp2
      go_roundw
      case rel =>
        refine ⟨k + 1, upd o k (-1), by omega, by go_num, fun s hs => ?_, KX.out⟩
        by_cases e : s = k
        · subst e; exact upd_same ..
        · rw [upd_ne _ _ e]; exact HO.out s (by omega)
      case measure => simp [intOf]; omega
    · obtain rfl : k = 4 := by omega
      have HS := Lib.hid (seat_ext (seat_start fs) HO.out (fun j hj => absurd hj (Nat.not_lt_zero j)))
      clear HO
      go_wp2_with (fail)
      go_loopw [15] (fun i wr => ∃ (k : Nat) (o : Nat → Int) (c : Nat → Bool), k ≤ fs.length ∧ i = .int .i64 k ∧ SeatAt fs k o c ∧ Seats w wr o c) (fun i _ => fs.length - (intOf i).toNat)
      case atStart => exact ⟨0, o, _, by omega, rfl, HS.out, KR.out⟩
      case round =>
        obtain ⟨k, o, c, hk, rfl, hs, hwr⟩ := hrel
        have H1 := Lib.hid hs
        have K1 := Lib.hid hwr
        clear hs hwr HS KR
        by_cases hlt2 : k < fs.length
        · obtain ⟨a, rfl⟩ := hN.some hlt2
          have hc := made_cell K1.out.made _ _ (hN.cell a rfl k hlt2)
          have e9 : fs.getD k 0 = fs.getD k 9 := by simp [List.getD, hlt2]
          rewrite [e9] at hc
          have hs4 := h4 k hlt2
          have HX := Lib.hid (seat_step H1.out hn hlt2)
          have KX := Lib.hid ((K1.out.setO hs4 k).setM hs4 true)
          have f1 := free_of_lit K1.out.occ
          have f2 := free_of_lit (K1.out.setO hs4 k).mark
          have c1 := occ_cell K1.out.occ hs4
          have c2 := marks_cell (K1.out.setO hs4 k).mark hs4
          generalize fs.getD k 9 = z at *
          clear e9
          go_wp2
          go_roundw
          case rel => exact ⟨k + 1, _, _, by omega, by go_num, HX.out, KX.out⟩
          case measure => simp [intOf]; omega
        · obtain rfl : k = fs.length := by omega
          have f1 := free_of_lit K1.out.occ
          have f2 := free_of_lit K1.out.mark
          have c0 := occ_cell K1.out.occ (s := 0) (by omega)
          have c1 := occ_cell K1.out.occ (s := 1) (by omega)
          have c2 := occ_cell K1.out.occ (s := 2) (by omega)
          have c3 := occ_cell K1.out.occ (s := 3) (by omega)
          have d0 := marks_cell K1.out.mark (s := 0) (by omega)
          have d1 := marks_cell K1.out.mark (s := 1) (by omega)
          have d2 := marks_cell K1.out.mark (s := 2) (by omega)
          have d3 := marks_cell K1.out.mark (s := 3) (by omega)
          go_upto_region 11 with (fail)
          go_region
          go_wp2
          refine bodyPost_ret (v := .tuple #[occV o, markV c]) (by simp [results, Tryz.results152, go_sem, c0, c1, c2, c3, d0, d1, d2, d3]) rfl ?_
          refine ⟨o, c, rfl, H1.out, ?_⟩
          have z0 := Nat.le_refl w.heap.size
          have z1 := Nat.le_succ w.heap.size
          exact made_drew ((((((((K1.out.made.setCell (p := ⟨w.heap.size, 0, none⟩) z0 _).setCell (p := ⟨w.heap.size, 1, none⟩) z0 _).setCell (p := ⟨w.heap.size, 2, none⟩) z0 _).setCell (p := ⟨w.heap.size, 3, none⟩) z0 _).setCell
            (p := ⟨w.heap.size + 1, 0, none⟩) z1 _).setCell (p := ⟨w.heap.size + 1, 1, none⟩) z1 _).setCell (p := ⟨w.heap.size + 1, 2, none⟩) z1 _).setCell (p := ⟨w.heap.size + 1, 3, none⟩) z1 _)
end
end
end Go.Proofs.YtanjmoiepmadhaaGreatDoor
