/- One mask that asks for a slot, moving others if need be: if it gets one, all that had a slot still have one; if not, no assignment gives all of them one. The seats as lists of slots. No condition but those named. -/
import Derived.Test.YtplafgegjbppmaaMatchMath
namespace Go.Proofs.Ytplafgegjbppmaa

def upd {α : Type} (o : Nat → α) (s : Nat) (v : α) : Nat → α := fun t => if t = s then v else o t
theorem upd_same {α : Type} (o : Nat → α) (s : Nat) (v : α) : upd o s v s = v := if_pos rfl
theorem upd_ne {α : Type} (o : Nat → α) {s t : Nat} (v : α) (h : t ≠ s) : upd o s v t = o t := if_neg h
def allowN (ns : List Nat) (k : Int) (s : Nat) : Bool := hasN (ns.getD k.toNat 0) s
/-- Each slot has nobody, or the number of a mask that allows it. -/
def Val (ns : List Nat) (o : Nat → Int) : Prop := ∀ s, s < 4 → o s = -1 ∨ (0 ≤ o s ∧ o s < ns.length ∧ allowN ns (o s) s = true)
/-- What is so before a mask asks: 'c': the slots that may not be asked for. -/
structure Pre (ns : List Nat) (o : Nat → Int) (c : Nat → Bool) (i : Int) : Prop where
  lo : 0 ≤ i
  hi : i < ns.length
  val : Val ns o
  inj : ∀ s t, s < 4 → t < 4 → c s = false → c t = false → o s = o t → o s ≠ -1 → s = t
  new : ∀ s, s < 4 → c s = false → o s ≠ i
/-- What is so where it got one. -/
structure Post (ns : List Nat) (o : Nat → Int) (c : Nat → Bool) (i : Int) (o' : Nat → Int) : Prop where
  val : Val ns o'
  same : ∀ s, s < 4 → c s = true → o' s = o s
  inj : ∀ s t, s < 4 → t < 4 → c s = false → c t = false → o' s = o' t → o' s ≠ -1 → s = t
  mem : ∀ k : Int, k ≠ -1 → ((∃ s, s < 4 ∧ c s = false ∧ o' s = k) ↔ (k = i ∨ ∃ s, s < 4 ∧ c s = false ∧ o s = k))
/-- The slots that were asked for in vain. -/
structure Dead (ns : List Nat) (o : Nat → Int) (c c' : Nat → Bool) : Prop where
  mono : ∀ s, s < 4 → c s = true → c' s = true
  dead : ∀ s, s < 4 → c' s = true → c s = false → o s ≠ -1 ∧ ∀ t, t < 4 → allowN ns (o s) t = true → c' t = true
/-- Of the slots below s none is left to ask for. -/
structure Mid (ns : List Nat) (o : Nat → Int) (c : Nat → Bool) (i : Int) (s : Nat) (c' : Nat → Bool) : Prop where
  dead : Dead ns o c c'
  all : ∀ t, t < s → t < 4 → allowN ns i t = true → c' t = true
theorem mid_start (ns : List Nat) (o : Nat → Int) (c : Nat → Bool) (i : Int) : Mid ns o c i 0 c :=
  ⟨⟨fun _ _ h => h, fun _ _ h h' => absurd h (by rw [h']; simp)⟩, fun t ht => absurd ht (Nat.not_lt_zero t)⟩
theorem mid_skip {ns : List Nat} {o : Nat → Int} {c c' : Nat → Bool} {i : Int} {s : Nat} (h : Mid ns o c i s c') (hs : c' s = true ∨ allowN ns i s = false) : Mid ns o c i (s + 1) c' := by
  refine ⟨h.dead, fun t ht h4 ha => ?_⟩
  rcases Nat.lt_or_ge t s with h1 | h1
  · exact h.all t h1 h4 ha
  · obtain rfl : t = s := by omega
    rcases hs with hs | hs
    · exact hs
    · exact absurd ha (by rw [hs]; simp)
theorem open_of {ns : List Nat} {o : Nat → Int} {c c' : Nat → Bool} (h : Dead ns o c c') {s : Nat} (hs : s < 4) (hc : c' s = false) : c s = false := by
  cases h1 : c s with
  | false => rfl
  | true => exact absurd (h.mono s hs h1) (by rw [hc]; simp)
theorem upd_false {c : Nat → Bool} {s t : Nat} (h : upd c s true t = false) : t ≠ s ∧ c t = false := by
  by_cases e : t = s
  · subst e
    rw [upd_same] at h
    exact absurd h (by simp)
  · rw [upd_ne _ _ e] at h
    exact ⟨e, h⟩
theorem pre_next {ns : List Nat} {o : Nat → Int} {c c' : Nat → Bool} {i : Int} {s : Nat} (hp : Pre ns o c i) (hm : Mid ns o c i s c') (hs : s < 4) (hc : c' s = false) (ho : o s ≠ -1) : Pre ns o (upd c' s true) (o s) := by
  have hv := (hp.val s hs).resolve_left ho
  refine ⟨hv.1, hv.2.1, hp.val, fun a b ha hb h1 h2 => hp.inj a b ha hb (open_of hm.dead ha (upd_false h1).2) (open_of hm.dead hb (upd_false h2).2), fun a ha h1 e => ?_⟩
  exact (upd_false h1).1 (hp.inj a s ha hs (open_of hm.dead ha (upd_false h1).2) (open_of hm.dead hs hc) e (by rw [e]; exact ho))
theorem mid_fail {ns : List Nat} {o : Nat → Int} {c c' c2 : Nat → Bool} {i : Int} {s : Nat} (hm : Mid ns o c i s c') (ho : o s ≠ -1) (hd : Dead ns o (upd c' s true) c2)
    (ha : ∀ t, t < 4 → allowN ns (o s) t = true → c2 t = true) (hs : s < 4) : Mid ns o c i (s + 1) c2 := by
  have hup : ∀ t, t < 4 → c' t = true → c2 t = true := by
    intro t ht h
    refine hd.mono t ht ?_
    by_cases e : t = s
    · subst e; exact upd_same ..
    · rw [upd_ne _ _ e]; exact h
  have hs2 : c2 s = true := hd.mono s hs (upd_same ..)
  refine ⟨⟨fun t ht h => hup t ht (hm.dead.mono t ht h), fun t ht h2 h0 => ?_⟩, fun t ht h4 h => ?_⟩
  · by_cases e : t = s
    · subst e; exact ⟨ho, ha⟩
    · cases h1 : c' t with
      | true =>
        obtain ⟨d1, d2⟩ := hm.dead.dead t ht h1 h0
        exact ⟨d1, fun u hu hau => hup u hu (d2 u hu hau)⟩
      | false => exact hd.dead t ht h2 (by rw [upd_ne _ _ e]; exact h1)
  · rcases Nat.lt_or_ge t s with h1 | h1
    · exact hup t h4 (hm.all t h1 h4 h)
    · obtain rfl : t = s := by omega
      exact hs2
theorem val_upd {ns : List Nat} {o : Nat → Int} {i : Int} {s : Nat} (hv : Val ns o) (lo : 0 ≤ i) (hi : i < ns.length) (ha : allowN ns i s = true) : Val ns (upd o s i) := by
  intro t ht
  by_cases e : t = s
  · subst e; rw [upd_same]; exact .inr ⟨lo, hi, ha⟩
  · rw [upd_ne _ _ e]; exact hv t ht
theorem post_free {ns : List Nat} {o : Nat → Int} {c c' : Nat → Bool} {i : Int} {s : Nat} (hp : Pre ns o c i) (hm : Mid ns o c i s c') (hs : s < 4) (hc : c' s = false) (ha : allowN ns i s = true) (ho : o s = -1) : Post ns o c i (upd o s i) := by
  have hcs := open_of hm.dead hs hc
  refine ⟨val_upd hp.val hp.lo hp.hi ha, fun t ht h => upd_ne _ _ (fun e => by subst e; rw [hcs] at h; exact absurd h (by simp)), fun t u ht hu h1 h2 e hn => ?_, fun k hk => ⟨?_, ?_⟩⟩
  · by_cases et : t = s
    · by_cases eu : u = s
      · omega
      · subst et
        rw [upd_same, upd_ne _ _ eu] at e
        exact absurd e.symm (hp.new u hu h2)
    · by_cases eu : u = s
      · subst eu
        rw [upd_same, upd_ne _ _ et] at e
        exact absurd e (hp.new t ht h1)
      · rw [upd_ne _ _ et, upd_ne _ _ eu] at e
        rw [upd_ne _ _ et] at hn
        exact hp.inj t u ht hu h1 h2 e hn
  · rintro ⟨t, ht, h1, rfl⟩
    by_cases et : t = s
    · subst et; exact .inl (upd_same ..)
    · exact .inr ⟨t, ht, h1, (upd_ne _ _ et).symm⟩
  · rintro (rfl | ⟨t, ht, h1, rfl⟩)
    · exact ⟨s, hs, hcs, upd_same ..⟩
    · refine ⟨t, ht, h1, upd_ne _ _ fun e => ?_⟩
      subst e
      exact hk ho
theorem post_rec {ns : List Nat} {o o1 : Nat → Int} {c c' : Nat → Bool} {i : Int} {s : Nat} (hp : Pre ns o c i) (hm : Mid ns o c i s c') (hs : s < 4) (hc : c' s = false) (ha : allowN ns i s = true) (ho : o s ≠ -1)
    (hr : Post ns o (upd c' s true) (o s) o1) : Post ns o c i (upd o1 s i) := by
  have hcs := open_of hm.dead hs hc
  -- what a slot but s holds now: as before, or one out of the open ones
  have key : ∀ t, t < 4 → t ≠ s → c t = false → (upd c' s true t = true ∧ o1 t = o t) ∨ (upd c' s true t = false ∧ (o1 t = -1 ∨ ∃ v, v < 4 ∧ c v = false ∧ o v = o1 t ∧ (v = s ∨ upd c' s true v = false))) := by
    intro t ht hne hct
    cases h1 : upd c' s true t with
    | true => exact .inl ⟨rfl, hr.same t ht h1⟩
    | false =>
      refine .inr ⟨rfl, ?_⟩
      by_cases hn : o1 t = -1
      · exact .inl hn
      · rcases (hr.mem (o1 t) hn).1 ⟨t, ht, h1, rfl⟩ with h2 | ⟨v, hv, h2, h3⟩
        · exact .inr ⟨s, hs, hcs, h2.symm, .inl rfl⟩
        · exact .inr ⟨v, hv, open_of hm.dead hv (upd_false h2).2, h3, .inr h2⟩
  have hne_i : ∀ t, t < 4 → t ≠ s → c t = false → o1 t ≠ i := by
    intro t ht hne hct e
    rcases key t ht hne hct with ⟨_, h2⟩ | ⟨_, h2⟩
    · exact hp.new t ht hct (h2 ▸ e)
    · rcases h2 with h2 | ⟨v, hv, h3, h4, _⟩
      · have := hp.lo; omega
      · exact hp.new v hv h3 (h4.trans e)
  have inj1 : ∀ t u, t < 4 → u < 4 → t ≠ s → u ≠ s → c t = false → c u = false → o1 t = o1 u → o1 t ≠ -1 → t = u := by
    have half : ∀ t u, t < 4 → u < 4 → t ≠ s → u ≠ s → c t = false → c u = false → o1 t = o1 u → o1 t ≠ -1 → upd c' s true t = true → t = u := by
      intro t u ht hu et eu h1 h2 e hn h3
      have h4 := hr.same t ht h3
      rcases key u hu eu h2 with ⟨_, k2⟩ | ⟨k1, k2⟩
      · exact hp.inj t u ht hu h1 h2 (by rw [← h4, ← k2]; exact e) (by rw [← h4]; exact hn)
      · rcases k2 with k2 | ⟨v, hv, k3, k4, k5⟩
        · exact absurd (e.trans k2) hn
        · have k6 : o t = o v := by rw [← h4, k4]; exact e
          have k7 := hp.inj t v ht hv h1 k3 k6 (by rw [← h4]; exact hn)
          subst k7
          rcases k5 with k5 | k5
          · exact absurd k5 et
          · exact absurd h3 (by rw [k5]; simp)
    intro t u ht hu et eu h1 h2 e hn
    cases h3 : upd c' s true t with
    | true => exact half t u ht hu et eu h1 h2 e hn h3
    | false =>
      cases h4 : upd c' s true u with
      | true => exact (half u t hu ht eu et h2 h1 e.symm (e ▸ hn) h4).symm
      | false => exact hr.inj t u ht hu h3 h4 e hn
  refine ⟨val_upd hr.val hp.lo hp.hi ha, fun t ht h => ?_, fun t u ht hu h1 h2 e hn => ?_, fun k hk => ⟨?_, ?_⟩⟩
  · have et : t ≠ s := fun e => by subst e; rw [hcs] at h; exact absurd h (by simp)
    rw [upd_ne _ _ et]
    exact hr.same t ht (by rw [upd_ne _ _ et]; exact hm.dead.mono t ht h)
  · by_cases et : t = s
    · by_cases eu : u = s
      · omega
      · subst et
        rw [upd_same, upd_ne _ _ eu] at e
        exact absurd e.symm (hne_i u hu eu h2)
    · by_cases eu : u = s
      · subst eu
        rw [upd_same, upd_ne _ _ et] at e
        exact absurd e (hne_i t ht et h1)
      · rw [upd_ne _ _ et, upd_ne _ _ eu] at e
        rw [upd_ne _ _ et] at hn
        exact inj1 t u ht hu et eu h1 h2 e hn
  · rintro ⟨t, ht, h1, rfl⟩
    by_cases et : t = s
    · subst et; exact .inl (upd_same ..)
    · rw [upd_ne _ _ et] at hk ⊢
      rcases key t ht et h1 with ⟨_, k2⟩ | ⟨_, k2⟩
      · exact .inr ⟨t, ht, h1, k2.symm⟩
      · rcases k2 with k2 | ⟨v, hv, k3, k4, _⟩
        · exact absurd k2 hk
        · exact .inr ⟨v, hv, k3, k4⟩
  · rintro (rfl | ⟨t, ht, h1, rfl⟩)
    · exact ⟨s, hs, hcs, upd_same ..⟩
    · cases h3 : upd c' s true t with
      | true =>
        by_cases et : t = s
        · subst et
          obtain ⟨u, hu, h4, h5⟩ := (hr.mem (o t) ho).2 (.inl rfl)
          exact ⟨u, hu, open_of hm.dead hu (upd_false h4).2, by rw [upd_ne _ _ (upd_false h4).1]; exact h5⟩
        · exact ⟨t, ht, h1, by rw [upd_ne _ _ et]; exact hr.same t ht h3⟩
      | false =>
        obtain ⟨u, hu, h4, h5⟩ := (hr.mem (o t) hk).2 (.inr ⟨t, ht, h3, rfl⟩)
        exact ⟨u, hu, open_of hm.dead hu (upd_false h4).2, by rw [upd_ne _ _ (upd_false h4).1]; exact h5⟩
/-- How many slots may be asked for. -/
def openN (c : Nat → Bool) : Nat := (if c 0 then 0 else 1) + (if c 1 then 0 else 1) + (if c 2 then 0 else 1) + (if c 3 then 0 else 1)
theorem openN_mono {c c' : Nat → Bool} (h : ∀ s, s < 4 → c s = true → c' s = true) : openN c' ≤ openN c := by
  have h0 := h 0 (by omega)
  have h1 := h 1 (by omega)
  have h2 := h 2 (by omega)
  have h3 := h 3 (by omega)
  unfold openN
  cases e0 : c 0 <;> cases e1 : c 1 <;> cases e2 : c 2 <;> cases e3 : c 3 <;> simp_all <;> (repeat' split) <;> omega
theorem openN_upd {c : Nat → Bool} {s : Nat} (hs : s < 4) (h : c s = false) : openN (upd c s true) < openN c := by
  have hc : s = 0 ∨ s = 1 ∨ s = 2 ∨ s = 3 := by omega
  unfold openN upd
  rcases hc with rfl | rfl | rfl | rfl <;> simp [h] <;> (repeat' split) <;> omega
theorem openN_le (c : Nat → Bool) : openN c ≤ 4 := by
  unfold openN
  (repeat' split) <;> omega
theorem openN_next {ns : List Nat} {o : Nat → Int} {c c' : Nat → Bool} {i : Int} {s : Nat} (hm : Mid ns o c i s c') (hs : s < 4) (hc : c' s = false) : openN (upd c' s true) < openN c :=
  Nat.lt_of_lt_of_le (openN_upd hs hc) (openN_mono hm.dead.mono)

/-! Slots that are fixed for the first masks. -/
/-- The first k of the fixed ones have their seats. -/
structure SeatAt (fs : List Nat) (k : Nat) (o : Nat → Int) (c : Nat → Bool) : Prop where
  none : ∀ s, s < 4 → (∀ j, j < k → fs.getD j 9 ≠ s) → o s = -1 ∧ c s = false
  some : ∀ j, j < k → o (fs.getD j 9) = j ∧ c (fs.getD j 9) = true
theorem seat_start (fs : List Nat) : SeatAt fs 0 (fun _ => -1) (fun _ => false) := ⟨fun _ _ _ => ⟨rfl, rfl⟩, fun j hj => absurd hj (Nat.not_lt_zero j)⟩
theorem nodup_at {l : List Nat} (h : l.Nodup) {i j d e : Nat} (hi : i < l.length) (hj : j < l.length) (he : l.getD i d = l.getD j e) : i = j := by
  have h1 : l.getD i d = l[i] := by simp [List.getD, hi]
  have h2 : l.getD j e = l[j] := by simp [List.getD, hj]
  rw [h1, h2] at he
  exact (List.getElem_inj h).1 he
theorem seat_step {fs : List Nat} {k : Nat} {o : Nat → Int} {c : Nat → Bool} (h : SeatAt fs k o c) (hn : fs.Nodup) (hk : k < fs.length) : SeatAt fs (k + 1) (upd o (fs.getD k 9) k) (upd c (fs.getD k 9) true) := by
  refine ⟨fun s hs hne => ?_, fun j hj => ?_⟩
  · have e : s ≠ fs.getD k 9 := fun e => hne k (by omega) e.symm
    rw [upd_ne _ _ e, upd_ne _ _ e]
    exact h.none s hs fun j hj => hne j (by omega)
  · by_cases e : j = k
    · subst e
      exact ⟨upd_same .., upd_same ..⟩
    · have ne : fs.getD j 9 ≠ fs.getD k 9 := fun e2 => e (nodup_at hn (by omega) hk e2)
      rw [upd_ne _ _ ne, upd_ne _ _ ne]
      exact h.some j (by omega)

/-- The masks from the fixed ones on, up to i, have slots. -/
structure Filled (ns fs : List Nat) (kept : Nat → Bool) (o : Nat → Int) (i : Nat) : Prop where
  val : Val ns o
  keeps : ∀ s, s < 4 → kept s = true → ∃ j, j < fs.length ∧ fs.getD j 9 = s ∧ o s = j
  fixed : ∀ j, j < fs.length → kept (fs.getD j 9) = true ∧ o (fs.getD j 9) = j
  inj : ∀ s t, s < 4 → t < 4 → kept s = false → kept t = false → o s = o t → o s ≠ -1 → s = t
  mem : ∀ k : Int, k ≠ -1 → ((∃ s, s < 4 ∧ kept s = false ∧ o s = k) ↔ ((fs.length : Int) ≤ k ∧ k < i))
/-- What the fixed slots are: one for each of the first masks, allowed, none twice. -/
structure FixOk (ns fs : List Nat) : Prop where
  le : fs.length ≤ ns.length
  nodup : fs.Nodup
  ok : ∀ j, j < fs.length → fs.getD j 9 < 4 ∧ hasN (ns.getD j 0) (fs.getD j 9) = true
theorem filled_start {ns fs : List Nat} {o : Nat → Int} {c : Nat → Bool} (hf : FixOk ns fs) (h : SeatAt fs fs.length o c) : Filled ns fs c o fs.length := by
  have hk : ∀ s, s < 4 → (∃ j, j < fs.length ∧ fs.getD j 9 = s ∧ o s = j) ∨ (o s = -1 ∧ c s = false) := by
    intro s hs
    by_cases hx : ∃ j, j < fs.length ∧ fs.getD j 9 = s
    · obtain ⟨j, hj, rfl⟩ := hx
      exact .inl ⟨j, hj, rfl, (h.some j hj).1⟩
    · exact .inr (h.none s hs fun j hj e => hx ⟨j, hj, e⟩)
  have hopen : ∀ s, s < 4 → c s = false → o s = -1 := by
    intro s hs hc
    rcases hk s hs with ⟨j, hj, rfl, _⟩ | h2
    · exact absurd (h.some j hj).2 (by rw [hc]; simp)
    · exact h2.1
  refine ⟨fun s hs => ?_, fun s hs hc => ?_, fun j hj => ⟨(h.some j hj).2, (h.some j hj).1⟩, fun s t hs ht h1 h2 e hn => absurd (hopen s hs h1) hn, fun k hk' => ⟨?_, ?_⟩⟩
  · rcases hk s hs with ⟨j, hj, rfl, e⟩ | h2
    · have hle := hf.le
      exact .inr ⟨by omega, by omega, by unfold allowN; rw [e]; exact (hf.ok j hj).2⟩
    · exact .inl h2.1
  · rcases hk s hs with h2 | h2
    · exact h2
    · exact absurd hc (by rw [h2.2]; simp)
  · rintro ⟨s, hs, h1, rfl⟩
    exact absurd (hopen s hs h1) hk'
  · rintro ⟨h1, h2⟩
    omega
theorem filled_pre {ns fs : List Nat} {kept : Nat → Bool} {o : Nat → Int} {i : Nat} (h : Filled ns fs kept o i) (hi : i < ns.length) : Pre ns o kept i :=
  ⟨by omega, by omega, h.val, h.inj, fun s hs hc e => by
    have := (h.mem i (by omega)).1 ⟨s, hs, hc, e⟩
    omega⟩
theorem filled_next {ns fs : List Nat} {kept : Nat → Bool} {o o' : Nat → Int} {i : Nat} (h : Filled ns fs kept o i) (hm : fs.length ≤ i) (hp : Post ns o kept i o') (hf : FixOk ns fs) : Filled ns fs kept o' (i + 1) := by
  refine ⟨hp.val, fun s hs hc => ?_, fun j hj => ⟨(h.fixed j hj).1, (hp.same _ (hf.ok j hj).1 (h.fixed j hj).1).trans (h.fixed j hj).2⟩, hp.inj, fun k hk => ?_⟩
  · rw [hp.same s hs hc]
    exact h.keeps s hs hc
  · rw [hp.mem k hk, h.mem k hk]
    omega
theorem filled_inj {ns fs : List Nat} {kept : Nat → Bool} {o : Nat → Int} {i : Nat} (h : Filled ns fs kept o i) : ∀ s t, s < 4 → t < 4 → o s = o t → o s ≠ -1 → s = t := by
  intro s t hs ht e hn
  cases h1 : kept s with
  | false =>
    have k1 := (h.mem (o s) hn).1 ⟨s, hs, h1, rfl⟩
    cases h2 : kept t with
    | false => exact h.inj s t hs ht h1 h2 e hn
    | true =>
      obtain ⟨j, hj, _, e2⟩ := h.keeps t ht h2
      omega
  | true =>
    obtain ⟨j, hj, e1, e2⟩ := h.keeps s hs h1
    cases h2 : kept t with
    | false =>
      have k1 := (h.mem (o t) (e ▸ hn)).1 ⟨t, ht, h2, rfl⟩
      omega
    | true =>
      obtain ⟨j', hj', e3, e4⟩ := h.keeps t ht h2
      obtain rfl : j = j' := by omega
      omega
theorem good_drop : ∀ (k : Nat) (r t : List Nat), good r t → good (r.drop k) (t.drop k)
  | 0, _, _, h => h
  | k + 1, [], [], _ => by simp [good]
  | k + 1, m :: r, s :: t, h => by simpa using good_drop k r t h.2.2
  | _ + 1, [], _ :: _, h => absurd h (by simp [good])
  | _ + 1, _ :: _, [], h => absurd h (by simp [good])
/-- An assignment that goes on from the fixed slots. -/
theorem whole_of {ns fs t : List Nat} (hf : FixOk ns fs) (h : good (ns.drop fs.length) t) : good ns (fs ++ t) := by
  have hl := good_len _ _ h
  have hle := hf.le
  rw [List.length_drop] at hl
  refine good_of _ _ (by simp; omega) fun i hi => ?_
  by_cases h1 : i < fs.length
  · have h2 := hf.ok i h1
    have e : (fs ++ t).getD i 0 = fs.getD i 9 := by simp [List.getD, List.getElem?_append_left h1, h1]
    rw [e]
    exact h2
  · have h2 := good_at _ _ h (i - fs.length) (by rw [List.length_drop]; omega)
    have e : (fs ++ t).getD i 0 = t.getD (i - fs.length) 0 := by simp [List.getD, List.getElem?_append_right (show fs.length ≤ i by omega)]
    have e2 : (ns.drop fs.length).getD (i - fs.length) 0 = ns.getD i 0 := by
      simp only [List.getD, List.getElem?_drop]
      rw [show fs.length + (i - fs.length) = i by omega]
    rw [e, ← e2]
    exact h2
/-- Where a mask got no slot no assignment goes on from the fixed ones. -/
theorem filled_fail {ns fs : List Nat} {kept c' : Nat → Bool} {o : Nat → Int} {i : Nat} (h : Filled ns fs kept o i) (hf : FixOk ns fs) (hm : fs.length ≤ i) (hi : i < ns.length) (hd : Dead ns o kept c')
    (ha : ∀ t, t < 4 → allowN ns i t = true → c' t = true) : search (ns.drop fs.length) fs = none := by
  cases hs : search (ns.drop fs.length) fs with
  | none => rfl
  | some l =>
    exfalso
    obtain ⟨t, rfl, hg, hn⟩ := search_good _ fs l hf.nodup hs
    have hw := whole_of hf hg
    have hl := good_len _ _ hw
    generalize hL : fs ++ t = L at *
    have hfix : ∀ j, j < fs.length → L.getD j 0 = fs.getD j 9 := fun j hj => by rw [← hL]; simp [List.getD, List.getElem?_append_left hj, hj]
    have hat := good_at _ _ hw
    let D := (List.range 4).filter fun s => c' s && !kept s
    have hD : ∀ s, s ∈ D ↔ s < 4 ∧ c' s = true ∧ kept s = false := by intro s; simp [D]
    have hocc : ∀ s, s ∈ D → (fs.length : Int) ≤ o s ∧ o s < i := fun s hs' => by
      obtain ⟨h4, h5, h6⟩ := (hD s).1 hs'
      exact (h.mem (o s) (hd.dead s h4 h5 h6).1).1 ⟨s, h4, h6, rfl⟩
    -- where the assignment puts one of them lies in D
    have into : ∀ x, fs.length ≤ x → x < ns.length → (∀ s, s < 4 → allowN ns x s = true → c' s = true) → L.getD x 0 ∈ D := by
      intro x hx hxn hall
      obtain ⟨h4, h5⟩ := hat x hxn
      refine (hD _).2 ⟨h4, hall _ h4 (by simpa [allowN] using h5), ?_⟩
      cases hk : kept (L.getD x 0) with
      | false => rfl
      | true =>
        obtain ⟨j, hj, e, _⟩ := h.keeps _ h4 hk
        rw [← hfix j hj] at e
        have := nodup_at hn (by omega) (by omega) e
        omega
    have hDn : D.Nodup := List.Nodup.sublist List.filter_sublist List.nodup_range
    let X := i :: D.map fun s => (o s).toNat
    have hX : ∀ x, x ∈ X → fs.length ≤ x ∧ x < ns.length ∧ L.getD x 0 ∈ D := by
      intro x hx
      rcases List.mem_cons.1 hx with rfl | hx
      · exact ⟨hm, hi, into _ hm hi ha⟩
      · obtain ⟨s, hs', rfl⟩ := List.mem_map.1 hx
        have h1 := hocc s hs'
        obtain ⟨h4, h5, h6⟩ := (hD s).1 hs'
        refine ⟨by omega, by omega, into _ (by omega) (by omega) fun u hu hau => (hd.dead s h4 h5 h6).2 u hu ?_⟩
        rw [show ((o s).toNat : Int) = o s by omega] at hau
        exact hau
    have hXn : X.Nodup := by
      refine List.nodup_cons.2 ⟨fun hx => ?_, ?_⟩
      · obtain ⟨s, hs', e⟩ := List.mem_map.1 hx
        have := hocc s hs'
        omega
      · rw [List.nodup_iff_pairwise_ne, List.pairwise_map]
        refine List.Pairwise.imp_of_mem ?_ (List.nodup_iff_pairwise_ne.1 hDn)
        intro a b ha' hb' hne e
        have h1 := hocc a ha'
        have h2 := hocc b hb'
        obtain ⟨h4, _, h6⟩ := (hD a).1 ha'
        obtain ⟨k4, _, k6⟩ := (hD b).1 hb'
        exact hne (h.inj a b h4 k4 h6 k6 (by omega) (by omega))
    have hXm : (X.map fun x => L.getD x 0).Nodup := by
      rw [List.nodup_iff_pairwise_ne, List.pairwise_map]
      refine List.Pairwise.imp_of_mem ?_ (List.nodup_iff_pairwise_ne.1 hXn)
      intro a b ha' hb' hne e
      exact hne (nodup_at hn (by rw [hl]; exact (hX a ha').2.1) (by rw [hl]; exact (hX b hb').2.1) e)
    have hle := nodup_le _ D hXm fun y hy => by
      obtain ⟨x, hx, rfl⟩ := List.mem_map.1 hy
      exact (hX x hx).2.2
    simp [X] at hle
    omega

/-! The slots as a list. -/
def fillL (o : Nat → Int) (n : Nat) : Nat → List Nat
  | 0 => List.replicate n 0
  | s + 1 => if o s = -1 then fillL o n s else (fillL o n s).set (o s).toNat s
theorem fillL_len (o : Nat → Int) (n : Nat) : ∀ s, (fillL o n s).length = n
  | 0 => by simp [fillL]
  | s + 1 => by unfold fillL; split <;> simp [fillL_len o n s]
theorem fillL_at (o : Nat → Int) (n k : Nat) (hk : k < n) : ∀ m, (∀ s, s < m → o s = -1 ∨ 0 ≤ o s) → (∃ s, s < m ∧ o s = k) → (fillL o n m).getD k 0 < m ∧ o ((fillL o n m).getD k 0) = k
  | 0, _, ⟨s, hs, _⟩ => absurd hs (Nat.not_lt_zero s)
  | m + 1, hlo, ⟨s, hs, e⟩ => by
    have hlo2 : ∀ s, s < m → o s = -1 ∨ 0 ≤ o s := fun s h => hlo s (by omega)
    unfold fillL
    by_cases hm : o m = -1
    · rw [if_pos hm]
      have hsm : s < m := by
        rcases Nat.lt_or_ge s m with h | h
        · exact h
        · obtain rfl : s = m := by omega
          omega
      have := fillL_at o n k hk m hlo2 ⟨s, hsm, e⟩
      exact ⟨by omega, this.2⟩
    · rw [if_neg hm]
      have h0 := (hlo m (by omega)).resolve_left hm
      by_cases hmk : o m = k
      · have e3 : ((fillL o n m).set (o m).toNat m).getD k 0 = m := by
          rw [hmk]
          simp [List.getD, fillL_len, hk]
        rw [e3]
        exact ⟨by omega, hmk⟩
      · have hsm : s < m := by
          rcases Nat.lt_or_ge s m with h | h
          · exact h
          · obtain rfl : s = m := by omega
            exact absurd e hmk
        have e3 : ((fillL o n m).set (o m).toNat m).getD k 0 = (fillL o n m).getD k 0 := by
          simp only [List.getD]
          rw [List.getElem?_set_ne (by omega)]
        rw [e3]
        have := fillL_at o n k hk m hlo2 ⟨s, hsm, e⟩
        exact ⟨by omega, this.2⟩
/-- An assignment of all masks, no slot twice. -/
structure Whole (ns l : List Nat) : Prop where
  good : good ns l
  nodup : l.Nodup
theorem filled_end {ns fs : List Nat} {kept : Nat → Bool} {o : Nat → Int} (h : Filled ns fs kept o ns.length) (hf : FixOk ns fs) :
    Whole ns (fillL o ns.length 4) ∧ (fillL o ns.length 4).take fs.length = fs := by
  have hlen := fillL_len o ns.length 4
  have hall : ∀ k, k < ns.length → ∃ s, s < 4 ∧ o s = k := by
    intro k hk
    by_cases h1 : k < fs.length
    · exact ⟨_, (hf.ok k h1).1, (h.fixed k h1).2⟩
    · obtain ⟨s, hs, _, e⟩ := (h.mem k (by omega)).2 ⟨by omega, by omega⟩
      exact ⟨s, hs, e⟩
  have hat : ∀ k, k < ns.length → (fillL o ns.length 4).getD k 0 < 4 ∧ o ((fillL o ns.length 4).getD k 0) = k := fun k hk => fillL_at o ns.length k hk 4 (fun s hs => (h.val s hs).imp_right (·.1)) (hall k hk)
  generalize fillL o ns.length 4 = l at *
  refine ⟨⟨good_of _ _ hlen fun k hk => ?_, ?_⟩, ?_⟩
  · obtain ⟨h1, h2⟩ := hat k hk
    refine ⟨h1, ?_⟩
    have h3 := ((h.val _ h1).resolve_left (by omega)).2.2
    rw [h2] at h3
    simpa [allowN] using h3
  · rw [List.nodup_iff_pairwise_ne, List.pairwise_iff_getElem]
    intro i j hi hj hij e
    have h1 := (hat i (by omega)).2
    have h2 := (hat j (by omega)).2
    rw [getD_lt l i hi] at h1
    rw [getD_lt l j hj] at h2
    rw [e] at h1
    omega
  · have hle := hf.le
    refine List.ext_getElem (by simp; omega) fun k h1 h2 => ?_
    rw [List.getElem_take]
    obtain ⟨h3, h4⟩ := hat k (by omega)
    have h5 := (h.fixed k h2).2
    have e := filled_inj h _ _ h3 (hf.ok k h2).1 (h4.trans h5.symm) (by omega)
    rw [getD_lt l k (by omega)] at e
    rw [e]
    simp [List.getD, h2]
/-- What the search says of an assignment that goes on from the fixed slots. -/
theorem search_take {ns l : List Nat} (h : Whole ns l) (i : Nat) : (search (ns.drop i) (l.take i)).isSome = true :=
  good_search _ (l.drop i) _ (good_drop i ns l h.good) (by rw [List.take_append_drop]; exact h.nodup)
theorem fix_take {ns l : List Nat} (h : Whole ns l) (i : Nat) (hi : i ≤ ns.length) : FixOk ns (l.take i) := by
  have hl := good_len _ _ h.good
  have hle : (l.take i).length = i := by rw [List.length_take]; omega
  refine ⟨by omega, List.Nodup.sublist (List.take_sublist i l) h.nodup, fun j hj => ?_⟩
  have h1 := good_at _ _ h.good j (by omega)
  have e : (l.take i).getD j 9 = l.getD j 0 := by
    simp only [List.getD, List.getElem?_take]
    rw [if_pos (by omega), List.getElem?_eq_getElem (by omega)]
    rfl
  rw [e]
  exact h1
theorem fix_snoc {ns fs : List Nat} {s : Nat} (h : FixOk ns fs) (hlt : fs.length < ns.length) (hs : s < 4) (ha : hasN (ns.getD fs.length 0) s = true) (hc : fs.contains s = false) : FixOk ns (fs ++ [s]) := by
  have hc2 : s ∉ fs := by simpa using hc
  refine ⟨by simp; omega, ?_, fun j hj => ?_⟩
  · rw [List.nodup_append]
    refine ⟨h.nodup, by simp, ?_⟩
    intro x hx y hy
    simp only [List.mem_singleton] at hy
    subst hy
    exact fun e => hc2 (e ▸ hx)
  · by_cases h1 : j < fs.length
    · have e : (fs ++ [s]).getD j 9 = fs.getD j 9 := by simp [List.getD, List.getElem?_append_left h1]
      rw [e]
      exact h.ok j h1
    · simp only [List.length_append, List.length_cons, List.length_nil] at hj
      obtain rfl : j = fs.length := by omega
      have e : (fs ++ [s]).getD fs.length 9 = s := by simp [List.getD]
      rw [e]
      exact ⟨hs, ha⟩
theorem fix_nil (ns : List Nat) : FixOk ns [] := ⟨by simp, by simp, fun j hj => absurd hj (by simp)⟩
/-- One mask more has its least slot. -/
theorem least_step {ns l l' : List Nat} {i s : Nat} (hw' : Whole ns l') (hi : i < ns.length) (hs : s < 4) (hl : l'.take (i + 1) = l.take i ++ [s]) (ha : hasN (ns.getD i 0) s = true) (hc : (l.take i).contains s = false)
    (h0 : ∀ j, j < s → pickS (search (ns.drop (i + 1))) (ns.getD i 0) (l.take i) j = none) : search (ns.drop i) (l.take i) = search (ns.drop (i + 1)) (l'.take (i + 1)) := by
  have hsome := search_take hw' (i + 1)
  obtain ⟨L, hL⟩ := Option.isSome_iff_exists.1 hsome
  rw [hL]
  have e : ns.drop i = ns.getD i 0 :: ns.drop (i + 1) := by
    rw [List.drop_eq_getElem_cons hi]
    simp [List.getD, hi]
  rw [e]
  refine search_hit _ _ _ L s hs h0 ?_
  unfold pickS
  rw [if_pos (by rw [ha, hc]; rfl), ← hl]
  exact hL
theorem least_same {ns l : List Nat} {i : Nat} (hw : Whole ns l) (hi : i < ns.length) (h0 : ∀ j, j < l.getD i 0 → pickS (search (ns.drop (i + 1))) (ns.getD i 0) (l.take i) j = none) : search (ns.drop i) (l.take i) = search (ns.drop (i + 1)) (l.take (i + 1)) := by
  have hl := good_len _ _ hw.good
  obtain ⟨h1, h2⟩ := good_at _ _ hw.good i hi
  have e : l.take (i + 1) = l.take i ++ [l.getD i 0] := by
    rw [List.take_succ_eq_append_getElem (by omega)]
    simp [List.getD, show i < l.length by omega]
  refine least_step hw hi h1 e h2 ?_ h0
  have hn := List.Nodup.sublist (List.take_sublist (i + 1) l) hw.nodup
  rw [e, List.nodup_append] at hn
  simpa using fun hm => hn.2.2 _ hm _ (by simp) rfl
end Go.Proofs.Ytplafgegjbppmaa
