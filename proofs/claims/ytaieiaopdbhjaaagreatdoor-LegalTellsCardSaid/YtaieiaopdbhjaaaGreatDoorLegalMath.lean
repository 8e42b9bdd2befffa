/- What is legal as plain data: slots for a packet's instructions, its words, the first pair, whether it takes a duplex, what is wrong with it; none hangs on the row of the instructions. No condition but those named. -/
import Derived.Test.YtaieiaopdbhjaaaGreatDoorGRules
import Derived.Test.YtaieiaopdbhjaaaGreatDoorGDup
import Derived.Test.YtaieiaopdbhjaaaGreatDoorGMatch
namespace Go.Proofs.YtaieiaopdbhjaaaGreatDoor

/-! Slots. -/
def slotN (x : In) : Nat := if rightB x then (slotsZ (classP x)).toNat else 0
def placeB (l : List In) (u : Nat) : Bool := searchN (l.map slotN) u
theorem bool_iff {a b : Bool} (h : a = true ↔ b = true) : a = b := Bool.eq_iff_iff.2 h
theorem searchN_tail {m u : Nat} {r : List Nat} (hu : u < 16) (h : searchN (m :: r) u = true) : searchN r u = true := by
  obtain ⟨t, hg, hn, hd⟩ := (searchN_iff _ u hu).1 h
  match t, hg with
  | s :: t, hg =>
    rw [List.nodup_cons] at hn
    exact (searchN_iff r u hu).2 ⟨t, hg.2.2, hn.2, fun x hx => hd x (by simp [hx])⟩
theorem searchN_sub {ns ms : List Nat} (h : ms.Sublist ns) : ∀ u, u < 16 → searchN ns u = true → searchN ms u = true := by
  induction h with
  | slnil => intro u _ h; exact h
  | cons a _ ih => intro u hu h; exact ih u hu (searchN_tail hu h)
  | cons_cons a _ ih =>
    intro u hu h
    obtain ⟨s, hs, h1, h2, h3⟩ := (searchN_step _ _ _).1 h
    exact (searchN_step _ _ _).2 ⟨s, hs, h1, h2, ih _ (bit_add u hu s hs h2).1 h3⟩
theorem searchN_swap {a b u : Nat} {r : List Nat} (hu : u < 16) (h : searchN (a :: b :: r) u = true) : searchN (b :: a :: r) u = true := by
  obtain ⟨t, hg, hn, hd⟩ := (searchN_iff _ u hu).1 h
  match t, hg with
  | s :: q :: t, hg =>
    have hp : (q :: s :: t).Perm (s :: q :: t) := List.Perm.swap s q t
    exact (searchN_iff _ u hu).2 ⟨q :: s :: t, ⟨hg.2.2.1, hg.2.2.2.1, hg.1, hg.2.1, hg.2.2.2.2⟩, hp.nodup_iff.2 hn, fun x hx => hd x (hp.mem_iff.1 hx)⟩
theorem searchN_perm {ns ms : List Nat} (h : ns.Perm ms) : ∀ u, u < 16 → searchN ns u = true → searchN ms u = true := by
  induction h with
  | nil => intro u _ h; exact h
  | cons a _ ih =>
    intro u hu h
    obtain ⟨s, hs, h1, h2, h3⟩ := (searchN_step _ _ _).1 h
    exact (searchN_step _ _ _).2 ⟨s, hs, h1, h2, ih _ (bit_add u hu s hs h2).1 h3⟩
  | swap a b r => intro u hu h; exact searchN_swap hu h
  | trans _ _ ih1 ih2 => intro u hu h; exact ih2 u hu (ih1 u hu h)
theorem place_perm {l m : List In} (h : l.Perm m) {u : Nat} (hu : u < 16) : placeB l u = placeB m u :=
  bool_iff ⟨searchN_perm (h.map slotN) u hu, searchN_perm (h.symm.map slotN) u hu⟩
theorem place_sub {l m : List In} (h : m.Sublist l) {u : Nat} (hu : u < 16) (hl : placeB l u = true) : placeB m u = true := searchN_sub (h.map slotN) u hu hl
/-- More than two do not fit into two. -/
theorem place_two (l : List In) (h : placeB l 3 = true) : l.length < 3 := by
  obtain ⟨t, hg, hn, hd⟩ := (searchN_iff _ 3 (by omega)).1 h
  have hl := good_len _ _ hg
  rw [List.length_map] at hl
  have h4 : ∀ x ∈ t, x ∈ ([2, 3] : List Nat) := fun x hx => by
    have h1 := hd x hx
    obtain ⟨i, hi, rfl⟩ := List.mem_iff_getElem.1 hx
    have h2 := (good_at _ t hg i (by rw [List.length_map]; omega)).1
    rw [getD_lt t i hi] at h2
    generalize t[i] = x at *
    have hc : x = 0 ∨ x = 1 ∨ x = 2 ∨ x = 3 := by omega
    rcases hc with rfl | rfl | rfl | rfl <;> simp [hasN] at h1 ⊢
  have := nodup_le t [2, 3] hn h4
  simp at this
  omega

/-! Words. -/
def extN (l : List In) : Nat := l.countP fun x => x.ext
def wordsP (p : Pk) : Int := (p.insts.length : Int) + (extN p.insts : Int) - (if p.dup then 1 else 0)
def longB (p : Pk) : Bool := (!p.e0 || decide (2 ≤ wordsP p)) && (!p.e1 || decide (3 ≤ wordsP p))

/-! Pairs. -/
def pairB (a b : In) : Bool := (pairP a b).2
theorem pairB_comm (a b : In) : pairB a b = pairB b a := by unfold pairB; rw [pair_turned]
/-- The others. -/
def restOf (l : List In) (i j : Nat) : List In := (l.eraseIdx j).eraseIdx i
def okAt (l : List In) (i j : Nat) : Bool := pairB (l.getD i inZero) (l.getD j inZero) && placeB (restOf l i j) 3
/-- That (a, b) is ahead of (i, j). -/
def ahead (a b i j : Nat) : Prop := a < i ∨ (a = i ∧ b < j)
/-- The first pair. -/
structure IsChoice (l : List In) (i j : Nat) (ok : Bool) : Prop where
  some : ok = true → i < j ∧ j < l.length ∧ okAt l i j = true ∧ ∀ a b, a < b → b < l.length → ahead a b i j → okAt l a b = false
  none : ok = false → i = 0 ∧ j = 0 ∧ ∀ a b, a < b → b < l.length → okAt l a b = false
theorem choice_one {l : List In} {i j a b : Nat} {ok is : Bool} (h : IsChoice l i j ok) (k : IsChoice l a b is) : i = a ∧ j = b ∧ ok = is := by
  cases ok with
  | true =>
    obtain ⟨h1, h2, h3, h4⟩ := h.some rfl
    cases is with
    | true =>
      obtain ⟨k1, k2, k3, k4⟩ := k.some rfl
      have e : i = a ∧ j = b := by
        by_cases hx : ahead a b i j
        · rw [h4 a b k1 k2 hx] at k3; exact absurd k3 (by simp)
        · by_cases hy : ahead i j a b
          · rw [k4 i j h1 h2 hy] at h3; exact absurd h3 (by simp)
          · unfold ahead at hx hy
            omega
      exact ⟨e.1, e.2, rfl⟩
    | false =>
      rw [(k.none rfl).2.2 i j h1 h2] at h3
      exact absurd h3 (by simp)
  | false =>
    obtain ⟨h1, h2, h3⟩ := h.none rfl
    cases is with
    | true =>
      obtain ⟨k1, k2, k3, -⟩ := k.some rfl
      rw [h3 a b k1 k2] at k3
      exact absurd k3 (by simp)
    | false =>
      obtain ⟨k1, k2, -⟩ := k.none rfl
      exact ⟨h1.trans k1.symm, h2.trans k2.symm, rfl⟩
/-- Whether there is one. -/
def anyP (l : List In) : Bool := (List.range l.length).any fun j => (List.range j).any fun i => okAt l i j
theorem any_iff (l : List In) : anyP l = true ↔ ∃ i j, i < j ∧ j < l.length ∧ okAt l i j = true := by
  unfold anyP
  simp only [List.any_eq_true, List.mem_range]
  exact ⟨fun ⟨j, hj, i, hi, h⟩ => ⟨i, j, hi, hj, h⟩, fun ⟨i, j, hi, hj, h⟩ => ⟨j, hj, i, hi, h⟩⟩
theorem choice_any {l : List In} {i j : Nat} {ok : Bool} (h : IsChoice l i j ok) : ok = anyP l := by
  refine bool_iff ?_
  rw [any_iff]
  constructor
  · intro h1
    obtain ⟨h2, h3, h4, -⟩ := h.some h1
    exact ⟨i, j, h2, h3, h4⟩
  · rintro ⟨a, b, h1, h2, h3⟩
    cases ok with
    | true => rfl
    | false =>
      rw [(h.none rfl).2.2 a b h1 h2] at h3
      exact absurd h3 (by simp)
theorem perm_at {x : In} {r : List In} : ∀ {l : List In}, l.Perm (x :: r) → ∃ i, i < l.length ∧ l.getD i inZero = x ∧ (l.eraseIdx i).Perm r := fun {l} h => by
  obtain ⟨s, t, rfl⟩ := List.append_of_mem (h.mem_iff.2 (List.mem_cons_self ..))
  refine ⟨s.length, by simp, by simp [List.getD], ?_⟩
  have e : (s ++ x :: t).eraseIdx s.length = s ++ t := by rw [List.eraseIdx_append_of_length_le (Nat.le_refl _)]; simp
  rw [e]
  exact (List.perm_cons x).1 (List.perm_middle.symm.trans h)
theorem erase_perm {l : List In} {i : Nat} (h : i < l.length) : l.Perm (l.getD i inZero :: l.eraseIdx i) := by
  have e : l.getD i inZero = l[i] := by simp [List.getD, h]
  rw [e]
  have h1 : l.eraseIdx i = l.take i ++ l.drop (i + 1) := List.eraseIdx_eq_take_drop_succ ..
  rw [h1]
  have h2 : l = l.take i ++ l[i] :: l.drop (i + 1) := by rw [← List.drop_eq_getElem_cons h, List.take_append_drop]
  conv => lhs; rw [h2]
  exact List.perm_middle
theorem erase_at {l : List In} {i j : Nat} (h : i < j) : (l.eraseIdx j).getD i inZero = l.getD i inZero := by
  simp [List.getD, List.getElem?_eraseIdx, h]
theorem erase_past {l : List In} {i j : Nat} (h : i ≤ j) : (l.eraseIdx i).getD j inZero = l.getD (j + 1) inZero := by
  simp [List.getD, List.getElem?_eraseIdx, Nat.not_lt.2 h]
/-- There is a pair, just if the packet is two that are one and others that have their slots. -/
theorem any_perm_iff (l : List In) : anyP l = true ↔ ∃ x y r, l.Perm (x :: y :: r) ∧ pairB x y = true ∧ placeB r 3 = true := by
  rw [any_iff]
  constructor
  · rintro ⟨i, j, hij, hj, h⟩
    unfold okAt at h
    rw [Bool.and_eq_true] at h
    have hlen : (l.eraseIdx j).length = l.length - 1 := List.length_eraseIdx_of_lt hj
    have p1 := erase_perm hj
    have p2 := erase_perm (l := l.eraseIdx j) (i := i) (by omega)
    rw [erase_at hij] at p2
    refine ⟨l.getD i inZero, l.getD j inZero, restOf l i j, ?_, h.1, h.2⟩
    exact (p1.trans (p2.cons _)).trans (List.Perm.swap _ _ _)
  · rintro ⟨x, y, r, hp, h1, h2⟩
    obtain ⟨i, hi, hx, hi2⟩ := perm_at hp
    obtain ⟨j, hj, hy, hj2⟩ := perm_at hi2
    have hlen : (l.eraseIdx i).length = l.length - 1 := List.length_eraseIdx_of_lt hi
    by_cases hji : j < i
    · refine ⟨j, i, hji, hi, ?_⟩
      unfold okAt restOf
      rw [erase_at hji] at hy
      rw [hy, hx, pairB_comm, h1, place_perm hj2 (by omega), h2]
      rfl
    · refine ⟨i, j + 1, by omega, by omega, ?_⟩
      rw [erase_past (by omega)] at hy
      have e : restOf l i (j + 1) = (l.eraseIdx i).eraseIdx j := by
        unfold restOf
        refine List.ext_getElem? fun k => ?_
        simp only [List.getElem?_eraseIdx]
        by_cases c1 : k < i
        · rw [if_pos c1, if_pos (show k < j + 1 by omega), if_pos (show k < j by omega), if_pos c1]
        · by_cases c2 : k < j
          · rw [if_neg c1, if_pos (show k + 1 < j + 1 by omega), if_pos c2, if_neg c1]
          · rw [if_neg c1, if_neg (show ¬ k + 1 < j + 1 by omega), if_neg c2, if_neg (show ¬ k + 1 < i by omega)]
      unfold okAt
      rw [e, hx, hy, h1, place_perm hj2 (by omega), h2]
      rfl
theorem any_perm {l m : List In} (h : l.Perm m) : anyP l = anyP m := by
  refine bool_iff ?_
  rw [any_perm_iff, any_perm_iff]
  exact ⟨fun ⟨x, y, r, hp, h1, h2⟩ => ⟨x, y, r, h.symm.trans hp, h1, h2⟩, fun ⟨x, y, r, hp, h1, h2⟩ => ⟨x, y, r, h.trans hp, h1, h2⟩⟩

/-! What is wrong with a packet. -/
def takesP (p : Pk) : Bool := !p.raw && anyP p.insts && longB { p with dup := true }
def placedB (p : Pk) : Bool := if p.dup then anyP p.insts else placeB p.insts 0
def legalP (p : Pk) : Int := if checkP p = 8 then 8 else if !placedB p then 9 else if 4 < wordsP p then 10 else if checkP p = 0 ∧ longB p = false then 13 else checkP p
theorem words_perm {p q : Pk} (h : p.insts.Perm q.insts) (h3 : p.dup = q.dup) : wordsP p = wordsP q := by
  unfold wordsP extN
  rw [h.length_eq, h.countP_eq, h3]
theorem long_perm {p q : Pk} (h : p.insts.Perm q.insts) (h0 : p.e0 = q.e0) (h1 : p.e1 = q.e1) (h3 : p.dup = q.dup) : longB p = longB q := by
  unfold longB
  rw [h0, h1, words_perm h h3]
theorem legal_perm {p q : Pk} (h : p.insts.Perm q.insts) (h0 : p.e0 = q.e0) (h1 : p.e1 = q.e1) (h2 : p.raw = q.raw) (h3 : p.dup = q.dup) : legalP p = legalP q := by
  unfold legalP placedB
  rw [check_perm h h0 h1 h2 h3, h3, any_perm h, place_perm h (by omega), words_perm h h3, long_perm h h0 h1 h3]
theorem takes_perm {p q : Pk} (h : p.insts.Perm q.insts) (h0 : p.e0 = q.e0) (h1 : p.e1 = q.e1) (h2 : p.raw = q.raw) : takesP p = takesP q := by
  unfold takesP
  have e : longB { p with dup := true } = longB { q with dup := true } := long_perm h h0 h1 rfl
  rw [e, h2, any_perm h]
/-- What is so of a packet that is OK. -/
structure Legal (p : Pk) : Prop where
  rules : AllOk p
  placed : placedB p = true
  few : wordsP p ≤ 4
  long : longB p = true
theorem legal_iff (p : Pk) : legalP p = 0 ↔ Legal p := by
  unfold legalP
  constructor
  · intro h
    by_cases h1 : checkP p = 8
    · rw [if_pos h1] at h; exact absurd h (by decide)
    · rw [if_neg h1] at h
      cases h2 : placedB p with
      | false => rw [h2] at h; exact absurd (show (9 : Int) = 0 from h) (by decide)
      | true =>
        rw [h2] at h
        simp only [Bool.not_true, Bool.false_eq_true, if_false] at h
        by_cases h3 : 4 < wordsP p
        · rw [if_pos h3] at h; exact absurd h (by decide)
        · rw [if_neg h3] at h
          by_cases h4 : checkP p = 0 ∧ longB p = false
          · rw [if_pos h4] at h; exact absurd h (by decide)
          · rw [if_neg h4] at h
            exact ⟨(ok_iff p).1 h, h2, by omega, by
              cases h5 : longB p with
              | true => rfl
              | false => exact absurd ⟨h, h5⟩ h4⟩
  · rintro ⟨h1, h2, h3, h4⟩
    have h5 := (ok_iff p).2 h1
    rw [h5, h2, h4]
    have h6 : ¬ 4 < wordsP p := by omega
    simp [h6]
/-- A packet that is OK has one to four words, enough for its loop ends. -/
theorem legal_words {p : Pk} (h : Legal p) : 1 ≤ wordsP p ∧ wordsP p ≤ 4 ∧ (p.e0 = true → 2 ≤ wordsP p) ∧ (p.e1 = true → 3 ≤ wordsP p) := by
  have hl := h.long
  unfold longB at hl
  simp only [Bool.and_eq_true, Bool.or_eq_true, Bool.not_eq_true', decide_eq_true_eq] at hl
  obtain ⟨k1, k2, k3, k4⟩ := (form_iff p).1 h.rules.form
  have hlen : 0 < p.insts.length := List.length_pos_iff.2 k1
  refine ⟨?_, h.few, fun e => ?_, fun e => ?_⟩
  · unfold wordsP
    cases hd : p.dup with
    | false => simp; omega
    | true =>
      have h2 := h.placed
      unfold placedB at h2
      rw [hd, if_pos rfl, any_iff] at h2
      obtain ⟨i, j, h3, h4, -⟩ := h2
      simp; omega
  · rcases hl.1 with h1 | h1
    · rw [e] at h1; exact absurd h1 (by simp)
    · exact h1
  · rcases hl.2 with h1 | h1
    · rw [e] at h1; exact absurd h1 (by simp)
    · exact h1
theorem ok_raw {p : Pk} (h : AllOk p) (raw dup : Bool) (hr : (raw && dup) = false) : AllOk { p with raw := raw, dup := dup } := by
  obtain ⟨k1, k2, k3, k4⟩ := (form_iff p).1 h.form
  exact ⟨(form_iff _).2 ⟨k1, k2, hr, k4⟩, h.branch, h.clash, h.fresh, h.loop⟩
theorem legal_raw {p : Pk} (h : Legal p) (hd : p.dup = false) : Legal { p with raw := true } := by
  refine ⟨?_, h.placed, h.few, h.long⟩
  have := ok_raw h.rules true false rfl
  rwa [← hd] at this
theorem legal_plain {p : Pk} (h : Legal p) : Legal { p with raw := false } := by
  refine ⟨?_, h.placed, h.few, h.long⟩
  exact ok_raw h.rules false p.dup rfl
theorem legal_dup {p : Pk} (h : Legal p) (hd : p.dup = false) (ht : takesP p = true) : Legal { p with dup := true } ∧ wordsP { p with dup := true } = wordsP p - 1 := by
  unfold takesP at ht
  simp only [Bool.and_eq_true, Bool.not_eq_true'] at ht
  have hw : wordsP { p with dup := true } = wordsP p - 1 := by
    unfold wordsP
    rw [hd]
    simp
  refine ⟨⟨?_, ?_, ?_, ht.2⟩, hw⟩
  · have := ok_raw h.rules p.raw true (by rw [ht.1.1]; rfl)
    exact this
  · exact ht.1.2
  · rw [hw]
    have := h.few
    omega
/-- Without one of its instructions and its loop ends a packet that is OK, and not Dup, is OK; or another one lacks what that one gave. -/
theorem legal_less {a b : List In} {x : In} {e0 e1 raw : Bool} (h : Legal ⟨a ++ x :: b, e0, e1, raw, false⟩) (hl : 2 ≤ (a ++ x :: b).length) :
    (legalP ⟨a ++ b, false, false, raw, false⟩ = 0 ∨ (legalP ⟨a ++ b, false, false, raw, false⟩ = 12 ∧ ((writesP x).2 = true ∨ (wpredP x).2 = true))) ∧
    wordsP ⟨a ++ b, false, false, raw, false⟩ < wordsP ⟨a ++ x :: b, e0, e1, raw, false⟩ ∧ wordsP ⟨a ++ x :: b, e0, e1, raw, false⟩ - 2 ≤ wordsP ⟨a ++ b, false, false, raw, false⟩ := by
  have hsub : (a ++ b).Sublist (a ++ x :: b) := List.Sublist.append_left (List.sublist_cons_self x b) a
  have hw : wordsP ⟨a ++ x :: b, e0, e1, raw, false⟩ = wordsP ⟨a ++ b, false, false, raw, false⟩ + 1 + (if x.ext then 1 else 0) := by
    unfold wordsP extN
    simp only [List.length_append, List.length_cons, List.countP_append, List.countP_cons]
    cases x.ext <;> simp <;> omega
  have hwr : wordsP ⟨a ++ b, false, false, raw, false⟩ < wordsP ⟨a ++ x :: b, e0, e1, raw, false⟩ ∧ wordsP ⟨a ++ x :: b, e0, e1, raw, false⟩ - 2 ≤ wordsP ⟨a ++ b, false, false, raw, false⟩ := by
    rw [hw]
    cases x.ext <;> simp <;> omega
  refine ⟨?_, hwr⟩
  have hfew : wordsP ⟨a ++ b, false, false, raw, false⟩ ≤ 4 := by have := h.few; omega
  have hlong : longB ⟨a ++ b, false, false, raw, false⟩ = true := rfl
  have hplaced : placedB ⟨a ++ b, false, false, raw, false⟩ = true := by
    have h1 : placeB (a ++ x :: b) 0 = true := h.placed
    exact place_sub hsub (by omega) h1
  obtain ⟨k1, k2, k3, k4⟩ := (form_iff _).1 h.rules.form
  have hform : formB ⟨a ++ b, false, false, raw, false⟩ = true := by
    refine (form_iff _).2 ⟨fun e => ?_, ?_, k3, fun y hy => k4 y (hsub.subset hy)⟩
    · have e1 : a ++ b = [] := e
      rw [List.append_eq_nil_iff] at e1
      rw [e1.1, e1.2] at hl
      simp at hl
    · exact Nat.le_trans hsub.length_le k2
  have hcnt : countC (a ++ b) 5 ≤ countC (a ++ x :: b) 5 := List.Sublist.countP_le hsub
  have hbranch : ¬ 1 < countC (a ++ b) 5 := by
    have h5 : countC (a ++ x :: b) 5 ≤ 1 := h.rules.branch
    omega
  have hclash : clashL (a ++ b) = false := (clashL_iff _).2 (List.Pairwise.sublist hsub ((clashL_iff _).1 h.rules.clash))
  have hloop : loopB ⟨a ++ b, false, false, raw, false⟩ = false := rfl
  have hcheck : checkP ⟨a ++ b, false, false, raw, false⟩ = if freshB (a ++ b) then 0 else 12 := by
    unfold checkP
    rw [hform, hclash, hloop]
    simp only [Bool.not_true, Bool.false_eq_true, if_false]
    rw [if_neg hbranch]
    cases freshB (a ++ b) <;> rfl
  have hlegal : legalP ⟨a ++ b, false, false, raw, false⟩ = if freshB (a ++ b) then 0 else 12 := by
    unfold legalP
    rw [hcheck, hplaced, hlong]
    cases freshB (a ++ b) <;> simp <;> omega
  rw [hlegal]
  cases hf : freshB (a ++ b) with
  | true => exact .inl rfl
  | false =>
    refine .inr ⟨rfl, ?_⟩
    cases hx1 : (writesP x).2 with
    | true => exact .inl rfl
    | false =>
      cases hx2 : (wpredP x).2 with
      | true => exact .inr rfl
      | false =>
        have := (less_ok h.rules hx1 hx2 (by omega) false false (by simp)).fresh
        have hf2 : freshB (a ++ b) = true := this
        rw [hf] at hf2
        exact absurd hf2 (by simp)
end Go.Proofs.YtaieiaopdbhjaaaGreatDoor
