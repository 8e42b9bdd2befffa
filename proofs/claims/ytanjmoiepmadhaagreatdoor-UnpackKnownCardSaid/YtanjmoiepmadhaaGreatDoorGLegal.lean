/- What is legal as plain data: slots for a packet's instructions, its words, the first pair, whether it takes a duplex, what is wrong with it; none hangs on the row of the instructions. No condition but those named. · The masks that are left of an instruction's slots; whether they can be assigned; lists too long for a duplex; no condition but those named. · What slots and fit of package legal return, for any instructions in memory. · What Choose hands back; the others of a pair, one by one; no condition but those named. · What without and mayBePaired of package legal return, for any instructions in memory. · Instructions in rows of a call's own: written out, stored one by one, exchanged; a packet's variable beside them; no condition. -/
import Derived.Test.YtanjmoiepmadhaaGreatDoorGRules
import Derived.Test.YtanjmoiepmadhaaGreatDoorGDup
import Derived.Test.YtanjmoiepmadhaaGreatDoorGMatch
import Derived.Test.YtanjmoiepmadhaaGreatDoorGMatchB
import Derived.Test.YtanjmoiepmadhaaGreatDoorGFns
import Derived.Test.YtanjmoiepmadhaaGreatDoorGOf
import Derived.Test.YtanjmoiepmadhaaGreatDoorGInst
import Derived.BigRegion
namespace Go.Proofs.YtanjmoiepmadhaaGreatDoor
section
set_option maxRecDepth 100000

/-! Slots. -/
def slotN (x : In) : Nat := if rightB x then (slotsZ (classP x)).toNat else 0
def placeB (l : List In) (u : Nat) : Bool := searchN (l.map slotN) u
theorem bool_iff {a b : Bool} (h : a = true ↔ b = true) : a = b := Bool.eq_iff_iff.2 h
theorem searchN_swap {a b u : Nat} {r : List Nat} (hu : u < 16) (h : searchN (a :: b :: r) u = true) : searchN (b :: a :: r) u = true := by
  obtain ⟨t, hg, hn, hd⟩ := (searchN_iff _ u hu).1 h
  match t, hg with
  | s :: q :: t, hg =>
    have hp : (q :: s :: t).Perm (s :: q :: t) := List.Perm.swap s q t
    exact (searchN_iff _ u hu).2 ⟨q :: s :: t, ⟨hg.2.2.1, hg.2.2.2.1, hg.1, hg.2.1, hg.2.2.2.2⟩, hp.nodup_iff.2 hn, fun x hx => hd x (hp.mem_iff.1 hx)⟩
theorem searchN_perm {ns ms : List Nat} (h : ns.Perm ms) : ∀ u, u < 16 → searchN ns u = true → searchN ms u = true := by
  induction h with
  | nil => intro u _ h; exact h
  | cons a _ ih =>
    intro u hu h
    obtain ⟨s, hs, h1, h2, h3⟩ := (searchN_step _ _ _).1 h
    exact (searchN_step _ _ _).2 ⟨s, hs, h1, h2, ih _ (bit_add u hu s hs h2).1 h3⟩
  | swap a b r => intro u hu h; exact searchN_swap hu h
  | trans _ _ ih1 ih2 => intro u hu h; exact ih2 u hu (ih1 u hu h)
theorem place_perm {l m : List In} (h : l.Perm m) {u : Nat} (hu : u < 16) : placeB l u = placeB m u :=
  bool_iff ⟨searchN_perm (h.map slotN) u hu, searchN_perm (h.symm.map slotN) u hu⟩
/-- More than two do not fit into two. -/
theorem place_two (l : List In) (h : placeB l 3 = true) : l.length < 3 := by
  obtain ⟨t, hg, hn, hd⟩ := (searchN_iff _ 3 (by omega)).1 h
  have hl := good_len _ _ hg
  rw [List.length_map] at hl
  have h4 : ∀ x ∈ t, x ∈ ([2, 3] : List Nat) := fun x hx => by
    have h1 := hd x hx
    obtain ⟨i, hi, rfl⟩ := List.mem_iff_getElem.1 hx
    have h2 := (good_at _ t hg i (by rw [List.length_map]; omega)).1
    rw [getD_lt t i hi] at h2
    generalize t[i] = x at *
    have hc : x = 0 ∨ x = 1 ∨ x = 2 ∨ x = 3 := by omega
    rcases hc with rfl | rfl | rfl | rfl <;> simp [hasN] at h1 ⊢
  have := nodup_le t [2, 3] hn h4
  simp at this
  omega

/-! Words. -/
def extN (l : List In) : Nat := l.countP fun x => x.ext
def wordsP (p : Pk) : Int := (p.insts.length : Int) + (extN p.insts : Int) - (if p.dup then 1 else 0)
def longB (p : Pk) : Bool := (!p.e0 || decide (2 ≤ wordsP p)) && (!p.e1 || decide (3 ≤ wordsP p))

/-! Pairs. -/
def pairB (a b : In) : Bool := (pairP a b).2
theorem pairB_comm (a b : In) : pairB a b = pairB b a := by unfold pairB; rw [pair_turned]
/-- The others. -/
def restOf (l : List In) (i j : Nat) : List In := (l.eraseIdx j).eraseIdx i
def okAt (l : List In) (i j : Nat) : Bool := pairB (l.getD i inZero) (l.getD j inZero) && placeB (restOf l i j) 3
/-- That (a, b) is ahead of (i, j). -/
def ahead (a b i j : Nat) : Prop := a < i ∨ (a = i ∧ b < j)
/-- The first pair. -/
structure IsChoice (l : List In) (i j : Nat) (ok : Bool) : Prop where
  some : ok = true → i < j ∧ j < l.length ∧ okAt l i j = true ∧ ∀ a b, a < b → b < l.length → ahead a b i j → okAt l a b = false
  none : ok = false → i = 0 ∧ j = 0 ∧ ∀ a b, a < b → b < l.length → okAt l a b = false
theorem choice_one {l : List In} {i j a b : Nat} {ok is : Bool} (h : IsChoice l i j ok) (k : IsChoice l a b is) : i = a ∧ j = b ∧ ok = is := by
  cases ok with
  | true =>
    obtain ⟨h1, h2, h3, h4⟩ := h.some rfl
    cases is with
    | true =>
      obtain ⟨k1, k2, k3, k4⟩ := k.some rfl
      have e : i = a ∧ j = b := by
        by_cases hx : ahead a b i j
        · rw [h4 a b k1 k2 hx] at k3; exact absurd k3 (by simp)
        · by_cases hy : ahead i j a b
          · rw [k4 i j h1 h2 hy] at h3; exact absurd h3 (by simp)
          · unfold ahead at hx hy
            omega
      exact ⟨e.1, e.2, rfl⟩
    | false =>
      rw [(k.none rfl).2.2 i j h1 h2] at h3
      exact absurd h3 (by simp)
  | false =>
    obtain ⟨h1, h2, h3⟩ := h.none rfl
    cases is with
    | true =>
      obtain ⟨k1, k2, k3, -⟩ := k.some rfl
      rw [h3 a b k1 k2] at k3
      exact absurd k3 (by simp)
    | false =>
      obtain ⟨k1, k2, -⟩ := k.none rfl
      exact ⟨h1.trans k1.symm, h2.trans k2.symm, rfl⟩
/-- Whether there is one. -/
def anyP (l : List In) : Bool := (List.range l.length).any fun j => (List.range j).any fun i => okAt l i j
theorem any_iff (l : List In) : anyP l = true ↔ ∃ i j, i < j ∧ j < l.length ∧ okAt l i j = true := by
  unfold anyP
  simp only [List.any_eq_true, List.mem_range]
  exact ⟨fun ⟨j, hj, i, hi, h⟩ => ⟨i, j, hi, hj, h⟩, fun ⟨i, j, hi, hj, h⟩ => ⟨j, hj, i, hi, h⟩⟩
theorem choice_any {l : List In} {i j : Nat} {ok : Bool} (h : IsChoice l i j ok) : ok = anyP l := by
  refine bool_iff ?_
  rw [any_iff]
  constructor
  · intro h1
    obtain ⟨h2, h3, h4, -⟩ := h.some h1
    exact ⟨i, j, h2, h3, h4⟩
  · rintro ⟨a, b, h1, h2, h3⟩
    cases ok with
    | true => rfl
    | false =>
      rw [(h.none rfl).2.2 a b h1 h2] at h3
      exact absurd h3 (by simp)
theorem perm_at {x : In} {r : List In} : ∀ {l : List In}, l.Perm (x :: r) → ∃ i, i < l.length ∧ l.getD i inZero = x ∧ (l.eraseIdx i).Perm r := fun {l} h => by
  obtain ⟨s, t, rfl⟩ := List.append_of_mem (h.mem_iff.2 (List.mem_cons_self ..))
  refine ⟨s.length, by simp, by simp [List.getD], ?_⟩
  have e : (s ++ x :: t).eraseIdx s.length = s ++ t := by rw [List.eraseIdx_append_of_length_le (Nat.le_refl _)]; simp
  rw [e]
  exact (List.perm_cons x).1 (List.perm_middle.symm.trans h)
theorem erase_perm {l : List In} {i : Nat} (h : i < l.length) : l.Perm (l.getD i inZero :: l.eraseIdx i) := by
  have e : l.getD i inZero = l[i] := by simp [List.getD, h]
  rw [e]
  have h1 : l.eraseIdx i = l.take i ++ l.drop (i + 1) := List.eraseIdx_eq_take_drop_succ ..
  rw [h1]
  have h2 : l = l.take i ++ l[i] :: l.drop (i + 1) := by rw [← List.drop_eq_getElem_cons h, List.take_append_drop]
  conv => lhs; rw [h2]
  exact List.perm_middle
theorem erase_at {l : List In} {i j : Nat} (h : i < j) : (l.eraseIdx j).getD i inZero = l.getD i inZero := by
  simp [List.getD, List.getElem?_eraseIdx, h]
theorem erase_past {l : List In} {i j : Nat} (h : i ≤ j) : (l.eraseIdx i).getD j inZero = l.getD (j + 1) inZero := by
  simp [List.getD, List.getElem?_eraseIdx, Nat.not_lt.2 h]
/-- There is a pair, just if the packet is two that are one and others that have their slots. -/
theorem any_perm_iff (l : List In) : anyP l = true ↔ ∃ x y r, l.Perm (x :: y :: r) ∧ pairB x y = true ∧ placeB r 3 = true := by
  rw [any_iff]
  constructor
  · rintro ⟨i, j, hij, hj, h⟩
    unfold okAt at h
    rw [Bool.and_eq_true] at h
    have hlen : (l.eraseIdx j).length = l.length - 1 := List.length_eraseIdx_of_lt hj
    have p1 := erase_perm hj
    have p2 := erase_perm (l := l.eraseIdx j) (i := i) (by omega)
    rw [erase_at hij] at p2
    refine ⟨l.getD i inZero, l.getD j inZero, restOf l i j, ?_, h.1, h.2⟩
    exact (p1.trans (p2.cons _)).trans (List.Perm.swap _ _ _)
  · rintro ⟨x, y, r, hp, h1, h2⟩
    obtain ⟨i, hi, hx, hi2⟩ := perm_at hp
    obtain ⟨j, hj, hy, hj2⟩ := perm_at hi2
    have hlen : (l.eraseIdx i).length = l.length - 1 := List.length_eraseIdx_of_lt hi
    by_cases hji : j < i
    · refine ⟨j, i, hji, hi, ?_⟩
      unfold okAt restOf
      rw [erase_at hji] at hy
      rw [hy, hx, pairB_comm, h1, place_perm hj2 (by omega), h2]
      rfl
    · refine ⟨i, j + 1, by omega, by omega, ?_⟩
      rw [erase_past (by omega)] at hy
      have e : restOf l i (j + 1) = (l.eraseIdx i).eraseIdx j := by
        unfold restOf
        refine List.ext_getElem? fun k => ?_
        simp only [List.getElem?_eraseIdx]
        by_cases c1 : k < i
        · rw [if_pos c1, if_pos (show k < j + 1 by omega), if_pos (show k < j by omega), if_pos c1]
        · by_cases c2 : k < j
          · rw [if_neg c1, if_pos (show k + 1 < j + 1 by omega), if_pos c2, if_neg c1]
          · rw [if_neg c1, if_neg (show ¬ k + 1 < j + 1 by omega), if_neg c2, if_neg (show ¬ k + 1 < i by omega)]
      unfold okAt
      rw [e, hx, hy, h1, place_perm hj2 (by omega), h2]
      rfl
theorem any_perm {l m : List In} (h : l.Perm m) : anyP l = anyP m := by
  refine bool_iff ?_
  rw [any_perm_iff, any_perm_iff]
  exact ⟨fun ⟨x, y, r, hp, h1, h2⟩ => ⟨x, y, r, h.symm.trans hp, h1, h2⟩, fun ⟨x, y, r, hp, h1, h2⟩ => ⟨x, y, r, h.trans hp, h1, h2⟩⟩

/-! What is wrong with a packet. -/
def placedB (p : Pk) : Bool := if p.dup then anyP p.insts else placeB p.insts 0
def legalP (p : Pk) : Int := if checkP p = 8 then 8 else if !placedB p then 9 else if 4 < wordsP p then 10 else if checkP p = 0 ∧ longB p = false then 13 else checkP p
theorem words_perm {p q : Pk} (h : p.insts.Perm q.insts) (h3 : p.dup = q.dup) : wordsP p = wordsP q := by
  unfold wordsP extN
  rw [h.length_eq, h.countP_eq, h3]
theorem long_perm {p q : Pk} (h : p.insts.Perm q.insts) (h0 : p.e0 = q.e0) (h1 : p.e1 = q.e1) (h3 : p.dup = q.dup) : longB p = longB q := by
  unfold longB
  rw [h0, h1, words_perm h h3]
theorem legal_perm {p q : Pk} (h : p.insts.Perm q.insts) (h0 : p.e0 = q.e0) (h1 : p.e1 = q.e1) (h2 : p.raw = q.raw) (h3 : p.dup = q.dup) : legalP p = legalP q := by
  unfold legalP placedB
  rw [check_perm h h0 h1 h2 h3, h3, any_perm h, place_perm h (by omega), words_perm h h3, long_perm h h0 h1 h3]
/-- What is so of a packet that is OK. -/
structure Legal (p : Pk) : Prop where
  rules : AllOk p
  placed : placedB p = true
  few : wordsP p ≤ 4
  long : longB p = true
theorem legal_iff (p : Pk) : legalP p = 0 ↔ Legal p := by
  unfold legalP
  constructor
  · intro h
    by_cases h1 : checkP p = 8
    · rw [if_pos h1] at h; exact absurd h (by decide)
    · rw [if_neg h1] at h
      cases h2 : placedB p with
      | false => rw [h2] at h; exact absurd (show (9 : Int) = 0 from h) (by decide)
      | true =>
        rw [h2] at h
        simp only [Bool.not_true, Bool.false_eq_true, if_false] at h
        by_cases h3 : 4 < wordsP p
        · rw [if_pos h3] at h; exact absurd h (by decide)
        · rw [if_neg h3] at h
          by_cases h4 : checkP p = 0 ∧ longB p = false
          · rw [if_pos h4] at h; exact absurd h (by decide)
          · rw [if_neg h4] at h
            exact ⟨(ok_iff p).1 h, h2, by omega, by
              cases h5 : longB p with
              | true => rfl
              | false => exact absurd ⟨h, h5⟩ h4⟩
  · rintro ⟨h1, h2, h3, h4⟩
    have h5 := (ok_iff p).2 h1
    rw [h5, h2, h4]
    have h6 : ¬ 4 < wordsP p := by omega
    simp [h6]
/-- A packet that is OK has one to four words, enough for its loop ends. -/
theorem legal_words {p : Pk} (h : Legal p) : 1 ≤ wordsP p ∧ wordsP p ≤ 4 ∧ (p.e0 = true → 2 ≤ wordsP p) ∧ (p.e1 = true → 3 ≤ wordsP p) := by
  have hl := h.long
  unfold longB at hl
  simp only [Bool.and_eq_true, Bool.or_eq_true, Bool.not_eq_true', decide_eq_true_eq] at hl
  obtain ⟨k1, k2, k3, k4⟩ := (form_iff p).1 h.rules.form
  have hlen : 0 < p.insts.length := List.length_pos_iff.2 k1
  refine ⟨?_, h.few, fun e => ?_, fun e => ?_⟩
  · unfold wordsP
    cases hd : p.dup with
    | false => simp; omega
    | true =>
      have h2 := h.placed
      unfold placedB at h2
      rw [hd, if_pos rfl, any_iff] at h2
      obtain ⟨i, j, h3, h4, -⟩ := h2
      simp; omega
  · rcases hl.1 with h1 | h1
    · rw [e] at h1; exact absurd h1 (by simp)
    · exact h1
  · rcases hl.2 with h1 | h1
    · rw [e] at h1; exact absurd h1 (by simp)
    · exact h1
theorem ok_raw {p : Pk} (h : AllOk p) (raw dup : Bool) (hr : (raw && dup) = false) : AllOk { p with raw := raw, dup := dup } := by
  obtain ⟨k1, k2, k3, k4⟩ := (form_iff p).1 h.form
  exact ⟨(form_iff _).2 ⟨k1, k2, hr, k4⟩, h.branch, h.clash, h.fresh, h.loop⟩
end
section
set_option maxRecDepth 100000

theorem slotN_lt (x : In) : slotN x < 16 := by
  have h : ∀ k : Nat, (slotsL.getD k 0).toNat < 16 := fun k => by
    match k with
    | 0 | 1 | 2 | 3 | 4 | 5 | 6 => decide
    | k + 7 => simp [slotsL]
  unfold slotN slotsZ
  split
  · exact h _
  · decide
theorem slotsZ_nat (c : Int) : slotsZ c = ((slotsZ c).toNat : Int) := by
  have h : ∀ k : Nat, 0 ≤ slotsL.getD k 0 := fun k => by
    match k with
    | 0 | 1 | 2 | 3 | 4 | 5 | 6 => decide
    | k + 7 => simp [slotsL]
  have := h c.toNat
  unfold slotsZ
  omega
theorem lclass_tab : ((List.range 32).all fun n => decide (0 ≤ classZ (n : Nat)) && decide (classZ (n : Nat) ≤ 6)) = true := by decide +kernel
theorem lclass_le (x : In) : 0 ≤ classP x ∧ classP x ≤ 6 := by
  unfold classP
  have h : ∃ n : Nat, n < 32 ∧ (if isOp x.op then x.op else 0) = (n : Int) := by
    by_cases h : isOp x.op = true
    · have h1 : 1 ≤ x.op ∧ x.op ≤ 31 := by simpa [isOp] using h
      exact ⟨x.op.toNat, by omega, by rw [if_pos h]; omega⟩
    · exact ⟨0, by omega, by rw [if_neg h]; rfl⟩
  obtain ⟨n, hn, e⟩ := h
  rw [e]
  have := List.all_eq_true.1 lclass_tab n (List.mem_range.2 hn)
  simpa using this
/-- What is left of its slots. -/
def outN (o : Nat) (x : In) : Nat := slotN x &&& o
theorem out_code (o : Nat) (ho : o = 12 ∨ o = 15) (x : In) : bits .and .u8 (slotN x : Int) (o : Int) = (outN o x : Int) := by
  have h := slotN_lt x
  unfold outN
  have k : allBelow (fun n => (bits .and .u8 (n : Int) 12 == ((n &&& 12 : Nat) : Int)) && (bits .and .u8 (n : Int) 15 == ((n &&& 15 : Nat) : Int))) 16 = true := by decide +kernel
  have k1 := allBelow_at k _ h
  simp only [Bool.and_eq_true, beq_iff_eq] at k1
  rcases ho with rfl | rfl
  · exact k1.1
  · exact k1.2
theorem outN_lt (o : Nat) (x : In) : outN o x < 16 := Nat.lt_of_le_of_lt Nat.and_le_left (slotN_lt x)
theorem out_all (x : In) : outN 15 x = slotN x := by
  have k : allBelow (fun n => (n &&& 15) == n) 16 = true := by decide +kernel
  simpa [outN] using allBelow_at k _ (slotN_lt x)
theorem out_has (x : In) {s : Nat} (hs : s < 4) : hasN (outN 12 x) s = (hasN (slotN x) s && !hasN 3 s) := by
  have k : allBelow (fun n => allBelow (fun s => hasN (n &&& 12) s == (hasN n s && !hasN 3 s)) 4) 16 = true := by decide +kernel
  simpa [outN] using allBelow_at (allBelow_at k _ (slotN_lt x)) s hs
theorem good_out : ∀ (l : List In) (t : List Nat), good (l.map (outN 12)) t ↔ good (l.map slotN) t ∧ ∀ s ∈ t, hasN 3 s = false
  | [], [] => by simp [good]
  | [], _ :: _ => by simp [good]
  | _ :: _, [] => by simp [good]
  | x :: l, s :: t => by
    simp only [List.map_cons, good, good_out l t, List.forall_mem_cons]
    constructor
    · rintro ⟨h1, h2, h3, h4⟩
      rw [out_has x h2, Bool.and_eq_true, Bool.not_eq_true'] at h1
      exact ⟨⟨h1.1, h2, h3⟩, h1.2, h4⟩
    · rintro ⟨⟨h1, h2, h3⟩, h4, h5⟩
      exact ⟨by rw [out_has x h2, h1, h4]; rfl, h2, h3, h5⟩
theorem fits_all (l : List In) : fitsN (l.map (outN 15)) = placeB l 0 := by
  rw [fits_searchN]
  have e : l.map (outN 15) = l.map slotN := List.map_congr_left fun x _ => out_all x
  rw [e]
  rfl
theorem fits_beside (l : List In) : fitsN (l.map (outN 12)) = placeB l 3 := by
  refine bool_iff ?_
  unfold placeB
  rw [fits_iff, searchN_iff _ 3 (by omega)]
  exact ⟨fun ⟨t, h1, h2⟩ => ⟨t, ((good_out l t).1 h1).1, h2, ((good_out l t).1 h1).2⟩, fun ⟨t, h1, h2, h3⟩ => ⟨t, (good_out l t).2 ⟨h1, h3⟩, h2⟩⟩
theorem rest_length (l : List In) {i j : Nat} (hij : i < j) (hj : j < l.length) : (restOf l i j).length = l.length - 2 := by
  have h1 : (l.eraseIdx j).length = l.length - 1 := List.length_eraseIdx_of_lt hj
  have h2 : ((l.eraseIdx j).eraseIdx i).length = (l.eraseIdx j).length - 1 := List.length_eraseIdx_of_lt (by omega)
  unfold restOf
  omega
/-- Too many for a duplex. -/
theorem none_many (l : List In) (h : 4 < l.length) : IsChoice l 0 0 false := ⟨fun h => by simp at h, fun _ => ⟨rfl, rfl, fun a b hab hb => by
  have h1 := rest_length l hab hb
  unfold okAt
  cases hp : placeB (restOf l a b) 3 with
  | false => simp
  | true => exact absurd (place_two _ hp) (by omega)⟩⟩
theorem ext_next' (l : List In) {k : Nat} (h : k < l.length) : extN (l.take (k + 1)) = extN (l.take k) + if l[k].ext then 1 else 0 := by
  unfold extN
  rw [List.take_succ_eq_append_getElem h, List.countP_append]
  simp [List.countP_cons]
theorem ext_le' (l : List In) (k : Nat) : extN (l.take k) ≤ k := Nat.le_trans List.countP_le_length (by rw [List.length_take]; omega)
/-- A row of masks as far as it is filled. -/
def maskL (o : Nat) (l : List In) (k : Nat) : List Nat := (l.take k).map (outN o) ++ List.replicate (l.length - k) 0
theorem maskL_len (o : Nat) (l : List In) {k : Nat} (h : k ≤ l.length) : (maskL o l k).length = l.length := by
  unfold maskL
  simp
  omega
theorem maskL_start (o : Nat) (l : List In) : maskL o l 0 = List.replicate l.length 0 := by simp [maskL]
theorem maskL_end (o : Nat) (l : List In) : maskL o l l.length = l.map (outN o) := by simp [maskL]
theorem maskL_next (o : Nat) (l : List In) {k : Nat} (h : k < l.length) : (maskL o l k).set k (outN o l[k]) = maskL o l (k + 1) := by
  unfold maskL
  have h1 : ((l.take k).map (outN o)).length = k := by simp; omega
  rw [List.set_append_right _ _ (by omega), h1, Nat.sub_self, List.take_succ_eq_append_getElem h, List.map_append, List.append_assoc]
  have h2 : l.length - k = (l.length - (k + 1)) + 1 := by omega
  rw [h2, List.replicate_succ]
  rfl
end
section
set_option maxRecDepth 100000
open Go.ChangeShapes Go.WideShapes Go.ChangeAt Go.RowKit Go.Sort BigFrame

theorem byte_row : (Tryz.prog.info? 5).map (fun i => (i.zero, i.size, i.bytes)) = some (some (.int .u8 0), 1, 1) := by kernel_rfl
abbrev masksV (zs : List Nat) : List Value := zs.map fun x : Nat => Value.int .u8 (x : Int)
theorem made_bytes (n : Nat) : (madeCells (Value.int .u8 0).cells (n * 1)).toList = masksV (List.replicate n 0) := by
  have h : (Value.int .u8 0).cells = #[.int .u8 0] := rfl
  rw [h, Nat.mul_one]
  refine List.ext_getElem (by simp [madeCells]) fun i h1 h2 => ?_
  simp [madeCells, Nat.mod_one]
theorem owns_masks {w : World} {B n cap g : Nat} {zs : List Nat} (h : w.ownsRow B 5 1 (.slice (some ⟨g, 0, none⟩) n cap) n (masksV zs)) (hl : n ≤ 1000) (hb : ∀ t, zs.getD t 0 < 256) : zs.length = n ∧ Masks w (some ⟨g, 0, none⟩) cap zs := by
  have e : zs.length = n := by have := h.1; simpa using this
  refine ⟨e, ⟨?_, by omega, hb⟩⟩
  have hc := h.cells (g := g) rfl
  rcases h.2 with ⟨h', _⟩ | ⟨g', cap', cur, h', _, hg, hn, hm, _⟩
  · simp at h'
  · simp only [Value.slice.injEq, Option.some.injEq, Addr.mk.injEq, and_true, true_and] at h'
    obtain ⟨rfl, rfl⟩ := h'
    refine ⟨by omega, hm, fun h => by simp at h, fun a ha t ht => ?_⟩
    obtain rfl := Option.some.inj ha
    refine hc t _ ?_
    simp [List.getD, ht]
theorem masks_put (o : Nat) (l : List In) {k : Nat} (h : k < l.length) (x : In) (hx : l[k] = x) : (masksV (maskL o l k)).set k (.int .u8 (outN o x : Int)) = masksV (maskL o l (k + 1)) := by
  rw [← maskL_next o l h, hx]
  simp [masksV, List.map_set]
theorem mask_byte (o : Nat) (l : List In) : ∀ t, (l.map (outN o)).getD t 0 < 256 := fun t => by
  simp only [List.getD, List.getElem?_map]
  cases l[t]? with
  | none => exact Nat.zero_lt_succ _
  | some x => exact Nat.lt_of_lt_of_le (outN_lt o x) (by decide)
section
attribute [local irreducible] World.cell?
set_option maxRecDepth 100000 in
set_option maxHeartbeats 4000000 in
theorem lslots_any (W : World) (hN : Names W) (x : In) (hx : x.small) : Makes Tryz.prog W 89 #[x.val] (.int .u8 (slotN x)) := by
  intro w hm
  have hz := hm.size
  have HM := Lib.hid (hm.alloc hz (.cells x.cells.toArray 40))
  have HI := Lib.hid (heap_alloc_new w (.cells x.cells.toArray 40))
  have HR := right_any _ (hN.made HM.out) x hx _ (Made.refl _)
  have HC := Lib.hid (fun (u : World) (hu : Made W u) => class_any u (hN.made hu) x hx u (Made.refl u))
  obtain ⟨c0, c6⟩ := lclass_le x
  have HS := Lib.hid (slots_any (classZ (opN x.op)) c0 (Int.lt_of_le_of_lt c6 (by decide)))
  have HZ := Lib.hid (slotsZ_nat (classZ (opN x.op)))
  have hv : slotN x = if rightB x then (slotsZ (classZ (opN x.op))).toNat else 0 := rfl
  clear hx hm c0 c6
  generalize slotN x = v at *
  generalize rightB x = b at *
  generalize slotsZ (classZ (opN x.op)) = sz at *
  generalize classZ (opN x.op) = c at *
  have HV := Lib.hid hv
  have H := Lib.hid HR
  clear hv HR
  cases b with
  | false =>
    go_enter Tryz.func89, Tryz.ntmps89
    go_wp2_with (fail)
    refine H.out.mono ?_
    rintro e w1 ⟨rfl, h1⟩
    have M1 := Lib.hid (Made.trans HM.out h1)
    clear h1
    go_wp2
    go_ret
    exact ⟨ret_int (by rw [HV.out]; rfl), M1.out⟩
  | true =>
    have HV2 := Lib.hid (show sz = (v : Int) by rw [HZ.out, HV.out]; rfl)
    go_enter Tryz.func89, Tryz.ntmps89
    go_wp2_with (fail)
    refine H.out.mono ?_
    rintro e w1 ⟨rfl, h1⟩
    obtain ⟨a0, a1, a2, a3, a4, a5, a6, a7, a8, a9, a10⟩ := in_cells (h1.heap HI.out)
    have M1 := Lib.hid (Made.trans HM.out h1)
    clear h1
    go_wp2_with (fail)
    refine (HC.out _ M1.out).mono ?_
    rintro e w2 ⟨rfl, h2⟩
    have M2 := Lib.hid (Made.trans M1.out h2)
    clear h2
    go_wp2_with (fail)
    refine (HS.out _).mono ?_
    rintro e w3 ⟨rfl, rfl⟩
    go_wp2
    go_ret
    exact ⟨ret_int HV2.out, M2.out⟩
/-- The row of masks, as far as it is filled. -/
structure MaskAt (W : World) (g n c : Nat) (zs : List Nat) (w : World) : Prop where
  made : Made W w
  row : w.ownsRow W.heap.size 5 1 (.slice (some ⟨g, 0, none⟩) n c) n (masksV zs)
theorem MaskAt.next {W w w' : World} {g n c : Nat} {zs : List Nat} (h : MaskAt W g n c zs w) (hm : Made w w') : MaskAt W g n c zs w' := ⟨Made.trans h.made hm, owns_made h.row hm⟩
theorem MaskAt.drewN {W w : World} {g n c : Nat} {zs : List Nat} (h : MaskAt W g n c zs w) (k : Nat) : MaskAt W g n c zs (w.drewN k) := ⟨below_drewN h.made k, ⟨h.row.1, h.row.2⟩⟩
theorem MaskAt.put {W w : World} {g n c o k : Nat} {l : List In} (h : MaskAt W g n c (maskL o l k) w) (hk : k < l.length) (x : In) (hx : l[k] = x) : MaskAt W g n c (maskL o l (k + 1)) (w.setCell ⟨g, k, none⟩ (.int .u8 (outN o x : Int))) := by
  have hg := (h.row.lt g rfl).1
  refine ⟨h.made.setCell (p := ⟨g, k, none⟩) hg _, ?_⟩
  rw [← masks_put o l hk x hx]
  exact (h.row.stored k _).1
set_option maxRecDepth 100000 in
set_option maxHeartbeats 8000000 in
theorem lfit_any (o : Nat) (ho : o = 12 ∨ o = 15) (ao : Option Addr) (cap : Nat) (l : List In) (w : World) (hN : Names w) (hI : Insts w ao cap l) (hl : l.length ≤ 1000) :
    Calls Tryz.prog 60 #[.slice ao l.length cap, .int .u8 (o : Int)] w fun e w' => e = .returned (.bool (fitsN (l.map (outN o)))) ∧ Made w w' := by
  obtain ⟨i0, hi, hz0, hz1, hz2⟩ := info_parts byte_row
  have hroom := hI.room
  have hmax := hI.max
  unfold maxLen at hmax
  have H := Lib.hid hI
  have HO := Lib.hid (fun x => out_code o ho x)
  have HS := Lib.hid (fun (u : World) (hu : Made w u) (x : In) (hx : x.small) => lslots_any u (hN.made hu) x hx u (Made.refl u))
  clear hI hN ho
  have hzb : i0.bytes * l.length ≤ 281474976710656 := by rw [hz2]; omega
  go_enter Tryz.func60, Tryz.ntmps60
  go_upto_region 2 with (at_make; refine wpList_make_full _ rfl _ _ 118 rfl w.heap.size 5 i0 (.int .u8 0) 1 Tryz.underlying118 hi hz0 hz1 _ _ _ _ l.length rfl rfl rfl rfl hzb (by unfold maxLen; omega) (Nat.le_refl _) ?_; intro w1 hown hgr)
  rewrite [made_bytes] at hown
  have K0 := Lib.hid (show MaskAt w w.heap.size l.length l.length (maskL o l 0) w1 from ⟨⟨hgr.os, hgr.tape, hgr.output, hgr.size, fun k hk => hgr.block k hk (by simp)⟩, by rw [maskL_start]; exact hown⟩)
  clear hown hgr hzb
  go_wp2_with (fail)
  go_loopw [13] (fun x wr => ∃ k : Nat, k ≤ l.length ∧ x = .int .i64 k ∧ MaskAt w w.heap.size l.length l.length (maskL o l k) wr) (fun x _ => l.length - (intOf x).toNat)
  case atStart => exact ⟨0, by omega, rfl, K0.out⟩
  case round =>
    obtain ⟨k, hk, rfl, hM⟩ := hrel
    have K1 := Lib.hid hM
    clear hM K0
    by_cases hlt : k < l.length
    · obtain ⟨x, hx⟩ : ∃ x, l[k] = x := ⟨_, rfl⟩
      obtain ⟨b, o1, rfl, c0, c1, c2, c3, c4, c5, c6, c7, c8, c9, c10⟩ := insts_cells (insts_made H.out K1.out.made) hlt x hx
      have lb := World.block_lt_of_cell? wr _ c0
      have hsm := Lib.hid (H.out.small x (hx ▸ List.getElem_mem hlt))
      have m2 : Made wr (wr.alloc (.cells x.cells.toArray 40)) := (Made.refl wr).alloc (Nat.le_refl _) _
      have K2 := Lib.hid (K1.out.next m2)
      have HX := Lib.hid hx
      have hand := HO.out x
      have HG := Lib.hid (HS.out _ K2.out.made x hsm.out)
      have HPUT := Lib.hid (fun (u : World) (hu : MaskAt w w.heap.size l.length l.length (maskL o l k) u) => hu.put hlt x hx)
      clear hx m2
      generalize outN o x = mn at *
      generalize slotN x = sn at *
      go_wp2_with (fail)
      refine HG.out.mono ?_
      rintro e w5 ⟨rfl, h5⟩
      have K5 := Lib.hid (K2.out.next h5)
      clear h5 c0 c1 c2 c3 c4 c5 c6 c7 c8 c9 c10 lb
      have fr := K5.out.row.frozenAt
      have cj := (K5.out.row.cellAt k (by omega)).trans (List.getElem?_eq_getElem (by simp [maskL_len o l hk]; exact hlt))
      have KX := Lib.hid (HPUT.out _ K5.out)
      go_wp2
      go_roundw
      case rel => exact ⟨k + 1, by omega, by go_num, KX.out⟩
      case measure => simp [intOf]; omega
    · obtain rfl : k = l.length := by omega
      have hrow := K1.out.row
      rewrite [maskL_end] at hrow
      obtain ⟨e1, e2⟩ := owns_masks hrow hl (mask_byte o l)
      have HF := mfits_any (l.map (outN o)) (some ⟨w.heap.size, 0, none⟩) l.length wr e2
      rewrite [e1] at HF
      have HFF := Lib.hid HF
      have KM := Lib.hid K1.out.made
      clear hrow e1 e2 HF
      go_wp2_with (fail)
      refine HFF.out.mono ?_
      rintro e w6 ⟨rfl, h6⟩
      have M6 := Lib.hid (Made.trans KM.out h6)
      clear h6
      go_wp2
      go_ret
      exact ⟨rfl, M6.out⟩
end
end
section
set_option maxRecDepth 100000
open Go.ChangeShapes Go.WideShapes Go.ChangeAt Go.RowKit Go.Sort BigFrame

/-- What Choose hands back. -/
def Chosen (l : List In) (w : World) (e : Ending) (w' : World) : Prop := ∃ (i j : Nat) (ok : Bool), e = .returned (.tuple #[.int .i64 i, .int .i64 j, .bool ok]) ∧ IsChoice l i j ok ∧ Made w w'
theorem rest_next (l : List In) {i j k : Nat} (hij : i < j) (hk : k < l.length) (x : In) (hx : l[k] = x) : restOf (l.take (k + 1)) i j = if k = i ∨ k = j then restOf (l.take k) i j else restOf (l.take k) i j ++ [x] := by
  have hl : (l.take k).length = k := by rw [List.length_take]; omega
  have e : l.take (k + 1) = l.take k ++ [x] := by rw [List.take_succ_eq_append_getElem hk, hx]
  unfold restOf
  rw [e]
  generalize l.take k = m at *
  have out : ∀ (L : List In) (t : Nat), L.length ≤ t → L.eraseIdx t = L := fun L t h => List.eraseIdx_of_length_le h
  have lt : ∀ (L : List In) (t : Nat), t < L.length → (L ++ [x]).eraseIdx t = L.eraseIdx t ++ [x] := fun L t h => List.eraseIdx_append_of_lt_length h [x]
  have eq : ∀ (L : List In) (t : Nat), t = L.length → (L ++ [x]).eraseIdx t = L := fun L t h => by
    rw [List.eraseIdx_append_of_length_le (by omega), h, Nat.sub_self]
    simp
  have hx1 : (m ++ [x]).length = m.length + 1 := by simp
  by_cases h1 : k < i
  · rw [out (m ++ [x]) j (by omega), out (m ++ [x]) i (by omega), out m j (by omega), out m i (by omega), if_neg (by omega)]
  · by_cases h2 : k = i
    · rw [out (m ++ [x]) j (by omega), eq m i (by omega), out m j (by omega), out m i (by omega), if_pos (.inl h2)]
    · by_cases h3 : k < j
      · rw [out (m ++ [x]) j (by omega), lt m i (by omega), out m j (by omega), if_neg (by omega)]
      · by_cases h4 : k = j
        · rw [eq m j (by omega), out m j (by omega), if_pos (.inr h4)]
        · have hml : (m.eraseIdx j).length = m.length - 1 := List.length_eraseIdx_of_lt (by omega)
          rw [lt m j (by omega), lt (m.eraseIdx j) i (by omega), if_neg (by omega)]
theorem rest_whole (l : List In) (i j : Nat) : restOf (l.take l.length) i j = restOf l i j := by rw [List.take_length]
theorem rest_none (l : List In) (i j : Nat) : restOf (l.take 0) i j = [] := by simp [restOf]
theorem rest_len (l : List In) (i j k : Nat) : (restOf (l.take k) i j).length ≤ k := by
  unfold restOf
  have h1 : (((l.take k).eraseIdx j).eraseIdx i).length ≤ ((l.take k).eraseIdx j).length := List.length_eraseIdx_le ..
  have h2 : ((l.take k).eraseIdx j).length ≤ (l.take k).length := List.length_eraseIdx_le ..
  have h3 : (l.take k).length ≤ k := by rw [List.length_take]; omega
  omega
theorem rest_small {l : List In} (h : ∀ x ∈ l, x.small) (i j k : Nat) : ∀ x ∈ restOf (l.take k) i j, x.small := fun x hx =>
  h x (List.mem_of_mem_take (List.mem_of_mem_eraseIdx (List.mem_of_mem_eraseIdx hx)))
/-- No pair ahead of one. -/
def NoneTo (l : List In) (i j : Nat) : Prop := ∀ a b, a < b → b < l.length → ahead a b i j → okAt l a b = false
theorem none_start (l : List In) : NoneTo l 0 0 := fun a b _ _ h => by unfold ahead at h; omega
theorem none_in {l : List In} {i : Nat} (h : NoneTo l i 0) : NoneTo l i (i + 1) := fun a b hab hb ha => by
  unfold ahead at ha
  rcases ha with ha | ⟨rfl, ha⟩
  · exact h a b hab hb (.inl ha)
  · omega
theorem nonep_next {l : List In} {i j : Nat} (h : NoneTo l i j) (ho : okAt l i j = false) : NoneTo l i (j + 1) := fun a b hab hb ha => by
  unfold ahead at ha
  rcases ha with ha | ⟨rfl, ha⟩
  · exact h a b hab hb (.inl ha)
  · by_cases hbj : b = j
    · subst hbj; exact ho
    · exact h a b hab hb (.inr ⟨rfl, by omega⟩)
theorem none_out {l : List In} {i j : Nat} (h : NoneTo l i j) (hj : l.length ≤ j) : NoneTo l (i + 1) 0 := fun a b hab hb ha => by
  unfold ahead at ha
  by_cases hai : a < i
  · exact h a b hab hb (.inl hai)
  · exact h a b hab hb (.inr ⟨by omega, by omega⟩)
theorem none_all {l : List In} {i : Nat} (h : NoneTo l i 0) (hi : l.length ≤ i + 1) : IsChoice l 0 0 false :=
  ⟨fun h => by simp at h, fun _ => ⟨rfl, rfl, fun a b hab hb => h a b hab hb (.inl (by omega))⟩⟩
theorem choice_at {l : List In} {i j : Nat} (h : NoneTo l i j) (hij : i < j) (hj : j < l.length) (ho : okAt l i j = true) : IsChoice l i j true :=
  ⟨fun _ => ⟨hij, hj, ho, h⟩, fun h => by simp at h⟩
end
section
set_option maxRecDepth 100000
open Go.ChangeShapes Go.WideShapes Go.ChangeAt Go.RowKit Go.Sort BigFrame

/-- The others, as far as they are gathered. -/
structure LeftAt (W : World) (v : Value) (rl : List In) (w : World) : Prop where
  made : Made W w
  row : w.ownsRow W.heap.size 40 11 v rl.length (flatI rl)
theorem left_start (W : World) : LeftAt W (.slice none 0 0) [] W := ⟨Made.refl W, by
  refine ⟨by simp, .inl ⟨rfl, rfl⟩⟩⟩
theorem LeftAt.next {W w w' : World} {v : Value} {rl : List In} (h : LeftAt W v rl w) (hm : Made w w') : LeftAt W v rl w' := ⟨Made.trans h.made hm, owns_made h.row hm⟩
section
attribute [local irreducible] World.cell?
set_option maxRecDepth 100000 in
set_option maxHeartbeats 16000000 in
theorem lwithout_any (ao : Option Addr) (cap : Nat) (l : List In) (w : World) (hI : Insts w ao cap l) (hl : l.length ≤ 1000) (i j : Nat) (hij : i < j) (hj : j < l.length) :
    Calls Tryz.prog 140 #[.slice ao l.length cap, .int .i64 i, .int .i64 j] w fun e w' => ∃ so sc, e = .returned (.slice so (restOf l i j).length sc) ∧ Made w w' ∧ Insts w' so sc (restOf l i j) := by
  obtain ⟨i0, hi0, hz0, hz1, hz2⟩ := info_parts inst_row
  have hroom := hI.room
  have hmax := hI.max
  unfold maxLen at hmax
  have H := Lib.hid hI
  have HIJ := Lib.hid hij
  clear hI hij
  have hib : (i : Int) ≤ 1000 := by have := HIJ.out; omega
  have hjb : (j : Int) ≤ 1000 := by omega
  go_enter Tryz.func140, Tryz.ntmps140
  go_wp2_with (fail)
  go_loopw [7, 12] (fun ov kk wk => ∃ (k : Nat) (v : Value), k ≤ l.length ∧ kk = .int .i64 k ∧ v = ov ∧ LeftAt w v (restOf (l.take k) i j) wk) (fun _ kk _ => l.length - (intOf kk).toNat)
  case atStart => exact ⟨0, _, by omega, rfl, rfl, by rw [rest_none]; exact left_start w⟩
  case round =>
    obtain ⟨k, v, hk, rfl, rfl, hO⟩ := hrel
    have KO := Lib.hid hO
    clear hO
    by_cases hkl : k < l.length
    · obtain ⟨x2, hx2⟩ : ∃ x, l[k] = x := ⟨_, rfl⟩
      have hrn := rest_next l HIJ.out hkl x2 hx2
      obtain ⟨b, o, rfl, c0, c1, c2, c3, c4, c5, c6, c7, c8, c9, c10⟩ := insts_cells (insts_made H.out KO.out.made) hkl x2 hx2
      have lb := World.block_lt_of_cell? wr _ c0
      have HS := Lib.hid (H.out.small x2 (hx2 ▸ List.getElem_mem hkl))
      have m1 : Made wr (wr.alloc (.cells x2.cells.toArray 40)) := (Made.refl wr).alloc (Nat.le_refl _) _
      have KA := Lib.hid (KO.out.next m1)
      have KB := Lib.hid (show InAt (wr.alloc (.cells x2.cells.toArray 40)) wr.heap.size x2 from heap_alloc_new wr _)
      clear hx2 m1
      go_upto_region 5 with (fail)
      refine world_named (fun u => LeftAt w v (restOf (l.take k) i j) u ∧ InAt u wr.heap.size x2) ⟨KA.out, KB.out⟩ ?_
      rintro u ⟨hu1, hu2⟩
      have KU := Lib.hid hu1
      obtain ⟨a0, a1, a2, a3, a4, a5, a6, a7, a8, a9, a10⟩ := in_cells hu2
      have lu := heap_lt hu2
      clear c0 c1 c2 c3 c4 c5 c6 c7 c8 c9 c10 lb hu1 hu2 KA KB KO
      by_cases hskip : k = i ∨ k = j
      · rewrite [if_pos hskip] at hrn
        have KN := Lib.hid (show LeftAt w v (restOf (l.take (k + 1)) i j) u by rw [hrn]; exact KU.out)
        have hway : ((k : Int) != (i : Int)) = false ∨ (((k : Int) != (i : Int)) = true ∧ ((k : Int) != (j : Int)) = false) := by
          by_cases h : k = i
          · exact .inl (by rw [h]; simp)
          · exact .inr ⟨bne_iff_ne.2 (by omega), by rw [hskip.resolve_left h]; simp⟩
        clear hrn hskip
        rcases hway with h1 | ⟨h1, h2⟩
        all_goals
          go_wp2
          go_roundw
          case rel => exact ⟨k + 1, _, by omega, by go_num, rfl, KN.out⟩
          case measure => simp [intOf]; omega
      · rewrite [if_neg hskip] at hrn
        have HRN := Lib.hid hrn
        have h1 : ((k : Int) != (i : Int)) = true := bne_iff_ne.2 (by omega)
        have h2 : ((k : Int) != (j : Int)) = true := bne_iff_ne.2 (by omega)
        have hrl := rest_len l i j k
        have m2 : Made u (u.alloc (.cells (flatI [x2]).toArray 40)) := (Made.refl u).alloc (Nat.le_refl _) _
        have K2 := Lib.hid (Made.trans KU.out.made m2)
        have HO1 := Lib.hid (owns_made KU.out.row m2)
        have HI1 := Lib.hid (insts_olds (ao := some ⟨u.heap.size, 0, none⟩) (cap := 1) (l := [x2]) (w := u.alloc (.cells (flatI [x2]).toArray 40))
          ⟨by simp, by unfold maxLen; omega, fun y hy => by obtain rfl : y = x2 := (by simpa using hy); exact HS.out, fun h => by simp at h, fun t ht => ⟨u.heap.size, 0, rfl, fun r hr => by
            have h0 : t = 0 := by simpa using ht
            subst h0
            rw [show 0 + 0 * 11 + r = 0 * 11 + r by omega, cell_of_lit (heap_alloc_new u (.cells (flatI [x2]).toArray 40)) (0 * 11 + r), flatI_at [x2] 0 r (by simp) (by omega)]⟩⟩)
        have hbn : (some (⟨u.heap.size, 0, none⟩ : Addr)) = none → (1 : Nat) = 0 ∧ (1 : Nat) = 0 := fun h => by simp at h
        have hlen1 : (flatI [x2]).length = 1 * 11 := flatI_len [x2]
        have hmx : (restOf (l.take k) i j).length + 1 ≤ maxLen := by unfold maxLen; omega
        have hby : ((restOf (l.take k) i j).length + 1) * 24 ≤ 140737488355328 := by omega
        have hsz := Lib.hid K2.out.size
        clear hskip m2 hrn
        go_upto_region 7 with (at_builtin; refine wpList_append_each rfl (.tmp 25) (.tmp 27) 27 rfl w.heap.size 40 i0 (In.val inZero) 11 24 Tryz.underlying27 hi0 hz0 hz1 hz2 rfl (by decide) v (restOf (l.take k) i j).length (flatI (restOf (l.take k) i j)) rfl HO1.out (some ⟨u.heap.size, 0, none⟩) 1 1 (flatI [x2]) rfl hbn hlen1 HI1.out (flatI_one _) hmx hby hsz.out ?_; intro v1 w1 own1 gr1; rewrite [← flatI_app] at own1; have Q1 := Lib.hid (Below.grown K2.out gr1 hsz.out (fun t ht => (HO1.out.lt t ht).1)); have KO1 := Lib.hid own1; clear own1 gr1)
        have KN := Lib.hid (show LeftAt w v1 (restOf (l.take (k + 1)) i j) w1 from ⟨Q1.out, by rw [HRN.out]; simpa using KO1.out⟩)
        clear a0 a1 a2 a3 a4 a5 a6 a7 a8 a9 a10 lu
        go_wp2
        go_roundw
        case rel => exact ⟨k + 1, _, by omega, by go_num, rfl, KN.out⟩
        case measure => simp [intOf]; omega
    · obtain rfl : k = l.length := by omega
      have hO2 := KO.out.row
      rewrite [rest_whole] at hO2
      have hsr := rest_small H.out.small i j l.length
      rewrite [rest_whole] at hsr
      obtain ⟨-, so, sc, rfl, hIR⟩ := owns_insts hO2 hsr
      have HIR := Lib.hid hIR
      have KM := Lib.hid KO.out.made
      clear hO2 hsr hIR KO
      go_wp2
      go_ret
      exact ⟨so, sc, rfl, KM.out, HIR.out⟩
set_option maxRecDepth 100000 in
set_option maxHeartbeats 16000000 in
theorem lmay_any (ao : Option Addr) (cap : Nat) (l : List In) (w : World) (hT : Tabs w) (hI : Insts w ao cap l) (hl : l.length ≤ 1000) (i j : Nat) (hij : i < j) (hj : j < l.length) :
    Calls Tryz.prog 99 #[.slice ao l.length cap, .int .i64 i, .int .i64 j] w fun e w' => e = .returned (.bool (okAt l i j)) ∧ Made w w' := by
  have hil : i < l.length := by omega
  have hroom := hI.room
  have hmax := hI.max
  unfold maxLen at hmax
  have HW := Lib.hid (fun (u : World) (hu : Made w u) => lwithout_any ao cap l u (insts_made hI hu) hl i j hij hj)
  have HF := Lib.hid (fun (u : World) (hu : Made w u) (so : Option Addr) (sc : Nat) (h : Insts u so sc (restOf l i j)) => lfit_any 12 (.inl rfl) so sc (restOf l i j) u (hT.made hu).names h (by have := rest_length l hij hj; omega))
  obtain ⟨x, hx⟩ : ∃ x, l[i] = x := ⟨_, rfl⟩
  obtain ⟨y, hy⟩ : ∃ y, l[j] = y := ⟨_, rfl⟩
  obtain ⟨b, o, rfl, c0, c1, c2, c3, c4, c5, c6, c7, c8, c9, c10⟩ := insts_cells hI hil x hx
  obtain ⟨b', o', e', d0, d1, d2, d3, d4, d5, d6, d7, d8, d9, d10⟩ := insts_cells hI hj y hy
  obtain ⟨rfl, rfl⟩ : b = b' ∧ o = o' := by simpa using e'
  have hsx := hI.small x (hx ▸ List.getElem_mem hil)
  have hsy := hI.small y (hy ▸ List.getElem_mem hj)
  have lb := World.block_lt_of_cell? w _ c0
  have hgx : l.getD i inZero = x := by simp [List.getD, hil, hx]
  have hgy : l.getD j inZero = y := by simp [List.getD, hj, hy]
  have hok : okAt l i j = ((pairP x y).2 && placeB (restOf l i j) 3) := by unfold okAt pairB; rw [hgx, hgy]
  rewrite [← fits_beside] at hok
  have hD := pair_any w hT x y hsx hsy
  generalize pairP x y = pp at *
  obtain ⟨pv, pb⟩ := pp
  generalize fitsN ((restOf l i j).map (outN 12)) = fv at *
  generalize okAt l i j = ov at *
  have HOK := Lib.hid (show ov = (pb && fv) from hok)
  have HD := Lib.hid (show Makes Tryz.prog w 68 #[x.val, y.val] (.tuple #[.int .u32 pv, .bool pb]) from hD)
  clear hok hD hgx hgy hsx hsy hx hy e' hI hT
  have gc0 := fun d os => cell_regrown c0 d os
  have gc1 := fun d os => cell_regrown c1 d os
  have gc2 := fun d os => cell_regrown c2 d os
  have gc3 := fun d os => cell_regrown c3 d os
  have gc4 := fun d os => cell_regrown c4 d os
  have gc5 := fun d os => cell_regrown c5 d os
  have gc6 := fun d os => cell_regrown c6 d os
  have gc7 := fun d os => cell_regrown c7 d os
  have gc8 := fun d os => cell_regrown c8 d os
  have gc9 := fun d os => cell_regrown c9 d os
  have gc10 := fun d os => cell_regrown c10 d os
  have gd0 := fun d os => cell_regrown d0 d os
  have gd1 := fun d os => cell_regrown d1 d os
  have gd2 := fun d os => cell_regrown d2 d os
  have gd3 := fun d os => cell_regrown d3 d os
  have gd4 := fun d os => cell_regrown d4 d os
  have gd5 := fun d os => cell_regrown d5 d os
  have gd6 := fun d os => cell_regrown d6 d os
  have gd7 := fun d os => cell_regrown d7 d os
  have gd8 := fun d os => cell_regrown d8 d os
  have gd9 := fun d os => cell_regrown d9 d os
  have gd10 := fun d os => cell_regrown d10 d os
  have hi0 : (0 : Int) ≤ (i : Int) := by omega
  have hi1 : (i : Int) < (l.length : Int) := by omega
  have hj0 : (0 : Int) ≤ (j : Int) := by omega
  have hj1 : (j : Int) < (l.length : Int) := by omega
  go_enter Tryz.func99, Tryz.ntmps99
  go_upto_region 1 with (fail)
  refine wp_region_quiet_below (by kernel_rfl) (by kernel_rfl) ?_
  repeat (go_big_quiet_step ((go_at_call 68; with_reducible exact HD.out.again _ _)))
  refine wpQuiet_nil ?_
  intro z hz
  have MZ := Lib.hid (made_regrown hz)
  clear hz lb HD gc0 c0 gc1 c1 gc2 c2 gc3 c3 gc4 c4 gc5 c5 gc6 c6 gc7 c7 gc8 c8 gc9 c9 gc10 c10 gd0 d0 gd1 d1 gd2 d2 gd3 d3 gd4 d4 gd5 d5 gd6 d6 gd7 d7 gd8 d8 gd9 d9 gd10 d10
  cases pb with
  | false =>
    go_wp2
    go_ret
    exact ⟨ret_bool (by rw [HOK.out]; rfl), MZ.out⟩
  | true =>
    go_wp2_with (fail)
    refine (HW.out _ MZ.out).mono ?_
    rintro e w1 ⟨so, sc, rfl, h1, hIR⟩
    have M1 := Lib.hid (Made.trans MZ.out h1)
    have HG := Lib.hid (HF.out _ M1.out so sc hIR)
    clear h1 hIR
    go_wp2_with (fail)
    refine HG.out.mono ?_
    rintro e w2 ⟨rfl, h2⟩
    have M2 := Lib.hid (Made.trans M1.out h2)
    clear h2
    go_wp2
    go_ret
    exact ⟨ret_bool (by rw [HOK.out]; rfl), M2.out⟩
end
end
section
set_option maxRecDepth 100000
open Go.ChangeShapes Go.WideShapes Go.ChangeAt Go.RowKit Go.Sort BigFrame

theorem pk5 {w : World} {B : Nat} {ao : Option Addr} {n cap : Nat} {e0 e1 raw dup : Bool} (h : w.heap[B]? = some (.cells (boxL ao n cap e0 e1 raw dup).toArray 29 (0, 0))) :
    w.cell? ⟨B, 0, none⟩ = some (.slice ao n cap) ∧ w.cell? ⟨B, 1, none⟩ = some (.bool e0) ∧ w.cell? ⟨B, 2, none⟩ = some (.bool e1) ∧ w.cell? ⟨B, 3, none⟩ = some (.bool raw) ∧ w.cell? ⟨B, 4, none⟩ = some (.bool dup) :=
  ⟨cell_of_lit h 0, cell_of_lit h 1, cell_of_lit h 2, cell_of_lit h 3, cell_of_lit h 4⟩
theorem flat_cell : ∀ (l : List In) (t r : Nat) (h : t < l.length), r < 11 → (l.flatMap In.cells)[t * 11 + r]? = (l[t].cells)[r]?
  | x :: l, 0, r, _, hr => by
    have hl : x.cells.length = 11 := rfl
    simp only [List.flatMap_cons, Nat.zero_mul, Nat.zero_add, List.getElem_cons_zero]
    rw [List.getElem?_append_left (by omega)]
  | x :: l, t + 1, r, h, hr => by
    have hl : x.cells.length = 11 := rfl
    simp only [List.flatMap_cons, List.getElem_cons_succ]
    rw [List.getElem?_append_right (by omega), show (t + 1) * 11 + r - x.cells.length = t * 11 + r by omega]
    exact flat_cell l t r (by simpa using h) hr
/-- Instructions written out in a block. -/
theorem insts_lit {w : World} {b : Nat} {l : List In} {n : Nat} {T : TypeId} (h : w.heap[b]? = some (.cells (l.flatMap In.cells).toArray T (0, 0))) (hn : l.length = n) (hl : n ≤ 1000) (hs : ∀ x ∈ l, x.small) : Insts w (some ⟨b, 0, none⟩) n l := by
  refine ⟨by omega, by unfold maxLen; omega, hs, fun h => by simp at h, fun t ht => ⟨b, 0, rfl, fun r hr => ?_⟩⟩
  rw [Nat.zero_add, cell_of_lit h]
  exact flat_cell l t r ht hr
theorem made_alloc {W w : World} (h : Made W w) (o : Obj) : Made W (w.alloc o) := h.alloc h.size o
/-- An instruction stored cell by cell. -/
abbrev put11 (w : World) (g o : Nat) (x : In) : World :=
  ((((((((((w.setCell ⟨g, o, none⟩ (.int .u8 x.op)).setCell ⟨g, o + 1, none⟩ (.int .u8 x.d)).setCell ⟨g, o + 2, none⟩ (.int .u8 x.s)).setCell ⟨g, o + 3, none⟩ (.int .u8 x.t)).setCell ⟨g, o + 4, none⟩ (.int .u8 x.n)).setCell ⟨g, o + 5, none⟩ (.int .u8 x.pred)).setCell
    ⟨g, o + 6, none⟩ (.int .u8 x.mode)).setCell ⟨g, o + 7, none⟩ (.bool x.new)).setCell ⟨g, o + 8, none⟩ (.bool x.ext)).setCell ⟨g, o + 9, none⟩ (.int .u16 x.count)).setCell ⟨g, o + 10, none⟩ (.int .i64 x.imm)
theorem flat_set : ∀ (l : List In) (t : Nat) (_ : t < l.length) (x : In),
    (((((((((((flatI l).set (t * 11) (.int .u8 x.op)).set (t * 11 + 1) (.int .u8 x.d)).set (t * 11 + 2) (.int .u8 x.s)).set (t * 11 + 3) (.int .u8 x.t)).set (t * 11 + 4) (.int .u8 x.n)).set (t * 11 + 5) (.int .u8 x.pred)).set
      (t * 11 + 6) (.int .u8 x.mode)).set (t * 11 + 7) (.bool x.new)).set (t * 11 + 8) (.bool x.ext)).set (t * 11 + 9) (.int .u16 x.count)).set (t * 11 + 10) (.int .i64 x.imm) = flatI (l.set t x)
  | y :: l, 0, _, x => by simp [flatI, In.cells]
  | y :: l, t + 1, h, x => by
    have ih := flat_set l t (by simpa using h) x
    have hc : ∀ (L : List Value) (j : Nat) (v : Value), (y.cells ++ L).set ((t + 1) * 11 + j) v = y.cells ++ L.set (t * 11 + j) v := fun L j v => by
      have hl : y.cells.length = 11 := rfl
      rw [List.set_append_right _ _ (by omega), hl, show (t + 1) * 11 + j - 11 = t * 11 + j by omega]
    have hc0 : ∀ (L : List Value) (v : Value), (y.cells ++ L).set ((t + 1) * 11) v = y.cells ++ L.set (t * 11) v := fun L v => hc L 0 v
    have e : flatI (y :: l) = y.cells ++ flatI l := rfl
    have e2 : flatI ((y :: l).set (t + 1) x) = y.cells ++ flatI (l.set t x) := rfl
    rw [e, e2, hc0, hc, hc, hc, hc, hc, hc, hc, hc, hc, hc, ih]
theorem row_put {w : World} {B g n cap : Nat} {l : List In} (h : w.ownsRow B 40 11 (.slice (some ⟨g, 0, none⟩) n cap) n (flatI l)) {t : Nat} (ht : t < l.length) (x : In) :
    (put11 w g (t * 11) x).ownsRow B 40 11 (.slice (some ⟨g, 0, none⟩) n cap) n (flatI (l.set t x)) := by
  rw [← flat_set l t ht x]
  exact ((((((((((((h.stored _ _).1.stored _ _).1.stored _ _).1.stored _ _).1.stored _ _).1.stored _ _).1.stored _ _).1.stored _ _).1.stored _ _).1.stored _ _).1.stored _ _).1)
theorem put_far {w : World} {g o k : Nat} (x : In) (h : k ≠ g) : (put11 w g o x).heap[k]? = w.heap[k]? := by
  unfold put11
  rw [heap_setCell_other _ _ _ _ h, heap_setCell_other _ _ _ _ h, heap_setCell_other _ _ _ _ h, heap_setCell_other _ _ _ _ h, heap_setCell_other _ _ _ _ h, heap_setCell_other _ _ _ _ h, heap_setCell_other _ _ _ _ h, heap_setCell_other _ _ _ _ h, heap_setCell_other _ _ _ _ h, heap_setCell_other _ _ _ _ h, heap_setCell_other _ _ _ _ h]
theorem put_made {W w : World} {g o : Nat} (hm : Made W w) (hg : W.heap.size ≤ g) (x : In) : Made W (put11 w g o x) :=
  ((((((((((Below.setCell (Below.setCell hm (p := ⟨g, o, none⟩) hg _) (p := ⟨g, o + 1, none⟩) hg _).setCell (p := ⟨g, o + 2, none⟩) hg _).setCell (p := ⟨g, o + 3, none⟩) hg _).setCell (p := ⟨g, o + 4, none⟩) hg _).setCell (p := ⟨g, o + 5, none⟩) hg _).setCell
    (p := ⟨g, o + 6, none⟩) hg _).setCell (p := ⟨g, o + 7, none⟩) hg _).setCell (p := ⟨g, o + 8, none⟩) hg _).setCell (p := ⟨g, o + 9, none⟩) hg _).setCell (p := ⟨g, o + 10, none⟩) hg _)
theorem rowI_cells {w : World} {B g n cap : Nat} {l : List In} (h : w.ownsRow B 40 11 (.slice (some ⟨g, 0, none⟩) n cap) n (flatI l)) {t : Nat} (ht : t < l.length) (x : In) (hx : l[t] = x) :
    w.cell? ⟨g, t * 11, none⟩ = some (.int .u8 x.op) ∧ w.cell? ⟨g, t * 11 + 1, none⟩ = some (.int .u8 x.d) ∧ w.cell? ⟨g, t * 11 + 2, none⟩ = some (.int .u8 x.s) ∧ w.cell? ⟨g, t * 11 + 3, none⟩ = some (.int .u8 x.t) ∧
    w.cell? ⟨g, t * 11 + 4, none⟩ = some (.int .u8 x.n) ∧ w.cell? ⟨g, t * 11 + 5, none⟩ = some (.int .u8 x.pred) ∧ w.cell? ⟨g, t * 11 + 6, none⟩ = some (.int .u8 x.mode) ∧ w.cell? ⟨g, t * 11 + 7, none⟩ = some (.bool x.new) ∧
    w.cell? ⟨g, t * 11 + 8, none⟩ = some (.bool x.ext) ∧ w.cell? ⟨g, t * 11 + 9, none⟩ = some (.int .u16 x.count) ∧ w.cell? ⟨g, t * 11 + 10, none⟩ = some (.int .i64 x.imm) := by
  subst hx
  have hl : l.length * 11 = n * 11 := by have := h.1; rw [flatI_len] at this; omega
  have key : ∀ r, r < 11 → w.cell? ⟨g, t * 11 + r, none⟩ = (l[t].cells)[r]? := fun r hr => (h.cellAt (t * 11 + r) (by omega)).trans (flatI_at l t r ht hr)
  exact ⟨key 0 (by omega), key 1 (by omega), key 2 (by omega), key 3 (by omega), key 4 (by omega), key 5 (by omega), key 6 (by omega), key 7 (by omega), key 8 (by omega), key 9 (by omega), key 10 (by omega)⟩
/-- The packet's variable, the other packet's, and its row. -/
structure RowAt (W : World) (B Q : Nat) (cs : List Value) (so : Option Addr) (n cq : Nat) (e0 e1 raw dup : Bool) (l : List In) (w : World) : Prop where
  made : Made W w
  low : W.heap.size ≤ B
  lt : B < Q
  pk : w.heap[B]? = some (.cells cs.toArray 29 (0, 0))
  qk : w.heap[Q]? = some (.cells (boxL so n cq e0 e1 raw dup).toArray 29 (0, 0))
  row : w.ownsRow (Q + 1) 40 11 (.slice so n cq) n (flatI l)
  small : ∀ x ∈ l, x.small
theorem RowAt.next {W w w' : World} {B Q : Nat} {cs : List Value} {so : Option Addr} {n cq : Nat} {e0 e1 raw dup : Bool} {l : List In} (h : RowAt W B Q cs so n cq e0 e1 raw dup l w) (hm : Made w w') : RowAt W B Q cs so n cq e0 e1 raw dup l w' :=
  ⟨Made.trans h.made hm, h.low, h.lt, hm.heap h.pk, hm.heap h.qk, owns_made h.row hm, h.small⟩
theorem RowAt.drew {W w : World} {B Q : Nat} {cs : List Value} {so : Option Addr} {n cq : Nat} {e0 e1 raw dup : Bool} {l : List In} (h : RowAt W B Q cs so n cq e0 e1 raw dup l w) : RowAt W B Q cs so n cq e0 e1 raw dup l w.drew :=
  ⟨made_drew h.made, h.low, h.lt, h.pk, h.qk, h.row.drew, h.small⟩
theorem RowAt.put {W w : World} {B Q g : Nat} {cs : List Value} {n cq : Nat} {e0 e1 raw dup : Bool} {l : List In} (h : RowAt W B Q cs (some ⟨g, 0, none⟩) n cq e0 e1 raw dup l w) {i : Nat} (hi : i < l.length) (y : In) (hy : y.small) :
    RowAt W B Q cs (some ⟨g, 0, none⟩) n cq e0 e1 raw dup (l.set i y) (put11 w g (i * 11) y) := by
  have hg : Q + 1 ≤ g := (h.row.lt g rfl).1
  have hlow := h.low
  have hlt := h.lt
  refine ⟨put_made h.made (show W.heap.size ≤ g by omega) y, hlow, hlt, (put_far y (show B ≠ g by omega)).trans h.pk, (put_far y (show Q ≠ g by omega)).trans h.qk, row_put h.row hi y, ?_⟩
  intro z hz
  rcases List.mem_or_eq_of_mem_set hz with hz2 | rfl
  · exact h.small z hz2
  · exact hy
theorem RowAt.swap {W w : World} {B Q g : Nat} {cs : List Value} {n cq : Nat} {e0 e1 raw dup : Bool} {l : List In} (h : RowAt W B Q cs (some ⟨g, 0, none⟩) n cq e0 e1 raw dup l w) {i j : Nat} (hi : i < l.length) (hj : j < l.length) (x y : In) (hx : l[i] = x) (hy : l[j] = y) :
    RowAt W B Q cs (some ⟨g, 0, none⟩) n cq e0 e1 raw dup ((l.set i y).set j x) (put11 (put11 w g (i * 11) y) g (j * 11) x).drew :=
  ((h.put hi y (h.small _ (hy ▸ List.getElem_mem hj))).put (i := j) (by simpa using hj) x (h.small _ (hx ▸ List.getElem_mem hi))).drew
theorem row_some {w : World} {B n c : Nat} {so : Option Addr} {xs : List Value} (h : w.ownsRow B 40 11 (.slice so n c) n xs) (hn : 0 < n) : ∃ g, so = some ⟨g, 0, none⟩ ∧ n ≤ c := by
  rcases h.2 with ⟨h1, h2⟩ | ⟨g, c2, cur, h1, _, hg, hc, hm, _⟩
  · omega
  · simp only [Value.slice.injEq] at h1
    obtain ⟨rfl, -, rfl⟩ := h1
    exact ⟨g, rfl, hc⟩
/-- The packet's variable and the other packet's. -/
structure PkTwo (W : World) (B : Nat) (cs : List Value) (w : World) : Prop where
  made : Made W w
  low : W.heap.size ≤ B
  pk : w.heap[B]? = some (.cells cs.toArray 29 (0, 0))
  qk : w.heap[B + 1]? = some (.cells cs.toArray 29 (0, 0))
theorem PkTwo.next {W w w' : World} {B : Nat} {cs : List Value} (h : PkTwo W B cs w) (hm : Made w w') : PkTwo W B cs w' := ⟨Made.trans h.made hm, h.low, hm.heap h.pk, hm.heap h.qk⟩
theorem pkTwo_start (W : World) (cs : List Value) : PkTwo W W.heap.size cs ((W.alloc (.cells cs.toArray 29)).alloc (.cells cs.toArray 29)) := by
  have m1 := (Made.refl W).alloc (Nat.le_refl _) (.cells cs.toArray 29)
  have b1 : (W.alloc (.cells cs.toArray 29)).heap[W.heap.size]? = some (.cells cs.toArray 29 (0, 0)) := heap_alloc_new W _
  exact ⟨m1.alloc m1.size _, Nat.le_refl _, (Below.heap_alloc _ _ _ (heap_lt b1)).trans b1, heap_at (by simp)⟩
theorem rowAt_start {W z : World} {B : Nat} {ao : Option Addr} {n cap : Nat} {e0 e1 raw dup : Bool} {l : List In} {so : Option Addr} {c : Nat} (h : PkTwo W B (boxL ao n cap e0 e1 raw dup) z)
    (ho : z.ownsRow (B + 1 + 1) 40 11 (.slice so n c) n (flatI l)) (hs : ∀ x ∈ l, x.small) :
    RowAt W B (B + 1) (boxL ao n cap e0 e1 raw dup) so n c e0 e1 raw dup l (z.setCell ⟨B + 1, 0, none⟩ (.slice so n c)) :=
  have hlow := h.low
  ⟨h.made.setCell (p := ⟨B + 1, 0, none⟩) (show W.heap.size ≤ B + 1 by omega) _, hlow, by omega, (heap_setCell_other z ⟨B + 1, 0, none⟩ B _ (show B ≠ B + 1 by omega)).trans h.pk, heap_setCell_same z (B + 1) 0 _ _ _ h.qk,
    ownsRow_setCell_below ho (show B + 1 < B + 1 + 1 by omega) (a := ⟨B + 1, 0, none⟩) _, hs⟩
theorem insts_first {w : World} {b o cap : Nat} {l : List In} (h : Insts w (some ⟨b, o, none⟩) cap l) (k : Nat) : Insts w (some ⟨b, o, none⟩) cap (l.take k) := by
  have hr := h.room
  refine ⟨by rw [List.length_take]; omega, h.max, fun x hx => h.small x (List.mem_of_mem_take hx), fun h => by simp at h, fun t ht => ?_⟩
  rw [List.length_take] at ht
  obtain ⟨b', o', e, hc⟩ := h.cell t (by omega)
  refine ⟨b', o', e, fun r hr => ?_⟩
  rw [hc r hr, List.getElem_take]
theorem insts_rest {w : World} {b o cap : Nat} {l : List In} (h : Insts w (some ⟨b, o, none⟩) cap l) (k : Nat) : ∀ j u, (flatI (l.drop (k + 1)))[j]? = some u → w.cell? ((⟨b, o + (k + 1) * 11, none⟩ : Addr).add j) = some u := by
  have hI : Insts w (some ⟨b, o + (k + 1) * 11, none⟩) cap (l.drop (k + 1)) := by
    have hr := h.room
    refine ⟨by rw [List.length_drop]; omega, h.max, fun x hx => h.small x (List.mem_of_mem_drop hx), fun h => by simp at h, fun t ht => ?_⟩
    rw [List.length_drop] at ht
    obtain ⟨b', o', e, hc⟩ := h.cell (k + 1 + t) (by omega)
    obtain ⟨rfl, rfl⟩ : b = b' ∧ o = o' := by simpa using e
    refine ⟨b, _, rfl, fun r hr => ?_⟩
    rw [show o + (k + 1) * 11 + t * 11 + r = o + (k + 1 + t) * 11 + r by omega, hc r hr, List.getElem_drop]
  exact insts_olds hI _ rfl
end
end Go.Proofs.YtanjmoiepmadhaaGreatDoor
