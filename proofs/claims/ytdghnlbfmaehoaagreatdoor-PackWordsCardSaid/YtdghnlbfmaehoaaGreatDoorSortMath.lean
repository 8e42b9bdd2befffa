/- Insertion into a sorted list, by exchanging neighbours, for lists of anything and any order that is total; no condition but those named. -/
import Derived.Test.YtdghnlbfmaehoaaGreatDoorGBase
namespace Go.Proofs.YtdghnlbfmaehoaaGreatDoor

section
variable {α : Type} (le : α → α → Bool)
/-- The first k stand in order. -/
def InRow (xs : List α) (k : Nat) : Prop := ∀ p q (_ : p < q) (_ : q < k) (hq : q < xs.length), le (xs[p]'(by omega)) xs[q] = true
/-- All but the one at j of the first i + 1 stand in order, and it is ahead of those behind it. -/
structure Insd (xs : List α) (i j : Nat) : Prop where
  lt : i < xs.length
  jle : j ≤ i
  rest : ∀ p q (_ : p < q) (hq : q ≤ i), p ≠ j → q ≠ j → le (xs[p]'(by omega)) (xs[q]'(by omega)) = true
  after : ∀ q (_ : j < q) (hq : q ≤ i), le (xs[j]'(by omega)) (xs[q]'(by omega)) = true
variable {le}
theorem inrow_one (xs : List α) : InRow le xs 1 := fun p q h1 h2 _ => by omega
theorem inrow_all {xs : List α} (h : InRow le xs xs.length) : xs.Pairwise (fun a b => le a b = true) := List.pairwise_iff_getElem.2 fun p q _ hq hpq => h p q hpq hq hq
theorem ins_start {xs : List α} {i : Nat} (h : InRow le xs i) (hi : i < xs.length) : Insd le xs i i := ⟨hi, Nat.le_refl _, fun p q hpq hq h1 h2 => h p q hpq (by omega) (by omega), fun q h1 h2 => by omega⟩
theorem ins_swap {xs : List α} {i j : Nat} (h : Insd le xs i j) (hj : 0 < j) (x y : α) (hx : xs[j]'(by have := h.lt; have := h.jle; omega) = x) (hy : xs[j - 1]'(by have := h.lt; have := h.jle; omega) = y) (hle : le x y = true) : Insd le ((xs.set j y).set (j - 1) x) i (j - 1) := by
  have hlt := h.lt
  have hjle := h.jle
  have at_ : ∀ t (ht : t < xs.length), ((xs.set j y).set (j - 1) x)[t]'(by simpa using ht) = if t = j - 1 then x else if t = j then y else xs[t] := fun t ht => by
    rw [List.getElem_set, List.getElem_set]
    repeat' split
    all_goals first | rfl | (exfalso; omega)
  refine ⟨by simpa using hlt, by omega, fun p q hpq hq h1 h2 => ?_, fun q h1 hq => ?_⟩
  · rw [at_ p (by omega), at_ q (by omega), if_neg h1, if_neg h2]
    by_cases hp : p = j
    · rw [if_pos hp, if_neg (by omega), ← hy]
      exact h.rest (j - 1) q (by omega) hq (by omega) (by omega)
    · rw [if_neg hp]
      by_cases hq2 : q = j
      · rw [if_pos hq2, ← hy]
        exact h.rest p (j - 1) (by omega) (by omega) hp (by omega)
      · rw [if_neg hq2]
        exact h.rest p q hpq hq hp hq2
  · rw [at_ (j - 1) (by omega), at_ q (by omega), if_pos rfl, if_neg (by omega)]
    by_cases hq2 : q = j
    · rw [if_pos hq2]
      exact hle
    · rw [if_neg hq2, ← hx]
      exact h.after q (by omega) hq
theorem ins_stop {xs : List α} {i j : Nat} (trans : ∀ a b c, le a b = true → le b c = true → le a c = true) (h : Insd le xs i j) (hd : j = 0 ∨ le (xs[j - 1]'(by have := h.lt; have := h.jle; omega)) (xs[j]'(by have := h.lt; have := h.jle; omega)) = true) : InRow le xs (i + 1) := by
  have hlt := h.lt
  have hjle := h.jle
  intro p q hpq hq hql
  by_cases hp : p = j
  · subst hp
    exact h.after q hpq (by omega)
  · by_cases hq2 : q = j
    · subst hq2
      have hd2 := hd.resolve_left (by omega)
      by_cases hp1 : p = q - 1
      · subst hp1
        exact hd2
      · exact trans _ _ _ (h.rest p (q - 1) (by omega) (by omega) hp (by omega)) hd2
    · exact h.rest p q hpq (by omega) hp hq2
theorem near_perm {xs : List α} {j : Nat} (hl : j < xs.length) (x y : α) (hx : xs[j] = x) (hy : xs[j - 1] = y) : ((xs.set j y).set (j - 1) x).Perm xs := by
  subst hx hy
  have h := Array.swap_perm (xs := xs.toArray) (i := j) (j := j - 1) (by simpa using hl) (by simp; omega)
  have h2 := h.toList
  simpa [Array.swap] using h2
theorem near_perm' {xs : List α} {j k : Nat} (hk : k + 1 = j) (hl : j < xs.length) (x y : α) (hx : xs[j] = x) (hy : xs[k]'(by omega) = y) : ((xs.set j y).set k x).Perm xs := by
  subst hk
  exact near_perm hl x y hx hy
theorem ins_swap' {xs : List α} {i j k : Nat} (h : Insd le xs i j) (hk : k + 1 = j) (hl : j < xs.length) (x y : α) (hx : xs[j] = x) (hy : xs[k]'(by omega) = y) (hle : le x y = true) : Insd le ((xs.set j y).set k x) i k := by
  subst hk
  exact ins_swap h (by omega) x y hx hy hle
theorem ins_stop' {xs : List α} {i j k : Nat} (trans : ∀ a b c, le a b = true → le b c = true → le a c = true) (h : Insd le xs i j) (hk : k + 1 = j) (hl : j < xs.length) (x y : α) (hx : xs[j] = x) (hy : xs[k]'(by omega) = y) (hle : le y x = true) : InRow le xs (i + 1) := by
  subst hk hx hy
  exact ins_stop trans h (.inr hle)
end
end Go.Proofs.YtdghnlbfmaehoaaGreatDoor
