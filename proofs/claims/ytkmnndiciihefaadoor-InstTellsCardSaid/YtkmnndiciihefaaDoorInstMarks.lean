/- The marks of the registers that are read, and how many lie below one, as plain data; no condition but that the registers are below 32. -/
import Derived.Test.YtkmnndiciihefaaDoorInstKinds
import Derived.Test.YtkmnndiciihefaaDoorInstReads
namespace Go.Proofs.YtkmnndiciihefaaDoor
open Go.ChangeShapes Go.WideShapes Go.ChangeAt Go.RowKit Go.Sort BigFrame

def markB (l : List Int) (j : Nat) : Bool := l.any fun z => decide (z = (j : Int))
def markL (l : List Int) : List Value := (List.range 32).map fun j => .bool (markB l j)
theorem markL_len (l : List Int) : (markL l).length = 32 := by simp [markL]
theorem markL_at (l : List Int) (j : Nat) (h : j < 32) : (markL l)[j]? = some (.bool (markB l j)) := by
  simp [markL, h]
theorem markL_one (l : List Int) : ∀ u ∈ markL l, u.oneCell' = true := by
  intro u hu
  obtain ⟨j, _, rfl⟩ := List.mem_map.1 hu
  rfl
theorem markL_set (l : List Int) (s : Int) (h0 : 0 ≤ s) (h1 : s < 32) : (markL l).toArray.setIfInBounds s.toNat (.bool true) = (markL (s :: l)).toArray := by
  rw [List.setIfInBounds_toArray]
  congr 1
  refine List.ext_getElem? fun j => ?_
  by_cases hj : j < 32
  · rw [markL_at _ j hj]
    by_cases e : s.toNat = j
    · subst e
      rw [List.getElem?_set_self (by rw [markL_len]; omega)]
      simp [markB, Int.toNat_of_nonneg h0]
    · rw [List.getElem?_set_ne e, markL_at _ j hj]
      have : ¬ s = (j : Int) := by omega
      simp [markB, this]
  · rw [List.getElem?_eq_none (by rw [List.length_set, markL_len]; omega), List.getElem?_eq_none (by rw [markL_len]; omega)]
theorem markL_same {l m : List Int} (h : ∀ z : Int, z ∈ l ↔ z ∈ m) : markL l = markL m := by
  unfold markL
  refine List.map_congr_left fun j _ => ?_
  congr 1
  rw [Bool.eq_iff_iff]
  simp [markB, h]
/-- What is read, by kinds. -/
theorem reads_kind (x : In) (hx : x.small) (hr : rightB x = true) :
    (0 ≤ x.s ∧ x.s < 32 ∧ 0 ≤ x.t ∧ x.t < 32) ∧
    ((kindZ x.op = 1 ∨ kindZ x.op = 5 ∨ kindZ x.op = 7 ∨ kindZ x.op = 9) → markL (readsL x) = markL [x.t, x.s]) ∧
    ((kindZ x.op = 2 ∨ kindZ x.op = 4 ∨ kindZ x.op = 6 ∨ kindZ x.op = 8 ∨ kindZ x.op = 10 ∨ kindZ x.op = 13 ∨ kindZ x.op = 16) → markL (readsL x) = markL [x.s]) ∧
    (kindZ x.op = 11 → markL (readsL x) = if x.new then markL [x.s] else markL [x.t, x.s]) ∧
    ((kindZ x.op = 3 ∨ kindZ x.op = 12 ∨ kindZ x.op = 14 ∨ kindZ x.op = 15 ∨ kindZ x.op = 17) → markL (readsL x) = markL []) := by
  obtain ⟨h0, h1⟩ := right_op hr
  have hf := ref_of hx hr
  have hk := kind_has h0 h1
  have hs0 := hx.s0
  have ht0 := hx.t0
  have hb : x.s < 32 ∧ x.t < 32 := by
    simp [refK, regsB] at hf
    omega
  have he : readsL x = regsL (hasB (fieldsZ x.op) 5) (hasB (fieldsZ x.op) 6 && !x.new) x.s x.t := by unfold readsL; rw [hr]; rfl
  have two : markL (regsL true true x.s x.t) = markL [x.t, x.s] := by
    refine markL_same fun z => ?_
    unfold regsL
    by_cases h : x.s = x.t
    · rw [if_pos h]; simp [h]
    · rw [if_neg h]
      simp only [List.mem_cons, List.not_mem_nil, or_false]
      omega
  refine ⟨⟨hs0, hb.1, ht0, hb.2⟩, ?_, ?_, ?_, ?_⟩
  · intro h
    have hn : x.new = false := by
      obtain ⟨xo, xd, xs, xt, xn, xp, xm, xw, xe, xc, xi⟩ := x
      simp only [] at *
      rcases h with e | e | e | e <;> (rw [e] at hf; simp [refK, okK, condB, isK, inZero] at hf; simp [hf])
    rw [he, hk.s, hk.t, hn]
    rcases h with e | e | e | e <;> (rw [e]; exact two)
  · intro h
    rw [he, hk.s, hk.t]
    rcases h with e | e | e | e | e | e | e <;> (rw [e]; rfl)
  · intro e
    rw [he, hk.s, hk.t, e]
    cases x.new
    · exact two
    · rfl
  · intro h
    rw [he, hk.s, hk.t]
    rcases h with e | e | e | e | e <;> (rw [e]; rfl)
/-- How many of the registers lie below one. -/
def cnt (l : List Int) (r : Nat) : Nat := (l.filter fun z => decide (z < (r : Int))).length
structure Counts (l : List Int) : Prop where
  zero : cnt l 0 = 0
  step : ∀ r, r < 32 → cnt l (r + 1) = cnt l r + (if markB l r then 1 else 0)
  here : ∀ r, r < 32 → markB l r = true → l[cnt l r]? = some (r : Int)
  all : cnt l 32 = l.length
  few : l.length ≤ 2
  le : ∀ r, r ≤ 32 → cnt l r ≤ 2
theorem counts_of (l : List Int) (h : l = [] ∨ (∃ a, l = [a] ∧ 0 ≤ a ∧ a < 32) ∨ ∃ a b, l = [a, b] ∧ a < b ∧ 0 ≤ a ∧ b < 32) : Counts l := by
  rcases h with rfl | ⟨a, rfl, h0, h1⟩ | ⟨a, b, rfl, hab, h0, h1⟩
  · exact ⟨rfl, fun r _ => by simp [cnt, markB], fun r _ h => by simp [markB] at h, rfl, by simp, fun r _ => by simp [cnt]⟩
  · have e : ∀ r : Nat, cnt [a] r = if a < (r : Int) then 1 else 0 := by
      intro r; by_cases h : a < (r : Int) <;> simp [cnt, h]
    refine ⟨by rw [e, if_neg (by omega)], fun r hr => ?_, fun r hr hm => ?_, by rw [e, if_pos (by omega)]; rfl, by simp, fun r _ => by rw [e]; split <;> omega⟩
    · rw [e, e]
      by_cases hm : a = (r : Int)
      · simp [markB, hm]
        omega
      · have : markB [a] r = false := by simp [markB, hm]
        rw [this]
        by_cases hlt : a < (r : Int)
        · rw [if_pos hlt, if_pos (by omega)]; rfl
        · rw [if_neg hlt, if_neg (by omega)]; rfl
    · have hm' : a = (r : Int) := by simpa [markB] using hm
      have ec : cnt [a] r = 0 := by rw [e, if_neg (by omega)]
      rw [ec]; simp [hm']
  · have e : ∀ r : Nat, cnt [a, b] r = (if a < (r : Int) then 1 else 0) + if b < (r : Int) then 1 else 0 := by
      intro r; by_cases h : a < (r : Int) <;> by_cases h' : b < (r : Int) <;> simp [cnt, h, h']
    refine ⟨by rw [e, if_neg (by omega), if_neg (by omega)], fun r hr => ?_, fun r hr hm => ?_, by rw [e, if_pos (by omega), if_pos (by omega)]; rfl, by simp, fun r _ => by rw [e]; split <;> split <;> omega⟩
    · rw [e, e]
      by_cases hm : a = (r : Int)
      · have : markB [a, b] r = true := by simp [markB, hm]
        rw [this, if_neg (show ¬ a < (r : Int) by omega), if_pos (show a < ((r + 1 : Nat) : Int) by omega), if_neg (show ¬ b < (r : Int) by omega), if_neg (show ¬ b < ((r + 1 : Nat) : Int) by omega)]; rfl
      · by_cases hm2 : b = (r : Int)
        · have : markB [a, b] r = true := by simp [markB, hm2]
          rw [this, if_pos (show a < (r : Int) by omega), if_pos (show a < ((r + 1 : Nat) : Int) by omega), if_neg (show ¬ b < (r : Int) by omega), if_pos (show b < ((r + 1 : Nat) : Int) by omega)]; rfl
        · have : markB [a, b] r = false := by simp [markB, hm, hm2]
          rw [this]
          by_cases ha : a < (r : Int)
          · by_cases hb : b < (r : Int)
            · rw [if_pos ha, if_pos (show a < ((r + 1 : Nat) : Int) by omega), if_pos hb, if_pos (show b < ((r + 1 : Nat) : Int) by omega)]; rfl
            · rw [if_pos ha, if_pos (show a < ((r + 1 : Nat) : Int) by omega), if_neg hb, if_neg (show ¬ b < ((r + 1 : Nat) : Int) by omega)]; rfl
          · rw [if_neg ha, if_neg (show ¬ a < ((r + 1 : Nat) : Int) by omega), if_neg (show ¬ b < (r : Int) by omega), if_neg (show ¬ b < ((r + 1 : Nat) : Int) by omega)]; rfl
    · have hm' : a = (r : Int) ∨ b = (r : Int) := by simpa [markB] using hm
      rcases hm' with hm' | hm'
      · have ec : cnt [a, b] r = 0 := by rw [e, if_neg (by omega), if_neg (by omega)]
        rw [ec]; simp [hm']
      · have ec : cnt [a, b] r = 1 := by rw [e, if_pos (by omega), if_neg (by omega)]
        rw [ec]; simp [hm']
theorem reads_counts (x : In) (hx : x.small) : Counts (readsL x) := by
  refine counts_of _ ?_
  unfold readsL
  cases hr : rightB x with
  | false => exact .inl rfl
  | true =>
    rw [if_pos rfl]
    obtain ⟨⟨s0, s1, t0, t1⟩, _⟩ := reads_kind x hx hr
    cases hasB (fieldsZ x.op) 5 <;> cases (hasB (fieldsZ x.op) 6 && !x.new)
    · exact .inl rfl
    · exact .inr (.inl ⟨_, rfl, t0, t1⟩)
    · exact .inr (.inl ⟨_, rfl, s0, s1⟩)
    · by_cases h : x.s = x.t
      · exact .inr (.inl ⟨_, if_pos h, s0, s1⟩)
      · exact .inr (.inr ⟨_, _, if_neg h, by omega, by omega, by omega⟩)
end Go.Proofs.YtkmnndiciihefaaDoor
