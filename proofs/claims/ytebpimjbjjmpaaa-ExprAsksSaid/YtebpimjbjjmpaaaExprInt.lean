/- Values of terms in a row of int64, as plain data and in memory; no condition. -/
import Derived.Test.YtebpimjbjjmpaaaExprVal2
import Derived.Test.YtebpimjbjjmpaaaExprRefU
namespace Go.Proofs.Ytebpimjbjjmpaaa
open Go.ChangeShapes Go.WideShapes Go.ChangeAt Go.RowKit Go.Sort BigFrame

def intC (vals : List Int) (n : Nat) : List Value := (List.range n).map fun j => .int .i64 (vals.getD j 0)
theorem intC_len (vals : List Int) (n : Nat) : (intC vals n).length = n := by simp [intC]
theorem intC_at (vals : List Int) {n j : Nat} (h : j < n) : (intC vals n)[j]? = some (.int .i64 (vals.getD j 0)) := by
  unfold intC
  rw [List.getElem?_map, List.getElem?_range h]
  rfl
theorem getD_app (vals : List Int) (x : Int) (j : Nat) : (vals ++ [x]).getD j 0 = if j = vals.length then x else vals.getD j 0 := by
  rw [List.getD_eq_getElem?_getD, List.getD_eq_getElem?_getD]
  by_cases h : j = vals.length
  · rw [if_pos h, h, List.getElem?_append_right (Nat.le_refl _), Nat.sub_self]
    rfl
  · rw [if_neg h]
    rcases Nat.lt_or_ge j vals.length with h1 | h1
    · rw [List.getElem?_append_left h1]
    · rw [List.getElem?_eq_none (by rw [List.length_append, List.length_singleton]; omega), List.getElem?_eq_none h1]
theorem intC_set (vals : List Int) (n : Nat) (x : Int) : (intC vals n).toArray.setIfInBounds vals.length (.int .i64 x) = (intC (vals ++ [x]) n).toArray := by
  rw [List.setIfInBounds_toArray]
  congr 1
  refine List.ext_getElem? fun i => ?_
  rcases Nat.lt_or_ge i n with h | h
  · rw [intC_at _ h, getD_app]
    by_cases hij : i = vals.length
    · subst hij
      rw [List.getElem?_set_self (by rw [intC_len]; exact h), if_pos rfl]
    · rw [List.getElem?_set_ne (Ne.symm hij), intC_at _ h, if_neg hij]
  · rw [List.getElem?_eq_none (by rw [List.length_set, intC_len]; exact h), List.getElem?_eq_none (by rw [intC_len]; exact h)]
theorem intC_zero (vals : List Int) (n : Nat) : intC vals n = intC (vals ++ [0]) n := by
  unfold intC
  refine List.map_congr_left fun j _ => ?_
  rw [getD_app]
  split
  · rename_i h
    rw [h, List.getD_eq_getElem?_getD, List.getElem?_eq_none (Nat.le_refl _)]
    rfl
  · rfl
/-- The marks and the values, in blocks of the call's own. -/
structure EAt (W : World) (g q : Nat) (f : Nat → Bool) (n : Nat) (vals : List Int) (u : World) : Prop where
  made : Made W u
  marks : u.heap[g]? = some (.cells (boolC f n).toArray 4 (0, 0))
  vblk : u.heap[q]? = some (.cells (intC vals n).toArray 2 (0, 0))
  low : W.heap.size ≤ q
  ne : g ≠ q
section
variable {W u u1 : World} {g q n : Nat} {f : Nat → Bool} {vals : List Int}
theorem EAt.next (h : EAt W g q f n vals u) (hm : Made u u1) : EAt W g q f n vals u1 := ⟨Made.trans h.made hm, hm.heap h.marks, hm.heap h.vblk, h.low, h.ne⟩
theorem EAt.store (h : EAt W g q f n vals u) (x : Int) : EAt W g q f n (vals ++ [x]) (u.setCell ⟨q, vals.length, none⟩ (.int .i64 x)) := by
  refine ⟨Below.setCell h.made (p := ⟨q, vals.length, none⟩) h.low _, (heap_setCell_other u ⟨q, vals.length, none⟩ g _ h.ne).trans h.marks, ?_, h.low, h.ne⟩
  have := heap_setCell_same u q vals.length (intC vals n).toArray 2 (.int .i64 x) h.vblk
  rwa [intC_set] at this
theorem EAt.skip (h : EAt W g q f n vals u) : EAt W g q f n (vals ++ [0]) u := ⟨h.made, h.marks, by rw [← intC_zero]; exact h.vblk, h.low, h.ne⟩
theorem EAt.mark (h : EAt W g q f n vals u) {j : Nat} (hj : j < n) : u.cell? ⟨g, j, none⟩ = some (.bool (f j)) := (cell_of_lit h.marks j).trans (boolC_at f hj)
theorem EAt.val (h : EAt W g q f n vals u) {j : Nat} (hj : j < n) : u.cell? ⟨q, j, none⟩ = some (.int .i64 (vals.getD j 0)) := (cell_of_lit h.vblk j).trans (intC_at vals hj)
end
theorem long_row : (Try.prog.info? 2).map (fun i => (i.zero, i.size, i.bytes)) = some (some (Value.int .i64 0), 1, 8) := by kernel_rfl
theorem getD_in {vals : List Int} (h : ∀ v ∈ vals, inR v = true) (j : Nat) : -1099511627776 ≤ vals.getD j 0 ∧ vals.getD j 0 ≤ 1099511627776 := by
  rw [List.getD_eq_getElem?_getD]
  rcases Nat.lt_or_ge j vals.length with h1 | h1
  · rw [List.getElem?_eq_getElem h1]
    have := h _ (List.getElem_mem h1)
    simp only [inR, Bool.and_eq_true, decide_eq_true_eq] at this
    exact this
  · rw [List.getElem?_eq_none h1]
    exact ⟨by decide, by decide⟩
theorem cap_in {v : Int} (h0 : -1099511627776 ≤ v) (h1 : v ≤ 1099511627776) : capV (v, 0) = (v, 0) := by
  unfold capV inR
  rw [if_neg (fun h => h rfl), decide_eq_true h0, decide_eq_true h1]
  rfl
theorem cap_out {v : Int} (h : v < -1099511627776 ∨ 1099511627776 < v) : capV (v, 0) = (0, 6) := by
  unfold capV inR
  rw [if_neg (fun h => h rfl)]
  rcases h with h | h
  · rw [decide_eq_false (by show ¬ (-1099511627776 ≤ v); omega : ¬ (-maxV ≤ v))]
    rfl
  · rw [decide_eq_false (by show ¬ (v ≤ 1099511627776); omega : ¬ v ≤ maxV), Bool.and_false]
    rfl
theorem cap_bad {v e : Int} (h : e ≠ 0) : capV (v, e) = (0, e) := by
  unfold capV
  rw [if_pos h]
theorem kind_of {t : Tm} {i : Nat} (h : okT t i = true) : t.kind = 1 ∨ t.kind = 2 ∨ t.kind = 3 ∨ t.kind = 4 ∨ t.kind = 5 ∨ t.kind = 6 := by
  unfold okT at h
  split at h
  · exact .inl ‹_›
  split at h
  · exact .inr (.inl ‹_›)
  split at h
  · rename_i h3
    rcases h3 with h3 | h3 | h3
    · exact .inr (.inr (.inl h3))
    · exact .inr (.inr (.inr (.inl h3)))
    · exact .inr (.inr (.inr (.inr (.inl h3))))
  split at h
  · exact .inr (.inr (.inr (.inr (.inr ‹_›))))
  · cases h
end Go.Proofs.Ytebpimjbjjmpaaa
