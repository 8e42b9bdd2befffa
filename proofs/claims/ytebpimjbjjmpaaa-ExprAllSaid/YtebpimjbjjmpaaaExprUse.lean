/- How often each term is used: the array that ExprAll fills, as plain data; no condition but those named. -/
import Derived.Test.YtebpimjbjjmpaaaExprVal2
namespace Go.Proofs.Ytebpimjbjjmpaaa

/-- A row of numbers. -/
def useC (n : Nat) (c : Nat → Nat) : List Value := (List.range n).map fun j => Value.int .i64 (c j : Int)
theorem use_len (n : Nat) (c : Nat → Nat) : (useC n c).length = n := by
  unfold useC
  rw [List.length_map, List.length_range]
theorem use_at {n : Nat} (c : Nat → Nat) {j : Nat} (h : j < n) : (useC n c)[j]? = some (.int .i64 (c j : Int)) := by
  unfold useC
  rw [List.getElem?_map, List.getElem?_range h]
  rfl
theorem use_set {n : Nat} (c : Nat → Nat) {a : Nat} (h : a < n) : (useC n c).set a (.int .i64 ((c a : Int) + 1)) = useC n (fun j => c j + if a = j then 1 else 0) := by
  apply List.ext_getElem?
  intro j
  rw [List.getElem?_set]
  by_cases hj : j < n
  · rw [use_at (fun j => c j + if a = j then 1 else 0) hj]
    by_cases e : a = j
    · subst e
      rw [if_pos rfl, if_pos (by rw [use_len]; exact h), if_pos rfl]
      exact congrArg (fun z : Int => some (Value.int .i64 z)) (by omega)
    · rw [if_neg e, use_at _ hj, if_neg e, Nat.add_zero]
  · have h1 : (useC n (fun j => c j + if a = j then 1 else 0))[j]? = none := List.getElem?_eq_none (by rw [use_len]; omega)
    have h2 : (useC n c)[j]? = none := List.getElem?_eq_none (by rw [use_len]; omega)
    rw [h1, if_neg (by omega), h2]
theorem use_ext {n : Nat} {c d : Nat → Nat} (h : ∀ j, c j = d j) : useC n c = useC n d := by
  rw [show c = d from funext h]
theorem cntR_next {e : List Tm} {k : Nat} (h : k < e.length) (x : Tm) (hx : e[k] = x) (j : Nat) : cntR (e.take (k + 1)) j = cntR (e.take k) j + (if 3 ≤ x.kind ∧ x.a = (j : Int) then 1 else 0) + (if 3 ≤ x.kind ∧ x.kind < 6 ∧ x.b = (j : Int) then 1 else 0) := by
  subst hx
  rw [List.take_succ_eq_append_getElem h, cntR_app]
  simp only [cntR, List.map_cons, List.map_nil, List.sum_cons, List.sum_nil]
  omega
theorem cntR_none (j : Nat) : cntR [] j = 0 := rfl
/-- One use more of the first, none of a second. -/
theorem use_one {n : Nat} {e : List Tm} {k : Nat} (h : k < e.length) (x : Tm) (hx : e[k] = x) (h3 : 3 ≤ x.kind) (h6 : 6 ≤ x.kind) {a : Nat} (ha : x.a = (a : Int)) (han : a < n) :
    (useC n (cntR (e.take k))).set a (.int .i64 ((cntR (e.take k) a : Int) + 1)) = useC n (cntR (e.take (k + 1))) := by
  rw [use_set _ han]
  refine use_ext fun j => ?_
  rw [cntR_next h x hx j, if_neg (by omega : ¬ (3 ≤ x.kind ∧ x.kind < 6 ∧ x.b = (j : Int))), Nat.add_zero]
  congr 1
  by_cases e1 : a = j
  · rw [if_pos e1, if_pos ⟨h3, by omega⟩]
  · rw [if_neg e1, if_neg (by omega)]
/-- .. and of both. -/
theorem use_two {n : Nat} {e : List Tm} {k : Nat} (h : k < e.length) (x : Tm) (hx : e[k] = x) (h3 : 3 ≤ x.kind) (h6 : x.kind < 6) {a b : Nat} (ha : x.a = (a : Int)) (hb : x.b = (b : Int)) (hbn : b < n) :
    (useC n (fun j => cntR (e.take k) j + if a = j then 1 else 0)).set b (.int .i64 (((cntR (e.take k) b + if a = b then 1 else 0 : Nat) : Int) + 1)) = useC n (cntR (e.take (k + 1))) := by
  rw [use_set (fun j => cntR (e.take k) j + if a = j then 1 else 0) hbn]
  refine use_ext fun j => ?_
  rw [cntR_next h x hx j]
  congr 1
  · congr 1
    by_cases e1 : a = j
    · rw [if_pos e1, if_pos ⟨h3, by omega⟩]
    · rw [if_neg e1, if_neg (by omega)]
  · by_cases e1 : b = j
    · rw [if_pos e1, if_pos ⟨h3, h6, by omega⟩]
    · rw [if_neg e1, if_neg (by omega)]
/-- No term more. -/
theorem use_zero {n : Nat} {e : List Tm} {k : Nat} (h : k < e.length) (x : Tm) (hx : e[k] = x) (h3 : x.kind < 3) : useC n (cntR (e.take k)) = useC n (cntR (e.take (k + 1))) := by
  refine use_ext fun j => ?_
  rw [cntR_next h x hx j, if_neg (by omega), if_neg (by omega)]
  omega
/-- What is used at the end: each once but the last. -/
theorem use_post {t : Ex} (h : t.fine) {j : Nat} (hj : j + 1 < t.size) : cntR (t.post 0) j = 1 := by
  rw [post_cnt t 0 h j]
  unfold oneN
  rw [if_pos (by omega)]
theorem use_last {t : Ex} (h : t.fine) : cntR (t.post 0) (t.size - 1) = 0 := by
  rw [post_cnt t 0 h]
  unfold oneN
  rw [if_neg (by omega)]
end Go.Proofs.Ytebpimjbjjmpaaa
