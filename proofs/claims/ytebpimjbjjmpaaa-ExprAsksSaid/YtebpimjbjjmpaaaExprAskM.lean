/- The names that are asked, each once, are the expression's names as far as it is evaluated; a value hangs on the values of its names alone; as plain data; no condition. -/
import Derived.Test.YtebpimjbjjmpaaaExprAsk
import Derived.Test.YtebpimjbjjmpaaaExprNam
namespace Go.Proofs.Ytebpimjbjjmpaaa

/-- The names of the used terms, as often as they stand there: of the first k, and of m from i on. -/
def useN (e : List Tm) (i : Nat) : List (List UInt8) := match e[i]? with | some t => if usedB e i then (if t.kind = 2 then [t.name] else []) else [] | none => []
def allP (e : List Tm) : Nat → List (List UInt8)
  | 0 => []
  | k + 1 => allP e k ++ useN e k
def allN (e : List Tm) : Nat → Nat → List (List UInt8)
  | 0, _ => []
  | m + 1, i => useN e i ++ allN e m (i + 1)
theorem all_join (e : List Tm) : ∀ m k, allP e k ++ allN e m k = allP e (k + m)
  | 0, k => by simp [allN]
  | m + 1, k => by
    rw [allN, ← List.append_assoc, show allP e k ++ useN e k = allP e (k + 1) from rfl, all_join e m (k + 1)]
    congr 1
    omega
theorem ask_prefix (ask : List UInt8 → Int × Int) (e : List Tm) : ∀ m i vals, i + m ≤ e.length → ∃ r, allN e m i = askF ask e m i vals ++ r ∧ ((evF ask e m i vals).2 = 0 → r = [])
  | 0, i, vals, _ => ⟨[], rfl, fun _ => rfl⟩
  | m + 1, i, vals, h => by
    have hi : i < e.length := by omega
    have ht : e[i]? = some e[i] := List.getElem?_eq_getElem hi
    simp only [allN, askF, evF, useN, ht]
    by_cases hu : usedB e i = true
    · rw [if_pos hu, if_pos hu, if_pos hu]
      by_cases hc : (capV (valT ask e[i] vals)).2 = 0
      · rw [if_pos hc, if_pos hc]
        obtain ⟨r, hr, hz⟩ := ask_prefix ask e m (i + 1) (vals ++ [(capV (valT ask e[i] vals)).1]) (by omega)
        exact ⟨r, by rw [hr, List.append_assoc], hz⟩
      · rw [if_neg hc, if_neg hc, List.append_nil]
        exact ⟨allN e m (i + 1), rfl, fun h => absurd h hc⟩
    · rw [if_neg hu, if_neg hu, if_neg hu, List.nil_append]
      exact ask_prefix ask e m (i + 1) (vals ++ [0]) (by omega)
/-- Each text once, in the order of first places. -/
def ddS (acc : List (List UInt8)) (s : List UInt8) : List (List UInt8) := if s ∈ acc then acc else acc ++ [s]
def dd (l : List (List UInt8)) : List (List UInt8) := l.foldl ddS []
theorem dd_snoc (l : List (List UInt8)) (s : List UInt8) : dd (l ++ [s]) = if s ∈ dd l then dd l else dd l ++ [s] := by
  unfold dd
  rw [List.foldl_append]
  rfl
theorem dd_more (a : List (List UInt8)) : ∀ (b : List (List UInt8)) (acc : List (List UInt8)), acc.length ≤ (b.foldl ddS acc).length
  | [], acc => Nat.le_refl _
  | s :: b, acc => by
    refine Nat.le_trans ?_ (dd_more a b (ddS acc s))
    unfold ddS
    split
    · exact Nat.le_refl _
    · rw [List.length_append]; omega
theorem dd_len (a b : List (List UInt8)) : (dd a).length ≤ (dd (a ++ b)).length := by
  unfold dd
  rw [List.foldl_append]
  exact dd_more a b _
theorem dd_le : ∀ (l : List (List UInt8)) (acc : List (List UInt8)), (l.foldl ddS acc).length ≤ acc.length + l.length
  | [], acc => Nat.le_refl _
  | s :: l, acc => by
    have h1 := dd_le l (ddS acc s)
    have h2 : (ddS acc s).length ≤ acc.length + 1 := by
      unfold ddS
      split
      · omega
      · rw [List.length_append]; simp
    simp only [List.foldl_cons, List.length_cons]
    omega
theorem dd_few (l : List (List UInt8)) : (dd l).length ≤ l.length := by
  have := dd_le l []
  simpa [dd] using this
theorem names_dd (e : List Tm) : ∀ k, k ≤ e.length → namesF e k = dd (allP e k)
  | 0, _ => rfl
  | k + 1, h => by
    have ht : e[k]? = some e[k] := List.getElem?_eq_getElem (by omega)
    have ih := names_dd e k (by omega)
    simp only [namesF, allP, useN, ht]
    by_cases hu : usedB e k = true
    · by_cases h2 : e[k].kind = 2
      · rw [if_pos hu, if_pos h2, dd_snoc, ← ih]
        by_cases hm : e[k].name ∈ namesF e k
        · rw [if_neg (fun h => h.2.2 hm), if_pos hm]
        · rw [if_pos ⟨hu, h2, hm⟩, if_neg hm]
      · rw [if_neg (fun h => h2 h.2.1), if_pos hu, if_neg h2, List.append_nil]
        exact ih
    · rw [if_neg (fun h => hu h.1), if_neg hu, List.append_nil]
      exact ih
/-- What has been asked, each once, beside the names. -/
theorem asked_names (ask : List UInt8 → Int × Int) (e : List Tm) (hr : rightB e = true) : ((evL ask e).2 = 0 → namesL e = dd (askedL ask e)) ∧ (dd (askedL ask e)).length ≤ (namesL e).length := by
  unfold namesL askedL evL
  rw [if_pos hr, if_pos hr, if_pos hr, names_dd e e.length (Nat.le_refl _)]
  obtain ⟨r, h1, h2⟩ := ask_prefix ask e e.length 0 [] (by omega)
  have h3 := all_join e e.length 0
  rw [Nat.zero_add] at h3
  rw [← h3, show allP e 0 = [] from rfl, List.nil_append, h1]
  exact ⟨fun h => by rw [h2 h, List.append_nil], dd_len _ _⟩
theorem useN_len (e : List Tm) (i : Nat) : (useN e i).length ≤ 1 := by
  unfold useN
  split
  · split
    · split <;> simp
    · exact Nat.zero_le _
  · exact Nat.zero_le _
theorem allN_len (e : List Tm) : ∀ m i, (allN e m i).length ≤ m
  | 0, _ => Nat.le_refl _
  | m + 1, i => by
    have h1 := useN_len e i
    have h2 := allN_len e m (i + 1)
    rw [allN, List.length_append]
    omega
theorem asked_few (ask : List UInt8 → Int × Int) (e : List Tm) : (askedL ask e).length ≤ e.length := by
  unfold askedL
  split
  · obtain ⟨r, h, -⟩ := ask_prefix ask e e.length 0 [] (by omega)
    have h1 := allN_len e e.length 0
    rw [h, List.length_append] at h1
    omega
  · exact Nat.zero_le _
theorem name_mem (e : List Tm) {i : Nat} (hi : i < e.length) (hu : usedB e i = true) (h2 : e[i].kind = 2) : ∀ k, i < k → k ≤ e.length → e[i].name ∈ namesF e k
  | k + 1, h, hk => by
    have ht : e[k]? = some e[k] := List.getElem?_eq_getElem (by omega)
    simp only [namesF, ht]
    by_cases hik : i = k
    · subst hik
      by_cases hm : e[i].name ∈ namesF e i
      · rw [if_neg (fun h => h.2.2 hm)]; exact hm
      · rw [if_pos ⟨hu, h2, hm⟩]; simp
    · have ih := name_mem e hi hu h2 k (by omega) (by omega)
      split
      · exact List.mem_append_left _ ih
      · exact ih
/-- A value hangs on the values of the names alone. -/
theorem ev_same (ask ask' : List UInt8 → Int × Int) (e : List Tm) (hr : rightB e = true) (h : ∀ s ∈ namesL e, ask s = ask' s) : evL ask e = evL ask' e := by
  have key : ∀ m i vals, i + m = e.length → evF ask e m i vals = evF ask' e m i vals := by
    intro m
    induction m with
    | zero => intro i vals _; rfl
    | succ m ih =>
      intro i vals hm
      have hi : i < e.length := by omega
      have ht : e[i]? = some e[i] := List.getElem?_eq_getElem hi
      simp only [evF, ht]
      by_cases hu : usedB e i = true
      · rw [if_pos hu, if_pos hu]
        have hv : valT ask e[i] vals = valT ask' e[i] vals := by
          unfold valT
          by_cases h2 : e[i].kind = 2
          · rw [if_pos h2, if_pos h2, h _ (by unfold namesL; rw [if_pos hr]; exact name_mem e hi hu h2 e.length hi (Nat.le_refl _))]
          · rw [if_neg h2, if_neg h2]
        rw [hv, ih (i + 1) _ (by omega)]
      · rw [if_neg hu, if_neg hu, ih (i + 1) _ (by omega)]
  unfold evL
  rw [if_pos hr, if_pos hr]
  exact key _ _ _ (by omega)
/-- Names with what a list answers. -/
def ownL (ask : List UInt8 → Int × Int) (l : List (List UInt8)) : List Nm := l.map fun s => ⟨s, (ask s).1, (ask s).2⟩
theorem ask_own (ask : List UInt8 → Int × Int) : ∀ (l : List (List UInt8)) (s : List UInt8), s ∈ l → askL (ownL ask l) s = ask s
  | x :: r, s, h => by
    show askL (⟨x, (ask x).1, (ask x).2⟩ :: ownL ask r) s = ask s
    simp only [askL]
    by_cases hx : x = s
    · rw [if_pos hx, hx]
    · rw [if_neg hx]
      exact ask_own ask r s (by rcases List.mem_cons.1 h with h | h; exact absurd h.symm hx; exact h)
theorem own_64 (ask : List UInt8 → Int × Int) (h : ∀ s, -9223372036854775808 ≤ (ask s).1 ∧ (ask s).1 ≤ 9223372036854775807) : ∀ (l : List (List UInt8)) (s : List UInt8), -9223372036854775808 ≤ (askL (ownL ask l) s).1 ∧ (askL (ownL ask l) s).1 ≤ 9223372036854775807
  | [], s => ⟨show (-9223372036854775808 : Int) ≤ 0 by decide, show (0 : Int) ≤ 9223372036854775807 by decide⟩
  | x :: r, s => by
    show -9223372036854775808 ≤ (askL (⟨x, (ask x).1, (ask x).2⟩ :: ownL ask r) s).1 ∧ (askL (⟨x, (ask x).1, (ask x).2⟩ :: ownL ask r) s).1 ≤ 9223372036854775807
    simp only [askL]
    split
    · exact h x
    · exact own_64 ask h r s
end Go.Proofs.Ytebpimjbjjmpaaa
