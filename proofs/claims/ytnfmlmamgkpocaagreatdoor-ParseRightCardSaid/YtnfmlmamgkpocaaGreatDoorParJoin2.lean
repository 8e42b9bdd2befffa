/- The tokens of a text that has been cut are read again where they are written out with blanks; plain data; no condition. -/
import Derived.Test.YtnfmlmamgkpocaaGreatDoorParJoin
import Derived.Test.YtnfmlmamgkpocaaGreatDoorParAl
import Derived.Test.YtnfmlmamgkpocaaGreatDoorParRt2
import Derived.Test.YtnfmlmamgkpocaaGreatDoorGParZ
import Derived.Test.YtnfmlmamgkpocaaGreatDoorGOf
namespace Go.Proofs.YtnfmlmamgkpocaaGreatDoor

theorem cutE_cut1 (s : List UInt8) : ∀ t ∈ cutE s, Cut1 t := fun t ht => by
  have h := List.mem_filter.1 (show t ∈ List.filter _ _ from ht)
  rcases run_cut1 s.length s (Nat.le_refl _) 1 1 t h.1 with h4 | h4
  · exact absurd h4 (by simpa using h.2)
  · exact h4
/-- The first tokens, written out. -/
theorem join_cut (s : List UInt8) (n : Nat) : (cutE (joinB ((cutE s).take n))).map Tk.q = ((cutE s).map Tk.q).take n ∧ ∀ u, (cutE (joinB ((cutE s).take n))).head? = some u → u.line = 1 ∧ u.col = 1 := by
  obtain ⟨h1, h2⟩ := join_run ((cutE s).take n) 1 1 (fun t ht => cutE_cut1 s t (List.mem_of_mem_take ht))
  exact ⟨by rw [← List.map_take]; exact h1, h2⟩
theorem join_again {s : List UInt8} {x : Ln} {n : Nat} (h : instP (cutE s) = (x, n, 0)) : instP (cutE (joinB ((cutE s).take n))) = ({ x with line := 1, col := 1 }, n, 0) ∧ (cutE (joinB ((cutE s).take n))).length = n := by
  obtain ⟨h1, h2⟩ := join_cut s n
  have hn := (inst_range' h).1
  have hl : (cutE (joinB ((cutE s).take n))).length = n := by
    have := congrArg List.length h1
    rw [List.length_map, List.length_take, List.length_map] at this
    omega
  refine ⟨?_, hl⟩
  rw [inst_alone h h1]
  have hpos : 0 < (cutE (joinB ((cutE s).take n))).length := by rw [hl]; exact inst_some h
  cases hc : cutE (joinB ((cutE s).take n)) with
  | nil => rw [hc] at hpos; simp at hpos
  | cons u r =>
    obtain ⟨h3, h4⟩ := h2 u (by rw [hc]; rfl)
    rw [show ((u :: r)[0]?.map Tk.line).getD 0 = u.line from rfl, show ((u :: r)[0]?.map Tk.col).getD 0 = u.col from rfl, h3, h4]
theorem join_next {T : List Tk} {k : Nat} (h : k < T.length) (t : Tk) (ht : T[k] = t) : joinB (T.take (k + 1)) = joinB (T.take k) ++ t.text ++ [32] := by
  subst ht
  unfold joinB
  rw [List.take_succ_eq_append_getElem h, List.flatMap_append, List.append_assoc]
  simp
theorem join_few (T : List Tk) (m : Nat) (h : ∀ t ∈ T, t.text.length ≤ m) : (joinB T).length ≤ T.length * (m + 1) := by
  unfold joinB
  induction T with
  | nil => simp
  | cons t r ih =>
    have h1 := h t (List.mem_cons_self ..)
    have h2 := ih fun u hu => h u (List.mem_cons_of_mem _ hu)
    simp only [List.flatMap_cons, List.length_append, List.length_cons, List.length_nil, Nat.add_mul]
    omega
/-- What At tells of an op that was read: whether it has an IMM or a TARGET, and a count. -/
def atsB (op : Int) : Bool := ((atB (opN op) 9 || atB (opN op) 10) == hasV op) && (atB (opN op) 11 == decide (op = 30))
theorem ats_ok : ∀ k : Fin 32, k.val = 0 ∨ atsB k.val = true := by decide +kernel
theorem ats_op {op : Int} (h1 : 1 ≤ op) (h2 : op ≤ 31) : (atB (opN op) 9 || atB (opN op) 10) = hasV op ∧ atB (opN op) 11 = decide (op = 30) := by
  obtain ⟨k, rfl⟩ : ∃ k : Nat, op = k := ⟨op.toNat, by omega⟩
  rcases ats_ok ⟨k, by omega⟩ with h | h
  · simp only [] at h
    omega
  · unfold atsB at h
    rw [Bool.and_eq_true, beq_iff_eq, beq_iff_eq] at h
    exact h
theorem fine_op {L : List Tk} {y : Ln} (h : Fine L y) : 1 ≤ y.op ∧ y.op ≤ 31 := by
  have h1 := h.ref
  unfold refB at h1
  rw [Bool.and_eq_true, decide_eq_true_eq] at h1
  refine ⟨?_, ?_⟩
  · refine Int.not_lt.1 fun hn => h1.1 (kind_none _ (.inl hn))
  · refine Int.not_lt.1 fun hn => h1.1 (kind_none _ (.inr hn))
theorem fine_right {L : List Tk} {y : Ln} (h : Fine L y) : rightB y.ins = true := by rw [right_ref _ h.small]; exact h.ref
/-- Its value and its count, beside what At tells. -/
theorem fine_value {L : List Tk} {y : Ln} (h : Fine L y) : rightXB y.value = hasV y.op ∧ decide (0 < y.value.length) = hasV y.op ∧ y.value.length ≤ L.length := by
  have hv := h.val
  cases hh : hasV y.op with
  | true =>
    rw [hh, if_pos rfl] at hv
    have hv1 := hv.1
    refine ⟨hv1, decide_eq_true ?_, hv.2⟩
    unfold rightXB at hv1
    rw [Bool.and_eq_true, decide_eq_true_eq] at hv1
    exact List.length_pos_iff.2 hv1.2
  | false =>
    rw [hh, if_neg (by decide)] at hv
    rw [hv]
    exact ⟨rfl, rfl, Nat.zero_le _⟩
theorem fine_count {L : List Tk} {y : Ln} (h : Fine L y) : rightXB y.count = decide (y.op = 30) ∧ decide (0 < y.count.length) = decide (y.op = 30) ∧ y.count.length ≤ L.length := by
  have hv := h.cnt
  by_cases hh : y.op = 30
  · rw [if_pos hh] at hv
    rw [decide_eq_true hh]
    have hv1 := hv.1
    refine ⟨hv1, decide_eq_true ?_, hv.2⟩
    unfold rightXB at hv1
    rw [Bool.and_eq_true, decide_eq_true_eq] at hv1
    exact List.length_pos_iff.2 hv1.2
  · rw [if_neg hh] at hv
    rw [hv, decide_eq_false hh]
    exact ⟨rfl, rfl, Nat.zero_le _⟩
end Go.Proofs.YtnfmlmamgkpocaaGreatDoor
