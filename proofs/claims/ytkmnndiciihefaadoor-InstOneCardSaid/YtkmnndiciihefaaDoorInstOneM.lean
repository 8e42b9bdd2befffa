/- What InstOne asks, as plain mathematics: what a right instruction writes, reads, aims at, and how great its value is; the conditions are that each part lies in its Go type. -/
import Derived.Test.YtkmnndiciihefaaDoorInstFns
import Derived.Test.YtkmnndiciihefaaDoorInstReads
import Derived.Test.YtkmnndiciihefaaDoorInstTurn
namespace Go.Proofs.YtkmnndiciihefaaDoor

theorem apart_tab : ∀ op, op < 32 → ¬ (hasB (fieldsZ (op : Nat)) 4 = true ∧ (((op : Nat) : Int) = 29 ∨ hasB (fieldsZ (op : Nat)) 3 = true)) := by decide +kernel
/-- No instruction writes both a register and a predicate. -/
theorem one_writes (x : In) : ((writesP x).2 && (wpredP x).2) = false := by
  unfold writesP wpredP
  cases hr : rightB x with
  | false => rfl
  | true =>
    obtain ⟨h0, h1⟩ := right_op hr
    have := apart_tab x.op.toNat (by omega)
    rw [show ((x.op.toNat : Nat) : Int) = x.op by omega] at this
    cases h4 : hasB (fieldsZ x.op) 4 with
    | false => simp
    | true =>
      have h29 : ¬ x.op = 29 := fun h => this ⟨h4, .inl h⟩
      have h3 : hasB (fieldsZ x.op) 3 = false := by
        cases h : hasB (fieldsZ x.op) 3 with
        | false => rfl
        | true => exact absurd ⟨h4, .inr h⟩ this
      simp [h29, h3]
/-- What is read: none, one, or two that rise. -/
theorem one_reads (x : In) : readsL x = [] ∨ (∃ a, readsL x = [a]) ∨ ∃ a b, readsL x = [a, b] ∧ a < b := by
  unfold readsL
  cases rightB x with
  | false => exact .inl rfl
  | true =>
    rw [if_pos rfl]
    cases hasB (fieldsZ x.op) 5 <;> cases (hasB (fieldsZ x.op) 6 && !x.new)
    · exact .inl rfl
    · exact .inr (.inl ⟨_, rfl⟩)
    · exact .inr (.inl ⟨_, rfl⟩)
    · by_cases h : x.s = x.t
      · exact .inr (.inl ⟨_, if_pos h⟩)
      · exact .inr (.inr ⟨_, _, if_neg h, by omega⟩)
theorem aim_tab : ∀ op, op < 32 → hasB (fieldsZ (op : Nat)) 10 = true → kindZ (op : Nat) = 12 ∨ kindZ (op : Nat) = 14 ∨ kindZ (op : Nat) = 15 ∨ kindZ (op : Nat) = 16 := by decide +kernel
/-- A right instruction's target is a multiple of 4, an address. -/
theorem aim_of (x : In) (hx : x.small) (h : rightB x = true) (ht : hasB (fieldsZ x.op) 10 = true) : 0 ≤ x.imm ∧ x.imm ≤ 4294967292 ∧ x.imm % 4 = 0 := by
  obtain ⟨h0, h1⟩ := right_op h
  have hr := ref_of hx h
  have hk := aim_tab x.op.toNat (by omega)
  rw [show ((x.op.toNat : Nat) : Int) = x.op by omega] at hk
  rcases hk ht with e | e | e | e
  all_goals
    rw [e] at hr
    simp [refK, okK, aimB] at hr
    omega
theorem one_target (x : In) (hx : x.small) : (targetP x).1 % 4 = 0 ∧ 0 ≤ (targetP x).1 ∧ (targetP x).1 < 4294967296 ∧ ((targetP x).2 = true → (targetP x).1 = x.imm) := by
  unfold targetP
  cases hr : rightB x with
  | false => simp
  | true =>
    cases h10 : hasB (fieldsZ x.op) 10 with
    | false => simp
    | true =>
      obtain ⟨h0, h1, h2⟩ := aim_of x hx hr h10
      simp
      omega
/-- The table's fields of a value, their kinds, and how great a value they hold. -/
def immB (op : Int) : Bool :=
  (decide (atF (opN op) 9 = fI14) && (atB (opN op) 9 && (decide (kindZ op = 2) || (decide (kindZ op = 3) || decide (kindZ op = 6))))) ||
  ((decide (atF (opN op) 9 = fI122) && (atB (opN op) 9 && ((decide (kindZ op = 10) || decide (kindZ op = 11)) && decide (scaleZ op = 4)))) ||
  ((decide (atF (opN op) 9 = fI121) && (atB (opN op) 9 && ((decide (kindZ op = 10) || decide (kindZ op = 11)) && decide (scaleZ op = 2)))) ||
  ((decide (atF (opN op) 9 = fI12) && (atB (opN op) 9 && ((decide (kindZ op = 10) || decide (kindZ op = 11)) && decide (scaleZ op = 1)))) ||
  ((decide (atF (opN op) 9 = fU5) && (atB (opN op) 9 && decide (kindZ op = 8))) || (decide (atF (opN op) 9 = fZero) && !atB (opN op) 9)))))
theorem imm_tab : ((List.range 31).all fun n => immB ((n + 1 : Nat) : Int)) = true := by decide +kernel
theorem one_imm (x : In) (hx : x.small) (h : rightB x = true) :
    (atF (opN x.op) 9 = fI14 ∧ atB (opN x.op) 9 = true ∧ (x.ext = false → -8192 ≤ x.imm ∧ x.imm < 8192)) ∨
    (atF (opN x.op) 9 = fI122 ∧ atB (opN x.op) 9 = true ∧ (x.ext = false → -8192 ≤ x.imm ∧ x.imm < 8192 ∧ x.imm % 4 = 0)) ∨
    (atF (opN x.op) 9 = fI121 ∧ atB (opN x.op) 9 = true ∧ (x.ext = false → -4096 ≤ x.imm ∧ x.imm < 4096 ∧ x.imm % 2 = 0)) ∨
    (atF (opN x.op) 9 = fI12 ∧ atB (opN x.op) 9 = true ∧ (x.ext = false → -2048 ≤ x.imm ∧ x.imm < 2048)) ∨
    (atF (opN x.op) 9 = fU5 ∧ atB (opN x.op) 9 = true ∧ 0 ≤ x.imm ∧ x.imm < 32) ∨
    (atF (opN x.op) 9 = fZero ∧ atB (opN x.op) 9 = false) := by
  obtain ⟨h0, h1⟩ := right_op h
  have hr := ref_of hx h
  have hk := List.all_eq_true.1 imm_tab (x.op.toNat - 1) (List.mem_range.2 (by omega))
  rw [show ((x.op.toNat - 1 + 1 : Nat) : Int) = x.op by omega] at hk
  simp only [immB, Bool.or_eq_true, Bool.and_eq_true, decide_eq_true_eq, Bool.not_eq_true'] at hk
  rcases hk with ⟨a, b, e | e | e⟩ | ⟨a, b, e | e, sc⟩ | ⟨a, b, e | e, sc⟩ | ⟨a, b, e | e, sc⟩ | ⟨a, b, e⟩ | ⟨a, b⟩
  · refine .inl ⟨a, b, fun he => ?_⟩
    rw [e] at hr
    simp [refK, okK, withinB, he] at hr
    omega
  · refine .inl ⟨a, b, fun he => ?_⟩
    rw [e] at hr
    simp [refK, okK, withinB, he] at hr
    omega
  · refine .inl ⟨a, b, fun he => ?_⟩
    rw [e] at hr
    simp [refK, okK, withinB, he] at hr
    omega
  · refine .inr (.inl ⟨a, b, fun he => ?_⟩)
    rw [e] at hr
    simp [refK, okK, withinB, he, sc] at hr
    omega
  · refine .inr (.inl ⟨a, b, fun he => ?_⟩)
    rw [e] at hr
    simp [refK, okK, withinB, he, sc] at hr
    omega
  · refine .inr (.inr (.inl ⟨a, b, fun he => ?_⟩))
    rw [e] at hr
    simp [refK, okK, withinB, he, sc] at hr
    omega
  · refine .inr (.inr (.inl ⟨a, b, fun he => ?_⟩))
    rw [e] at hr
    simp [refK, okK, withinB, he, sc] at hr
    omega
  · refine .inr (.inr (.inr (.inl ⟨a, b, fun he => ?_⟩)))
    rw [e] at hr
    simp [refK, okK, withinB, he, sc] at hr
    omega
  · refine .inr (.inr (.inr (.inl ⟨a, b, fun he => ?_⟩)))
    rw [e] at hr
    simp [refK, okK, withinB, he, sc] at hr
    omega
  · refine .inr (.inr (.inr (.inr (.inl ⟨a, b, ?_⟩))))
    rw [e] at hr
    simp [refK, okK] at hr
    omega
  · exact .inr (.inr (.inr (.inr (.inr ⟨a, b⟩))))
end Go.Proofs.YtkmnndiciihefaaDoor
