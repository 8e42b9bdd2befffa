/- What an instruction writes, asks and aims at, by kinds, as the document's answer has it; no condition but that each part lies in its Go type. -/
import Derived.Test.YtdaildmoodfocaaDoorInstFns
import Derived.Test.YtdaildmoodfocaaDoorInstTurn
namespace Go.Proofs.YtdaildmoodfocaaDoor
open Go.ChangeShapes Go.WideShapes Go.ChangeAt Go.RowKit Go.Sort BigFrame

def kindB (op : Int) : Bool :=
  (decide (kindZ op = 14) == decide (op = 29)) && (hasB (fieldsZ op) 3 == ((decide (1 ≤ kindZ op) && decide (kindZ op ≤ 4)) || (decide (7 ≤ kindZ op) && decide (kindZ op ≤ 10)))) && (hasB (fieldsZ op) 4 == (decide (kindZ op = 5) || decide (kindZ op = 6))) &&
    (hasB (fieldsZ op) 10 == (decide (kindZ op = 12) || decide (kindZ op = 14) || decide (kindZ op = 15) || decide (kindZ op = 16))) &&
    (hasB (fieldsZ op) 2 == (decide (kindZ op = 1) || decide (kindZ op = 3) || decide (kindZ op = 4) || decide (kindZ op = 7) || decide (kindZ op = 12) || decide (kindZ op = 13))) &&
    (hasB (fieldsZ op) 1 == (decide (kindZ op = 1) || decide (kindZ op = 3) || decide (kindZ op = 4) || decide (kindZ op = 12) || decide (kindZ op = 13))) &&
    (atB (opN op) 1 == (decide (kindZ op = 1) || decide (kindZ op = 3) || decide (kindZ op = 4) || decide (kindZ op = 12) || decide (kindZ op = 13))) &&
    (hasB (fieldsZ op) 5 == (decide (kindZ op = 1) || decide (kindZ op = 2) || decide (kindZ op = 4) || decide (kindZ op = 5) || decide (kindZ op = 6) || decide (kindZ op = 7) || decide (kindZ op = 8) || decide (kindZ op = 9) || decide (kindZ op = 10) || decide (kindZ op = 11) || decide (kindZ op = 13) || decide (kindZ op = 16))) &&
    (hasB (fieldsZ op) 6 == (decide (kindZ op = 1) || decide (kindZ op = 5) || decide (kindZ op = 7) || decide (kindZ op = 9) || decide (kindZ op = 11)))
theorem kind_tab : ((List.range 31).all fun n => kindB ((n + 1 : Nat) : Int)) = true := by decide +kernel
structure KindHas (op : Int) : Prop where
  call : decide (kindZ op = 14) = decide (op = 29)
  d : hasB (fieldsZ op) 3 = ((decide (1 ≤ kindZ op) && decide (kindZ op ≤ 4)) || (decide (7 ≤ kindZ op) && decide (kindZ op ≤ 10)))
  dp : hasB (fieldsZ op) 4 = (decide (kindZ op = 5) || decide (kindZ op = 6))
  rel : hasB (fieldsZ op) 10 = (decide (kindZ op = 12) || decide (kindZ op = 14) || decide (kindZ op = 15) || decide (kindZ op = 16))
  pred : hasB (fieldsZ op) 2 = (decide (kindZ op = 1) || decide (kindZ op = 3) || decide (kindZ op = 4) || decide (kindZ op = 7) || decide (kindZ op = 12) || decide (kindZ op = 13))
  mode : hasB (fieldsZ op) 1 = (decide (kindZ op = 1) || decide (kindZ op = 3) || decide (kindZ op = 4) || decide (kindZ op = 12) || decide (kindZ op = 13))
  cond : atB (opN op) 1 = (decide (kindZ op = 1) || decide (kindZ op = 3) || decide (kindZ op = 4) || decide (kindZ op = 12) || decide (kindZ op = 13))
  s : hasB (fieldsZ op) 5 = (decide (kindZ op = 1) || decide (kindZ op = 2) || decide (kindZ op = 4) || decide (kindZ op = 5) || decide (kindZ op = 6) || decide (kindZ op = 7) || decide (kindZ op = 8) || decide (kindZ op = 9) || decide (kindZ op = 10) || decide (kindZ op = 11) || decide (kindZ op = 13) || decide (kindZ op = 16))
  t : hasB (fieldsZ op) 6 = (decide (kindZ op = 1) || decide (kindZ op = 5) || decide (kindZ op = 7) || decide (kindZ op = 9) || decide (kindZ op = 11))
theorem kind_has {op : Int} (h0 : 1 ≤ op) (h1 : op ≤ 31) : KindHas op := by
  have h := List.all_eq_true.1 kind_tab (op.toNat - 1) (List.mem_range.2 (by omega))
  rw [show ((op.toNat - 1 + 1 : Nat) : Int) = op by omega] at h
  unfold kindB at h
  simp only [Bool.and_eq_true, beq_iff_eq] at h
  obtain ⟨⟨⟨⟨⟨⟨⟨⟨h1, h2⟩, h3⟩, h4⟩, h5⟩, h6⟩, h7⟩, h8⟩, h9⟩ := h
  exact ⟨h1, h2, h3, h4, h5, h6, h7, h8, h9⟩
/-- What is written, by kinds. -/
theorem writes_kind (x : In) : writesP x = if rightB x then (if kindZ x.op = 14 then (31, true) else if (1 ≤ kindZ x.op ∧ kindZ x.op ≤ 4) ∨ (7 ≤ kindZ x.op ∧ kindZ x.op ≤ 10) then (x.d, true) else (0, false)) else (0, false) := by
  unfold writesP
  cases hr : rightB x with
  | false => rfl
  | true =>
    obtain ⟨h0, h1⟩ := right_op hr
    have hk := kind_has h0 h1
    have h14 : kindZ x.op = 14 ↔ x.op = 29 := decide_eq_decide.1 hk.call
    rw [hk.d, if_pos rfl, if_pos rfl]
    by_cases h29 : x.op = 29
    · rw [if_pos h29, if_pos (h14.2 h29)]
    · rw [if_neg h29, if_neg (fun h => h29 (h14.1 h))]
      simp
theorem wpred_kind (x : In) : wpredP x = if rightB x = true ∧ (kindZ x.op = 5 ∨ kindZ x.op = 6) then (x.d, true) else (0, false) := by
  unfold wpredP
  cases hr : rightB x with
  | false => simp
  | true =>
    obtain ⟨h0, h1⟩ := right_op hr
    rw [(kind_has h0 h1).dp]
    simp
theorem target_kind (x : In) : targetP x = if rightB x = true ∧ (kindZ x.op = 12 ∨ kindZ x.op = 14 ∨ kindZ x.op = 15 ∨ kindZ x.op = 16) then (x.imm % 4294967296, true) else (0, false) := by
  unfold targetP
  cases hr : rightB x with
  | false => simp
  | true =>
    obtain ⟨h0, h1⟩ := right_op hr
    rw [(kind_has h0 h1).rel]
    simp [or_assoc]
theorem rpred_kind (x : In) (hx : x.small) : rpredP x = if rightB x = true ∧ (kindZ x.op = 7 ∨ x.mode ≠ 0) then (x.pred, decide (2 < x.mode), true) else (0, false, false) := by
  unfold rpredP
  cases hr : rightB x with
  | false => simp
  | true =>
    obtain ⟨h0, h1⟩ := right_op hr
    have hf := ref_of hx hr
    have hk := kind_has h0 h1
    obtain ⟨k0, k1⟩ := kind_range h0 h1
    have hm0 := hx.mode0
    rw [hk.pred, hk.mode]
    obtain ⟨xo, xd, xs, xt, xn, xp, xm, xw, xe, xc, xi⟩ := x
    simp only [] at *
    generalize kindZ xo = k at *
    have hc : k = 1 ∨ k = 2 ∨ k = 3 ∨ k = 4 ∨ k = 5 ∨ k = 6 ∨ k = 7 ∨ k = 8 ∨ k = 9 ∨ k = 10 ∨ k = 11 ∨ k = 12 ∨ k = 13 ∨ k = 14 ∨ k = 15 ∨ k = 16 ∨ k = 17 := by omega
    by_cases hz : xm = 0
    · subst hz
      rcases hc with rfl | rfl | rfl | rfl | rfl | rfl | rfl | rfl | rfl | rfl | rfl | rfl | rfl | rfl | rfl | rfl | rfl <;> simp
    · have hb : (xm == 0) = false := beq_eq_false_iff_ne.2 hz
      have h34 : xm ≤ 4 → (xm == 3 || xm == 4) = decide (2 < xm) := by
        intro h
        have : xm = 1 ∨ xm = 2 ∨ xm = 3 ∨ xm = 4 := by omega
        rcases this with rfl | rfl | rfl | rfl <;> rfl
      rcases hc with rfl | rfl | rfl | rfl | rfl | rfl | rfl | rfl | rfl | rfl | rfl | rfl | rfl | rfl | rfl | rfl | rfl
      all_goals
        simp [refK, okK, condB, isK, inZero] at hf
        first
          | (exfalso; omega)
          | (rw [h34 (by omega)]; simp [hz])
end Go.Proofs.YtdaildmoodfocaaDoor
