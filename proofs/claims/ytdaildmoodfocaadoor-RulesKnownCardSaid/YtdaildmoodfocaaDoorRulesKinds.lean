/- Of a right instruction the numbers that it writes lie in their ranges. -/
import Derived.Test.YtdaildmoodfocaaDoorInstKinds
import Derived.Test.YtdaildmoodfocaaDoorRulesMath
namespace Go.Proofs.YtdaildmoodfocaaDoor

theorem right_d {x : In} (hx : x.small) (h : rightB x = true) : x.d < 32 ∧ x.s < 32 ∧ x.t < 32 := by
  have h1 := ref_of hx h
  unfold refK regsB at h1
  simp only [Bool.and_eq_true, decide_eq_true_eq] at h1
  exact ⟨h1.1.1.1.1, h1.1.1.1.2, h1.1.1.2⟩
theorem writes_range {x : In} (hx : x.small) : 0 ≤ (writesP x).1 ∧ (writesP x).1 < 32 := by
  have hd0 := hx.d0
  unfold writesP
  by_cases h : rightB x = true
  · have hd := (right_d hx h).1
    rw [if_pos h]
    split
    · exact ⟨by decide, by decide⟩
    · split
      · exact ⟨hd0, hd⟩
      · exact ⟨by decide, by decide⟩
  · rw [if_neg h]; exact ⟨by decide, by decide⟩
theorem wpred_range {x : In} (hx : x.small) : 0 ≤ (wpredP x).1 ∧ (wpredP x).1 < 4 := by
  have hd0 := hx.d0
  rw [wpred_kind]
  by_cases h : rightB x = true ∧ (kindZ x.op = 5 ∨ kindZ x.op = 6)
  · rw [if_pos h]
    have h1 := ref_of hx h.1
    rcases h.2 with h2 | h2 <;> rw [h2] at h1
    · have h3 : okK 5 x = true := by
        unfold refK at h1
        simp only [Bool.and_eq_true] at h1
        exact h1.1.2
      have h4 : decide (x.d < 4) = true := h3
      exact ⟨hd0, by simpa using h4⟩
    · have h3 : okK 6 x = true := by
        unfold refK at h1
        simp only [Bool.and_eq_true] at h1
        exact h1.1.2
      have h4 : (decide (x.d < 4) && withinB x 8192 1) = true := h3
      simp only [Bool.and_eq_true, decide_eq_true_eq] at h4
      exact ⟨hd0, h4.1⟩
  · rw [if_neg h]; exact ⟨by decide, by decide⟩
end Go.Proofs.YtdaildmoodfocaaDoor
