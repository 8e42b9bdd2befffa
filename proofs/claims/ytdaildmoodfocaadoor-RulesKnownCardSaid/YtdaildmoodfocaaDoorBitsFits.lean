/- What Fits of package bits returns, for every argument of the Go types. -/
import Derived.Test.YtdaildmoodfocaaDoorBase
import Derived.Test.YtdaildmoodfocaaDoorBitsMath
namespace Go.Proofs.YtdaildmoodfocaaDoor
open Go.ChangeShapes Go.WideShapes Go.ChangeAt Go.RowKit

theorem tmod_of_dvd {v m : Int} (h : v % m = 0) : v.tmod m = 0 := Int.tmod_eq_zero_of_dvd (Int.dvd_of_emod_eq_zero h)
theorem dvd_of_tmod {v m : Int} (h : v.tmod m = 0) : v % m = 0 := Int.emod_eq_zero_of_dvd (Int.dvd_of_tmod_eq_zero h)
theorem tdiv_of_dvd {v m : Int} (h : v % m = 0) : v.tdiv m = v / m := by
  obtain ⟨k, rfl⟩ := Int.dvd_of_emod_eq_zero h
  by_cases hm : m = 0
  · subst hm; simp
  · rw [Int.mul_tdiv_cancel_left _ hm, Int.mul_ediv_cancel_left _ hm]

theorem fits_any (v n s : Int) (sg : Bool) (hv : isI v) : Quiet Tryd.prog 69 #[.int .i64 v, .int .i64 n, .int .i64 s, .bool sg] (.bool (fitsB v n s sg)) := by
  intro w
  obtain ⟨hv0, hv1⟩ := hv
  by_cases h : 1 ≤ n ∧ n ≤ 32 ∧ 0 ≤ s ∧ s ≤ 8
  · obtain ⟨h1, h2, h3, h4⟩ := h
    have hp := pow_le_of n.toNat (by omega)
    have hp2 := pow_le_of (n.toNat - 1) (by omega)
    have hp3 := pow_le_of s.toNat (by omega)
    have e2 : (n - 1).toNat = n.toNat - 1 := by omega
    have b1 : ((2:Int) ^ (n - 1).toNat) ≤ 4294967296 := by rw [e2]; omega
    have b0 : 1 ≤ ((2:Int) ^ (n - 1).toNat) := by rw [e2]; omega
    by_cases hd : v % 2 ^ s.toNat = 0
    · have hm := tmod_of_dvd hd
      have hq := tdiv_of_dvd hd
      have hf : fitsB v n s sg = (if sg then decide (-2 ^ (n.toNat - 1) ≤ v / 2 ^ s.toNat) && decide (v / 2 ^ s.toNat < 2 ^ (n.toNat - 1)) else decide (0 ≤ v / 2 ^ s.toNat) && decide (v / 2 ^ s.toNat < 2 ^ n.toNat)) := by
        simp [fitsB, h1, h2, h3, h4, hd]
      have HF := Lib.hid hf
      have hq0 : -9223372036854775808 ≤ v / 2 ^ s.toNat ∧ v / 2 ^ s.toNat ≤ 9223372036854775807 := by
        have : s.toNat = 0 ∨ s.toNat = 1 ∨ s.toNat = 2 ∨ s.toNat = 3 ∨ s.toNat = 4 ∨ s.toNat = 5 ∨ s.toNat = 6 ∨ s.toNat = 7 ∨ s.toNat = 8 := by omega
        rcases this with e | e | e | e | e | e | e | e | e <;> rw [e] <;> omega
      obtain ⟨hq1, hq2⟩ := hq0
      clear hf hd
      cases sg
      · go_enter Tryd.func69, Tryd.ntmps69
        go_wp2
        go_quiet (fail)
        go_wp2
        all_goals
          go_ret
          refine ⟨ret_bool ?_, _, rfl⟩
          rw [HF.out]
          have : (v / 2 ^ s.toNat ≤ 2 ^ n.toNat - 1) = (v / 2 ^ s.toNat < 2 ^ n.toNat) := propext ⟨fun h => by omega, fun h => by omega⟩
          simp [*] <;> omega
      · go_enter Tryd.func69, Tryd.ntmps69
        go_wp2
        go_quiet (fail)
        go_wp2
        go_quiet (fail)
        go_wp2
        all_goals
          go_ret
          refine ⟨ret_bool ?_, _, rfl⟩
          rw [HF.out]
          have : (v / 2 ^ s.toNat ≤ 2 ^ (n.toNat - 1) - 1) = (v / 2 ^ s.toNat < 2 ^ (n.toNat - 1)) := propext ⟨fun h => by omega, fun h => by omega⟩
          simp [*] <;> omega
    · have hf : fitsB v n s sg = false := by simp [fitsB, hd]
      have hm : ¬ v.tmod (2 ^ s.toNat) = 0 := fun h => hd (dvd_of_tmod h)
      go_enter Tryd.func69, Tryd.ntmps69
      go_wp2
      go_ret
      first | exact ⟨rfl, 0, rfl⟩ | exact ⟨ret_bool hf.symm, 0, rfl⟩
  · have hf : fitsB v n s sg = false := by
      have : ¬ (1 ≤ n ∧ n ≤ 32 ∧ 0 ≤ s ∧ s ≤ 8) := h
      simp only [fitsB, Bool.and_eq_false_iff, decide_eq_false_iff_not]
      omega
    by_cases h1 : 1 ≤ n
    · by_cases h2 : n ≤ 32
      · by_cases h3 : 0 ≤ s
        all_goals
          go_enter Tryd.func69, Tryd.ntmps69
          go_wp2
          go_ret
          first | exact ⟨rfl, 0, rfl⟩ | exact ⟨ret_bool hf.symm, 0, rfl⟩
      · go_enter Tryd.func69, Tryd.ntmps69
        go_wp2
        go_ret
        first | exact ⟨rfl, 0, rfl⟩ | exact ⟨ret_bool hf.symm, 0, rfl⟩
    · go_enter Tryd.func69, Tryd.ntmps69
      go_wp2
      go_ret
      first | exact ⟨rfl, 0, rfl⟩ | exact ⟨ret_bool hf.symm, 0, rfl⟩
end Go.Proofs.YtdaildmoodfocaaDoor
