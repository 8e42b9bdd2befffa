/- What isField, lowMask, Get, Put, Sext and Fits of package bits return, for every argument of the Go types. -/
import Derived.Test.YtckgnmnfhkjpjaaDoorBase
import Derived.Test.YtckgnmnfhkjpjaaDoorBitsMath
namespace Go.Proofs.YtckgnmnfhkjpjaaDoor
open Go.ChangeShapes Go.WideShapes Go.ChangeAt Go.RowKit

/-! ### bits.isField, lowMask, Get, Put, Sext, Fits -/
theorem isField_any (at_ n : Int) (h : isI n) : Still Tryd.prog 24 #[.int .i64 at_, .int .i64 n] (.bool (fieldB at_ n)) := by
  intro w
  obtain ⟨h3, h4⟩ := h
  by_cases c1 : 0 ≤ at_
  · by_cases c2 : 0 ≤ n
    · go_enter Tryd.func24, Tryd.ntmps24
      go_wp2
      go_ret
      exact ⟨by simp [fieldB, c1, c2], rfl⟩
    · have c3 : decide (0 ≤ n) = false := by simpa using c2
      go_enter Tryd.func24, Tryd.ntmps24
      go_wp2
      go_ret
      exact ⟨by simp [fieldB, c3], rfl⟩
  · have c3 : decide (0 ≤ at_) = false := by simpa using c1
    go_enter Tryd.func24, Tryd.ntmps24
    go_wp2
    go_ret
    exact ⟨by simp [fieldB, c3], rfl⟩

theorem lowMask_any (n : Int) (h1 : 0 ≤ n) (h2 : n ≤ 32) : Still Tryd.prog 25 #[.int .i64 n] (.int .u32 (2 ^ n.toNat - 1)) := by
  intro w
  go_enter Tryd.func25, Tryd.ntmps25
  go_wp2
  go_ret
  exact ⟨ret_int (by have := pow_le_of n.toNat (by omega); omega), rfl⟩

theorem get_any (v at_ n : Int) (hv : isU32 v) (hn : isI n) : Quiet Tryd.prog 9 #[.int .u32 v, .int .i64 at_, .int .i64 n] (.int .u32 (getZ v at_ n)) := by
  intro w
  by_cases h : fieldB at_ n = true
  · obtain ⟨a1, a2, a3⟩ := fieldB_iff.1 h
    have hz : getZ v at_ n = v / 2 ^ at_.toNat % 2 ^ n.toNat := if_pos h
    obtain ⟨hv0, hv1⟩ := id hv
    go_enter Tryd.func9, Tryd.ntmps9
    go_wp2_with (go_at_call 24; refine (isField_any _ _ hn _).mono ?_; rintro e w' ⟨rfl, rfl⟩)
    go_quiet ((go_at_call 25; exact (lowMask_any _ (by omega) (by omega) _).mono fun e w' ⟨he, hw⟩ => ⟨he, _, hw.symm⟩))
    go_wp2
    go_ret
    refine ⟨ret_int ?_, _, rfl⟩
    rw [hz]
    exact and_mask _ _ (by omega) ⟨Int.ediv_nonneg hv0 (Int.le_of_lt (Int.pow_pos (by decide))), by
      have := Int.ediv_le_self (2 ^ at_.toNat) hv0
      omega⟩
  · have h' : fieldB at_ n = false := by simpa using h
    have hz : getZ v at_ n = 0 := if_neg h
    go_enter Tryd.func9, Tryd.ntmps9
    go_wp2_with (go_at_call 24; refine (isField_any _ _ hn _).mono ?_; rintro e w' ⟨rfl, rfl⟩)
    go_ret
    exact ⟨ret_int hz.symm, 0, rfl⟩

theorem put_any (v at_ n x : Int) (hv : isU32 v) (hx : isU32 x) (hn : isI n) : Still Tryd.prog 11 #[.int .u32 v, .int .i64 at_, .int .i64 n, .int .u32 x] (.int .u32 (putZ v at_ n x)) := by
  intro w
  by_cases h : fieldB at_ n = true
  · obtain ⟨a1, a2, a3⟩ := fieldB_iff.1 h
    have hz := put_code v at_ n x h hv hx
    obtain ⟨hv0, hv1⟩ := id hv
    obtain ⟨hx0, hx1⟩ := id hx
    go_enter Tryd.func11, Tryd.ntmps11
    go_wp2_with (first | (go_at_call 24; refine (isField_any _ _ hn _).mono ?_; rintro e w' ⟨rfl, rfl⟩) | (go_at_call 25; refine (lowMask_any _ (by omega) (by omega) _).mono ?_; rintro e w' ⟨rfl, rfl⟩))
    go_ret
    exact ⟨rfl, rfl⟩
  · have h' : fieldB at_ n = false := by simpa using h
    have hz : putZ v at_ n x = v := if_neg h
    go_enter Tryd.func11, Tryd.ntmps11
    go_wp2_with (go_at_call 24; refine (isField_any _ _ hn _).mono ?_; rintro e w' ⟨rfl, rfl⟩)
    go_ret
    exact ⟨ret_int hz.symm, rfl⟩

theorem sext_any (v n : Int) (hv : isU32 v) (hn : isI n) : Quiet Tryd.prog 13 #[.int .u32 v, .int .i64 n] (.int .i64 (sextZ v n)) := by
  intro w
  by_cases h : 1 ≤ n ∧ n ≤ 32
  · obtain ⟨h1, h2⟩ := h
    have hf : fieldB 0 n = true := fieldB_iff.2 ⟨by omega, by omega, by omega⟩
    have hg : getZ v 0 n = v % 2 ^ n.toNat := by simp [getZ, hf]
    have hs : sextZ v n = if 2 ^ (n.toNat - 1) ≤ v % 2 ^ n.toNat then v % 2 ^ n.toNat - 2 ^ n.toNat else v % 2 ^ n.toNat := if_pos ⟨h1, h2⟩
    have hp := pow_le_of n.toNat (by omega)
    have hp2 := pow_le_of (n.toNat - 1) (by omega)
    have l1 : 0 ≤ v % 2 ^ n.toNat := Int.emod_nonneg _ (by omega)
    have l2 : v % 2 ^ n.toNat < 2 ^ n.toNat := Int.emod_lt_of_pos _ (by omega)
    have e2 : (n - 1).toNat = n.toNat - 1 := by omega
    have b1 : ((2:Int) ^ (n - 1).toNat) ≤ 4294967296 := by rw [e2]; omega
    have b0 : 1 ≤ ((2:Int) ^ (n - 1).toNat) := by rw [e2]; omega
    go_enter Tryd.func13, Tryd.ntmps13
    go_wp2_with (go_at_call 9; refine (get_any _ _ _ hv hn _).mono ?_; rintro e w' ⟨rfl, k, rfl⟩)
    all_goals
      go_ret
      refine ⟨ret_int ?_, _, rfl⟩
      rw [hs]
      rw [e2] at *
      first | rw [if_pos (by omega)] | rw [if_neg (by omega)]
  · have hs : sextZ v n = 0 := if_neg h
    by_cases h1 : 1 ≤ n
    all_goals
      go_enter Tryd.func13, Tryd.ntmps13
      go_wp2
      go_ret
      first | exact ⟨rfl, 0, rfl⟩ | exact ⟨ret_int hs.symm, 0, rfl⟩

theorem tmod_of_dvd {v m : Int} (h : v % m = 0) : v.tmod m = 0 := Int.tmod_eq_zero_of_dvd (Int.dvd_of_emod_eq_zero h)
theorem dvd_of_tmod {v m : Int} (h : v.tmod m = 0) : v % m = 0 := Int.emod_eq_zero_of_dvd (Int.dvd_of_tmod_eq_zero h)
theorem tdiv_of_dvd {v m : Int} (h : v % m = 0) : v.tdiv m = v / m := by
  obtain ⟨k, rfl⟩ := Int.dvd_of_emod_eq_zero h
  by_cases hm : m = 0
  · subst hm; simp
  · rw [Int.mul_tdiv_cancel_left _ hm, Int.mul_ediv_cancel_left _ hm]

theorem fits_any (v n s : Int) (sg : Bool) (hv : isI v) : Quiet Tryd.prog 15 #[.int .i64 v, .int .i64 n, .int .i64 s, .bool sg] (.bool (fitsB v n s sg)) := by
  intro w
  obtain ⟨hv0, hv1⟩ := hv
  by_cases h : 1 ≤ n ∧ n ≤ 32 ∧ 0 ≤ s ∧ s ≤ 8
  · obtain ⟨h1, h2, h3, h4⟩ := h
    have hp := pow_le_of n.toNat (by omega)
    have hp2 := pow_le_of (n.toNat - 1) (by omega)
    have hp3 := pow_le_of s.toNat (by omega)
    have e2 : (n - 1).toNat = n.toNat - 1 := by omega
    have b1 : ((2:Int) ^ (n - 1).toNat) ≤ 4294967296 := by rw [e2]; omega
    have b0 : 1 ≤ ((2:Int) ^ (n - 1).toNat) := by rw [e2]; omega
    by_cases hd : v % 2 ^ s.toNat = 0
    · have hm := tmod_of_dvd hd
      have hq := tdiv_of_dvd hd
      have hf : fitsB v n s sg = (if sg then decide (-2 ^ (n.toNat - 1) ≤ v / 2 ^ s.toNat) && decide (v / 2 ^ s.toNat < 2 ^ (n.toNat - 1)) else decide (0 ≤ v / 2 ^ s.toNat) && decide (v / 2 ^ s.toNat < 2 ^ n.toNat)) := by
        simp [fitsB, h1, h2, h3, h4, hd]
      have HF := Lib.hid hf
      have hq0 : -9223372036854775808 ≤ v / 2 ^ s.toNat ∧ v / 2 ^ s.toNat ≤ 9223372036854775807 := by
        have : s.toNat = 0 ∨ s.toNat = 1 ∨ s.toNat = 2 ∨ s.toNat = 3 ∨ s.toNat = 4 ∨ s.toNat = 5 ∨ s.toNat = 6 ∨ s.toNat = 7 ∨ s.toNat = 8 := by omega
        rcases this with e | e | e | e | e | e | e | e | e <;> rw [e] <;> omega
      obtain ⟨hq1, hq2⟩ := hq0
      clear hf hd
      cases sg
      · go_enter Tryd.func15, Tryd.ntmps15
        go_wp2
        go_quiet (fail)
        go_wp2
        all_goals
          go_ret
          refine ⟨ret_bool ?_, _, rfl⟩
          rw [HF.out]
          have : (v / 2 ^ s.toNat ≤ 2 ^ n.toNat - 1) = (v / 2 ^ s.toNat < 2 ^ n.toNat) := propext ⟨fun h => by omega, fun h => by omega⟩
          simp [*] <;> omega
      · go_enter Tryd.func15, Tryd.ntmps15
        go_wp2
        go_quiet (fail)
        go_wp2
        go_quiet (fail)
        go_wp2
        all_goals
          go_ret
          refine ⟨ret_bool ?_, _, rfl⟩
          rw [HF.out]
          have : (v / 2 ^ s.toNat ≤ 2 ^ (n.toNat - 1) - 1) = (v / 2 ^ s.toNat < 2 ^ (n.toNat - 1)) := propext ⟨fun h => by omega, fun h => by omega⟩
          simp [*] <;> omega
    · have hf : fitsB v n s sg = false := by simp [fitsB, hd]
      have hm : ¬ v.tmod (2 ^ s.toNat) = 0 := fun h => hd (dvd_of_tmod h)
      go_enter Tryd.func15, Tryd.ntmps15
      go_wp2
      go_ret
      first | exact ⟨rfl, 0, rfl⟩ | exact ⟨ret_bool hf.symm, 0, rfl⟩
  · have hf : fitsB v n s sg = false := by
      have : ¬ (1 ≤ n ∧ n ≤ 32 ∧ 0 ≤ s ∧ s ≤ 8) := h
      simp only [fitsB, Bool.and_eq_false_iff, decide_eq_false_iff_not]
      omega
    by_cases h1 : 1 ≤ n
    · by_cases h2 : n ≤ 32
      · by_cases h3 : 0 ≤ s
        all_goals
          go_enter Tryd.func15, Tryd.ntmps15
          go_wp2
          go_ret
          first | exact ⟨rfl, 0, rfl⟩ | exact ⟨ret_bool hf.symm, 0, rfl⟩
      · go_enter Tryd.func15, Tryd.ntmps15
        go_wp2
        go_ret
        first | exact ⟨rfl, 0, rfl⟩ | exact ⟨ret_bool hf.symm, 0, rfl⟩
    · go_enter Tryd.func15, Tryd.ntmps15
      go_wp2
      go_ret
      first | exact ⟨rfl, 0, rfl⟩ | exact ⟨ret_bool hf.symm, 0, rfl⟩
end Go.Proofs.YtckgnmnfhkjpjaaDoor
