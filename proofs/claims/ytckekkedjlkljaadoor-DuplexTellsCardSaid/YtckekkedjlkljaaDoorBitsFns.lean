/- What isField, lowMask, Get, Put, Sext of package bits return, for every argument of the Go types. -/
import Derived.Test.YtckekkedjlkljaaDoorBase
import Derived.Test.YtckekkedjlkljaaDoorBitsMath
import Derived.Test.YtckekkedjlkljaaDoorBitsFits
namespace Go.Proofs.YtckekkedjlkljaaDoor
open Go.ChangeShapes Go.WideShapes Go.ChangeAt Go.RowKit

/-! ### bits.isField, lowMask, Get, Put, Sext, Fits -/
theorem isField_any (at_ n : Int) (h : isI n) : Still Tryd.prog 40 #[.int .i64 at_, .int .i64 n] (.bool (fieldB at_ n)) := by
  intro w
  obtain ⟨h3, h4⟩ := h
  by_cases c1 : 0 ≤ at_
  · by_cases c2 : 0 ≤ n
    · go_enter Tryd.func40, Tryd.ntmps40
      go_wp2
      go_ret
      exact ⟨by simp [fieldB, c1, c2], rfl⟩
    · have c3 : decide (0 ≤ n) = false := by simpa using c2
      go_enter Tryd.func40, Tryd.ntmps40
      go_wp2
      go_ret
      exact ⟨by simp [fieldB, c3], rfl⟩
  · have c3 : decide (0 ≤ at_) = false := by simpa using c1
    go_enter Tryd.func40, Tryd.ntmps40
    go_wp2
    go_ret
    exact ⟨by simp [fieldB, c3], rfl⟩

theorem lowMask_any (n : Int) (h1 : 0 ≤ n) (h2 : n ≤ 32) : Still Tryd.prog 41 #[.int .i64 n] (.int .u32 (2 ^ n.toNat - 1)) := by
  intro w
  go_enter Tryd.func41, Tryd.ntmps41
  go_wp2
  go_ret
  exact ⟨ret_int (by have := pow_le_of n.toNat (by omega); omega), rfl⟩

theorem get_any (v at_ n : Int) (hv : isU32 v) (hn : isI n) : Quiet Tryd.prog 33 #[.int .u32 v, .int .i64 at_, .int .i64 n] (.int .u32 (getZ v at_ n)) := by
  intro w
  by_cases h : fieldB at_ n = true
  · obtain ⟨a1, a2, a3⟩ := fieldB_iff.1 h
    have hz : getZ v at_ n = v / 2 ^ at_.toNat % 2 ^ n.toNat := if_pos h
    obtain ⟨hv0, hv1⟩ := id hv
    go_enter Tryd.func33, Tryd.ntmps33
    go_wp2_with (go_at_call 40; refine (isField_any _ _ hn _).mono ?_; rintro e w' ⟨rfl, rfl⟩)
    go_quiet ((go_at_call 41; exact (lowMask_any _ (by omega) (by omega) _).mono fun e w' ⟨he, hw⟩ => ⟨he, _, hw.symm⟩))
    go_wp2
    go_ret
    refine ⟨ret_int ?_, _, rfl⟩
    rw [hz]
    exact and_mask _ _ (by omega) ⟨Int.ediv_nonneg hv0 (Int.le_of_lt (Int.pow_pos (by decide))), by
      have := Int.ediv_le_self (2 ^ at_.toNat) hv0
      omega⟩
  · have h' : fieldB at_ n = false := by simpa using h
    have hz : getZ v at_ n = 0 := if_neg h
    go_enter Tryd.func33, Tryd.ntmps33
    go_wp2_with (go_at_call 40; refine (isField_any _ _ hn _).mono ?_; rintro e w' ⟨rfl, rfl⟩)
    go_ret
    exact ⟨ret_int hz.symm, 0, rfl⟩

theorem put_any (v at_ n x : Int) (hv : isU32 v) (hx : isU32 x) (hn : isI n) : Still Tryd.prog 30 #[.int .u32 v, .int .i64 at_, .int .i64 n, .int .u32 x] (.int .u32 (putZ v at_ n x)) := by
  intro w
  by_cases h : fieldB at_ n = true
  · obtain ⟨a1, a2, a3⟩ := fieldB_iff.1 h
    have hz := put_code v at_ n x h hv hx
    obtain ⟨hv0, hv1⟩ := id hv
    obtain ⟨hx0, hx1⟩ := id hx
    go_enter Tryd.func30, Tryd.ntmps30
    go_wp2_with (first | (go_at_call 40; refine (isField_any _ _ hn _).mono ?_; rintro e w' ⟨rfl, rfl⟩) | (go_at_call 41; refine (lowMask_any _ (by omega) (by omega) _).mono ?_; rintro e w' ⟨rfl, rfl⟩))
    go_ret
    exact ⟨rfl, rfl⟩
  · have h' : fieldB at_ n = false := by simpa using h
    have hz : putZ v at_ n x = v := if_neg h
    go_enter Tryd.func30, Tryd.ntmps30
    go_wp2_with (go_at_call 40; refine (isField_any _ _ hn _).mono ?_; rintro e w' ⟨rfl, rfl⟩)
    go_ret
    exact ⟨ret_int hz.symm, rfl⟩

theorem sext_any (v n : Int) (hv : isU32 v) (hn : isI n) : Quiet Tryd.prog 45 #[.int .u32 v, .int .i64 n] (.int .i64 (sextZ v n)) := by
  intro w
  by_cases h : 1 ≤ n ∧ n ≤ 32
  · obtain ⟨h1, h2⟩ := h
    have hf : fieldB 0 n = true := fieldB_iff.2 ⟨by omega, by omega, by omega⟩
    have hg : getZ v 0 n = v % 2 ^ n.toNat := by simp [getZ, hf]
    have hs : sextZ v n = if 2 ^ (n.toNat - 1) ≤ v % 2 ^ n.toNat then v % 2 ^ n.toNat - 2 ^ n.toNat else v % 2 ^ n.toNat := if_pos ⟨h1, h2⟩
    have hp := pow_le_of n.toNat (by omega)
    have hp2 := pow_le_of (n.toNat - 1) (by omega)
    have l1 : 0 ≤ v % 2 ^ n.toNat := Int.emod_nonneg _ (by omega)
    have l2 : v % 2 ^ n.toNat < 2 ^ n.toNat := Int.emod_lt_of_pos _ (by omega)
    have e2 : (n - 1).toNat = n.toNat - 1 := by omega
    have b1 : ((2:Int) ^ (n - 1).toNat) ≤ 4294967296 := by rw [e2]; omega
    have b0 : 1 ≤ ((2:Int) ^ (n - 1).toNat) := by rw [e2]; omega
    go_enter Tryd.func45, Tryd.ntmps45
    go_wp2_with (go_at_call 33; refine (get_any _ _ _ hv hn _).mono ?_; rintro e w' ⟨rfl, k, rfl⟩)
    all_goals
      go_ret
      refine ⟨ret_int ?_, _, rfl⟩
      rw [hs]
      rw [e2] at *
      first | rw [if_pos (by omega)] | rw [if_neg (by omega)]
  · have hs : sextZ v n = 0 := if_neg h
    by_cases h1 : 1 ≤ n
    all_goals
      go_enter Tryd.func45, Tryd.ntmps45
      go_wp2
      go_ret
      first | exact ⟨rfl, 0, rfl⟩ | exact ⟨ret_int hs.symm, 0, rfl⟩
end Go.Proofs.YtckekkedjlkljaaDoor
