/- BitsSigned returns true, for every argument, in every world that holds the table of pieces. -/
import Derived.Test.YtckgnmnfhkjpjaaDoorBitsLaws
namespace Go.Proofs.YtckgnmnfhkjpjaaDoor
open Go.ChangeShapes Go.WideShapes Go.ChangeAt Go.RowKit

/-! signed numbers and their bits -/
theorem sextZ_range (w k : Int) (h1 : 1 ≤ k) (h2 : k ≤ 32) : -2 ^ (k.toNat - 1) ≤ sextZ w k ∧ sextZ w k < 2 ^ (k.toNat - 1) := by
  have hs : sextZ w k = if 2 ^ (k.toNat - 1) ≤ w % 2 ^ k.toNat then w % 2 ^ k.toNat - 2 ^ k.toNat else w % 2 ^ k.toNat := if_pos ⟨h1, h2⟩
  obtain ⟨N, hN⟩ : ∃ N, k.toNat = N + 1 := ⟨k.toNat - 1, by omega⟩
  rw [hN, Nat.add_sub_cancel, Int.pow_succ] at hs
  rw [hN, Nat.add_sub_cancel]
  have hp : 0 < (2 : Int) ^ N := Int.pow_pos (by decide)
  have l1 := Int.emod_nonneg w (show (2 : Int) ^ N * 2 ≠ 0 by omega)
  have l2 := Int.emod_lt_of_pos w (show 0 < (2 : Int) ^ N * 2 by omega)
  rw [hs]
  split <;> constructor <;> omega
theorem sextZ_of_range (q k : Int) (h1 : 1 ≤ k) (h2 : k ≤ 32) (h3 : -2 ^ (k.toNat - 1) ≤ q) (h4 : q < 2 ^ (k.toNat - 1)) : sextZ (q % 4294967296) k = q := by
  have hs : sextZ (q % 4294967296) k = if 2 ^ (k.toNat - 1) ≤ q % 4294967296 % 2 ^ k.toNat then q % 4294967296 % 2 ^ k.toNat - 2 ^ k.toNat else q % 4294967296 % 2 ^ k.toNat := if_pos ⟨h1, h2⟩
  have hd : q % 4294967296 % 2 ^ k.toNat = q % 2 ^ k.toNat := by
    obtain ⟨d, hd⟩ : ∃ d, 32 = k.toNat + d := ⟨32 - k.toNat, by omega⟩
    refine Int.emod_emod_of_dvd q ⟨2 ^ d, ?_⟩
    rw [← Int.pow_add, ← hd]; decide
  rw [hd] at hs
  obtain ⟨N, hN⟩ : ∃ N, k.toNat = N + 1 := ⟨k.toNat - 1, by omega⟩
  rw [hN, Nat.add_sub_cancel] at h3 h4
  rw [hN, Nat.add_sub_cancel, Int.pow_succ] at hs
  have hp : 0 < (2 : Int) ^ N := Int.pow_pos (by decide)
  generalize (2 : Int) ^ N = P at *
  rw [hs]
  by_cases hq : 0 ≤ q
  · rw [Int.emod_eq_of_lt hq (by omega), if_neg (by omega)]
  · have e : q % (P * 2) = q + P * 2 := by
      rw [← Int.add_emod_right q (P * 2)]
      exact Int.emod_eq_of_lt (by omega) (by omega)
    rw [e, if_pos (by omega)]; omega
theorem fitsB_signed (q k s : Int) (h1 : 1 ≤ k) (h2 : k ≤ 32) (h3 : 0 ≤ s) (h4 : s ≤ 8) (h5 : -2 ^ (k.toNat - 1) ≤ q) (h6 : q < 2 ^ (k.toNat - 1)) : fitsB (q * 2 ^ s.toNat) k s true = true := by
  have hp : (2 : Int) ^ s.toNat ≠ 0 := Int.ne_of_gt (Int.pow_pos (by decide))
  simp [fitsB, h1, h2, h3, h4, h5, h6, Int.mul_ediv_cancel _ hp]
theorem fitsB_unsigned (q k s : Int) (h1 : 1 ≤ k) (h2 : k ≤ 32) (h3 : 0 ≤ s) (h4 : s ≤ 8) (h5 : 0 ≤ q) (h6 : q < 2 ^ k.toNat) : fitsB (q * 2 ^ s.toNat) k s false = true := by
  have hp : (2 : Int) ^ s.toNat ≠ 0 := Int.ne_of_gt (Int.pow_pos (by decide))
  simp [fitsB, h1, h2, h3, h4, h5, h6, Int.mul_ediv_cancel _ hp]
theorem fitsB_out {x k s : Int} {b : Bool} (h : fitsB x k s b = true) : x / 2 ^ s.toNat * 2 ^ s.toNat = x := by
  simp only [fitsB, Bool.and_eq_true, decide_eq_true_eq] at h
  exact Int.ediv_mul_cancel (Int.dvd_of_emod_eq_zero h.1.2)
theorem fitsB_true {x k s : Int} (h : fitsB x k s true = true) : -2 ^ (k.toNat - 1) ≤ x / 2 ^ s.toNat ∧ x / 2 ^ s.toNat < 2 ^ (k.toNat - 1) := by
  simp only [fitsB, Bool.and_eq_true, decide_eq_true_eq, if_true] at h
  exact h.2
theorem fitsB_false {x k s : Int} (h : fitsB x k s false = true) : 0 ≤ x / 2 ^ s.toNat ∧ x / 2 ^ s.toNat < 2 ^ k.toNat := by
  simp only [fitsB, Bool.and_eq_true, decide_eq_true_eq, Bool.false_eq_true, if_false] at h
  exact h.2
theorem getZ_low (w k : Int) (h1 : 1 ≤ k) (h2 : k ≤ 32) : getZ w 0 k = w % 2 ^ k.toNat := by
  have : fieldB 0 k = true := fieldB_iff.2 ⟨by omega, by omega, by omega⟩
  simp [getZ, this]
theorem getZ_of_range (q k : Int) (h1 : 1 ≤ k) (h2 : k ≤ 32) (h3 : 0 ≤ q) (h4 : q < 2 ^ k.toNat) : getZ (q % 4294967296) 0 k = q := by
  have hp := pow_le_of k.toNat (by omega)
  rw [getZ_low _ _ h1 h2, Int.emod_eq_of_lt h3 (show q < 4294967296 by omega), Int.emod_eq_of_lt h3 h4]

namespace bitsSigned
theorem mul_bound (r P : Int) (h1 : -4294967296 ≤ r) (h2 : r ≤ 4294967296) (h3 : 1 ≤ P) (h4 : P ≤ 256) : -1099511627776 ≤ r * P ∧ r * P ≤ 1099511627776 := by
  have a1 : r * P ≤ 4294967296 * P := Int.mul_le_mul_of_nonneg_right h2 (by omega)
  have a2 : (-4294967296) * P ≤ r * P := Int.mul_le_mul_of_nonneg_right h1 (by omega)
  omega
set_option maxHeartbeats 400000 in
theorem core (W : World) (hp : Pieces W) (a0 a1 a2 a3 k s : Int) (u0 : isI a0) (u1 : isU32 a1) (ek : a2 % 32 + 1 = k) (es : a3 % 9 = s) (h2 : 0 ≤ a2) (h3 : 0 ≤ a3) (g2 : a2 < 256) (g3 : a3 < 256) :
    Calls Tryd.prog 7 #[.int .i64 a0, .int .u32 a1, .int .u8 a2, .int .u8 a3] W fun e w' => e = .returned (.bool true) ∧ Grown W w' := by
  obtain ⟨l0, m0⟩ := id u0
  have hg := Grown.refl W
  have k1 : 1 ≤ k := by omega
  have k2 : k ≤ 32 := by omega
  have s1 : 0 ≤ s := by omega
  have s2 : s ≤ 8 := by omega
  have hpS : 1 ≤ (2 : Int) ^ s.toNat ∧ (2 : Int) ^ s.toNat ≤ 256 := by
    have : ∀ N : Nat, N < 9 → 1 ≤ (2 : Int) ^ N ∧ (2 : Int) ^ N ≤ 256 := by decide
    exact this s.toNat (by omega)
  obtain ⟨p1, p2⟩ := hpS
  have iK : isI k := ⟨by omega, by omega⟩
  have hr := sextZ_range a1 k k1 k2
  have hP := pow_le_of (k.toNat - 1) (by omega)
  have hR := mul_bound (sextZ a1 k) (2 ^ s.toNat) (by omega) (by omega) p1 p2
  have fR := fitsB_signed (sextZ a1 k) k s k1 k2 s1 s2 hr.1 hr.2
  have hgu := getZ_u32 a1 0 k u1
  have hG := mul_bound (getZ a1 0 k) (2 ^ s.toNat) (by have := hgu.1; omega) (by have := hgu.2; omega) p1 p2
  have fG := fitsB_unsigned (getZ a1 0 k) k s k1 k2 s1 s2 hgu.1 (by rw [getZ_low _ _ k1 k2]; exact Int.emod_lt_of_pos _ (Int.pow_pos (by decide)))
  obtain ⟨r1, r2⟩ := hR
  obtain ⟨t1, t2⟩ := hG
  obtain ⟨t3, t4⟩ := id hgu
  have iR : isI (sextZ a1 k * 2 ^ s.toNat) := ⟨by omega, by omega⟩
  have iG : isI (getZ a1 0 k * 2 ^ s.toNat) := ⟨by omega, by omega⟩
  have hq0 : -9223372036854775808 ≤ a0 / 2 ^ s.toNat ∧ a0 / 2 ^ s.toNat ≤ 9223372036854775807 := by
    have : s.toNat = 0 ∨ s.toNat = 1 ∨ s.toNat = 2 ∨ s.toNat = 3 ∨ s.toNat = 4 ∨ s.toNat = 5 ∨ s.toNat = 6 ∨ s.toNat = 7 ∨ s.toNat = 8 := by omega
    rcases this with e | e | e | e | e | e | e | e | e <;> rw [e] <;> omega
  obtain ⟨q1, q2⟩ := hq0
  have uq : isU32 (a0 / 2 ^ s.toNat % 4294967296) := ⟨by omega, by omega⟩
  clear hr hP hgu
  cases fT : fitsB a0 k s true
  · cases fF : fitsB a0 k s false
    · go_enter Tryd.func7, Tryd.ntmps7
      go_wp2_with (first
      | (go_at_call 15; (first | with_reducible refine ((fits_any _ _ _ _ u0).pure W _ (by assumption)).mono ?_ | with_reducible refine ((fits_any _ _ _ _ iR).pure W _ (by assumption)).mono ?_ | with_reducible refine ((fits_any _ _ _ _ iG).pure W _ (by assumption)).mono ?_); rintro e w' ⟨rfl, hg'⟩)
      | (go_at_call 13; (first | with_reducible refine ((sext_any _ _ uq iK).pure W _ (by assumption)).mono ?_ | with_reducible refine ((sext_any _ _ u1 iK).pure W _ (by assumption)).mono ?_); rintro e w' ⟨rfl, hg'⟩)
      | (go_at_call 9; (first | with_reducible refine ((get_any _ _ _ uq iK).pure W _ (by assumption)).mono ?_ | with_reducible refine ((get_any _ _ _ u1 iK).pure W _ (by assumption)).mono ?_); rintro e w' ⟨rfl, hg'⟩)
      | (go_at_call 17; with_reducible refine (awake_any W hp _ (by assumption)).mono ?_; rintro e w' ⟨rfl, hg'⟩))
      go_ret
      exact ⟨rfl, by assumption⟩
    · have f1 := fitsB_false fF
      have e1 := getZ_of_range _ k k1 k2 f1.1 f1.2
      have e2 := fitsB_out fF
      clear f1
      go_enter Tryd.func7, Tryd.ntmps7
      go_wp2_with (first
      | (go_at_call 15; (first | with_reducible refine ((fits_any _ _ _ _ u0).pure W _ (by assumption)).mono ?_ | with_reducible refine ((fits_any _ _ _ _ iR).pure W _ (by assumption)).mono ?_ | with_reducible refine ((fits_any _ _ _ _ iG).pure W _ (by assumption)).mono ?_); rintro e w' ⟨rfl, hg'⟩)
      | (go_at_call 13; (first | with_reducible refine ((sext_any _ _ uq iK).pure W _ (by assumption)).mono ?_ | with_reducible refine ((sext_any _ _ u1 iK).pure W _ (by assumption)).mono ?_); rintro e w' ⟨rfl, hg'⟩)
      | (go_at_call 9; (first | with_reducible refine ((get_any _ _ _ uq iK).pure W _ (by assumption)).mono ?_ | with_reducible refine ((get_any _ _ _ u1 iK).pure W _ (by assumption)).mono ?_); rintro e w' ⟨rfl, hg'⟩)
      | (go_at_call 17; with_reducible refine (awake_any W hp _ (by assumption)).mono ?_; rintro e w' ⟨rfl, hg'⟩))
      go_ret
      exact ⟨rfl, by assumption⟩
  · have f2 := fitsB_true fT
    have e3 := sextZ_of_range _ k k1 k2 f2.1 f2.2
    have e2 := fitsB_out fT
    clear f2
    cases fF : fitsB a0 k s false
    · go_enter Tryd.func7, Tryd.ntmps7
      go_wp2_with (first
      | (go_at_call 15; (first | with_reducible refine ((fits_any _ _ _ _ u0).pure W _ (by assumption)).mono ?_ | with_reducible refine ((fits_any _ _ _ _ iR).pure W _ (by assumption)).mono ?_ | with_reducible refine ((fits_any _ _ _ _ iG).pure W _ (by assumption)).mono ?_); rintro e w' ⟨rfl, hg'⟩)
      | (go_at_call 13; (first | with_reducible refine ((sext_any _ _ uq iK).pure W _ (by assumption)).mono ?_ | with_reducible refine ((sext_any _ _ u1 iK).pure W _ (by assumption)).mono ?_); rintro e w' ⟨rfl, hg'⟩)
      | (go_at_call 9; (first | with_reducible refine ((get_any _ _ _ uq iK).pure W _ (by assumption)).mono ?_ | with_reducible refine ((get_any _ _ _ u1 iK).pure W _ (by assumption)).mono ?_); rintro e w' ⟨rfl, hg'⟩)
      | (go_at_call 17; with_reducible refine (awake_any W hp _ (by assumption)).mono ?_; rintro e w' ⟨rfl, hg'⟩))
      go_ret
      exact ⟨rfl, by assumption⟩
    · have f1 := fitsB_false fF
      have e1 := getZ_of_range _ k k1 k2 f1.1 f1.2
      clear f1
      go_enter Tryd.func7, Tryd.ntmps7
      go_wp2_with (first
      | (go_at_call 15; (first | with_reducible refine ((fits_any _ _ _ _ u0).pure W _ (by assumption)).mono ?_ | with_reducible refine ((fits_any _ _ _ _ iR).pure W _ (by assumption)).mono ?_ | with_reducible refine ((fits_any _ _ _ _ iG).pure W _ (by assumption)).mono ?_); rintro e w' ⟨rfl, hg'⟩)
      | (go_at_call 13; (first | with_reducible refine ((sext_any _ _ uq iK).pure W _ (by assumption)).mono ?_ | with_reducible refine ((sext_any _ _ u1 iK).pure W _ (by assumption)).mono ?_); rintro e w' ⟨rfl, hg'⟩)
      | (go_at_call 9; (first | with_reducible refine ((get_any _ _ _ uq iK).pure W _ (by assumption)).mono ?_ | with_reducible refine ((get_any _ _ _ u1 iK).pure W _ (by assumption)).mono ?_); rintro e w' ⟨rfl, hg'⟩)
      | (go_at_call 17; with_reducible refine (awake_any W hp _ (by assumption)).mono ?_; rintro e w' ⟨rfl, hg'⟩))
      go_ret
      exact ⟨rfl, by assumption⟩

theorem walk (W : World) (hp : Pieces W) (a0 a1 a2 a3 : Int) (w0 : (Lit.int .i64 a0).wf = true) (w1 : (Lit.int .u32 a1).wf = true) (w2 : (Lit.int .u8 a2).wf = true) (w3 : (Lit.int .u8 a3).wf = true) :
    Calls Tryd.prog 7 #[.int .i64 a0, .int .u32 a1, .int .u8 a2, .int .u8 a3] W fun e w' => e = .returned (.bool true) ∧ Grown W w' :=
  core W hp a0 a1 a2 a3 _ _ (wf_i64 w0) (wf_u32 w1) rfl rfl (wf_u8 w2).1 (wf_u8 w3).1 (wf_u8 w2).2 (wf_u8 w3).2
end bitsSigned
end Go.Proofs.YtckgnmnfhkjpjaaDoor
