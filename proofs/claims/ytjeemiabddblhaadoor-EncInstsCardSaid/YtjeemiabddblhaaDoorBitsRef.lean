/- What none, Bit, one, Get and Put of the document's answer return; Bit and one for places below 41 and 32. -/
import Derived.Test.YtjeemiabddblhaaDoorBitsFns
namespace Go.Proofs.YtjeemiabddblhaaDoor
open Go.ChangeShapes Go.WideShapes Go.ChangeAt Go.RowKit

/-! ### the document's answers, bit by bit: coxlessref01 -/
theorem refNone_any (a n : Int) (ha : isI a) (hn : isI n) : Still Tryd.prog 54 #[.int .i64 a, .int .i64 n] (.bool (!fieldB a n)) := by
  intro w
  obtain ⟨a0, a1⟩ := ha
  obtain ⟨n0, n1⟩ := hn
  go_enter Tryd.func54, Tryd.ntmps54
  go_wp2
  all_goals
    go_ret
    refine ⟨ret_bool ?_, rfl⟩
    rw [Bool.eq_iff_iff]
    simp [fieldB]
    try omega

theorem refBit_any (v k : Int) (hv : isU32 v) (h0 : 0 ≤ k) (h1 : k ≤ 40) : Still Tryd.prog 48 #[.int .u32 v, .int .i64 k] (.int .u32 (bitZ v k)) := by
  intro w
  obtain ⟨V, rfl, hV⟩ := hv.nat
  obtain ⟨K, rfl⟩ := Int.eq_ofNat_of_zero_le h0
  rw [bitZ_nat]
  go_enter Tryd.func48, Tryd.ntmps48
  go_wp2
  go_loop [0, 5] (fun x i => ∃ j X : Nat, j ≤ K ∧ X = V / 2 ^ j ∧ i = .int .i64 j ∧ x = .int .u32 X) (fun _ i => K - (intOf i).toNat)
  case atStart => exact ⟨0, V, by omega, by simp, rfl, rfl⟩
  case round =>
    obtain ⟨j, X, hj, hX, rfl, rfl⟩ := hrel
    have e1 : V / 2 ^ (j + 1) = X / 2 := by rw [Nat.pow_succ, ← Nat.div_div_eq_div_mul, hX]
    have hle : X ≤ V := by rw [hX]; exact Nat.div_le_self _ _
    have E1 := Lib.hid e1
    have HX := Lib.hid hX
    clear e1 hX
    by_cases hlt : j < K
    · go_wp2
      go_round
      case rel => exact ⟨j + 1, X / 2, by omega, E1.out.symm, by go_num, by go_num⟩
      case measure => simp [intOf]; omega
    · obtain rfl : j = K := by omega
      go_wp2
      go_ret
      exact ⟨ret_int (by rw [HX.out]; simp), rfl⟩

theorem refOne_any (k : Int) (h0 : 0 ≤ k) (h1 : k < 32) : Still Tryd.prog 49 #[.int .i64 k] (.int .u32 (2 ^ k.toNat)) := by
  intro w
  obtain ⟨K, rfl⟩ := Int.eq_ofNat_of_zero_le h0
  rw [Int.toNat_natCast]
  go_enter Tryd.func49, Tryd.ntmps49
  go_wp2
  go_loop [3, 4] (fun x i => ∃ (j : Nat) (X : Int), j ≤ K ∧ X = 2 ^ j ∧ i = .int .i64 j ∧ x = .int .u32 X) (fun _ i => K - (intOf i).toNat)
  case atStart => exact ⟨0, 1, by omega, by simp, rfl, rfl⟩
  case round =>
    obtain ⟨j, X, hj, hX, rfl, rfl⟩ := hrel
    by_cases hlt : j < K
    · have e1 : (2 : Int) ^ (j + 1) = X * 2 := by rw [hX]; exact Int.pow_succ _ _
      have hc := pow_le_of (j + 1) (by omega)
      have hc2 := pow_le_of j (by omega)
      have hd : X < 2147483648 := by
        have : ∀ j : Nat, j < 31 → (2 : Int) ^ j < 2147483648 := by decide
        rw [hX]; exact this j (by omega)
      have hp : 0 ≤ X := by omega
      have E1 := Lib.hid e1
      clear e1 hX hc hc2
      go_wp2
      go_round
      case rel => exact ⟨j + 1, X * 2, by omega, E1.out.symm, by go_num, by first | rfl | (congr 1; omega) | go_num⟩
      case measure => simp [intOf]; omega
    · obtain rfl : j = K := by omega
      have HX := Lib.hid hX
      clear hX
      go_wp2
      go_ret
      exact ⟨ret_int HX.out, rfl⟩

theorem refGet_any (v a n : Int) (hv : isU32 v) (ha : isI a) (hn : isI n) : Still Tryd.prog 33 #[.int .u32 v, .int .i64 a, .int .i64 n] (.int .u32 (getZ v a n)) := by
  intro w
  have hnone := refNone_any a n ha hn
  by_cases h : fieldB a n = true
  · rw [h] at hnone
    obtain ⟨A, N, rfl, rfl, hs⟩ := fieldB_nat h
    obtain ⟨V, rfl, hV⟩ := hv.nat
    rw [getZ_nat _ _ _ hs]
    go_enter Tryd.func33, Tryd.ntmps33
    go_wp2_with (go_at_call 54; with_reducible refine (hnone _).mono ?_; rintro e w' ⟨rfl, rfl⟩)
    go_loop [7, 8] (fun x i => ∃ j X : Nat, j ≤ N ∧ X = V / 2 ^ (A + N - j) % 2 ^ j ∧ i = .int .i64 ((N : Int) - 1 - j) ∧ x = .int .u32 X) (fun _ i => (intOf i + 1).toNat)
    case atStart => exact ⟨0, 0, by omega, by simp [Nat.mod_one], by simp, rfl⟩
    case round =>
      obtain ⟨j, X, hj, hX, rfl, rfl⟩ := hrel
      by_cases hlt : j < N
      · have e1 : V / 2 ^ (A + N - (j + 1)) % 2 ^ (j + 1) = 2 * X + V / 2 ^ (A + N - (j + 1)) % 2 := by
          rw [hX, show A + N - j = (A + N - (j + 1)) + 1 by omega, Nat.pow_succ (m := A + N - (j + 1)), ← Nat.div_div_eq_div_mul, Nat.pow_succ, Nat.mul_comm (2 ^ j) 2, Nat.mod_mul]
          omega
        have hb : 2 * X + V / 2 ^ (A + N - (j + 1)) % 2 < 4294967296 := by
          rw [← e1]
          have := npow_le_of (j + 1) (by omega)
          have := Nat.mod_lt (V / 2 ^ (A + N - (j + 1))) (show 0 < 2 ^ (j + 1) by omega)
          omega
        have hbit := refBit_any V ((A : Int) + ((N : Int) - 1 - j)) hv (by omega) (by omega)
        have eb : bitZ V ((A : Int) + ((N : Int) - 1 - j)) = ((V / 2 ^ (A + N - (j + 1)) % 2 : Nat) : Int) := by
          rw [show (A : Int) + ((N : Int) - 1 - j) = ((A + N - (j + 1) : Nat) : Int) by omega, bitZ_nat]
        rw [eb] at hbit
        generalize V / 2 ^ (A + N - (j + 1)) % 2 = b at *
        have E1 := Lib.hid e1
        clear e1 hX eb
        go_wp2_with (go_at_call 48; with_reducible refine (hbit _).mono ?_; rintro e w' ⟨rfl, rfl⟩)
        go_round
        case rel => exact ⟨j + 1, 2 * X + b, by omega, E1.out.symm, by go_num, by go_num⟩
        case measure => simp [intOf]; omega
      · obtain rfl : j = N := by omega
        have HX := Lib.hid hX
        clear hX
        go_wp2
        go_ret
        exact ⟨ret_int (by rw [HX.out, Nat.add_sub_cancel]; simp), rfl⟩
  · have h' : fieldB a n = false := by simpa using h
    rw [h'] at hnone
    have hz : getZ v a n = 0 := if_neg h
    have HZ := Lib.hid hz
    clear hz
    go_enter Tryd.func33, Tryd.ntmps33
    go_wp2_with (go_at_call 54; with_reducible refine (hnone _).mono ?_; rintro e w' ⟨rfl, rfl⟩)
    go_ret
    exact ⟨ret_int HZ.out.symm, rfl⟩

end Go.Proofs.YtjeemiabddblhaaDoor
