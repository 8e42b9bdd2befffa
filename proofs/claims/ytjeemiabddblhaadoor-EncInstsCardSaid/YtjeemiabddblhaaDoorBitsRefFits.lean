/- What Fits of the document's answer returns, for every argument of the Go types. -/
import Derived.Test.YtjeemiabddblhaaDoorBitsFits
namespace Go.Proofs.YtjeemiabddblhaaDoor
open Go.ChangeShapes Go.WideShapes Go.ChangeAt Go.RowKit

theorem epow_succ (v : Int) (j : Nat) : v / 2 ^ (j + 1) = v / 2 ^ j / 2 := by
  rw [Int.pow_succ, ← Int.ediv_ediv_of_nonneg (Int.le_of_lt (Int.pow_pos (by decide)))]
theorem emod_succ (v : Int) (j : Nat) (h : v % 2 ^ j = 0) : v % 2 ^ (j + 1) = 0 ↔ v / 2 ^ j % 2 = 0 := by
  obtain ⟨k, rfl⟩ := Int.dvd_of_emod_eq_zero h
  have hp : (2 : Int) ^ j ≠ 0 := Int.ne_of_gt (Int.pow_pos (by decide))
  rw [Int.mul_ediv_cancel_left _ hp, Int.pow_succ, Int.mul_emod_mul_of_pos _ _ (Int.pow_pos (by decide))]
  constructor
  · intro h
    rcases Int.mul_eq_zero.1 h with h | h
    · exact absurd h hp
    · exact h
  · intro h; rw [h, Int.mul_zero]
theorem emod_le (v : Int) (i j : Nat) (hij : i ≤ j) (h : v % 2 ^ j = 0) : v % 2 ^ i = 0 := by
  obtain ⟨d, rfl⟩ : ∃ d, j = i + d := ⟨j - i, by omega⟩
  exact Int.emod_eq_zero_of_dvd (Int.dvd_trans ⟨2 ^ d, by rw [Int.pow_add]⟩ (Int.dvd_of_emod_eq_zero h))

theorem refFits_any (v n s : Int) (sg : Bool) (hv : isI v) : Still Tryd.prog 47 #[.int .i64 v, .int .i64 n, .int .i64 s, .bool sg] (.bool (fitsB v n s sg)) := by
  intro w
  obtain ⟨hv0, hv1⟩ := hv
  by_cases h : 1 ≤ n ∧ n ≤ 32 ∧ 0 ≤ s ∧ s ≤ 8
  · obtain ⟨h1, h2, h3, h4⟩ := h
    obtain ⟨S, rfl⟩ := Int.eq_ofNat_of_zero_le h3
    obtain ⟨N, rfl⟩ := Int.eq_ofNat_of_zero_le (show 0 ≤ n by omega)
    have hff : fitsB v N S sg = (decide (v % 2 ^ S = 0) && (if sg then decide (-2 ^ (N - 1) ≤ v / 2 ^ S) && decide (v / 2 ^ S < 2 ^ (N - 1)) else decide (0 ≤ v / 2 ^ S) && decide (v / 2 ^ S < 2 ^ N))) := by
      simp [fitsB, h1, h2, h3, h4]
    generalize fitsB v N S sg = r at *
    have HF := Lib.hid hff
    clear hff
    go_enter Tryd.func47, Tryd.ntmps47
    go_wp2
    go_loop [0, 9] (fun x i => ∃ (j : Nat) (X : Int), j ≤ S ∧ i = .int .i64 j ∧ x = .int .i64 X ∧ X = v / 2 ^ j ∧ v % 2 ^ j = 0 ∧ -9223372036854775808 ≤ X ∧ X ≤ 9223372036854775807) (fun _ i => S - (intOf i).toNat)
    case atStart => exact ⟨0, v, by omega, rfl, rfl, by simp, by simp [Int.emod_one], hv0, hv1⟩
    case round =>
      obtain ⟨j, X, hj, rfl, rfl, hX, hd, hX0, hX1⟩ := hrel
      by_cases hlt : j < S
      · have hs1 := emod_succ v j hd
        have hs2 := epow_succ v j
        rw [← hX] at hs1 hs2
        by_cases he : X % 2 = 0
        · have hm := tmod_of_dvd he
          have hq := tdiv_of_dvd he
          have R := Lib.hid (And.intro (hs1.2 he) hs2)
          clear hs1 hs2 hX hd he
          go_wp2
          go_round
          case rel => exact ⟨j + 1, X / 2, by omega, by go_num, by go_num, R.out.2.symm, R.out.1, by omega, by omega⟩
          case measure => simp [intOf] <;> omega
        · have hm : ¬ X.tmod 2 = 0 := fun h => he (dvd_of_tmod h)
          have hno : r = false := by
            rw [HF.out]
            have : ¬ v % 2 ^ S = 0 := fun h => he (hs1.1 (emod_le v (j + 1) S (by omega) h))
            simp [this]
          have HNO := Lib.hid hno
          clear hs1 hs2 hX hd he hno
          go_wp2
          go_ret
          exact ⟨ret_bool HNO.out.symm, rfl⟩
      · obtain rfl : j = S := by omega
        have R := Lib.hid (And.intro hX hd)
        clear hX hd
        go_wp2
        go_loop [10, 11] (fun x i => ∃ (k : Nat) (T : Int), k ≤ N ∧ i = .int .i64 k ∧ x = .int .i64 T ∧ T = 2 ^ k) (fun _ i => N - (intOf i).toNat)
        case atStart => exact ⟨0, 1, by omega, rfl, rfl, rfl⟩
        case round =>
          obtain ⟨k, T, hk, rfl, rfl, hT⟩ := hrel
          have hT2 : 1 ≤ T ∧ T ≤ 4294967296 := by rw [hT]; exact pow_le_of k (by omega)
          obtain ⟨hT3, hT4⟩ := hT2
          by_cases hl : k < N
          · have e1 : (2 : Int) ^ (k + 1) = 2 * T := by rw [Int.pow_succ, hT]; omega
            have E1 := Lib.hid e1
            clear e1 hT
            go_wp2
            go_round
            case rel => exact ⟨k + 1, 2 * T, by omega, by go_num, by go_num, E1.out.symm⟩
            case measure => simp [intOf] <;> omega
          · obtain rfl : k = N := by omega
            obtain ⟨M, rfl⟩ : ∃ M, k = M + 1 := ⟨k - 1, by omega⟩
            have e1 : (2 : Int) ^ (M + 1) = 2 * 2 ^ M := by rw [Int.pow_succ]; omega
            have e2 : T / 2 = 2 ^ M := by omega
            have hF := HF.out
            rw [Nat.add_sub_cancel, ← R.out.1, e1, ← e2] at hF
            have hF2 : r = if sg = true then decide (-(T / 2) ≤ X) && decide (X < T / 2) else decide (0 ≤ X) && decide (X < T) := by
              rw [hF, R.out.2, e2, hT, e1]; simp
            have HG := Lib.hid hF2
            clear hF hF2 e1 e2 hT
            cases sg
            all_goals
              go_wp2
              all_goals
                go_ret
                refine ⟨ret_bool ?_, rfl⟩
                rw [HG.out]
                simp
                try omega
  · have hf : fitsB v n s sg = false := by
      have : ¬ (1 ≤ n ∧ n ≤ 32 ∧ 0 ≤ s ∧ s ≤ 8) := h
      simp only [fitsB, Bool.and_eq_false_iff, decide_eq_false_iff_not]
      omega
    have HF := Lib.hid hf
    clear hf
    by_cases h1 : 1 ≤ n
    · by_cases h2 : n ≤ 32
      · by_cases h3 : 0 ≤ s
        all_goals
          go_enter Tryd.func47, Tryd.ntmps47
          go_wp2
          go_ret
          exact ⟨ret_bool HF.out.symm, rfl⟩
      · go_enter Tryd.func47, Tryd.ntmps47
        go_wp2
        go_ret
        exact ⟨ret_bool HF.out.symm, rfl⟩
    · go_enter Tryd.func47, Tryd.ntmps47
      go_wp2
      go_ret
      exact ⟨ret_bool HF.out.symm, rfl⟩
end Go.Proofs.YtjeemiabddblhaaDoor
