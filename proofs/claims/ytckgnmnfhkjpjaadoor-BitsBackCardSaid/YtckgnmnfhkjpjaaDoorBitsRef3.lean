/- What Fits and Word of the document's answer return, for every argument of the Go types. -/
import Derived.Test.YtckgnmnfhkjpjaaDoorBitsRef2
namespace Go.Proofs.YtckgnmnfhkjpjaaDoor
open Go.ChangeShapes Go.WideShapes Go.ChangeAt Go.RowKit

theorem epow_succ (v : Int) (j : Nat) : v / 2 ^ (j + 1) = v / 2 ^ j / 2 := by
  rw [Int.pow_succ, ← Int.ediv_ediv_of_nonneg (Int.le_of_lt (Int.pow_pos (by decide)))]
theorem emod_succ (v : Int) (j : Nat) (h : v % 2 ^ j = 0) : v % 2 ^ (j + 1) = 0 ↔ v / 2 ^ j % 2 = 0 := by
  obtain ⟨k, rfl⟩ := Int.dvd_of_emod_eq_zero h
  have hp : (2 : Int) ^ j ≠ 0 := Int.ne_of_gt (Int.pow_pos (by decide))
  rw [Int.mul_ediv_cancel_left _ hp, Int.pow_succ, Int.mul_emod_mul_of_pos _ _ (Int.pow_pos (by decide))]
  constructor
  · intro h
    rcases Int.mul_eq_zero.1 h with h | h
    · exact absurd h hp
    · exact h
  · intro h; rw [h, Int.mul_zero]
theorem emod_le (v : Int) (i j : Nat) (hij : i ≤ j) (h : v % 2 ^ j = 0) : v % 2 ^ i = 0 := by
  obtain ⟨d, rfl⟩ : ∃ d, j = i + d := ⟨j - i, by omega⟩
  exact Int.emod_eq_zero_of_dvd (Int.dvd_trans ⟨2 ^ d, by rw [Int.pow_add]⟩ (Int.dvd_of_emod_eq_zero h))

theorem refFits_any (v n s : Int) (sg : Bool) (hv : isI v) : Still Tryd.prog 16 #[.int .i64 v, .int .i64 n, .int .i64 s, .bool sg] (.bool (fitsB v n s sg)) := by
  intro w
  obtain ⟨hv0, hv1⟩ := hv
  by_cases h : 1 ≤ n ∧ n ≤ 32 ∧ 0 ≤ s ∧ s ≤ 8
  · obtain ⟨h1, h2, h3, h4⟩ := h
    obtain ⟨S, rfl⟩ := Int.eq_ofNat_of_zero_le h3
    obtain ⟨N, rfl⟩ := Int.eq_ofNat_of_zero_le (show 0 ≤ n by omega)
    have hff : fitsB v N S sg = (decide (v % 2 ^ S = 0) && (if sg then decide (-2 ^ (N - 1) ≤ v / 2 ^ S) && decide (v / 2 ^ S < 2 ^ (N - 1)) else decide (0 ≤ v / 2 ^ S) && decide (v / 2 ^ S < 2 ^ N))) := by
      simp [fitsB, h1, h2, h3, h4]
    generalize fitsB v N S sg = r at *
    have HF := Lib.hid hff
    clear hff
    go_enter Tryd.func16, Tryd.ntmps16
    go_wp2
    go_loop [0, 9] (fun x i => ∃ (j : Nat) (X : Int), j ≤ S ∧ i = .int .i64 j ∧ x = .int .i64 X ∧ X = v / 2 ^ j ∧ v % 2 ^ j = 0 ∧ -9223372036854775808 ≤ X ∧ X ≤ 9223372036854775807) (fun _ i => S - (intOf i).toNat)
    case atStart => exact ⟨0, v, by omega, rfl, rfl, by simp, by simp [Int.emod_one], hv0, hv1⟩
    case round =>
      obtain ⟨j, X, hj, rfl, rfl, hX, hd, hX0, hX1⟩ := hrel
      by_cases hlt : j < S
      · have hs1 := emod_succ v j hd
        have hs2 := epow_succ v j
        rw [← hX] at hs1 hs2
        by_cases he : X % 2 = 0
        · have hm := tmod_of_dvd he
          have hq := tdiv_of_dvd he
          have R := Lib.hid (And.intro (hs1.2 he) hs2)
          clear hs1 hs2 hX hd he
          go_wp2
          go_round
          case rel => exact ⟨j + 1, X / 2, by omega, by go_num, by go_num, R.out.2.symm, R.out.1, by omega, by omega⟩
          case measure => simp [intOf] <;> omega
        · have hm : ¬ X.tmod 2 = 0 := fun h => he (dvd_of_tmod h)
          have hno : r = false := by
            rw [HF.out]
            have : ¬ v % 2 ^ S = 0 := fun h => he (hs1.1 (emod_le v (j + 1) S (by omega) h))
            simp [this]
          have HNO := Lib.hid hno
          clear hs1 hs2 hX hd he hno
          go_wp2
          go_ret
          exact ⟨ret_bool HNO.out.symm, rfl⟩
      · obtain rfl : j = S := by omega
        have R := Lib.hid (And.intro hX hd)
        clear hX hd
        go_wp2
        go_loop [10, 11] (fun x i => ∃ (k : Nat) (T : Int), k ≤ N ∧ i = .int .i64 k ∧ x = .int .i64 T ∧ T = 2 ^ k) (fun _ i => N - (intOf i).toNat)
        case atStart => exact ⟨0, 1, by omega, rfl, rfl, rfl⟩
        case round =>
          obtain ⟨k, T, hk, rfl, rfl, hT⟩ := hrel
          have hT2 : 1 ≤ T ∧ T ≤ 4294967296 := by rw [hT]; exact pow_le_of k (by omega)
          obtain ⟨hT3, hT4⟩ := hT2
          by_cases hl : k < N
          · have e1 : (2 : Int) ^ (k + 1) = 2 * T := by rw [Int.pow_succ, hT]; omega
            have E1 := Lib.hid e1
            clear e1 hT
            go_wp2
            go_round
            case rel => exact ⟨k + 1, 2 * T, by omega, by go_num, by go_num, E1.out.symm⟩
            case measure => simp [intOf] <;> omega
          · obtain rfl : k = N := by omega
            obtain ⟨M, rfl⟩ : ∃ M, k = M + 1 := ⟨k - 1, by omega⟩
            have e1 : (2 : Int) ^ (M + 1) = 2 * 2 ^ M := by rw [Int.pow_succ]; omega
            have e2 : T / 2 = 2 ^ M := by omega
            have hF := HF.out
            rw [Nat.add_sub_cancel, ← R.out.1, e1, ← e2] at hF
            have hF2 : r = if sg = true then decide (-(T / 2) ≤ X) && decide (X < T / 2) else decide (0 ≤ X) && decide (X < T) := by
              rw [hF, R.out.2, e2, hT, e1]; simp
            have HG := Lib.hid hF2
            clear hF hF2 e1 e2 hT
            cases sg
            all_goals
              go_wp2
              all_goals
                go_ret
                refine ⟨ret_bool ?_, rfl⟩
                rw [HG.out]
                simp
                try omega
  · have hf : fitsB v n s sg = false := by
      have : ¬ (1 ≤ n ∧ n ≤ 32 ∧ 0 ≤ s ∧ s ≤ 8) := h
      simp only [fitsB, Bool.and_eq_false_iff, decide_eq_false_iff_not]
      omega
    have HF := Lib.hid hf
    clear hf
    by_cases h1 : 1 ≤ n
    · by_cases h2 : n ≤ 32
      · by_cases h3 : 0 ≤ s
        all_goals
          go_enter Tryd.func16, Tryd.ntmps16
          go_wp2
          go_ret
          exact ⟨ret_bool HF.out.symm, rfl⟩
      · go_enter Tryd.func16, Tryd.ntmps16
        go_wp2
        go_ret
        exact ⟨ret_bool HF.out.symm, rfl⟩
    · go_enter Tryd.func16, Tryd.ntmps16
      go_wp2
      go_ret
      exact ⟨ret_bool HF.out.symm, rfl⟩

theorem refWord_any (c p q : Int) (hc : isU8 c) (hp : isU32 p) (hq : isU8 q) : Still Tryd.prog 20 #[.int .u8 c, .int .u32 p, .int .u8 q] (.int .u32 (wordZ c p q)) := by
  intro w
  obtain ⟨C, rfl, hC⟩ := hc.u32.nat
  obtain ⟨V, rfl, hV⟩ := hp.nat
  obtain ⟨Q, rfl, hQ⟩ := hq.u32.nat
  have hC2 : C < 256 := by have := hc.2; omega
  have hQ2 : Q < 256 := by have := hq.2; omega
  have hfin : ((C % 64 * 67108864 + fpay V 24 + Q % 2 * 16384 + Q / 2 % 2 * 32768 : Nat) : Int) = wordZ C V Q := by
    unfold fpay wordZ
    simp only [show min 24 14 = 14 by omega, show 24 - 14 = 10 by omega]
    omega
  have HF := Lib.hid hfin
  clear hfin
  have hb0 := refBit_any (Q : Int) 0 hq.u32 (by omega) (by omega)
  have hb1 := refBit_any (Q : Int) 1 hq.u32 (by omega) (by omega)
  have ho0 := refOne_any 14 (by omega) (by omega)
  have ho1 := refOne_any 15 (by omega) (by omega)
  have e0 : bitZ Q 0 = ((Q % 2 : Nat) : Int) := by simp [bitZ]
  have e1 : bitZ Q 1 = ((Q / 2 % 2 : Nat) : Int) := by simp [bitZ]
  rw [e0] at hb0
  rw [e1] at hb1
  clear e0 e1
  go_enter Tryd.func20, Tryd.ntmps20
  go_wp2
  go_loop [7, 8] (fun x i => ∃ j X : Nat, j ≤ 6 ∧ X = C % 2 ^ j * 67108864 ∧ i = .int .i64 j ∧ x = .int .u32 X) (fun _ i => 6 - (intOf i).toNat)
  case atStart => exact ⟨0, 0, by omega, by simp [Nat.mod_one], rfl, rfl⟩
  case round =>
    obtain ⟨j, X, hj, hX, rfl, rfl⟩ := hrel
    by_cases hlt : j < 6
    · have hst := mod_step C j
      have hP := npow_le_of j (by omega)
      have hP2 : 2 ^ j ≤ 2 ^ 5 := Nat.pow_le_pow_right (by decide) (by omega)
      have hbit := refBit_any (C : Int) j hc.u32 (by omega) (by omega)
      have hone := refOne_any (26 + (j : Int)) (by omega) (by omega)
      have eo : (2 : Int) ^ (26 + (j : Int)).toNat = ((2 ^ j * 67108864 : Nat) : Int) := by
        rw [show (26 + (j : Int)).toNat = j + 26 by omega, pow_cast, Nat.pow_add]
      rw [bitZ_nat] at hbit
      rw [eo] at hone
      have d1 : C / 2 ^ j % 2 = 0 ∨ C / 2 ^ j % 2 = 1 := by omega
      have hm := Nat.mod_lt C (show 0 < 2 ^ j by omega)
      clear eo
      generalize C / 2 ^ j % 2 = b at *
      have hX1 : X < 4294967296 := by omega
      rcases d1 with rfl | rfl
      · have R : X = C % 2 ^ (j + 1) * 67108864 := by rw [hst, hX]; omega
        have HR := Lib.hid R
        clear R hst hX hm
        generalize 2 ^ j = P at *
        go_wp2_with (first | (go_at_call 27; with_reducible refine (hbit _).mono ?_; rintro e w' ⟨rfl, rfl⟩) | (go_at_call 28; with_reducible refine (hone _).mono ?_; rintro e w' ⟨rfl, rfl⟩))
        go_round
        case rel => exact ⟨j + 1, X, by omega, HR.out, by go_num, by go_num⟩
        case measure => simp [intOf] <;> omega
      · have R : X + 2 ^ j * 67108864 = C % 2 ^ (j + 1) * 67108864 := by rw [hst, hX]; omega
        have hb : X + 2 ^ j * 67108864 < 4294967296 := by
          have := Nat.mod_lt C (Nat.two_pow_pos (j + 1))
          have h6 : 2 ^ (j + 1) ≤ 2 ^ 6 := Nat.pow_le_pow_right (by decide) (by omega)
          omega
        have HR := Lib.hid R
        clear R hst hX hm
        generalize 2 ^ j = P at *
        go_wp2_with (first | (go_at_call 27; with_reducible refine (hbit _).mono ?_; rintro e w' ⟨rfl, rfl⟩) | (go_at_call 28; with_reducible refine (hone _).mono ?_; rintro e w' ⟨rfl, rfl⟩))
        go_round
        case rel => exact ⟨j + 1, X + P * 67108864, by omega, HR.out, by go_num, by go_num⟩
        case measure => simp [intOf] <;> omega
    · obtain rfl : j = 6 := by omega
      have hX2 : X = C % 64 * 67108864 := hX
      have hX1 : X < 4294967296 := by omega
      have HX := Lib.hid hX2
      clear hX hX2
      go_wp2
      go_loop [7, 9] (fun x i => ∃ j Y : Nat, j ≤ 24 ∧ Y = X + fpay V j ∧ i = .int .i64 j ∧ x = .int .u32 Y) (fun _ i => 24 - (intOf i).toNat)
      case atStart => exact ⟨0, X, by omega, by simp [fpay, Nat.mod_one], rfl, rfl⟩
      case round =>
        obtain ⟨j, Y, hj, hY, rfl, rfl⟩ := hrel
        have hX3 : X < 2 ^ 32 - 2 ^ 26 + 1 := by have := HX.out; omega
        have hl0 := fpay_lt V j hj
        have hY1 : Y < 4294967296 := by omega
        by_cases hlt : j < 24
        · have hl := fpay_lt V (j + 1) (by omega)
          have hP := npow_le_of j (by omega)
          have hP2 := npow_le_of (j + 2) (by omega)
          have hbit := refBit_any V j hp (by omega) (by omega)
          rw [bitZ_nat] at hbit
          have d1 : V / 2 ^ j % 2 = 0 ∨ V / 2 ^ j % 2 = 1 := by omega
          by_cases h14 : j < 14
          · have hst := fpay_lo V j h14
            have hone := refOne_any (j : Int) (by omega) (by omega)
            have eo : (2 : Int) ^ ((j : Int)).toNat = ((2 ^ j : Nat) : Int) := by rw [Int.toNat_natCast]; exact pow_cast _
            rw [eo] at hone
            clear eo hP2
            generalize V / 2 ^ j % 2 = b at *
            generalize 2 ^ j = P at *
            rcases d1 with rfl | rfl
            · have R : Y = X + fpay V (j + 1) := by omega
              have HR := Lib.hid R
              clear R hst hY
              go_wp2_with (first | (go_at_call 27; with_reducible refine (hbit _).mono ?_; rintro e w' ⟨rfl, rfl⟩) | (go_at_call 28; with_reducible refine (hone _).mono ?_; rintro e w' ⟨rfl, rfl⟩))
              go_round
              case rel => exact ⟨j + 1, Y, by omega, HR.out, by go_num, by go_num⟩
              case measure => simp [intOf] <;> omega
            · have R : Y + P = X + fpay V (j + 1) := by omega
              have hb : Y + P < 4294967296 := by omega
              have HR := Lib.hid R
              clear R hst hY
              go_wp2_with (first | (go_at_call 27; with_reducible refine (hbit _).mono ?_; rintro e w' ⟨rfl, rfl⟩) | (go_at_call 28; with_reducible refine (hone _).mono ?_; rintro e w' ⟨rfl, rfl⟩))
              go_round
              case rel => exact ⟨j + 1, Y + P, by omega, HR.out, by go_num, by go_num⟩
              case measure => simp [intOf] <;> omega
          · have hst := fpay_hi V j (by omega)
            have hone := refOne_any ((j : Int) + 2) (by omega) (by omega)
            have eo : (2 : Int) ^ ((j : Int) + 2).toNat = ((2 ^ (j + 2) : Nat) : Int) := by rw [show ((j : Int) + 2).toNat = j + 2 by omega]; exact pow_cast _
            rw [eo] at hone
            clear eo hP
            generalize V / 2 ^ j % 2 = b at *
            generalize 2 ^ (j + 2) = P at *
            rcases d1 with rfl | rfl
            · have R : Y = X + fpay V (j + 1) := by omega
              have HR := Lib.hid R
              clear R hst hY
              go_wp2_with (first | (go_at_call 27; with_reducible refine (hbit _).mono ?_; rintro e w' ⟨rfl, rfl⟩) | (go_at_call 28; with_reducible refine (hone _).mono ?_; rintro e w' ⟨rfl, rfl⟩))
              go_round
              case rel => exact ⟨j + 1, Y, by omega, HR.out, by go_num, by go_num⟩
              case measure => simp [intOf] <;> omega
            · have R : Y + P = X + fpay V (j + 1) := by omega
              have hb : Y + P < 4294967296 := by omega
              have HR := Lib.hid R
              clear R hst hY
              go_wp2_with (first | (go_at_call 27; with_reducible refine (hbit _).mono ?_; rintro e w' ⟨rfl, rfl⟩) | (go_at_call 28; with_reducible refine (hone _).mono ?_; rintro e w' ⟨rfl, rfl⟩))
              go_round
              case rel => exact ⟨j + 1, Y + P, by omega, HR.out, by go_num, by go_num⟩
              case measure => simp [intOf] <;> omega
        · obtain rfl : j = 24 := by omega
          have R : Y = C % 64 * 67108864 + fpay V 24 := by rw [hY, HX.out]
          have hYb : Y + 49152 < 4294967296 := by
            have : fpay V 24 < 2 ^ 26 - 49152 := by
              unfold fpay
              simp only [show min 24 14 = 14 by omega, show 24 - 14 = 10 by omega]
              omega
            omega
          have q1 : Q % 2 < 2 := by omega
          have q2 : Q / 2 % 2 < 2 := by omega
          have hF := HF.out
          rw [← R] at hF
          have HG := Lib.hid hF
          clear R hY hF HX
          generalize Q % 2 = b0 at *
          generalize Q / 2 % 2 = b1 at *
          go_wp2_with (first | (go_at_call 27; (first | with_reducible refine (hb0 _).mono ?_ | with_reducible refine (hb1 _).mono ?_); rintro e w' ⟨rfl, rfl⟩) | (go_at_call 28; (first | with_reducible refine (ho0 _).mono ?_ | with_reducible refine (ho1 _).mono ?_); rintro e w' ⟨rfl, rfl⟩))
          go_ret
          exact ⟨ret_int (by rw [← HG.out]; simp <;> omega), rfl⟩
end Go.Proofs.YtckgnmnfhkjpjaaDoor
