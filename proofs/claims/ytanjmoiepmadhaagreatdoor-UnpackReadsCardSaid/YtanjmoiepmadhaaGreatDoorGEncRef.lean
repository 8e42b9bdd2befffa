/- What Fits of the document's answer returns, for every argument of the Go types. · What none, Bit, one, Get and Put of the document's answer return; Bit and one for places below 41 and 32. · What Fits and Word of the document's answer return, for every argument of the Go types. · What Of, Low, Signed, Value, Fits of the document's answer return, for every op, number, instruction and address. · What power, Get and put of the document's answer return, for every instruction and kind of field. Written by wip/tools/gen_encpieces.py. · What pieces of the document's answer returns, for every op. Written by wip/tools/gen_encps.py. -/
import Derived.Test.YtanjmoiepmadhaaGreatDoorGInst
import Derived.Test.YtanjmoiepmadhaaGreatDoorGExt
import Derived.Test.YtanjmoiepmadhaaGreatDoorGOf
import Derived.Test.YtanjmoiepmadhaaGreatDoorGEncB
namespace Go.Proofs.YtanjmoiepmadhaaGreatDoor
section
set_option maxRecDepth 100000
open Go.ChangeShapes Go.WideShapes Go.ChangeAt Go.RowKit

theorem epow_succ (v : Int) (j : Nat) : v / 2 ^ (j + 1) = v / 2 ^ j / 2 := by
  rw [Int.pow_succ, ← Int.ediv_ediv_of_nonneg (Int.le_of_lt (Int.pow_pos (by decide)))]
theorem emod_succ (v : Int) (j : Nat) (h : v % 2 ^ j = 0) : v % 2 ^ (j + 1) = 0 ↔ v / 2 ^ j % 2 = 0 := by
  obtain ⟨k, rfl⟩ := Int.dvd_of_emod_eq_zero h
  have hp : (2 : Int) ^ j ≠ 0 := Int.ne_of_gt (Int.pow_pos (by decide))
  rw [Int.mul_ediv_cancel_left _ hp, Int.pow_succ, Int.mul_emod_mul_of_pos _ _ (Int.pow_pos (by decide))]
  constructor
  · intro h
    rcases Int.mul_eq_zero.1 h with h | h
    · exact absurd h hp
    · exact h
  · intro h; rw [h, Int.mul_zero]
theorem emod_le (v : Int) (i j : Nat) (hij : i ≤ j) (h : v % 2 ^ j = 0) : v % 2 ^ i = 0 := by
  obtain ⟨d, rfl⟩ : ∃ d, j = i + d := ⟨j - i, by omega⟩
  exact Int.emod_eq_zero_of_dvd (Int.dvd_trans ⟨2 ^ d, by rw [Int.pow_add]⟩ (Int.dvd_of_emod_eq_zero h))

theorem refFits_any (v n s : Int) (sg : Bool) (hv : isI v) : Still Tryz.prog 109 #[.int .i64 v, .int .i64 n, .int .i64 s, .bool sg] (.bool (fitsB v n s sg)) := by
  intro w
  obtain ⟨hv0, hv1⟩ := hv
  by_cases h : 1 ≤ n ∧ n ≤ 32 ∧ 0 ≤ s ∧ s ≤ 8
  · obtain ⟨h1, h2, h3, h4⟩ := h
    obtain ⟨S, rfl⟩ := Int.eq_ofNat_of_zero_le h3
    obtain ⟨N, rfl⟩ := Int.eq_ofNat_of_zero_le (show 0 ≤ n by omega)
    have hff : fitsB v N S sg = (decide (v % 2 ^ S = 0) && (if sg then decide (-2 ^ (N - 1) ≤ v / 2 ^ S) && decide (v / 2 ^ S < 2 ^ (N - 1)) else decide (0 ≤ v / 2 ^ S) && decide (v / 2 ^ S < 2 ^ N))) := by
      simp [fitsB, h1, h2, h3, h4]
    generalize fitsB v N S sg = r at *
    have HF := Lib.hid hff
    clear hff
    go_enter Tryz.func109, Tryz.ntmps109
    go_wp2
    go_loop [0, 9] (fun x i => ∃ (j : Nat) (X : Int), j ≤ S ∧ i = .int .i64 j ∧ x = .int .i64 X ∧ X = v / 2 ^ j ∧ v % 2 ^ j = 0 ∧ -9223372036854775808 ≤ X ∧ X ≤ 9223372036854775807) (fun _ i => S - (intOf i).toNat)
    case atStart => exact ⟨0, v, by omega, rfl, rfl, by simp, by simp [Int.emod_one], hv0, hv1⟩
    case round =>
      obtain ⟨j, X, hj, rfl, rfl, hX, hd, hX0, hX1⟩ := hrel
      by_cases hlt : j < S
      · have hs1 := emod_succ v j hd
        have hs2 := epow_succ v j
        rw [← hX] at hs1 hs2
        by_cases he : X % 2 = 0
        · have hm := tmod_of_dvd he
          have hq := tdiv_of_dvd he
          have R := Lib.hid (And.intro (hs1.2 he) hs2)
          clear hs1 hs2 hX hd he
          go_wp2
          go_round
          case rel => exact ⟨j + 1, X / 2, by omega, by go_num, by go_num, R.out.2.symm, R.out.1, by omega, by omega⟩
          case measure => simp [intOf] <;> omega
        · have hm : ¬ X.tmod 2 = 0 := fun h => he (dvd_of_tmod h)
          have hno : r = false := by
            rw [HF.out]
            have : ¬ v % 2 ^ S = 0 := fun h => he (hs1.1 (emod_le v (j + 1) S (by omega) h))
            simp [this]
          have HNO := Lib.hid hno
          clear hs1 hs2 hX hd he hno
          go_wp2
          go_ret
          exact ⟨ret_bool HNO.out.symm, rfl⟩
      · obtain rfl : j = S := by omega
        have R := Lib.hid (And.intro hX hd)
        clear hX hd
        go_wp2
        go_loop [10, 11] (fun x i => ∃ (k : Nat) (T : Int), k ≤ N ∧ i = .int .i64 k ∧ x = .int .i64 T ∧ T = 2 ^ k) (fun _ i => N - (intOf i).toNat)
        case atStart => exact ⟨0, 1, by omega, rfl, rfl, rfl⟩
        case round =>
          obtain ⟨k, T, hk, rfl, rfl, hT⟩ := hrel
          have hT2 : 1 ≤ T ∧ T ≤ 4294967296 := by rw [hT]; exact pow_le_of k (by omega)
          obtain ⟨hT3, hT4⟩ := hT2
          by_cases hl : k < N
          · have e1 : (2 : Int) ^ (k + 1) = 2 * T := by rw [Int.pow_succ, hT]; omega
            have E1 := Lib.hid e1
            clear e1 hT
            go_wp2
            go_round
            case rel => exact ⟨k + 1, 2 * T, by omega, by go_num, by go_num, E1.out.symm⟩
            case measure => simp [intOf] <;> omega
          · obtain rfl : k = N := by omega
            obtain ⟨M, rfl⟩ : ∃ M, k = M + 1 := ⟨k - 1, by omega⟩
            have e1 : (2 : Int) ^ (M + 1) = 2 * 2 ^ M := by rw [Int.pow_succ]; omega
            have e2 : T / 2 = 2 ^ M := by omega
            have hF := HF.out
            rw [Nat.add_sub_cancel, ← R.out.1, e1, ← e2] at hF
            have hF2 : r = if sg = true then decide (-(T / 2) ≤ X) && decide (X < T / 2) else decide (0 ≤ X) && decide (X < T) := by
              rw [hF, R.out.2, e2, hT, e1]; simp
            have HG := Lib.hid hF2
            clear hF hF2 e1 e2 hT
            cases sg
            all_goals
              go_wp2
              all_goals
                go_ret
                refine ⟨ret_bool ?_, rfl⟩
                rw [HG.out]
                simp
                try omega
  · have hf : fitsB v n s sg = false := by
      have : ¬ (1 ≤ n ∧ n ≤ 32 ∧ 0 ≤ s ∧ s ≤ 8) := h
      simp only [fitsB, Bool.and_eq_false_iff, decide_eq_false_iff_not]
      omega
    have HF := Lib.hid hf
    clear hf
    by_cases h1 : 1 ≤ n
    · by_cases h2 : n ≤ 32
      · by_cases h3 : 0 ≤ s
        all_goals
          go_enter Tryz.func109, Tryz.ntmps109
          go_wp2
          go_ret
          exact ⟨ret_bool HF.out.symm, rfl⟩
      · go_enter Tryz.func109, Tryz.ntmps109
        go_wp2
        go_ret
        exact ⟨ret_bool HF.out.symm, rfl⟩
    · go_enter Tryz.func109, Tryz.ntmps109
      go_wp2
      go_ret
      exact ⟨ret_bool HF.out.symm, rfl⟩
end
section
set_option maxRecDepth 100000
open Go.ChangeShapes Go.WideShapes Go.ChangeAt Go.RowKit

/-! ### the document's answers, bit by bit: coxlessref01 -/
theorem refNone_any (a n : Int) (ha : isI a) (hn : isI n) : Still Tryz.prog 43 #[.int .i64 a, .int .i64 n] (.bool (!fieldB a n)) := by
  intro w
  obtain ⟨a0, a1⟩ := ha
  obtain ⟨n0, n1⟩ := hn
  go_enter Tryz.func43, Tryz.ntmps43
  go_wp2
  all_goals
    go_ret
    refine ⟨ret_bool ?_, rfl⟩
    rw [Bool.eq_iff_iff]
    simp [fieldB]
    try omega

theorem refBit_any (v k : Int) (hv : isU32 v) (h0 : 0 ≤ k) (h1 : k ≤ 40) : Still Tryz.prog 44 #[.int .u32 v, .int .i64 k] (.int .u32 (bitZ v k)) := by
  intro w
  obtain ⟨V, rfl, hV⟩ := hv.nat
  obtain ⟨K, rfl⟩ := Int.eq_ofNat_of_zero_le h0
  rw [bitZ_nat]
  go_enter Tryz.func44, Tryz.ntmps44
  go_wp2
  go_loop [0, 5] (fun x i => ∃ j X : Nat, j ≤ K ∧ X = V / 2 ^ j ∧ i = .int .i64 j ∧ x = .int .u32 X) (fun _ i => K - (intOf i).toNat)
  case atStart => exact ⟨0, V, by omega, by simp, rfl, rfl⟩
  case round =>
    obtain ⟨j, X, hj, hX, rfl, rfl⟩ := hrel
    have e1 : V / 2 ^ (j + 1) = X / 2 := by rw [Nat.pow_succ, ← Nat.div_div_eq_div_mul, hX]
    have hle : X ≤ V := by rw [hX]; exact Nat.div_le_self _ _
    have E1 := Lib.hid e1
    have HX := Lib.hid hX
    clear e1 hX
    by_cases hlt : j < K
    · go_wp2
      go_round
      case rel => exact ⟨j + 1, X / 2, by omega, E1.out.symm, by go_num, by go_num⟩
      case measure => simp [intOf]; omega
    · obtain rfl : j = K := by omega
      go_wp2
      go_ret
      exact ⟨ret_int (by rw [HX.out]; simp), rfl⟩

theorem refOne_any (k : Int) (h0 : 0 ≤ k) (h1 : k < 32) : Still Tryz.prog 79 #[.int .i64 k] (.int .u32 (2 ^ k.toNat)) := by
  intro w
  obtain ⟨K, rfl⟩ := Int.eq_ofNat_of_zero_le h0
  rw [Int.toNat_natCast]
  go_enter Tryz.func79, Tryz.ntmps79
  go_wp2
  go_loop [3, 4] (fun x i => ∃ (j : Nat) (X : Int), j ≤ K ∧ X = 2 ^ j ∧ i = .int .i64 j ∧ x = .int .u32 X) (fun _ i => K - (intOf i).toNat)
  case atStart => exact ⟨0, 1, by omega, by simp, rfl, rfl⟩
  case round =>
    obtain ⟨j, X, hj, hX, rfl, rfl⟩ := hrel
    by_cases hlt : j < K
    · have e1 : (2 : Int) ^ (j + 1) = X * 2 := by rw [hX]; exact Int.pow_succ _ _
      have hc := pow_le_of (j + 1) (by omega)
      have hc2 := pow_le_of j (by omega)
      have hd : X < 2147483648 := by
        have : ∀ j : Nat, j < 31 → (2 : Int) ^ j < 2147483648 := by decide
        rw [hX]; exact this j (by omega)
      have hp : 0 ≤ X := by omega
      have E1 := Lib.hid e1
      clear e1 hX hc hc2
      go_wp2
      go_round
      case rel => exact ⟨j + 1, X * 2, by omega, E1.out.symm, by go_num, by first | rfl | (congr 1; omega) | go_num⟩
      case measure => simp [intOf]; omega
    · obtain rfl : j = K := by omega
      have HX := Lib.hid hX
      clear hX
      go_wp2
      go_ret
      exact ⟨ret_int HX.out, rfl⟩

theorem refGet_any (v a n : Int) (hv : isU32 v) (ha : isI a) (hn : isI n) : Still Tryz.prog 24 #[.int .u32 v, .int .i64 a, .int .i64 n] (.int .u32 (getZ v a n)) := by
  intro w
  have hnone := refNone_any a n ha hn
  by_cases h : fieldB a n = true
  · rw [h] at hnone
    obtain ⟨A, N, rfl, rfl, hs⟩ := fieldB_nat h
    obtain ⟨V, rfl, hV⟩ := hv.nat
    rw [getZ_nat _ _ _ hs]
    go_enter Tryz.func24, Tryz.ntmps24
    go_wp2_with (go_at_call 43; with_reducible refine (hnone _).mono ?_; rintro e w' ⟨rfl, rfl⟩)
    go_loop [7, 8] (fun x i => ∃ j X : Nat, j ≤ N ∧ X = V / 2 ^ (A + N - j) % 2 ^ j ∧ i = .int .i64 ((N : Int) - 1 - j) ∧ x = .int .u32 X) (fun _ i => (intOf i + 1).toNat)
    case atStart => exact ⟨0, 0, by omega, by simp [Nat.mod_one], by simp, rfl⟩
    case round =>
      obtain ⟨j, X, hj, hX, rfl, rfl⟩ := hrel
      by_cases hlt : j < N
      · have e1 : V / 2 ^ (A + N - (j + 1)) % 2 ^ (j + 1) = 2 * X + V / 2 ^ (A + N - (j + 1)) % 2 := by
          rw [hX, show A + N - j = (A + N - (j + 1)) + 1 by omega, Nat.pow_succ (m := A + N - (j + 1)), ← Nat.div_div_eq_div_mul, Nat.pow_succ, Nat.mul_comm (2 ^ j) 2, Nat.mod_mul]
          omega
        have hb : 2 * X + V / 2 ^ (A + N - (j + 1)) % 2 < 4294967296 := by
          rw [← e1]
          have := npow_le_of (j + 1) (by omega)
          have := Nat.mod_lt (V / 2 ^ (A + N - (j + 1))) (show 0 < 2 ^ (j + 1) by omega)
          omega
        have hbit := refBit_any V ((A : Int) + ((N : Int) - 1 - j)) hv (by omega) (by omega)
        have eb : bitZ V ((A : Int) + ((N : Int) - 1 - j)) = ((V / 2 ^ (A + N - (j + 1)) % 2 : Nat) : Int) := by
          rw [show (A : Int) + ((N : Int) - 1 - j) = ((A + N - (j + 1) : Nat) : Int) by omega, bitZ_nat]
        rw [eb] at hbit
        generalize V / 2 ^ (A + N - (j + 1)) % 2 = b at *
        have E1 := Lib.hid e1
        clear e1 hX eb
        go_wp2_with (go_at_call 44; with_reducible refine (hbit _).mono ?_; rintro e w' ⟨rfl, rfl⟩)
        go_round
        case rel => exact ⟨j + 1, 2 * X + b, by omega, E1.out.symm, by go_num, by go_num⟩
        case measure => simp [intOf]; omega
      · obtain rfl : j = N := by omega
        have HX := Lib.hid hX
        clear hX
        go_wp2
        go_ret
        exact ⟨ret_int (by rw [HX.out, Nat.add_sub_cancel]; simp), rfl⟩
  · have h' : fieldB a n = false := by simpa using h
    rw [h'] at hnone
    have hz : getZ v a n = 0 := if_neg h
    have HZ := Lib.hid hz
    clear hz
    go_enter Tryz.func24, Tryz.ntmps24
    go_wp2_with (go_at_call 43; with_reducible refine (hnone _).mono ?_; rintro e w' ⟨rfl, rfl⟩)
    go_ret
    exact ⟨ret_int HZ.out.symm, rfl⟩

end
section
set_option maxRecDepth 100000
open Go.ChangeShapes Go.WideShapes Go.ChangeAt Go.RowKit

theorem refWord_any (c p q : Int) (hc : isU8 c) (hp : isU32 p) (hq : isU8 q) : Still Tryz.prog 52 #[.int .u8 c, .int .u32 p, .int .u8 q] (.int .u32 (wordZ c p q)) := by
  intro w
  obtain ⟨C, rfl, hC⟩ := hc.u32.nat
  obtain ⟨V, rfl, hV⟩ := hp.nat
  obtain ⟨Q, rfl, hQ⟩ := hq.u32.nat
  have hC2 : C < 256 := by have := hc.2; omega
  have hQ2 : Q < 256 := by have := hq.2; omega
  have hfin : ((C % 64 * 67108864 + fpay V 24 + Q % 2 * 16384 + Q / 2 % 2 * 32768 : Nat) : Int) = wordZ C V Q := by
    unfold fpay wordZ
    simp only [show min 24 14 = 14 by omega, show 24 - 14 = 10 by omega]
    omega
  have HF := Lib.hid hfin
  clear hfin
  have hb0 := refBit_any (Q : Int) 0 hq.u32 (by omega) (by omega)
  have hb1 := refBit_any (Q : Int) 1 hq.u32 (by omega) (by omega)
  have ho0 := refOne_any 14 (by omega) (by omega)
  have ho1 := refOne_any 15 (by omega) (by omega)
  have e0 : bitZ Q 0 = ((Q % 2 : Nat) : Int) := by simp [bitZ]
  have e1 : bitZ Q 1 = ((Q / 2 % 2 : Nat) : Int) := by simp [bitZ]
  rw [e0] at hb0
  rw [e1] at hb1
  clear e0 e1
  go_enter Tryz.func52, Tryz.ntmps52
  go_wp2
  go_loop [7, 8] (fun x i => ∃ j X : Nat, j ≤ 6 ∧ X = C % 2 ^ j * 67108864 ∧ i = .int .i64 j ∧ x = .int .u32 X) (fun _ i => 6 - (intOf i).toNat)
  case atStart => exact ⟨0, 0, by omega, by simp [Nat.mod_one], rfl, rfl⟩
  case round =>
    obtain ⟨j, X, hj, hX, rfl, rfl⟩ := hrel
    by_cases hlt : j < 6
    · have hst := mod_step C j
      have hP := npow_le_of j (by omega)
      have hP2 : 2 ^ j ≤ 2 ^ 5 := Nat.pow_le_pow_right (by decide) (by omega)
      have hbit := refBit_any (C : Int) j hc.u32 (by omega) (by omega)
      have hone := refOne_any (26 + (j : Int)) (by omega) (by omega)
      have eo : (2 : Int) ^ (26 + (j : Int)).toNat = ((2 ^ j * 67108864 : Nat) : Int) := by
        rw [show (26 + (j : Int)).toNat = j + 26 by omega, pow_cast, Nat.pow_add]
      rw [bitZ_nat] at hbit
      rw [eo] at hone
      have d1 : C / 2 ^ j % 2 = 0 ∨ C / 2 ^ j % 2 = 1 := by omega
      have hm := Nat.mod_lt C (show 0 < 2 ^ j by omega)
      clear eo
      generalize C / 2 ^ j % 2 = b at *
      have hX1 : X < 4294967296 := by omega
      rcases d1 with rfl | rfl
      · have R : X = C % 2 ^ (j + 1) * 67108864 := by rw [hst, hX]; omega
        have HR := Lib.hid R
        clear R hst hX hm
        generalize 2 ^ j = P at *
        go_wp2_with (first | (go_at_call 44; with_reducible refine (hbit _).mono ?_; rintro e w' ⟨rfl, rfl⟩) | (go_at_call 79; with_reducible refine (hone _).mono ?_; rintro e w' ⟨rfl, rfl⟩))
        go_round
        case rel => exact ⟨j + 1, X, by omega, HR.out, by go_num, by go_num⟩
        case measure => simp [intOf] <;> omega
      · have R : X + 2 ^ j * 67108864 = C % 2 ^ (j + 1) * 67108864 := by rw [hst, hX]; omega
        have hb : X + 2 ^ j * 67108864 < 4294967296 := by
          have := Nat.mod_lt C (Nat.two_pow_pos (j + 1))
          have h6 : 2 ^ (j + 1) ≤ 2 ^ 6 := Nat.pow_le_pow_right (by decide) (by omega)
          omega
        have HR := Lib.hid R
        clear R hst hX hm
        generalize 2 ^ j = P at *
        go_wp2_with (first | (go_at_call 44; with_reducible refine (hbit _).mono ?_; rintro e w' ⟨rfl, rfl⟩) | (go_at_call 79; with_reducible refine (hone _).mono ?_; rintro e w' ⟨rfl, rfl⟩))
        go_round
        case rel => exact ⟨j + 1, X + P * 67108864, by omega, HR.out, by go_num, by go_num⟩
        case measure => simp [intOf] <;> omega
    · obtain rfl : j = 6 := by omega
      have hX2 : X = C % 64 * 67108864 := hX
      have hX1 : X < 4294967296 := by omega
      have HX := Lib.hid hX2
      clear hX hX2
      go_wp2
      go_loop [7, 9] (fun x i => ∃ j Y : Nat, j ≤ 24 ∧ Y = X + fpay V j ∧ i = .int .i64 j ∧ x = .int .u32 Y) (fun _ i => 24 - (intOf i).toNat)
      case atStart => exact ⟨0, X, by omega, by simp [fpay, Nat.mod_one], rfl, rfl⟩
      case round =>
        obtain ⟨j, Y, hj, hY, rfl, rfl⟩ := hrel
        have hX3 : X < 2 ^ 32 - 2 ^ 26 + 1 := by have := HX.out; omega
        have hl0 := fpay_lt V j hj
        have hY1 : Y < 4294967296 := by omega
        by_cases hlt : j < 24
        · have hl := fpay_lt V (j + 1) (by omega)
          have hP := npow_le_of j (by omega)
          have hP2 := npow_le_of (j + 2) (by omega)
          have hbit := refBit_any V j hp (by omega) (by omega)
          rw [bitZ_nat] at hbit
          have d1 : V / 2 ^ j % 2 = 0 ∨ V / 2 ^ j % 2 = 1 := by omega
          by_cases h14 : j < 14
          · have hst := fpay_lo V j h14
            have hone := refOne_any (j : Int) (by omega) (by omega)
            have eo : (2 : Int) ^ ((j : Int)).toNat = ((2 ^ j : Nat) : Int) := by rw [Int.toNat_natCast]; exact pow_cast _
            rw [eo] at hone
            clear eo hP2
            generalize V / 2 ^ j % 2 = b at *
            generalize 2 ^ j = P at *
            rcases d1 with rfl | rfl
            · have R : Y = X + fpay V (j + 1) := by omega
              have HR := Lib.hid R
              clear R hst hY
              go_wp2_with (first | (go_at_call 44; with_reducible refine (hbit _).mono ?_; rintro e w' ⟨rfl, rfl⟩) | (go_at_call 79; with_reducible refine (hone _).mono ?_; rintro e w' ⟨rfl, rfl⟩))
              go_round
              case rel => exact ⟨j + 1, Y, by omega, HR.out, by go_num, by go_num⟩
              case measure => simp [intOf] <;> omega
            · have R : Y + P = X + fpay V (j + 1) := by omega
              have hb : Y + P < 4294967296 := by omega
              have HR := Lib.hid R
              clear R hst hY
              go_wp2_with (first | (go_at_call 44; with_reducible refine (hbit _).mono ?_; rintro e w' ⟨rfl, rfl⟩) | (go_at_call 79; with_reducible refine (hone _).mono ?_; rintro e w' ⟨rfl, rfl⟩))
              go_round
              case rel => exact ⟨j + 1, Y + P, by omega, HR.out, by go_num, by go_num⟩
              case measure => simp [intOf] <;> omega
          · have hst := fpay_hi V j (by omega)
            have hone := refOne_any ((j : Int) + 2) (by omega) (by omega)
            have eo : (2 : Int) ^ ((j : Int) + 2).toNat = ((2 ^ (j + 2) : Nat) : Int) := by rw [show ((j : Int) + 2).toNat = j + 2 by omega]; exact pow_cast _
            rw [eo] at hone
            clear eo hP
            generalize V / 2 ^ j % 2 = b at *
            generalize 2 ^ (j + 2) = P at *
            rcases d1 with rfl | rfl
            · have R : Y = X + fpay V (j + 1) := by omega
              have HR := Lib.hid R
              clear R hst hY
              go_wp2_with (first | (go_at_call 44; with_reducible refine (hbit _).mono ?_; rintro e w' ⟨rfl, rfl⟩) | (go_at_call 79; with_reducible refine (hone _).mono ?_; rintro e w' ⟨rfl, rfl⟩))
              go_round
              case rel => exact ⟨j + 1, Y, by omega, HR.out, by go_num, by go_num⟩
              case measure => simp [intOf] <;> omega
            · have R : Y + P = X + fpay V (j + 1) := by omega
              have hb : Y + P < 4294967296 := by omega
              have HR := Lib.hid R
              clear R hst hY
              go_wp2_with (first | (go_at_call 44; with_reducible refine (hbit _).mono ?_; rintro e w' ⟨rfl, rfl⟩) | (go_at_call 79; with_reducible refine (hone _).mono ?_; rintro e w' ⟨rfl, rfl⟩))
              go_round
              case rel => exact ⟨j + 1, Y + P, by omega, HR.out, by go_num, by go_num⟩
              case measure => simp [intOf] <;> omega
        · obtain rfl : j = 24 := by omega
          have R : Y = C % 64 * 67108864 + fpay V 24 := by rw [hY, HX.out]
          have hYb : Y + 49152 < 4294967296 := by
            have : fpay V 24 < 2 ^ 26 - 49152 := by
              unfold fpay
              simp only [show min 24 14 = 14 by omega, show 24 - 14 = 10 by omega]
              omega
            omega
          have q1 : Q % 2 < 2 := by omega
          have q2 : Q / 2 % 2 < 2 := by omega
          have hF := HF.out
          rw [← R] at hF
          have HG := Lib.hid hF
          clear R hY hF HX
          generalize Q % 2 = b0 at *
          generalize Q / 2 % 2 = b1 at *
          go_wp2_with (first | (go_at_call 44; (first | with_reducible refine (hb0 _).mono ?_ | with_reducible refine (hb1 _).mono ?_); rintro e w' ⟨rfl, rfl⟩) | (go_at_call 79; (first | with_reducible refine (ho0 _).mono ?_ | with_reducible refine (ho1 _).mono ?_); rintro e w' ⟨rfl, rfl⟩))
          go_ret
          exact ⟨ret_int (by rw [← HG.out]; simp <;> omega), rfl⟩
end
section
set_option maxRecDepth 100000
open Go.ChangeShapes Go.WideShapes Go.ChangeAt Go.RowKit Go.Sort BigFrame

theorem tmod_neg {x m : Int} (h : x ≤ 0) : x.tmod m = -((-x) % m) := by
  have e : x = -(-x) := by omega
  rw [e, Int.neg_tmod, Int.tmod_eq_emod_of_nonneg (by omega), Int.neg_neg]
theorem tmod_low (x : Int) : (x.tmod 4294967296 < 0 ∧ x.tmod 4294967296 + 4294967296 = x % 4294967296) ∨ (0 ≤ x.tmod 4294967296 ∧ x.tmod 4294967296 = x % 4294967296) := by
  rcases Int.le_total 0 x with h | h
  · rw [Int.tmod_eq_emod_of_nonneg h]; omega
  · rw [tmod_neg h]; omega
theorem refLow_any (x : Int) : Still Tryz.prog 50 #[.int .i64 x] (.int .i64 (x % 4294967296)) := by
  intro w
  have hr0 : 0 ≤ x % 4294967296 ∧ x % 4294967296 < 4294967296 := by omega
  have ht := tmod_low x
  generalize x % 4294967296 = r at *
  rcases ht with ⟨h1, h2⟩ | ⟨h1, h2⟩
  · subst h2
    have h3 : -4294967296 ≤ x.tmod 4294967296 := by have := hr0.1; omega
    clear hr0
    go_enter Tryz.func50, Tryz.ntmps50
    go_wp2
    go_ret
    exact ⟨rfl, rfl⟩
  · subst h2
    have h3 := hr0.2
    clear hr0
    go_enter Tryz.func50, Tryz.ntmps50
    go_wp2
    go_ret
    exact ⟨rfl, rfl⟩
theorem refSigned_any (x : Int) : Still Tryz.prog 49 #[.int .i64 x] (.int .i64 (s32 x)) := by
  intro w
  have hl := refLow_any x
  have hr0 : 0 ≤ x % 4294967296 ∧ x % 4294967296 < 4294967296 := by omega
  obtain ⟨h0, h1⟩ := hr0
  by_cases h : 2147483648 ≤ x % 4294967296
  · have hv : s32 x = x % 4294967296 - 4294967296 := if_pos h
    rewrite [hv]
    clear hv
    generalize x % 4294967296 = r at *
    go_enter Tryz.func49, Tryz.ntmps49
    go_wp2_with (fail)
    refine (hl _).mono ?_
    rintro e w1 ⟨rfl, rfl⟩
    go_wp2
    go_ret
    exact ⟨rfl, rfl⟩
  · have hv : s32 x = x % 4294967296 := if_neg h
    rewrite [hv]
    clear hv
    generalize x % 4294967296 = r at *
    go_enter Tryz.func49, Tryz.ntmps49
    go_wp2_with (fail)
    refine (hl _).mono ?_
    rintro e w1 ⟨rfl, rfl⟩
    go_wp2
    go_ret
    exact ⟨rfl, rfl⟩
theorem vF_none (op : Int) (h : op < 1 ∨ 31 < op) : vF op = fZero ∧ vB op = false := by
  have e : opN op = 0 := by unfold opN isOp; rw [if_neg (by simp; omega)]
  unfold vF vB vfZ
  rw [e]
  exact ⟨rfl, rfl⟩
def vfOk (n : Nat) : Bool := (((vF (n : Int)).bits == 0) == !vB (n : Int)) && ((vF (n : Int)).ext == mayZ (n : Int)) && (vB (n : Int) == (decide (1 ≤ (vF (n : Int)).bits) && decide ((vF (n : Int)).bits ≤ 24) && ((vF (n : Int)).kind == 9 || (vF (n : Int)).kind == 10)))
theorem vf_ok : (List.range 32).all vfOk = true := by decide +kernel
theorem vf_op (op : Int) : ((vF op).bits == 0) = !vB op ∧ (vF op).ext = mayZ op := by
  by_cases h : op < 1 ∨ 31 < op
  · unfold mayZ; rw [(vF_none op h).1, (vF_none op h).2]; exact ⟨rfl, rfl⟩
  · obtain ⟨n, rfl⟩ := Int.eq_ofNat_of_zero_le (show 0 ≤ op by omega)
    have := List.all_eq_true.1 vf_ok n (List.mem_range.2 (by omega))
    unfold vfOk at this
    simp only [Bool.and_eq_true, beq_iff_eq] at this
    exact ⟨this.1.1, this.1.2⟩
section
attribute [local irreducible] World.cell?
set_option maxHeartbeats 8000000 in
theorem refOf_any (W : World) (op : Int) : Makes Tryz.prog W 47 #[.int .u8 op] (.agg #[.int .i64 (vF op).bits, .int .i64 (vF op).shift, .bool (vF op).sg, .bool (vF op).ext, .bool ((vF op).kind == 10)]) := by
  intro w hm
  have hz := hm.size
  have M := Lib.hid hm
  have hc : op = 1 ∨ op = 2 ∨ op = 3 ∨ op = 4 ∨ op = 5 ∨ op = 6 ∨ op = 7 ∨ op = 8 ∨ op = 9 ∨ op = 10 ∨ op = 11 ∨ op = 12 ∨ op = 13 ∨ op = 14 ∨ op = 15 ∨ op = 16 ∨ op = 17 ∨ op = 18 ∨ op = 19 ∨ op = 20 ∨ op = 21 ∨ op = 22 ∨ op = 23 ∨ op = 24 ∨ op = 25 ∨ op = 26 ∨ op = 27 ∨ op = 28 ∨ op = 29 ∨ op = 30 ∨ op = 31 ∨ (op < 1 ∨ 31 < op) := by omega
  clear hm
  rcases hc with rfl | rfl | rfl | rfl | rfl | rfl | rfl | rfl | rfl | rfl | rfl | rfl | rfl | rfl | rfl | rfl | rfl | rfl | rfl | rfl | rfl | rfl | rfl | rfl | rfl | rfl | rfl | rfl | rfl | rfl | rfl | hc
  · rewrite [show vF 1 = fZero by decide +kernel]
    go_enter Tryz.func47, Tryz.ntmps47
    go_wp2
    refine bodyPost_ret (v := .agg #[.int .i64 0, .int .i64 0, .bool false, .bool false, .bool false]) (by simp [results, Tryz.results47, go_sem]) rfl ?_
    exact ⟨rfl, M.out.alloc hz _⟩
  · rewrite [show vF 2 = fZero by decide +kernel]
    go_enter Tryz.func47, Tryz.ntmps47
    go_wp2
    refine bodyPost_ret (v := .agg #[.int .i64 0, .int .i64 0, .bool false, .bool false, .bool false]) (by simp [results, Tryz.results47, go_sem]) rfl ?_
    exact ⟨rfl, M.out.alloc hz _⟩
  · rewrite [show vF 3 = fZero by decide +kernel]
    go_enter Tryz.func47, Tryz.ntmps47
    go_wp2
    refine bodyPost_ret (v := .agg #[.int .i64 0, .int .i64 0, .bool false, .bool false, .bool false]) (by simp [results, Tryz.results47, go_sem]) rfl ?_
    exact ⟨rfl, M.out.alloc hz _⟩
  · rewrite [show vF 4 = fZero by decide +kernel]
    go_enter Tryz.func47, Tryz.ntmps47
    go_wp2
    refine bodyPost_ret (v := .agg #[.int .i64 0, .int .i64 0, .bool false, .bool false, .bool false]) (by simp [results, Tryz.results47, go_sem]) rfl ?_
    exact ⟨rfl, M.out.alloc hz _⟩
  · rewrite [show vF 5 = fZero by decide +kernel]
    go_enter Tryz.func47, Tryz.ntmps47
    go_wp2
    refine bodyPost_ret (v := .agg #[.int .i64 0, .int .i64 0, .bool false, .bool false, .bool false]) (by simp [results, Tryz.results47, go_sem]) rfl ?_
    exact ⟨rfl, M.out.alloc hz _⟩
  · rewrite [show vF 6 = fZero by decide +kernel]
    go_enter Tryz.func47, Tryz.ntmps47
    go_wp2
    refine bodyPost_ret (v := .agg #[.int .i64 0, .int .i64 0, .bool false, .bool false, .bool false]) (by simp [results, Tryz.results47, go_sem]) rfl ?_
    exact ⟨rfl, M.out.alloc hz _⟩
  · rewrite [show vF 7 = fI14 by decide +kernel]
    go_enter Tryz.func47, Tryz.ntmps47
    go_wp2
    refine bodyPost_ret (v := .agg #[.int .i64 14, .int .i64 0, .bool true, .bool true, .bool false]) (by simp [results, Tryz.results47, go_sem]) rfl ?_
    exact ⟨rfl, M.out.alloc hz _⟩
  · rewrite [show vF 8 = fI14 by decide +kernel]
    go_enter Tryz.func47, Tryz.ntmps47
    go_wp2
    refine bodyPost_ret (v := .agg #[.int .i64 14, .int .i64 0, .bool true, .bool true, .bool false]) (by simp [results, Tryz.results47, go_sem]) rfl ?_
    exact ⟨rfl, M.out.alloc hz _⟩
  · rewrite [show vF 9 = fZero by decide +kernel]
    go_enter Tryz.func47, Tryz.ntmps47
    go_wp2
    refine bodyPost_ret (v := .agg #[.int .i64 0, .int .i64 0, .bool false, .bool false, .bool false]) (by simp [results, Tryz.results47, go_sem]) rfl ?_
    exact ⟨rfl, M.out.alloc hz _⟩
  · rewrite [show vF 10 = fZero by decide +kernel]
    go_enter Tryz.func47, Tryz.ntmps47
    go_wp2
    refine bodyPost_ret (v := .agg #[.int .i64 0, .int .i64 0, .bool false, .bool false, .bool false]) (by simp [results, Tryz.results47, go_sem]) rfl ?_
    exact ⟨rfl, M.out.alloc hz _⟩
  · rewrite [show vF 11 = fZero by decide +kernel]
    go_enter Tryz.func47, Tryz.ntmps47
    go_wp2
    refine bodyPost_ret (v := .agg #[.int .i64 0, .int .i64 0, .bool false, .bool false, .bool false]) (by simp [results, Tryz.results47, go_sem]) rfl ?_
    exact ⟨rfl, M.out.alloc hz _⟩
  · rewrite [show vF 12 = fZero by decide +kernel]
    go_enter Tryz.func47, Tryz.ntmps47
    go_wp2
    refine bodyPost_ret (v := .agg #[.int .i64 0, .int .i64 0, .bool false, .bool false, .bool false]) (by simp [results, Tryz.results47, go_sem]) rfl ?_
    exact ⟨rfl, M.out.alloc hz _⟩
  · rewrite [show vF 13 = fI14 by decide +kernel]
    go_enter Tryz.func47, Tryz.ntmps47
    go_wp2
    refine bodyPost_ret (v := .agg #[.int .i64 14, .int .i64 0, .bool true, .bool true, .bool false]) (by simp [results, Tryz.results47, go_sem]) rfl ?_
    exact ⟨rfl, M.out.alloc hz _⟩
  · rewrite [show vF 14 = fZero by decide +kernel]
    go_enter Tryz.func47, Tryz.ntmps47
    go_wp2
    refine bodyPost_ret (v := .agg #[.int .i64 0, .int .i64 0, .bool false, .bool false, .bool false]) (by simp [results, Tryz.results47, go_sem]) rfl ?_
    exact ⟨rfl, M.out.alloc hz _⟩
  · rewrite [show vF 15 = fU5 by decide +kernel]
    go_enter Tryz.func47, Tryz.ntmps47
    go_wp2
    refine bodyPost_ret (v := .agg #[.int .i64 5, .int .i64 0, .bool false, .bool false, .bool false]) (by simp [results, Tryz.results47, go_sem]) rfl ?_
    exact ⟨rfl, M.out.alloc hz _⟩
  · rewrite [show vF 16 = fU5 by decide +kernel]
    go_enter Tryz.func47, Tryz.ntmps47
    go_wp2
    refine bodyPost_ret (v := .agg #[.int .i64 5, .int .i64 0, .bool false, .bool false, .bool false]) (by simp [results, Tryz.results47, go_sem]) rfl ?_
    exact ⟨rfl, M.out.alloc hz _⟩
  · rewrite [show vF 17 = fU5 by decide +kernel]
    go_enter Tryz.func47, Tryz.ntmps47
    go_wp2
    refine bodyPost_ret (v := .agg #[.int .i64 5, .int .i64 0, .bool false, .bool false, .bool false]) (by simp [results, Tryz.results47, go_sem]) rfl ?_
    exact ⟨rfl, M.out.alloc hz _⟩
  · rewrite [show vF 18 = fZero by decide +kernel]
    go_enter Tryz.func47, Tryz.ntmps47
    go_wp2
    refine bodyPost_ret (v := .agg #[.int .i64 0, .int .i64 0, .bool false, .bool false, .bool false]) (by simp [results, Tryz.results47, go_sem]) rfl ?_
    exact ⟨rfl, M.out.alloc hz _⟩
  · rewrite [show vF 19 = fZero by decide +kernel]
    go_enter Tryz.func47, Tryz.ntmps47
    go_wp2
    refine bodyPost_ret (v := .agg #[.int .i64 0, .int .i64 0, .bool false, .bool false, .bool false]) (by simp [results, Tryz.results47, go_sem]) rfl ?_
    exact ⟨rfl, M.out.alloc hz _⟩
  · rewrite [show vF 20 = fZero by decide +kernel]
    go_enter Tryz.func47, Tryz.ntmps47
    go_wp2
    refine bodyPost_ret (v := .agg #[.int .i64 0, .int .i64 0, .bool false, .bool false, .bool false]) (by simp [results, Tryz.results47, go_sem]) rfl ?_
    exact ⟨rfl, M.out.alloc hz _⟩
  · rewrite [show vF 21 = fI122 by decide +kernel]
    go_enter Tryz.func47, Tryz.ntmps47
    go_wp2
    refine bodyPost_ret (v := .agg #[.int .i64 12, .int .i64 2, .bool true, .bool true, .bool false]) (by simp [results, Tryz.results47, go_sem]) rfl ?_
    exact ⟨rfl, M.out.alloc hz _⟩
  · rewrite [show vF 22 = fI121 by decide +kernel]
    go_enter Tryz.func47, Tryz.ntmps47
    go_wp2
    refine bodyPost_ret (v := .agg #[.int .i64 12, .int .i64 1, .bool true, .bool true, .bool false]) (by simp [results, Tryz.results47, go_sem]) rfl ?_
    exact ⟨rfl, M.out.alloc hz _⟩
  · rewrite [show vF 23 = fI12 by decide +kernel]
    go_enter Tryz.func47, Tryz.ntmps47
    go_wp2
    refine bodyPost_ret (v := .agg #[.int .i64 12, .int .i64 0, .bool true, .bool true, .bool false]) (by simp [results, Tryz.results47, go_sem]) rfl ?_
    exact ⟨rfl, M.out.alloc hz _⟩
  · rewrite [show vF 24 = fI122 by decide +kernel]
    go_enter Tryz.func47, Tryz.ntmps47
    go_wp2
    refine bodyPost_ret (v := .agg #[.int .i64 12, .int .i64 2, .bool true, .bool true, .bool false]) (by simp [results, Tryz.results47, go_sem]) rfl ?_
    exact ⟨rfl, M.out.alloc hz _⟩
  · rewrite [show vF 25 = fI121 by decide +kernel]
    go_enter Tryz.func47, Tryz.ntmps47
    go_wp2
    refine bodyPost_ret (v := .agg #[.int .i64 12, .int .i64 1, .bool true, .bool true, .bool false]) (by simp [results, Tryz.results47, go_sem]) rfl ?_
    exact ⟨rfl, M.out.alloc hz _⟩
  · rewrite [show vF 26 = fI12 by decide +kernel]
    go_enter Tryz.func47, Tryz.ntmps47
    go_wp2
    refine bodyPost_ret (v := .agg #[.int .i64 12, .int .i64 0, .bool true, .bool true, .bool false]) (by simp [results, Tryz.results47, go_sem]) rfl ?_
    exact ⟨rfl, M.out.alloc hz _⟩
  · rewrite [show vF 27 = fR19 by decide +kernel]
    go_enter Tryz.func47, Tryz.ntmps47
    go_wp2
    refine bodyPost_ret (v := .agg #[.int .i64 19, .int .i64 2, .bool true, .bool true, .bool true]) (by simp [results, Tryz.results47, go_sem]) rfl ?_
    exact ⟨rfl, M.out.alloc hz _⟩
  · rewrite [show vF 28 = fZero by decide +kernel]
    go_enter Tryz.func47, Tryz.ntmps47
    go_wp2
    refine bodyPost_ret (v := .agg #[.int .i64 0, .int .i64 0, .bool false, .bool false, .bool false]) (by simp [results, Tryz.results47, go_sem]) rfl ?_
    exact ⟨rfl, M.out.alloc hz _⟩
  · rewrite [show vF 29 = fR24 by decide +kernel]
    go_enter Tryz.func47, Tryz.ntmps47
    go_wp2
    refine bodyPost_ret (v := .agg #[.int .i64 24, .int .i64 2, .bool true, .bool true, .bool true]) (by simp [results, Tryz.results47, go_sem]) rfl ?_
    exact ⟨rfl, M.out.alloc hz _⟩
  · rewrite [show vF 30 = fR12 by decide +kernel]
    go_enter Tryz.func47, Tryz.ntmps47
    go_wp2
    refine bodyPost_ret (v := .agg #[.int .i64 12, .int .i64 2, .bool true, .bool true, .bool true]) (by simp [results, Tryz.results47, go_sem]) rfl ?_
    exact ⟨rfl, M.out.alloc hz _⟩
  · rewrite [show vF 31 = fR12 by decide +kernel]
    go_enter Tryz.func47, Tryz.ntmps47
    go_wp2
    refine bodyPost_ret (v := .agg #[.int .i64 12, .int .i64 2, .bool true, .bool true, .bool true]) (by simp [results, Tryz.results47, go_sem]) rfl ?_
    exact ⟨rfl, M.out.alloc hz _⟩
  · rewrite [(vF_none op hc).1]
    have n7 : (op == 7) = false := beq_eq_false_iff_ne.2 (by omega)
    have n8 : (op == 8) = false := beq_eq_false_iff_ne.2 (by omega)
    have n13 : (op == 13) = false := beq_eq_false_iff_ne.2 (by omega)
    have n15 : (op == 15) = false := beq_eq_false_iff_ne.2 (by omega)
    have n16 : (op == 16) = false := beq_eq_false_iff_ne.2 (by omega)
    have n17 : (op == 17) = false := beq_eq_false_iff_ne.2 (by omega)
    have n21 : (op == 21) = false := beq_eq_false_iff_ne.2 (by omega)
    have n24 : (op == 24) = false := beq_eq_false_iff_ne.2 (by omega)
    have n22 : (op == 22) = false := beq_eq_false_iff_ne.2 (by omega)
    have n25 : (op == 25) = false := beq_eq_false_iff_ne.2 (by omega)
    have n23 : (op == 23) = false := beq_eq_false_iff_ne.2 (by omega)
    have n26 : (op == 26) = false := beq_eq_false_iff_ne.2 (by omega)
    have n27 : (op == 27) = false := beq_eq_false_iff_ne.2 (by omega)
    have n29 : (op == 29) = false := beq_eq_false_iff_ne.2 (by omega)
    have n30 : (op == 30) = false := beq_eq_false_iff_ne.2 (by omega)
    have n31 : (op == 31) = false := beq_eq_false_iff_ne.2 (by omega)
    clear hc
    go_enter Tryz.func47, Tryz.ntmps47
    go_wp2
    refine bodyPost_ret (v := .agg #[.int .i64 0, .int .i64 0, .bool false, .bool false, .bool false]) (by simp [results, Tryz.results47, go_sem]) rfl ?_
    exact ⟨rfl, M.out.alloc hz _⟩
theorem refValue_any (W : World) (x : In) (pc : Int) (hp : isU32 pc) : Makes Tryz.prog W 77 #[x.val, .int .u32 pc] (.tuple #[.int .i64 (valueP x pc), .bool (vB x.op)]) := by
  intro w hm
  have hz := hm.size
  have hcall := refOf_any (w.alloc (.cells x.cells.toArray 40)) x.op
  obtain ⟨p0, p1⟩ := hp
  obtain ⟨f, b, hf, hb⟩ : ∃ f b, vF x.op = f ∧ vB x.op = b := ⟨_, _, rfl, rfl⟩
  have hbit := (vf_op x.op).1
  have hv : valueP x pc = if b then valZ f x pc else 0 := by unfold valueP; rw [hf, hb]
  rewrite [hv, hb]
  rewrite [hf, hb] at hbit
  rewrite [hf] at hcall
  have M0 := Lib.hid (hm.alloc hz (.cells x.cells.toArray 40))
  have I0 := Lib.hid (show InAt _ _ _ from heap_alloc_new w (.cells x.cells.toArray 40))
  clear hf hb hv
  go_enter Tryz.func77, Tryz.ntmps77
  go_wp2_with (fail)
  refine (hcall _ (Made.refl _)).mono ?_
  rintro e w1 ⟨rfl, h1⟩
  have M1 := Lib.hid (Made.trans M0.out h1)
  have hi1 := h1.heap I0.out
  have hz1 := M1.out.size
  obtain ⟨a0, a1, a2, a3, a4, a5, a6, a7, a8, a9, a10⟩ := in_cells hi1
  have hlt := heap_lt hi1
  have Z1 := Lib.hid hz1
  clear h1 hi1 hz1 hcall
  cases b
  · have hbb : (f.bits == 0) = true := hbit
    clear hbit
    go_wp2_with (fail)
    refine bodyPost_ret (v := .tuple #[.int .i64 0, .bool false]) (by simp [results, Tryz.results77, go_sem]) rfl ?_
    exact ⟨rfl, M1.out.alloc Z1.out _⟩
  · have hbb : (f.bits == 0) = false := hbit
    clear hbit
    by_cases hk : f.kind = 10
    · have hkb : (f.kind == 10) = true := beq_iff_eq.2 hk
      have hvv : valZ f x pc = s32 (x.imm - pc) := if_pos hk
      have hs := refSigned_any (x.imm % 4294967296 - pc)
      rw [s32_sub] at hs
      have hr0 : 0 ≤ x.imm % 4294967296 ∧ x.imm % 4294967296 < 4294967296 := by omega
      obtain ⟨q0, q1⟩ := hr0
      have hl := refLow_any x.imm
      have HVV := Lib.hid hvv
      clear hk hvv
      generalize s32 (x.imm - pc) = sv at *
      generalize x.imm % 4294967296 = r at *
      go_wp2_with (fail)
      refine (hl _).mono ?_
      rintro e w2 ⟨rfl, rfl⟩
      go_wp2_with (fail)
      refine (hs _).mono ?_
      rintro e w2 ⟨rfl, rfl⟩
      go_wp2
      refine bodyPost_ret (v := .tuple #[.int .i64 sv, .bool true]) (by simp [results, Tryz.results77, go_sem]) rfl ?_
      exact ⟨by rw [HVV.out], M1.out.alloc Z1.out _⟩
    · have hkb : (f.kind == 10) = false := beq_eq_false_iff_ne.2 hk
      have hvv : valZ f x pc = x.imm := if_neg hk
      have HVV := Lib.hid hvv
      clear hk hvv
      go_wp2_with (fail)
      refine bodyPost_ret (v := .tuple #[.int .i64 x.imm, .bool true]) (by simp [results, Tryz.results77, go_sem]) rfl ?_
      exact ⟨by rw [HVV.out], M1.out.alloc Z1.out _⟩
theorem refFits5_any (W : World) (x : In) (hx : x.small) (pc : Int) (hp : isU32 pc) : Makes Tryz.prog W 76 #[x.val, .int .u32 pc] (.bool (fitP x pc)) := by
  intro w hm
  have hz := hm.size
  have hcall := refOf_any (w.alloc (.cells x.cells.toArray 40)) x.op
  have HV := Lib.hid (fun u => refValue_any u x pc hp)
  have hvb := valZ_bounds (vF x.op) x pc hx
  obtain ⟨f, b, hf, hb⟩ : ∃ f b, vF x.op = f ∧ vB x.op = b := ⟨_, _, rfl, rfl⟩
  obtain ⟨v, hvp⟩ : ∃ v, valueP x pc = v := ⟨_, rfl⟩
  have hv : b = true → v = valZ f x pc := by rw [← hvp, ← hb, ← hf]; intro h; unfold valueP; rw [if_pos h]
  have hft : fitP x pc = (!b || fitZ f x pc) := by unfold fitP; rw [hf, hb]
  rewrite [hft]
  rewrite [hf] at hcall hvb
  rewrite [hvp, hb] at HV
  have hfit := refFits_any (valZ f x pc) f.bits f.shift f.sg hvb
  have M0 := Lib.hid (hm.alloc hz (.cells x.cells.toArray 40))
  have I0 := Lib.hid (show InAt _ _ _ from heap_alloc_new w (.cells x.cells.toArray 40))
  have HW := Lib.hid hv
  clear hf hb hv hx hft hvb hvp
  go_enter Tryz.func76, Tryz.ntmps76
  go_wp2_with (fail)
  refine (hcall _ (Made.refl _)).mono ?_
  rintro e w1 ⟨rfl, h1⟩
  have M1 := Lib.hid (Made.trans M0.out h1)
  have hi1 := h1.heap I0.out
  have hz1 := M1.out.size
  obtain ⟨a0, a1, a2, a3, a4, a5, a6, a7, a8, a9, a10⟩ := in_cells hi1
  have hlt := heap_lt hi1
  have Z1 := Lib.hid hz1
  clear h1 hi1 hz1 hcall
  go_wp2_with (fail)
  refine (HV.out _ _ (Made.refl _)).mono ?_
  rintro e w2 ⟨rfl, h2⟩
  have hr := h2.heap (heap_alloc_new w1 _)
  obtain ⟨k0, k1, k2, k3, k4⟩ := row_cells hr
  have hlt2 := heap_lt hr
  have M2 := Lib.hid (Made.trans (M1.out.alloc Z1.out _) h2)
  clear h2 hr a0 a1 a2 a3 a4 a5 a6 a7 a8 a9 a10
  cases b
  · go_wp2_with (fail)
    go_ret
    exact ⟨rfl, M2.out⟩
  · obtain rfl : v = valZ f x pc := HW.out rfl
    go_wp2_with (fail)
    refine (hfit _).mono ?_
    rintro e w3 ⟨rfl, rfl⟩
    go_wp2
    go_ret
    exact ⟨rfl, M2.out⟩
end
end
section
set_option maxRecDepth 100000
open Go.ChangeShapes Go.WideShapes Go.ChangeAt Go.RowKit Go.Sort BigFrame

/-- The letter of a kind of field. -/
def letterZ (k : Int) : Int := if k = 1 then 109 else if k = 2 then 112 else if k = 3 then 100 else if k = 4 then 113 else if k = 5 then 115 else if k = 6 then 116 else if k = 7 then 110 else if k = 8 then 119 else if k = 9 then 118 else if k = 10 then 118 else if k = 11 then 99 else 0
theorem power_any (n : Int) (h0 : 0 ≤ n) (h1 : n ≤ 32) : Still Tryz.prog 46 #[.int .i64 n] (.int .i64 (2 ^ n.toNat)) := by
  intro w
  obtain ⟨N, rfl⟩ := Int.eq_ofNat_of_zero_le h0
  rw [Int.toNat_natCast]
  go_enter Tryz.func46, Tryz.ntmps46
  go_wp2
  go_loop [3, 4] (fun x i => ∃ (j : Nat) (X : Int), j ≤ N ∧ i = .int .i64 j ∧ x = .int .i64 X ∧ X = 2 ^ j) (fun _ i => N - (intOf i).toNat)
  case atStart => exact ⟨0, 1, by omega, rfl, rfl, rfl⟩
  case round =>
    obtain ⟨j, X, hj, rfl, rfl, hX⟩ := hrel
    have hX2 : 1 ≤ X ∧ X ≤ 4294967296 := by rw [hX]; exact pow_le_of j (by omega)
    obtain ⟨hX3, hX4⟩ := hX2
    by_cases hl : j < N
    · have e1 : (2 : Int) ^ (j + 1) = 2 * X := by rw [Int.pow_succ, hX]; omega
      have E1 := Lib.hid e1
      clear e1 hX
      go_wp2
      go_round
      case rel => exact ⟨j + 1, 2 * X, by omega, by go_num, by go_num, E1.out.symm⟩
      case measure => simp [intOf] <;> omega
    · obtain rfl : j = N := by omega
      have HX := Lib.hid hX
      clear hX
      go_wp2
      go_ret
      exact ⟨ret_int HX.out, rfl⟩
section
attribute [local irreducible] World.cell?
set_option maxHeartbeats 4000000 in
theorem refGet6_any (W : World) (x : In) (hx : x.small) (k : Int) (h0 : 1 ≤ k) (h1 : k ≤ 11) : Makes Tryz.prog W 78 #[x.val, .int .u8 (letterZ k)] (.int .u32 (numZ x k)) := by
  intro w hm
  have hz := hm.size
  have M := Lib.hid (hm.alloc hz (.cells x.cells.toArray 40))
  have mode0 := hx.mode0
  have mode1 := hx.mode1
  have pred0 := hx.pred0
  have pred1 := hx.pred1
  have d0 := hx.d0
  have d1 := hx.d1
  have s0 := hx.s0
  have s1 := hx.s1
  have t0 := hx.t0
  have t1 := hx.t1
  have n0 := hx.n0
  have n1 := hx.n1
  have count0 := hx.count0
  have count1 := hx.count1
  clear hx hm
  obtain ⟨xo, xd, xs, xt, xn, xp, xm, xw, xe, xc, xi⟩ := x
  have hc : k = 1 ∨ k = 2 ∨ k = 3 ∨ k = 4 ∨ k = 5 ∨ k = 6 ∨ k = 7 ∨ k = 8 ∨ k = 9 ∨ k = 10 ∨ k = 11 := by omega
  clear h0 h1
  rcases hc with rfl | rfl | rfl | rfl | rfl | rfl | rfl | rfl | rfl | rfl | rfl
  case inl =>
    rewrite [show letterZ 1 = 109 from rfl]
    go_enter Tryz.func78, Tryz.ntmps78
    go_wp2
    go_ret
    refine ⟨ret_int ?_, M.out⟩
    exact Int.emod_eq_of_lt (by omega) (by omega)
  case inr.inl =>
    rewrite [show letterZ 2 = 112 from rfl]
    go_enter Tryz.func78, Tryz.ntmps78
    go_wp2
    go_ret
    refine ⟨ret_int ?_, M.out⟩
    exact Int.emod_eq_of_lt (by omega) (by omega)
  case inr.inr.inl =>
    rewrite [show letterZ 3 = 100 from rfl]
    go_enter Tryz.func78, Tryz.ntmps78
    go_wp2
    go_ret
    refine ⟨ret_int ?_, M.out⟩
    exact Int.emod_eq_of_lt (by omega) (by omega)
  case inr.inr.inr.inl =>
    rewrite [show letterZ 4 = 113 from rfl]
    go_enter Tryz.func78, Tryz.ntmps78
    go_wp2
    go_ret
    refine ⟨ret_int ?_, M.out⟩
    exact Int.emod_eq_of_lt (by omega) (by omega)
  case inr.inr.inr.inr.inl =>
    rewrite [show letterZ 5 = 115 from rfl]
    go_enter Tryz.func78, Tryz.ntmps78
    go_wp2
    go_ret
    refine ⟨ret_int ?_, M.out⟩
    exact Int.emod_eq_of_lt (by omega) (by omega)
  case inr.inr.inr.inr.inr.inl =>
    rewrite [show letterZ 6 = 116 from rfl]
    go_enter Tryz.func78, Tryz.ntmps78
    go_wp2
    go_ret
    refine ⟨ret_int ?_, M.out⟩
    exact Int.emod_eq_of_lt (by omega) (by omega)
  case inr.inr.inr.inr.inr.inr.inl =>
    rewrite [show letterZ 7 = 110 from rfl]
    go_enter Tryz.func78, Tryz.ntmps78
    go_wp2
    go_ret
    refine ⟨ret_int ?_, M.out⟩
    exact Int.emod_eq_of_lt (by omega) (by omega)
  case inr.inr.inr.inr.inr.inr.inr.inl =>
    cases xw
    all_goals
      rewrite [show letterZ 8 = 119 from rfl]
      go_enter Tryz.func78, Tryz.ntmps78
      go_wp2
      go_ret
      exact ⟨rfl, M.out⟩
  case inr.inr.inr.inr.inr.inr.inr.inr.inl =>
    rewrite [show letterZ 9 = 118 from rfl]
    go_enter Tryz.func78, Tryz.ntmps78
    go_wp2
    go_ret
    exact ⟨rfl, M.out⟩
  case inr.inr.inr.inr.inr.inr.inr.inr.inr.inl =>
    rewrite [show letterZ 10 = 118 from rfl]
    go_enter Tryz.func78, Tryz.ntmps78
    go_wp2
    go_ret
    exact ⟨rfl, M.out⟩
  case inr.inr.inr.inr.inr.inr.inr.inr.inr.inr =>
    rewrite [show letterZ 11 = 99 from rfl]
    go_enter Tryz.func78, Tryz.ntmps78
    go_wp2
    go_ret
    refine ⟨ret_int ?_, M.out⟩
    exact Int.emod_eq_of_lt (by omega) (by omega)
set_option maxHeartbeats 4000000 in
theorem refPut6_any (W : World) (x : In) (k v : Int) (h0 : 1 ≤ k) (h1 : k ≤ 11) : Makes Tryz.prog W 48 #[x.val, .int .u8 (letterZ k), .int .u32 v] (setZ x k v).val := by
  intro w hm
  have hz := hm.size
  have K0 := Lib.hid (show Own W w.heap.size x (w.alloc (.cells x.cells.toArray 40)) from ⟨hm.alloc hz _, heap_alloc_new w _⟩)
  have J0 := Lib.hid (show InstAt W (w.heap.size + 1) w.heap.size x ((w.alloc (.cells x.cells.toArray 40)).alloc (.cells inZero.cells.toArray 40)) from ⟨⟨K0.out.made.alloc K0.out.made.size _, heap_at (by simp)⟩, Made.heap ((Made.refl _).alloc (Nat.le_refl _) _) K0.out.in_⟩)
  clear hm
  obtain ⟨L, hL⟩ : ∃ L, L = letterZ k := ⟨_, rfl⟩
  rewrite [← hL]
  have HL := Lib.hid hL
  clear hL
  go_enter Tryz.func48, Tryz.ntmps48
  go_upto_region 1 with (fail)
  refine name_world (fun u => InstAt W (w.heap.size + 1) w.heap.size x u) J0.out ?_
  intro u hu
  have KU := Lib.hid hu
  obtain ⟨a0, a1, a2, a3, a4, a5, a6, a7, a8, a9, a10⟩ := in_cells hu.in_
  obtain ⟨q0, q1, q2, q3, q4, q5, q6, q7, q8, q9, q10⟩ := in_cells hu.own.in_
  have fz := free_of_lit hu.in_
  have fq := free_of_lit hu.own.in_
  have hl := heap_lt hu.in_
  have hlq := heap_lt hu.own.in_
  clear hu J0 K0
  obtain ⟨xo, xd, xs, xt, xn, xp, xm, xw, xe, xc, xi⟩ := x
  have hc : k = 1 ∨ k = 2 ∨ k = 3 ∨ k = 4 ∨ k = 5 ∨ k = 6 ∨ k = 7 ∨ k = 8 ∨ k = 9 ∨ k = 10 ∨ k = 11 := by omega
  clear h0 h1
  rcases hc with rfl | rfl | rfl | rfl | rfl | rfl | rfl | rfl | rfl | rfl | rfl
  case inl =>
    obtain rfl : L = 109 := HL.out
    go_wp2
    refine bodyPost_ret (v := .agg #[.int .u8 xo, .int .u8 xd, .int .u8 xs, .int .u8 xt, .int .u8 xn, .int .u8 xp, .int .u8 (v % 256), .bool xw, .bool xe, .int .u16 xc, .int .i64 xi]) (by simp [results, Tryz.results48, go_sem, q0, q1, q2, q3, q4, q5, q6, q7, q8, q9, q10]) rfl ?_
    exact ⟨rfl, made_set11 (KU.out.own.made.setCell (p := ⟨w.heap.size, 6, none⟩) hz _) (by omega) _ _ _ _ _ _ _ _ _ _ _⟩
  case inr.inl =>
    obtain rfl : L = 112 := HL.out
    go_wp2
    refine bodyPost_ret (v := .agg #[.int .u8 xo, .int .u8 xd, .int .u8 xs, .int .u8 xt, .int .u8 xn, .int .u8 (v % 256), .int .u8 xm, .bool xw, .bool xe, .int .u16 xc, .int .i64 xi]) (by simp [results, Tryz.results48, go_sem, q0, q1, q2, q3, q4, q5, q6, q7, q8, q9, q10]) rfl ?_
    exact ⟨rfl, made_set11 (KU.out.own.made.setCell (p := ⟨w.heap.size, 5, none⟩) hz _) (by omega) _ _ _ _ _ _ _ _ _ _ _⟩
  case inr.inr.inl =>
    obtain rfl : L = 100 := HL.out
    go_wp2
    refine bodyPost_ret (v := .agg #[.int .u8 xo, .int .u8 (v % 256), .int .u8 xs, .int .u8 xt, .int .u8 xn, .int .u8 xp, .int .u8 xm, .bool xw, .bool xe, .int .u16 xc, .int .i64 xi]) (by simp [results, Tryz.results48, go_sem, q0, q1, q2, q3, q4, q5, q6, q7, q8, q9, q10]) rfl ?_
    exact ⟨rfl, made_set11 (KU.out.own.made.setCell (p := ⟨w.heap.size, 1, none⟩) hz _) (by omega) _ _ _ _ _ _ _ _ _ _ _⟩
  case inr.inr.inr.inl =>
    obtain rfl : L = 113 := HL.out
    go_wp2
    refine bodyPost_ret (v := .agg #[.int .u8 xo, .int .u8 (v % 256), .int .u8 xs, .int .u8 xt, .int .u8 xn, .int .u8 xp, .int .u8 xm, .bool xw, .bool xe, .int .u16 xc, .int .i64 xi]) (by simp [results, Tryz.results48, go_sem, q0, q1, q2, q3, q4, q5, q6, q7, q8, q9, q10]) rfl ?_
    exact ⟨rfl, made_set11 (KU.out.own.made.setCell (p := ⟨w.heap.size, 1, none⟩) hz _) (by omega) _ _ _ _ _ _ _ _ _ _ _⟩
  case inr.inr.inr.inr.inl =>
    obtain rfl : L = 115 := HL.out
    go_wp2
    refine bodyPost_ret (v := .agg #[.int .u8 xo, .int .u8 xd, .int .u8 (v % 256), .int .u8 xt, .int .u8 xn, .int .u8 xp, .int .u8 xm, .bool xw, .bool xe, .int .u16 xc, .int .i64 xi]) (by simp [results, Tryz.results48, go_sem, q0, q1, q2, q3, q4, q5, q6, q7, q8, q9, q10]) rfl ?_
    exact ⟨rfl, made_set11 (KU.out.own.made.setCell (p := ⟨w.heap.size, 2, none⟩) hz _) (by omega) _ _ _ _ _ _ _ _ _ _ _⟩
  case inr.inr.inr.inr.inr.inl =>
    obtain rfl : L = 116 := HL.out
    go_wp2
    refine bodyPost_ret (v := .agg #[.int .u8 xo, .int .u8 xd, .int .u8 xs, .int .u8 (v % 256), .int .u8 xn, .int .u8 xp, .int .u8 xm, .bool xw, .bool xe, .int .u16 xc, .int .i64 xi]) (by simp [results, Tryz.results48, go_sem, q0, q1, q2, q3, q4, q5, q6, q7, q8, q9, q10]) rfl ?_
    exact ⟨rfl, made_set11 (KU.out.own.made.setCell (p := ⟨w.heap.size, 3, none⟩) hz _) (by omega) _ _ _ _ _ _ _ _ _ _ _⟩
  case inr.inr.inr.inr.inr.inr.inl =>
    obtain rfl : L = 110 := HL.out
    go_wp2
    refine bodyPost_ret (v := .agg #[.int .u8 xo, .int .u8 xd, .int .u8 xs, .int .u8 xt, .int .u8 (v % 256), .int .u8 xp, .int .u8 xm, .bool xw, .bool xe, .int .u16 xc, .int .i64 xi]) (by simp [results, Tryz.results48, go_sem, q0, q1, q2, q3, q4, q5, q6, q7, q8, q9, q10]) rfl ?_
    exact ⟨rfl, made_set11 (KU.out.own.made.setCell (p := ⟨w.heap.size, 4, none⟩) hz _) (by omega) _ _ _ _ _ _ _ _ _ _ _⟩
  case inr.inr.inr.inr.inr.inr.inr.inl =>
    obtain rfl : L = 119 := HL.out
    go_wp2
    refine bodyPost_ret (v := .agg #[.int .u8 xo, .int .u8 xd, .int .u8 xs, .int .u8 xt, .int .u8 xn, .int .u8 xp, .int .u8 xm, .bool (v == 1), .bool xe, .int .u16 xc, .int .i64 xi]) (by simp [results, Tryz.results48, go_sem, q0, q1, q2, q3, q4, q5, q6, q7, q8, q9, q10]) rfl ?_
    exact ⟨rfl, made_set11 (KU.out.own.made.setCell (p := ⟨w.heap.size, 7, none⟩) hz _) (by omega) _ _ _ _ _ _ _ _ _ _ _⟩
  case inr.inr.inr.inr.inr.inr.inr.inr.inl =>
    obtain rfl : L = 118 := HL.out
    go_wp2
    refine bodyPost_ret (v := .agg #[.int .u8 xo, .int .u8 xd, .int .u8 xs, .int .u8 xt, .int .u8 xn, .int .u8 xp, .int .u8 xm, .bool xw, .bool xe, .int .u16 xc, .int .i64 xi]) (by simp [results, Tryz.results48, go_sem, q0, q1, q2, q3, q4, q5, q6, q7, q8, q9, q10]) rfl ?_
    exact ⟨rfl, made_set11 KU.out.own.made (by omega) _ _ _ _ _ _ _ _ _ _ _⟩
  case inr.inr.inr.inr.inr.inr.inr.inr.inr.inl =>
    obtain rfl : L = 118 := HL.out
    go_wp2
    refine bodyPost_ret (v := .agg #[.int .u8 xo, .int .u8 xd, .int .u8 xs, .int .u8 xt, .int .u8 xn, .int .u8 xp, .int .u8 xm, .bool xw, .bool xe, .int .u16 xc, .int .i64 xi]) (by simp [results, Tryz.results48, go_sem, q0, q1, q2, q3, q4, q5, q6, q7, q8, q9, q10]) rfl ?_
    exact ⟨rfl, made_set11 KU.out.own.made (by omega) _ _ _ _ _ _ _ _ _ _ _⟩
  case inr.inr.inr.inr.inr.inr.inr.inr.inr.inr =>
    obtain rfl : L = 99 := HL.out
    go_wp2
    refine bodyPost_ret (v := .agg #[.int .u8 xo, .int .u8 xd, .int .u8 xs, .int .u8 xt, .int .u8 xn, .int .u8 xp, .int .u8 xm, .bool xw, .bool xe, .int .u16 (IntKind.u16.wrap v), .int .i64 xi]) (by simp [results, Tryz.results48, go_sem, q0, q1, q2, q3, q4, q5, q6, q7, q8, q9, q10]) rfl ?_
    exact ⟨rfl, made_set11 (KU.out.own.made.setCell (p := ⟨w.heap.size, 9, none⟩) hz _) (by omega) _ _ _ _ _ _ _ _ _ _ _⟩
end
end
section
set_option maxRecDepth 100000
open Go.ChangeShapes Go.WideShapes Go.ChangeAt Go.RowKit Go.Sort BigFrame

/-- A row of pieces, cell by cell. -/
def flatP : List Fd → List Value
  | [] => []
  | f :: r => .int .u8 (letterZ f.kind) :: .int .i64 f.bits :: flatP r
def HoldsP (w : World) (p : Option Addr) (n cap : Nat) (fs : List Fd) : Prop :=
  n = fs.length ∧ (fs = [] ∨ ∃ b, p = some ⟨b, 0, none⟩ ∧ b < w.heap.size ∧ n ≤ cap ∧ cap ≤ maxLen ∧ ∀ j, j < fs.length * 2 → w.cell? ⟨b, j, none⟩ = (flatP fs)[j]?)
theorem HoldsP.made {w w' : World} {p : Option Addr} {n cap : Nat} {fs : List Fd} (h : HoldsP w p n cap fs) (hm : Made w w') : HoldsP w' p n cap fs := by
  obtain ⟨hn, h⟩ := h
  refine ⟨hn, ?_⟩
  rcases h with h | ⟨b, hp, hb, h1, h2, hc⟩
  · exact .inl h
  · exact .inr ⟨b, hp, Nat.lt_of_lt_of_le hb hm.size, h1, h2, fun j hj => (hm.cell (p := ⟨b, j, none⟩) hb).trans (hc j hj)⟩
def IsPs (W : World) (op : Int) (e : Ending) (w' : World) : Prop := ∃ p cap, e = .returned (.tuple #[.slice p (fieldsZ (opN op)).length cap, .bool (isOp op)]) ∧ Made W w' ∧ HoldsP w' p (fieldsZ (opN op)).length cap (fieldsZ (opN op))
theorem ps_mk {W v : World} {op : Int} (fs : List Fd) {k : Nat} {T : TypeId} {cs : Array Value} (hfs : fieldsZ (opN op) = fs) (hok : isOp op = true) (hm : Made W v) (hk : fs.length = k) (hc : cs = (flatP fs).toArray) (hs : k ≤ 5) :
    IsPs W op (.returned (.tuple #[.slice (some ⟨v.heap.size, 0, none⟩) k k, .bool true])) (v.alloc (.cells cs T)) := by
  subst hk
  subst hc
  refine ⟨some ⟨v.heap.size, 0, none⟩, fs.length, ?_, hm.alloc hm.size _, ?_⟩
  · rw [hfs, hok]
  · rw [hfs]
    refine ⟨rfl, .inr ⟨v.heap.size, rfl, by simp, Nat.le_refl _, by unfold maxLen; omega, fun j _ => ?_⟩⟩
    exact cell_of_lit (cs := flatP fs) (heap_alloc_new v (.cells (flatP fs).toArray T)) j
theorem ps_nil {W v : World} {op : Int} {ok : Bool} (hfs : fieldsZ (opN op) = []) (hok : isOp op = ok) (hm : Made W v) : IsPs W op (.returned (.tuple #[.slice none 0 0, .bool ok])) v := by
  refine ⟨none, 0, ?_, hm, ?_⟩
  · rw [hfs, hok]; rfl
  · rw [hfs]; exact ⟨rfl, .inl rfl⟩
theorem field5_bits (a b : Int) (c d e : Bool) (w : World) : (Instr.field 78 (.agg #[.int .i64 a, .int .i64 b, .bool c, .bool d, .bool e]) 0).run Tryz.prog w = .ok (.int .i64 a) w := by kernel_rfl
/-- The seven variables. -/
structure PVars (W : World) (w w1 : World) (B : Int) (u : World) : Prop where
  made : Made W u
  m : u.heap[w.heap.size]? = some (.cells #[.int .u8 109, .int .i64 3] 81 (0, 0))
  p : u.heap[w.heap.size + 1]? = some (.cells #[.int .u8 112, .int .i64 2] 81 (0, 0))
  d : u.heap[w.heap.size + 1 + 1]? = some (.cells #[.int .u8 100, .int .i64 5] 81 (0, 0))
  q : u.heap[w.heap.size + 1 + 1 + 1]? = some (.cells #[.int .u8 113, .int .i64 2] 81 (0, 0))
  s : u.heap[w.heap.size + 1 + 1 + 1 + 1]? = some (.cells #[.int .u8 115, .int .i64 5] 81 (0, 0))
  t : u.heap[w.heap.size + 1 + 1 + 1 + 1 + 1]? = some (.cells #[.int .u8 116, .int .i64 5] 81 (0, 0))
  v : u.heap[w1.heap.size]? = some (.cells #[.int .u8 118, .int .i64 B] 81 (0, 0))
theorem two_cells {w : World} {b : Nat} {T : TypeId} {v0 v1 : Value} (h : w.heap[b]? = some (.cells #[v0, v1] T (0, 0))) : w.cell? ⟨b, 0, none⟩ = some v0 ∧ w.cell? ⟨b, 1, none⟩ = some v1 :=
  ⟨cell_of_lit (cs := [v0, v1]) h 0, cell_of_lit (cs := [v0, v1]) h 1⟩
abbrev pvW (w : World) : World := (((((w.alloc (.cells #[.int .u8 109, .int .i64 3] 81)).alloc (.cells #[.int .u8 112, .int .i64 2] 81)).alloc (.cells #[.int .u8 100, .int .i64 5] 81)).alloc (.cells #[.int .u8 113, .int .i64 2] 81)).alloc (.cells #[.int .u8 115, .int .i64 5] 81)).alloc (.cells #[.int .u8 116, .int .i64 5] 81)
theorem pvW_made {W w : World} (h : Made W w) : Made W (pvW w) := by
  have h1 := h.alloc h.size (.cells #[.int .u8 109, .int .i64 3] 81)
  have h2 := h1.alloc h1.size (.cells #[.int .u8 112, .int .i64 2] 81)
  have h3 := h2.alloc h2.size (.cells #[.int .u8 100, .int .i64 5] 81)
  have h4 := h3.alloc h3.size (.cells #[.int .u8 113, .int .i64 2] 81)
  have h5 := h4.alloc h4.size (.cells #[.int .u8 115, .int .i64 5] 81)
  exact h5.alloc h5.size _
theorem heap_old {w : World} {o : Obj} {i : Nat} {x : Obj} (h : w.heap[i]? = some x) : (w.alloc o).heap[i]? = some x := (Below.heap_alloc w o i (heap_lt h)).trans h
theorem pvars_of {W w w1 : World} (B : Int) (h : Made W w) (h1 : Made (pvW w) w1) : PVars W w w1 B (w1.alloc (.cells #[.int .u8 118, .int .i64 B] 81)) := by
  have hm := Made.trans (pvW_made h) h1
  refine ⟨hm.alloc hm.size _, heap_old (h1.heap ?_), heap_old (h1.heap ?_), heap_old (h1.heap ?_), heap_old (h1.heap ?_), heap_old (h1.heap ?_), heap_old (h1.heap ?_), heap_alloc_new w1 _⟩
  · exact heap_old (heap_old (heap_old (heap_old (heap_old (heap_at rfl)))))
  · exact heap_old (heap_old (heap_old (heap_old (heap_at (by simp)))))
  · exact heap_old (heap_old (heap_old (heap_at (by simp))))
  · exact heap_old (heap_old (heap_at (by simp)))
  · exact heap_old (heap_at (by simp))
  · exact heap_at (by simp)
section
attribute [local irreducible] World.cell?
set_option maxRecDepth 100000 in
set_option maxHeartbeats 16000000 in
theorem pieces_any (W : World) (op : Int) (w : World) (hm : Made W w) : Calls Tryz.prog 45 #[.int .u8 op] w (IsPs W op) := by
  have hz := hm.size
  have HM := Lib.hid hm
  have hof := Lib.hid (fun u => refOf_any u op)
  have hfb := field5_bits
  obtain ⟨B, hB⟩ : ∃ B, B = (vF op).bits := ⟨_, rfl⟩
  rewrite [← hB] at hof
  have HB := Lib.hid hB
  clear hB hm
  go_enter Tryz.func45, Tryz.ntmps45
  go_wp2_with (fail)
  refine (hof.out _ _ (Made.refl _)).mono ?_
  rintro e w1 ⟨rfl, h1⟩
  have PV := Lib.hid (pvars_of B HM.out h1)
  clear h1
  go_upto_region 8 with (fail)
  refine name_world (fun u => PVars W w w1 B u) PV.out ?_
  intro u hu
  have KU := Lib.hid hu.made
  obtain ⟨m0, m1⟩ := two_cells hu.m
  obtain ⟨p0, p1⟩ := two_cells hu.p
  obtain ⟨d0, d1⟩ := two_cells hu.d
  obtain ⟨q0, q1⟩ := two_cells hu.q
  obtain ⟨s0, s1⟩ := two_cells hu.s
  obtain ⟨t0, t1⟩ := two_cells hu.t
  obtain ⟨v0, v1⟩ := two_cells hu.v
  clear hu PV
  have hc : op = 1 ∨ op = 2 ∨ op = 3 ∨ op = 4 ∨ op = 5 ∨ op = 6 ∨ op = 7 ∨ op = 8 ∨ op = 9 ∨ op = 10 ∨ op = 11 ∨ op = 12 ∨ op = 13 ∨ op = 14 ∨ op = 15 ∨ op = 16 ∨ op = 17 ∨ op = 18 ∨ op = 19 ∨ op = 20 ∨ op = 21 ∨ op = 22 ∨ op = 23 ∨ op = 24 ∨ op = 25 ∨ op = 26 ∨ op = 27 ∨ op = 28 ∨ op = 29 ∨ op = 30 ∨ op = 31 ∨ (op < 1 ∨ 31 < op) := by omega
  rcases hc with rfl | rfl | rfl | rfl | rfl | rfl | rfl | rfl | rfl | rfl | rfl | rfl | rfl | rfl | rfl | rfl | rfl | rfl | rfl | rfl | rfl | rfl | rfl | rfl | rfl | rfl | rfl | rfl | rfl | rfl | rfl | hc
  case inl =>
    obtain rfl : B = 0 := HB.out.trans (by decide +kernel)
    go_wp2
    go_ret2
    exact ps_nil rfl rfl KU.out
  case inr.inl =>
    obtain rfl : B = 0 := HB.out.trans (by decide +kernel)
    go_wp2
    go_ret2
    exact ps_mk [fMode, fPred, fD, fS, fT] rfl rfl KU.out rfl rfl (by decide)
  case inr.inr.inl =>
    obtain rfl : B = 0 := HB.out.trans (by decide +kernel)
    go_wp2
    go_ret2
    exact ps_mk [fMode, fPred, fD, fS, fT] rfl rfl KU.out rfl rfl (by decide)
  case inr.inr.inr.inl =>
    obtain rfl : B = 0 := HB.out.trans (by decide +kernel)
    go_wp2
    go_ret2
    exact ps_mk [fMode, fPred, fD, fS, fT] rfl rfl KU.out rfl rfl (by decide)
  case inr.inr.inr.inr.inl =>
    obtain rfl : B = 0 := HB.out.trans (by decide +kernel)
    go_wp2
    go_ret2
    exact ps_mk [fMode, fPred, fD, fS, fT] rfl rfl KU.out rfl rfl (by decide)
  case inr.inr.inr.inr.inr.inl =>
    obtain rfl : B = 0 := HB.out.trans (by decide +kernel)
    go_wp2
    go_ret2
    exact ps_mk [fMode, fPred, fD, fS, fT] rfl rfl KU.out rfl rfl (by decide)
  case inr.inr.inr.inr.inr.inr.inl =>
    obtain rfl : B = 14 := HB.out.trans (by decide +kernel)
    go_wp2
    go_ret2
    exact ps_mk [fD, fS, fI14] rfl rfl KU.out rfl rfl (by decide)
  case inr.inr.inr.inr.inr.inr.inr.inl =>
    obtain rfl : B = 14 := HB.out.trans (by decide +kernel)
    go_wp2
    go_ret2
    exact ps_mk [fMode, fPred, fD, fI14] rfl rfl KU.out rfl rfl (by decide)
  case inr.inr.inr.inr.inr.inr.inr.inr.inl =>
    obtain rfl : B = 0 := HB.out.trans (by decide +kernel)
    go_wp2
    go_ret2
    exact ps_mk [fMode, fPred, fD, fS] rfl rfl KU.out rfl rfl (by decide)
  case inr.inr.inr.inr.inr.inr.inr.inr.inr.inl =>
    obtain rfl : B = 0 := HB.out.trans (by decide +kernel)
    go_wp2
    go_ret2
    exact ps_mk [fDP, fS, fT] rfl rfl KU.out rfl rfl (by decide)
  case inr.inr.inr.inr.inr.inr.inr.inr.inr.inr.inl =>
    obtain rfl : B = 0 := HB.out.trans (by decide +kernel)
    go_wp2
    go_ret2
    exact ps_mk [fDP, fS, fT] rfl rfl KU.out rfl rfl (by decide)
  case inr.inr.inr.inr.inr.inr.inr.inr.inr.inr.inr.inl =>
    obtain rfl : B = 0 := HB.out.trans (by decide +kernel)
    go_wp2
    go_ret2
    exact ps_mk [fDP, fS, fT] rfl rfl KU.out rfl rfl (by decide)
  case inr.inr.inr.inr.inr.inr.inr.inr.inr.inr.inr.inr.inl =>
    obtain rfl : B = 14 := HB.out.trans (by decide +kernel)
    go_wp2
    go_ret2
    exact ps_mk [fDP, fS, fI14] rfl rfl KU.out rfl rfl (by decide)
  case inr.inr.inr.inr.inr.inr.inr.inr.inr.inr.inr.inr.inr.inl =>
    obtain rfl : B = 0 := HB.out.trans (by decide +kernel)
    go_wp2
    go_ret2
    exact ps_mk [fD, fPred, fS, fT] rfl rfl KU.out rfl rfl (by decide)
  case inr.inr.inr.inr.inr.inr.inr.inr.inr.inr.inr.inr.inr.inr.inl =>
    obtain rfl : B = 5 := HB.out.trans (by decide +kernel)
    go_wp2
    go_ret2
    exact ps_mk [fD, fS, fU5] rfl rfl KU.out rfl rfl (by decide)
  case inr.inr.inr.inr.inr.inr.inr.inr.inr.inr.inr.inr.inr.inr.inr.inl =>
    obtain rfl : B = 5 := HB.out.trans (by decide +kernel)
    go_wp2
    go_ret2
    exact ps_mk [fD, fS, fU5] rfl rfl KU.out rfl rfl (by decide)
  case inr.inr.inr.inr.inr.inr.inr.inr.inr.inr.inr.inr.inr.inr.inr.inr.inl =>
    obtain rfl : B = 5 := HB.out.trans (by decide +kernel)
    go_wp2
    go_ret2
    exact ps_mk [fD, fS, fU5] rfl rfl KU.out rfl rfl (by decide)
  case inr.inr.inr.inr.inr.inr.inr.inr.inr.inr.inr.inr.inr.inr.inr.inr.inr.inl =>
    obtain rfl : B = 0 := HB.out.trans (by decide +kernel)
    go_wp2
    go_ret2
    exact ps_mk [fD, fS, fT] rfl rfl KU.out rfl rfl (by decide)
  case inr.inr.inr.inr.inr.inr.inr.inr.inr.inr.inr.inr.inr.inr.inr.inr.inr.inr.inl =>
    obtain rfl : B = 0 := HB.out.trans (by decide +kernel)
    go_wp2
    go_ret2
    exact ps_mk [fD, fS, fT] rfl rfl KU.out rfl rfl (by decide)
  case inr.inr.inr.inr.inr.inr.inr.inr.inr.inr.inr.inr.inr.inr.inr.inr.inr.inr.inr.inl =>
    obtain rfl : B = 0 := HB.out.trans (by decide +kernel)
    go_wp2
    go_ret2
    exact ps_mk [fD, fS, fT] rfl rfl KU.out rfl rfl (by decide)
  case inr.inr.inr.inr.inr.inr.inr.inr.inr.inr.inr.inr.inr.inr.inr.inr.inr.inr.inr.inr.inl =>
    obtain rfl : B = 12 := HB.out.trans (by decide +kernel)
    go_wp2
    go_ret2
    exact ps_mk [fD, fS, fI122] rfl rfl KU.out rfl rfl (by decide)
  case inr.inr.inr.inr.inr.inr.inr.inr.inr.inr.inr.inr.inr.inr.inr.inr.inr.inr.inr.inr.inr.inl =>
    obtain rfl : B = 12 := HB.out.trans (by decide +kernel)
    go_wp2
    go_ret2
    exact ps_mk [fD, fS, fI121] rfl rfl KU.out rfl rfl (by decide)
  case inr.inr.inr.inr.inr.inr.inr.inr.inr.inr.inr.inr.inr.inr.inr.inr.inr.inr.inr.inr.inr.inr.inl =>
    obtain rfl : B = 12 := HB.out.trans (by decide +kernel)
    go_wp2
    go_ret2
    exact ps_mk [fD, fS, fI12] rfl rfl KU.out rfl rfl (by decide)
  case inr.inr.inr.inr.inr.inr.inr.inr.inr.inr.inr.inr.inr.inr.inr.inr.inr.inr.inr.inr.inr.inr.inr.inl =>
    obtain rfl : B = 12 := HB.out.trans (by decide +kernel)
    go_wp2
    go_ret2
    exact ps_mk [fS, fNew, fT, fI122] rfl rfl KU.out rfl rfl (by decide)
  case inr.inr.inr.inr.inr.inr.inr.inr.inr.inr.inr.inr.inr.inr.inr.inr.inr.inr.inr.inr.inr.inr.inr.inr.inl =>
    obtain rfl : B = 12 := HB.out.trans (by decide +kernel)
    go_wp2
    go_ret2
    exact ps_mk [fS, fNew, fT, fI121] rfl rfl KU.out rfl rfl (by decide)
  case inr.inr.inr.inr.inr.inr.inr.inr.inr.inr.inr.inr.inr.inr.inr.inr.inr.inr.inr.inr.inr.inr.inr.inr.inr.inl =>
    obtain rfl : B = 12 := HB.out.trans (by decide +kernel)
    go_wp2
    go_ret2
    exact ps_mk [fS, fNew, fT, fI12] rfl rfl KU.out rfl rfl (by decide)
  case inr.inr.inr.inr.inr.inr.inr.inr.inr.inr.inr.inr.inr.inr.inr.inr.inr.inr.inr.inr.inr.inr.inr.inr.inr.inr.inl =>
    obtain rfl : B = 19 := HB.out.trans (by decide +kernel)
    go_wp2
    go_ret2
    exact ps_mk [fMode, fPred, fR19] rfl rfl KU.out rfl rfl (by decide)
  case inr.inr.inr.inr.inr.inr.inr.inr.inr.inr.inr.inr.inr.inr.inr.inr.inr.inr.inr.inr.inr.inr.inr.inr.inr.inr.inr.inl =>
    obtain rfl : B = 0 := HB.out.trans (by decide +kernel)
    go_wp2
    go_ret2
    exact ps_mk [fMode, fPred, fS] rfl rfl KU.out rfl rfl (by decide)
  case inr.inr.inr.inr.inr.inr.inr.inr.inr.inr.inr.inr.inr.inr.inr.inr.inr.inr.inr.inr.inr.inr.inr.inr.inr.inr.inr.inr.inl =>
    obtain rfl : B = 24 := HB.out.trans (by decide +kernel)
    go_wp2
    go_ret2
    exact ps_mk [fR24] rfl rfl KU.out rfl rfl (by decide)
  case inr.inr.inr.inr.inr.inr.inr.inr.inr.inr.inr.inr.inr.inr.inr.inr.inr.inr.inr.inr.inr.inr.inr.inr.inr.inr.inr.inr.inr.inl =>
    obtain rfl : B = 12 := HB.out.trans (by decide +kernel)
    go_wp2
    go_ret2
    exact ps_mk [fN, fR12, fCount] rfl rfl KU.out rfl rfl (by decide)
  case inr.inr.inr.inr.inr.inr.inr.inr.inr.inr.inr.inr.inr.inr.inr.inr.inr.inr.inr.inr.inr.inr.inr.inr.inr.inr.inr.inr.inr.inr.inl =>
    obtain rfl : B = 12 := HB.out.trans (by decide +kernel)
    go_wp2
    go_ret2
    exact ps_mk [fN, fR12, fS] rfl rfl KU.out rfl rfl (by decide)
  case inr.inr.inr.inr.inr.inr.inr.inr.inr.inr.inr.inr.inr.inr.inr.inr.inr.inr.inr.inr.inr.inr.inr.inr.inr.inr.inr.inr.inr.inr.inr =>
    have n1 : (op == 1) = false := beq_eq_false_iff_ne.2 (by omega)
    have n2 : (op == 2) = false := beq_eq_false_iff_ne.2 (by omega)
    have n3 : (op == 3) = false := beq_eq_false_iff_ne.2 (by omega)
    have n4 : (op == 4) = false := beq_eq_false_iff_ne.2 (by omega)
    have n5 : (op == 5) = false := beq_eq_false_iff_ne.2 (by omega)
    have n6 : (op == 6) = false := beq_eq_false_iff_ne.2 (by omega)
    have n7 : (op == 7) = false := beq_eq_false_iff_ne.2 (by omega)
    have n8 : (op == 8) = false := beq_eq_false_iff_ne.2 (by omega)
    have n9 : (op == 9) = false := beq_eq_false_iff_ne.2 (by omega)
    have n10 : (op == 10) = false := beq_eq_false_iff_ne.2 (by omega)
    have n11 : (op == 11) = false := beq_eq_false_iff_ne.2 (by omega)
    have n12 : (op == 12) = false := beq_eq_false_iff_ne.2 (by omega)
    have n13 : (op == 13) = false := beq_eq_false_iff_ne.2 (by omega)
    have n14 : (op == 14) = false := beq_eq_false_iff_ne.2 (by omega)
    have n15 : (op == 15) = false := beq_eq_false_iff_ne.2 (by omega)
    have n16 : (op == 16) = false := beq_eq_false_iff_ne.2 (by omega)
    have n17 : (op == 17) = false := beq_eq_false_iff_ne.2 (by omega)
    have n18 : (op == 18) = false := beq_eq_false_iff_ne.2 (by omega)
    have n19 : (op == 19) = false := beq_eq_false_iff_ne.2 (by omega)
    have n20 : (op == 20) = false := beq_eq_false_iff_ne.2 (by omega)
    have n21 : (op == 21) = false := beq_eq_false_iff_ne.2 (by omega)
    have n22 : (op == 22) = false := beq_eq_false_iff_ne.2 (by omega)
    have n23 : (op == 23) = false := beq_eq_false_iff_ne.2 (by omega)
    have n24 : (op == 24) = false := beq_eq_false_iff_ne.2 (by omega)
    have n25 : (op == 25) = false := beq_eq_false_iff_ne.2 (by omega)
    have n26 : (op == 26) = false := beq_eq_false_iff_ne.2 (by omega)
    have n27 : (op == 27) = false := beq_eq_false_iff_ne.2 (by omega)
    have n28 : (op == 28) = false := beq_eq_false_iff_ne.2 (by omega)
    have n29 : (op == 29) = false := beq_eq_false_iff_ne.2 (by omega)
    have n30 : (op == 30) = false := beq_eq_false_iff_ne.2 (by omega)
    have n31 : (op == 31) = false := beq_eq_false_iff_ne.2 (by omega)
    have e1 : isOp op = false := by unfold isOp; simp; omega
    have e2 : fieldsZ (opN op) = [] := by unfold opN; rw [e1]; rfl
    have E := Lib.hid (And.intro e1 e2)
    clear e1 e2 hc
    go_wp2
    go_ret2
    exact ps_nil E.out.2 E.out.1 KU.out
end
end
end Go.Proofs.YtanjmoiepmadhaaGreatDoor
