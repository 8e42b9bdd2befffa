/- What Fits and Word of the document's answer return, for every argument of the Go types. -/
import Derived.Test.YtjeemiabddblhaaDoorBitsRef
import Derived.Test.YtjeemiabddblhaaDoorBitsRefFits
namespace Go.Proofs.YtjeemiabddblhaaDoor
open Go.ChangeShapes Go.WideShapes Go.ChangeAt Go.RowKit

theorem refWord_any (c p q : Int) (hc : isU8 c) (hp : isU32 p) (hq : isU8 q) : Still Tryd.prog 30 #[.int .u8 c, .int .u32 p, .int .u8 q] (.int .u32 (wordZ c p q)) := by
  intro w
  obtain ⟨C, rfl, hC⟩ := hc.u32.nat
  obtain ⟨V, rfl, hV⟩ := hp.nat
  obtain ⟨Q, rfl, hQ⟩ := hq.u32.nat
  have hC2 : C < 256 := by have := hc.2; omega
  have hQ2 : Q < 256 := by have := hq.2; omega
  have hfin : ((C % 64 * 67108864 + fpay V 24 + Q % 2 * 16384 + Q / 2 % 2 * 32768 : Nat) : Int) = wordZ C V Q := by
    unfold fpay wordZ
    simp only [show min 24 14 = 14 by omega, show 24 - 14 = 10 by omega]
    omega
  have HF := Lib.hid hfin
  clear hfin
  have hb0 := refBit_any (Q : Int) 0 hq.u32 (by omega) (by omega)
  have hb1 := refBit_any (Q : Int) 1 hq.u32 (by omega) (by omega)
  have ho0 := refOne_any 14 (by omega) (by omega)
  have ho1 := refOne_any 15 (by omega) (by omega)
  have e0 : bitZ Q 0 = ((Q % 2 : Nat) : Int) := by simp [bitZ]
  have e1 : bitZ Q 1 = ((Q / 2 % 2 : Nat) : Int) := by simp [bitZ]
  rw [e0] at hb0
  rw [e1] at hb1
  clear e0 e1
  go_enter Tryd.func30, Tryd.ntmps30
  go_wp2
  go_loop [7, 8] (fun x i => ∃ j X : Nat, j ≤ 6 ∧ X = C % 2 ^ j * 67108864 ∧ i = .int .i64 j ∧ x = .int .u32 X) (fun _ i => 6 - (intOf i).toNat)
  case atStart => exact ⟨0, 0, by omega, by simp [Nat.mod_one], rfl, rfl⟩
  case round =>
    obtain ⟨j, X, hj, hX, rfl, rfl⟩ := hrel
    by_cases hlt : j < 6
    · have hst := mod_step C j
      have hP := npow_le_of j (by omega)
      have hP2 : 2 ^ j ≤ 2 ^ 5 := Nat.pow_le_pow_right (by decide) (by omega)
      have hbit := refBit_any (C : Int) j hc.u32 (by omega) (by omega)
      have hone := refOne_any (26 + (j : Int)) (by omega) (by omega)
      have eo : (2 : Int) ^ (26 + (j : Int)).toNat = ((2 ^ j * 67108864 : Nat) : Int) := by
        rw [show (26 + (j : Int)).toNat = j + 26 by omega, pow_cast, Nat.pow_add]
      rw [bitZ_nat] at hbit
      rw [eo] at hone
      have d1 : C / 2 ^ j % 2 = 0 ∨ C / 2 ^ j % 2 = 1 := by omega
      have hm := Nat.mod_lt C (show 0 < 2 ^ j by omega)
      clear eo
      generalize C / 2 ^ j % 2 = b at *
      have hX1 : X < 4294967296 := by omega
      rcases d1 with rfl | rfl
      · have R : X = C % 2 ^ (j + 1) * 67108864 := by rw [hst, hX]; omega
        have HR := Lib.hid R
        clear R hst hX hm
        generalize 2 ^ j = P at *
        go_wp2_with (first | (go_at_call 48; with_reducible refine (hbit _).mono ?_; rintro e w' ⟨rfl, rfl⟩) | (go_at_call 49; with_reducible refine (hone _).mono ?_; rintro e w' ⟨rfl, rfl⟩))
        go_round
        case rel => exact ⟨j + 1, X, by omega, HR.out, by go_num, by go_num⟩
        case measure => simp [intOf] <;> omega
      · have R : X + 2 ^ j * 67108864 = C % 2 ^ (j + 1) * 67108864 := by rw [hst, hX]; omega
        have hb : X + 2 ^ j * 67108864 < 4294967296 := by
          have := Nat.mod_lt C (Nat.two_pow_pos (j + 1))
          have h6 : 2 ^ (j + 1) ≤ 2 ^ 6 := Nat.pow_le_pow_right (by decide) (by omega)
          omega
        have HR := Lib.hid R
        clear R hst hX hm
        generalize 2 ^ j = P at *
        go_wp2_with (first | (go_at_call 48; with_reducible refine (hbit _).mono ?_; rintro e w' ⟨rfl, rfl⟩) | (go_at_call 49; with_reducible refine (hone _).mono ?_; rintro e w' ⟨rfl, rfl⟩))
        go_round
        case rel => exact ⟨j + 1, X + P * 67108864, by omega, HR.out, by go_num, by go_num⟩
        case measure => simp [intOf] <;> omega
    · obtain rfl : j = 6 := by omega
      have hX2 : X = C % 64 * 67108864 := hX
      have hX1 : X < 4294967296 := by omega
      have HX := Lib.hid hX2
      clear hX hX2
      go_wp2
      go_loop [7, 9] (fun x i => ∃ j Y : Nat, j ≤ 24 ∧ Y = X + fpay V j ∧ i = .int .i64 j ∧ x = .int .u32 Y) (fun _ i => 24 - (intOf i).toNat)
      case atStart => exact ⟨0, X, by omega, by simp [fpay, Nat.mod_one], rfl, rfl⟩
      case round =>
        obtain ⟨j, Y, hj, hY, rfl, rfl⟩ := hrel
        have hX3 : X < 2 ^ 32 - 2 ^ 26 + 1 := by have := HX.out; omega
        have hl0 := fpay_lt V j hj
        have hY1 : Y < 4294967296 := by omega
        by_cases hlt : j < 24
        · have hl := fpay_lt V (j + 1) (by omega)
          have hP := npow_le_of j (by omega)
          have hP2 := npow_le_of (j + 2) (by omega)
          have hbit := refBit_any V j hp (by omega) (by omega)
          rw [bitZ_nat] at hbit
          have d1 : V / 2 ^ j % 2 = 0 ∨ V / 2 ^ j % 2 = 1 := by omega
          by_cases h14 : j < 14
          · have hst := fpay_lo V j h14
            have hone := refOne_any (j : Int) (by omega) (by omega)
            have eo : (2 : Int) ^ ((j : Int)).toNat = ((2 ^ j : Nat) : Int) := by rw [Int.toNat_natCast]; exact pow_cast _
            rw [eo] at hone
            clear eo hP2
            generalize V / 2 ^ j % 2 = b at *
            generalize 2 ^ j = P at *
            rcases d1 with rfl | rfl
            · have R : Y = X + fpay V (j + 1) := by omega
              have HR := Lib.hid R
              clear R hst hY
              go_wp2_with (first | (go_at_call 48; with_reducible refine (hbit _).mono ?_; rintro e w' ⟨rfl, rfl⟩) | (go_at_call 49; with_reducible refine (hone _).mono ?_; rintro e w' ⟨rfl, rfl⟩))
              go_round
              case rel => exact ⟨j + 1, Y, by omega, HR.out, by go_num, by go_num⟩
              case measure => simp [intOf] <;> omega
            · have R : Y + P = X + fpay V (j + 1) := by omega
              have hb : Y + P < 4294967296 := by omega
              have HR := Lib.hid R
              clear R hst hY
              go_wp2_with (first | (go_at_call 48; with_reducible refine (hbit _).mono ?_; rintro e w' ⟨rfl, rfl⟩) | (go_at_call 49; with_reducible refine (hone _).mono ?_; rintro e w' ⟨rfl, rfl⟩))
              go_round
              case rel => exact ⟨j + 1, Y + P, by omega, HR.out, by go_num, by go_num⟩
              case measure => simp [intOf] <;> omega
          · have hst := fpay_hi V j (by omega)
            have hone := refOne_any ((j : Int) + 2) (by omega) (by omega)
            have eo : (2 : Int) ^ ((j : Int) + 2).toNat = ((2 ^ (j + 2) : Nat) : Int) := by rw [show ((j : Int) + 2).toNat = j + 2 by omega]; exact pow_cast _
            rw [eo] at hone
            clear eo hP
            generalize V / 2 ^ j % 2 = b at *
            generalize 2 ^ (j + 2) = P at *
            rcases d1 with rfl | rfl
            · have R : Y = X + fpay V (j + 1) := by omega
              have HR := Lib.hid R
              clear R hst hY
              go_wp2_with (first | (go_at_call 48; with_reducible refine (hbit _).mono ?_; rintro e w' ⟨rfl, rfl⟩) | (go_at_call 49; with_reducible refine (hone _).mono ?_; rintro e w' ⟨rfl, rfl⟩))
              go_round
              case rel => exact ⟨j + 1, Y, by omega, HR.out, by go_num, by go_num⟩
              case measure => simp [intOf] <;> omega
            · have R : Y + P = X + fpay V (j + 1) := by omega
              have hb : Y + P < 4294967296 := by omega
              have HR := Lib.hid R
              clear R hst hY
              go_wp2_with (first | (go_at_call 48; with_reducible refine (hbit _).mono ?_; rintro e w' ⟨rfl, rfl⟩) | (go_at_call 49; with_reducible refine (hone _).mono ?_; rintro e w' ⟨rfl, rfl⟩))
              go_round
              case rel => exact ⟨j + 1, Y + P, by omega, HR.out, by go_num, by go_num⟩
              case measure => simp [intOf] <;> omega
        · obtain rfl : j = 24 := by omega
          have R : Y = C % 64 * 67108864 + fpay V 24 := by rw [hY, HX.out]
          have hYb : Y + 49152 < 4294967296 := by
            have : fpay V 24 < 2 ^ 26 - 49152 := by
              unfold fpay
              simp only [show min 24 14 = 14 by omega, show 24 - 14 = 10 by omega]
              omega
            omega
          have q1 : Q % 2 < 2 := by omega
          have q2 : Q / 2 % 2 < 2 := by omega
          have hF := HF.out
          rw [← R] at hF
          have HG := Lib.hid hF
          clear R hY hF HX
          generalize Q % 2 = b0 at *
          generalize Q / 2 % 2 = b1 at *
          go_wp2_with (first | (go_at_call 48; (first | with_reducible refine (hb0 _).mono ?_ | with_reducible refine (hb1 _).mono ?_); rintro e w' ⟨rfl, rfl⟩) | (go_at_call 49; (first | with_reducible refine (ho0 _).mono ?_ | with_reducible refine (ho1 _).mono ?_); rintro e w' ⟨rfl, rfl⟩))
          go_ret
          exact ⟨ret_int (by rw [← HG.out]; simp <;> omega), rfl⟩
end Go.Proofs.YtjeemiabddblhaaDoor
