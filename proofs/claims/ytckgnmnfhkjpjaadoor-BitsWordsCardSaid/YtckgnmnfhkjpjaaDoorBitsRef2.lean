/- What Sext and Thirty of the document's answer return, for every argument of the Go types. -/
import Derived.Test.YtckgnmnfhkjpjaaDoorBitsRef
namespace Go.Proofs.YtckgnmnfhkjpjaaDoor
open Go.ChangeShapes Go.WideShapes Go.ChangeAt Go.RowKit

theorem refSext_any (v n : Int) (hv : isU32 v) : Still Tryd.prog 14 #[.int .u32 v, .int .i64 n] (.int .i64 (sextZ v n)) := by
  intro w
  by_cases h : 1 ≤ n ∧ n ≤ 32
  · have hs : sextZ v n = if 2 ^ (n.toNat - 1) ≤ v % 2 ^ n.toNat then v % 2 ^ n.toNat - 2 ^ n.toNat else v % 2 ^ n.toNat := if_pos h
    obtain ⟨h1, h2⟩ := h
    obtain ⟨V, rfl, hV⟩ := hv.nat
    obtain ⟨N, rfl⟩ : ∃ N : Nat, n = (N : Int) + 1 := ⟨(n - 1).toNat, by omega⟩
    have ht : ((N : Int) + 1).toNat = N + 1 := by omega
    rw [ht, Nat.add_sub_cancel] at hs
    have hz : ∃ S : Int, S = sextZ V ((N : Int) + 1) := ⟨_, rfl⟩
    obtain ⟨S, hS⟩ := hz
    rw [← hS] at hs ⊢
    have HS := Lib.hid hs
    clear hs hS
    go_enter Tryd.func14, Tryd.ntmps14
    go_wp2
    go_loop [6, 5, 7] (fun wt x i => ∃ (j : Nat) (X Y : Int), j ≤ N + 1 ∧ i = .int .i64 j ∧ x = .int .i64 X ∧ wt = .int .i64 Y ∧ (j ≤ N → X = ((V % 2 ^ j : Nat) : Int) ∧ Y = ((2 ^ j : Nat) : Int)) ∧ (j = N + 1 → X = S)) (fun _ _ i => N + 1 - (intOf i).toNat)
    case atStart => exact ⟨0, 0, 1, by omega, rfl, rfl, rfl, fun _ => ⟨by simp [Nat.mod_one], rfl⟩, fun h => by omega⟩
    case round =>
      obtain ⟨j, X, Y, hj, rfl, rfl, rfl, hA, hB⟩ := hrel
      by_cases hlt : j < N + 1
      · obtain ⟨hX, hY⟩ := hA (by omega)
        clear hA hB
        have hP := npow_le_of j (by omega)
        have hm := Nat.mod_lt V (show 0 < 2 ^ j by omega)
        have hst := mod_step V j
        have hbit := refBit_any V j hv (by omega) (by omega)
        rw [bitZ_nat] at hbit
        have d1 : V / 2 ^ j % 2 = 0 ∨ V / 2 ^ j % 2 = 1 := by omega
        have hX0 : 0 ≤ X := by omega
        have hX1 : X ≤ 4294967296 := by omega
        have hY0 : 0 ≤ Y := by omega
        have hY1 : Y ≤ 4294967296 := by omega
        by_cases hl : j < N
        · have hps : 2 ^ (j + 1) = 2 * 2 ^ j := by rw [Nat.pow_succ]; omega
          generalize V / 2 ^ j % 2 = b at *
          have hne : ¬ ((j : Int) = N) := by omega
          rcases d1 with rfl | rfl
          · have R1 : X = ((V % 2 ^ (j + 1) : Nat) : Int) := by rw [hst, hX]; simp
            have R2 : 2 * Y = ((2 ^ (j + 1) : Nat) : Int) := by omega
            have R := Lib.hid (And.intro R1 R2)
            clear R1 R2 hst hX hY hps hP hm
            go_wp2_with (go_at_call 27; with_reducible refine (hbit _).mono ?_; rintro e w' ⟨rfl, rfl⟩)
            go_round
            case rel => exact ⟨j + 1, X, 2 * Y, by omega, by go_num, by go_num, by go_num, fun _ => R.out, fun h => by omega⟩
            case measure => simp [intOf] <;> omega
          · have R1 : X + Y = ((V % 2 ^ (j + 1) : Nat) : Int) := by rw [hst, hX, hY]; simp
            have R2 : 2 * Y = ((2 ^ (j + 1) : Nat) : Int) := by omega
            have R := Lib.hid (And.intro R1 R2)
            clear R1 R2 hst hX hY hps hP hm
            go_wp2_with (go_at_call 27; with_reducible refine (hbit _).mono ?_; rintro e w' ⟨rfl, rfl⟩)
            go_round
            case rel => exact ⟨j + 1, X + Y, 2 * Y, by omega, by go_num, by go_num, by go_num, fun _ => R.out, fun h => by omega⟩
            case measure => simp [intOf] <;> omega
        · obtain rfl : j = N := by omega
          have e1 : (V : Int) % 2 ^ (j + 1) = ((V % 2 ^ (j + 1) : Nat) : Int) := by simp
          have e2 : (2 : Int) ^ j = ((2 ^ j : Nat) : Int) := by simp
          have e3 : (2 : Int) ^ (j + 1) = 2 * ((2 ^ j : Nat) : Int) := by rw [Int.pow_succ, e2]; omega
          have hs2 := HS.out
          rw [e1, e2, e3, hst] at hs2
          generalize V / 2 ^ j % 2 = b at *
          rcases d1 with rfl | rfl
          · rw [if_neg (by omega)] at hs2
            have R : X = S := by omega
            have HR := Lib.hid R
            clear R hs2 hst hX hY hP hm e1 e2 e3
            go_wp2_with (go_at_call 27; with_reducible refine (hbit _).mono ?_; rintro e w' ⟨rfl, rfl⟩)
            go_round
            case rel => exact ⟨j + 1, X, _, by omega, by go_num, by go_num, rfl, fun h => by omega, fun _ => HR.out⟩
            case measure => simp [intOf] <;> omega
          · rw [if_pos (by omega)] at hs2
            have R : X - Y = S := by omega
            have HR := Lib.hid R
            clear R hs2 hst hX hY hP hm e1 e2 e3
            go_wp2_with (go_at_call 27; with_reducible refine (hbit _).mono ?_; rintro e w' ⟨rfl, rfl⟩)
            go_round
            case rel => exact ⟨j + 1, X - Y, _, by omega, by go_num, by go_num, rfl, fun h => by omega, fun _ => HR.out⟩
            case measure => simp [intOf] <;> omega
      · obtain rfl : j = N + 1 := by omega
        obtain rfl := hB rfl
        clear hA hB
        go_wp2
        go_ret
        exact ⟨rfl, rfl⟩
  · have hs : sextZ v n = 0 := if_neg h
    have HS := Lib.hid hs
    clear hs
    by_cases h1 : 1 ≤ n
    all_goals
      go_enter Tryd.func14, Tryd.ntmps14
      go_wp2
      go_ret
      exact ⟨ret_int HS.out.symm, rfl⟩

theorem refThirty_any (v : Int) (hv : isU32 v) : Still Tryd.prog 22 #[.int .u32 v] (.int .u32 (thirtyZ v)) := by
  intro w
  obtain ⟨V, rfl, hV⟩ := hv.nat
  have hfin : ((gthi V 30 : Nat) : Int) = thirtyZ V := by
    unfold gthi thirtyZ
    simp only [show min 30 14 = 14 by omega, show 30 - 14 = 16 by omega]
    omega
  have HF := Lib.hid hfin
  clear hfin
  go_enter Tryd.func22, Tryd.ntmps22
  go_wp2
  go_loop [3, 4] (fun x i => ∃ j X : Nat, j ≤ 30 ∧ X = gthi V j ∧ i = .int .i64 j ∧ x = .int .u32 X) (fun _ i => 30 - (intOf i).toNat)
  case atStart => exact ⟨0, 0, by omega, by simp [gthi, Nat.mod_one], rfl, rfl⟩
  case round =>
    obtain ⟨j, X, hj, hX, rfl, rfl⟩ := hrel
    have hX1 : X < 4294967296 := by have := gthi_lt V j hj; omega
    by_cases hlt : j < 30
    · have hl := gthi_lt V (j + 1) (by omega)
      have hP := npow_le_of j (by omega)
      have hone := refOne_any (j : Int) (by omega) (by omega)
      have eo : (2 : Int) ^ ((j : Int)).toNat = ((2 ^ j : Nat) : Int) := by rw [Int.toNat_natCast]; exact pow_cast _
      rw [eo] at hone
      clear eo
      by_cases h14 : j < 14
      · have hst := gthi_lo V j h14
        have hbit := refBit_any V j hv (by omega) (by omega)
        rw [bitZ_nat] at hbit
        have d1 : V / 2 ^ j % 2 = 0 ∨ V / 2 ^ j % 2 = 1 := by omega
        generalize V / 2 ^ j % 2 = b at *
        generalize 2 ^ j = P at *
        rw [← hX] at hst
        rcases d1 with rfl | rfl
        · have HS := Lib.hid hst
          clear hst hX
          go_wp2_with (first | (go_at_call 27; with_reducible refine (hbit _).mono ?_; rintro e w' ⟨rfl, rfl⟩) | (go_at_call 28; with_reducible refine (hone _).mono ?_; rintro e w' ⟨rfl, rfl⟩))
          go_round
          case rel => exact ⟨j + 1, X, by omega, by rw [HS.out]; omega, by go_num, by go_num⟩
          case measure => simp [intOf] <;> omega
        · have hb : X + P < 4294967296 := by omega
          have HS := Lib.hid hst
          clear hst hX
          go_wp2_with (first | (go_at_call 27; with_reducible refine (hbit _).mono ?_; rintro e w' ⟨rfl, rfl⟩) | (go_at_call 28; with_reducible refine (hone _).mono ?_; rintro e w' ⟨rfl, rfl⟩))
          go_round
          case rel => exact ⟨j + 1, X + P, by omega, by rw [HS.out]; omega, by go_num, by go_num⟩
          case measure => simp [intOf] <;> omega
      · have hst := gthi_hi V j (by omega)
        have hbit := refBit_any V ((j : Int) + 2) hv (by omega) (by omega)
        have eb : bitZ V ((j : Int) + 2) = ((V / 2 ^ (j + 2) % 2 : Nat) : Int) := by
          rw [show (j : Int) + 2 = ((j + 2 : Nat) : Int) by omega, bitZ_nat]
        rw [eb] at hbit
        have d1 : V / 2 ^ (j + 2) % 2 = 0 ∨ V / 2 ^ (j + 2) % 2 = 1 := by omega
        clear eb
        generalize V / 2 ^ (j + 2) % 2 = b at *
        generalize 2 ^ j = P at *
        rw [← hX] at hst
        rcases d1 with rfl | rfl
        · have HS := Lib.hid hst
          clear hst hX
          go_wp2_with (first | (go_at_call 27; with_reducible refine (hbit _).mono ?_; rintro e w' ⟨rfl, rfl⟩) | (go_at_call 28; with_reducible refine (hone _).mono ?_; rintro e w' ⟨rfl, rfl⟩))
          go_round
          case rel => exact ⟨j + 1, X, by omega, by rw [HS.out]; omega, by go_num, by go_num⟩
          case measure => simp [intOf] <;> omega
        · have hb : X + P < 4294967296 := by omega
          have HS := Lib.hid hst
          clear hst hX
          go_wp2_with (first | (go_at_call 27; with_reducible refine (hbit _).mono ?_; rintro e w' ⟨rfl, rfl⟩) | (go_at_call 28; with_reducible refine (hone _).mono ?_; rintro e w' ⟨rfl, rfl⟩))
          go_round
          case rel => exact ⟨j + 1, X + P, by omega, by rw [HS.out]; omega, by go_num, by go_num⟩
          case measure => simp [intOf] <;> omega
    · obtain rfl : j = 30 := by omega
      have HX := Lib.hid hX
      clear hX
      go_wp2
      go_ret
      exact ⟨ret_int (by rw [HX.out]; exact HF.out), rfl⟩
end Go.Proofs.YtckgnmnfhkjpjaaDoor
