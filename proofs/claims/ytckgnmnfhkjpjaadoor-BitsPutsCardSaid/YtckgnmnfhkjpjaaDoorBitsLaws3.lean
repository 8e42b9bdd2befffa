/- BitsPuts returns true, for every argument, in every world that holds the table of pieces. -/
import Derived.Test.YtckgnmnfhkjpjaaDoorBitsLaws
namespace Go.Proofs.YtckgnmnfhkjpjaaDoor
open Go.ChangeShapes Go.WideShapes Go.ChangeAt Go.RowKit

/-! what is put is got -/
theorem sput_testBit (W A V N : Nat) (i : Nat) : (sput W A V N).testBit i = if i < A then W.testBit i else if i < A + N then V.testBit (i - A) else W.testBit i := by
  have hp : 0 < 2 ^ N := Nat.two_pow_pos _
  have hq : 0 < 2 ^ A := Nat.two_pow_pos _
  have l1 : W % 2 ^ A < 2 ^ A := Nat.mod_lt _ hq
  have l2 : V % 2 ^ N < 2 ^ N := Nat.mod_lt _ hp
  have e : sput W A V N = 2 ^ A * (2 ^ N * (W / 2 ^ (A + N)) + V % 2 ^ N) + W % 2 ^ A := by
    unfold sput
    rw [Nat.mul_add, ← Nat.mul_assoc, ← Nat.pow_add, Nat.mul_comm (2 ^ (A + N)), Nat.mul_comm (2 ^ A) (V % 2 ^ N)]
  rw [e, Nat.testBit_two_pow_mul_add _ l1]
  split
  · rename_i h1; rw [Nat.testBit_mod_two_pow]; simp [h1]
  · rename_i h1
    rw [Nat.testBit_two_pow_mul_add _ l2]
    by_cases h2 : i < A + N
    · have h3 : i - A < N := by omega
      rw [if_pos h3, if_pos h2, Nat.testBit_mod_two_pow]; simp [h3]
    · have h3 : ¬ i - A < N := by omega
      rw [if_neg h3, if_neg h2, Nat.testBit_div_two_pow]; congr 1; omega
theorem nget_testBit (W A N i : Nat) : (W / 2 ^ A % 2 ^ N).testBit i = (decide (i < N) && W.testBit (A + i)) := by
  rw [Nat.testBit_mod_two_pow, Nat.testBit_div_two_pow, Nat.add_comm i A]
theorem put_got (W A V N : Nat) : sput W A V N / 2 ^ A % 2 ^ N = V / 2 ^ 0 % 2 ^ N := by
  refine Nat.eq_of_testBit_eq fun i => ?_
  rw [nget_testBit, nget_testBit, sput_testBit]
  by_cases h : i < N
  · rw [if_neg (by omega), if_pos (by omega), Nat.add_sub_cancel_left, Nat.zero_add]
  · simp [h]
theorem put_twice (W A V N : Nat) : sput (sput W A V N) A V N = sput W A V N := by
  refine Nat.eq_of_testBit_eq fun i => ?_
  rw [sput_testBit, sput_testBit]
  by_cases h : i < A
  · simp [h]
  · by_cases h2 : i < A + N
    · simp [h, h2]
    · simp [h, h2]
theorem put_same (W A N : Nat) : sput W A (W / 2 ^ A % 2 ^ N) N = W := by
  refine Nat.eq_of_testBit_eq fun i => ?_
  rw [sput_testBit, nget_testBit]
  by_cases h : i < A
  · simp [h]
  · by_cases h2 : i < A + N
    · have : i - A < N := by omega
      simp [h, h2, this]; congr 1; omega
    · simp [h, h2]
theorem put_other (W A V N B L : Nat) (h : A + N ≤ B ∨ B + L ≤ A) : sput W A V N / 2 ^ B % 2 ^ L = W / 2 ^ B % 2 ^ L := by
  refine Nat.eq_of_testBit_eq fun i => ?_
  rw [nget_testBit, nget_testBit, sput_testBit]
  by_cases hi : i < L
  · by_cases h1 : B + i < A
    · simp [h1]
    · have : ¬ B + i < A + N := by omega
      simp [h1, this]
  · simp [hi]

namespace bitsPuts
set_option maxHeartbeats 400000 in
theorem core (W : World) (hp : Pieces W) (V X A N B L : Nat) (hV : V < 4294967296) (hX : X < 4294967296) (hs : A + N ≤ 32) (ht : B + L ≤ 32)
    (a2 a3 a4 a5 : Int) (eA : a2 % 33 = A) (eN : a3 % (33 - (A : Int)) = N) (eB : a4 % 33 = B) (eL : a5 % (33 - (B : Int)) = L)
    (h2 : 0 ≤ a2) (h3 : 0 ≤ a3) (h4 : 0 ≤ a4) (h5 : 0 ≤ a5) (g2 : a2 < 256) (g3 : a3 < 256) (g4 : a4 < 256) (g5 : a5 < 256) :
    Calls Tryd.prog 6 #[.int .u32 V, .int .u32 X, .int .u8 a2, .int .u8 a3, .int .u8 a4, .int .u8 a5] W fun e w' => e = .returned (.bool true) ∧ Grown W w' := by
  have hg := Grown.refl W
  have hYb := sput_lt V A X N hs (by omega)
  have z1 : putZ V A N X = ((sput V A X N : Nat) : Int) := putZ_nat _ _ _ _ hs
  have y1 := getZ_nat (sput V A X N) A N hs
  have y2 : getZ (X : Int) 0 N = ((X / 2 ^ 0 % 2 ^ N : Nat) : Int) := getZ_nat X 0 N (by omega)
  have y3 : putZ ((sput V A X N : Nat) : Int) A N X = ((sput V A X N : Nat) : Int) := by rw [putZ_nat _ _ _ _ hs]; exact congrArg Int.ofNat (put_twice V A X N)
  have y4 := getZ_nat V A N hs
  have y5 : putZ V A N ((V / 2 ^ A % 2 ^ N : Nat) : Int) = V := by rw [putZ_nat _ _ _ _ hs]; exact congrArg Int.ofNat (put_same V A N)
  have y6 := getZ_nat (sput V A X N) B L ht
  have y7 := getZ_nat V B L ht
  rw [put_got] at y1
  have hGb : V / 2 ^ A % 2 ^ N < 4294967296 := by
    have h1 : V / 2 ^ A ≤ V := Nat.div_le_self _ _
    have h2 : V / 2 ^ A % 2 ^ N ≤ V / 2 ^ A := Nat.mod_le _ _
    omega
  have hdis : ¬ ((B : Int) < A + N ∧ (A : Int) < B + L) → V / 2 ^ B % 2 ^ L = sput V A X N / 2 ^ B % 2 ^ L := fun h => (put_other V A X N B L (by omega)).symm
  generalize hY : sput V A X N = Y at *
  generalize V / 2 ^ A % 2 ^ N = G at *
  generalize X / 2 ^ 0 % 2 ^ N = G2 at *
  generalize V / 2 ^ B % 2 ^ L = G3 at *
  generalize Y / 2 ^ B % 2 ^ L = G4 at *
  have HD := Lib.hid hdis
  have u0 : isU32 (V : Int) := ⟨by omega, by omega⟩
  have u1 : isU32 (X : Int) := ⟨by omega, by omega⟩
  have uy : isU32 (Y : Int) := ⟨by omega, by omega⟩
  have ug : isU32 (G : Int) := ⟨by omega, by omega⟩
  have iA : isI (A : Int) := ⟨by omega, by omega⟩
  have iN : isI (N : Int) := ⟨by omega, by omega⟩
  have iL : isI (L : Int) := ⟨by omega, by omega⟩
  have eA' : a2 % 33 = (A : Int) := eA
  clear hdis hY eA'
  by_cases c1 : (B : Int) < A + N ∧ (A : Int) < B + L
  · obtain ⟨c2, c3⟩ := c1
    go_enter Tryd.func6, Tryd.ntmps6
    go_wp2_with (first
      | (go_at_call 11; (first | with_reducible refine ((put_any _ _ _ _ u0 u1 iN).pure W _ (by assumption)).mono ?_ | with_reducible refine ((put_any _ _ _ _ uy u1 iN).pure W _ (by assumption)).mono ?_ | with_reducible refine ((put_any _ _ _ _ u0 ug iN).pure W _ (by assumption)).mono ?_); rintro e w' ⟨rfl, hg'⟩)
      | (go_at_call 9; (first | with_reducible refine ((get_any _ _ _ uy iN).pure W _ (by assumption)).mono ?_ | with_reducible refine ((get_any _ _ _ u1 iN).pure W _ (by assumption)).mono ?_ | with_reducible refine ((get_any _ _ _ u0 iN).pure W _ (by assumption)).mono ?_); rintro e w' ⟨rfl, hg'⟩)
      | (go_at_call 17; with_reducible refine (awake_any W hp _ (by assumption)).mono ?_; rintro e w' ⟨rfl, hg'⟩))
    go_ret
    exact ⟨rfl, by assumption⟩
  · obtain rfl := HD.out c1
    have c4 : (B : Int) < A + N → ¬ (A : Int) < B + L := fun h1 h2 => c1 ⟨h1, h2⟩
    clear HD c1
    by_cases c2 : (B : Int) < A + N
    · have c3 : ¬ (A : Int) < B + L := c4 c2
      clear c4
      go_enter Tryd.func6, Tryd.ntmps6
      go_wp2_with (first
        | (go_at_call 11; (first | with_reducible refine ((put_any _ _ _ _ u0 u1 iN).pure W _ (by assumption)).mono ?_ | with_reducible refine ((put_any _ _ _ _ uy u1 iN).pure W _ (by assumption)).mono ?_ | with_reducible refine ((put_any _ _ _ _ u0 ug iN).pure W _ (by assumption)).mono ?_); rintro e w' ⟨rfl, hg'⟩)
        | (go_at_call 9; (first | with_reducible refine ((get_any _ _ _ uy iN).pure W _ (by assumption)).mono ?_ | with_reducible refine ((get_any _ _ _ u1 iN).pure W _ (by assumption)).mono ?_ | with_reducible refine ((get_any _ _ _ u0 iN).pure W _ (by assumption)).mono ?_ | with_reducible refine ((get_any _ _ _ uy iL).pure W _ (by assumption)).mono ?_ | with_reducible refine ((get_any _ _ _ u0 iL).pure W _ (by assumption)).mono ?_); rintro e w' ⟨rfl, hg'⟩)
        | (go_at_call 17; with_reducible refine (awake_any W hp _ (by assumption)).mono ?_; rintro e w' ⟨rfl, hg'⟩))
      go_ret
      exact ⟨rfl, by assumption⟩
    · clear c4
      go_enter Tryd.func6, Tryd.ntmps6
      go_wp2_with (first
        | (go_at_call 11; (first | with_reducible refine ((put_any _ _ _ _ u0 u1 iN).pure W _ (by assumption)).mono ?_ | with_reducible refine ((put_any _ _ _ _ uy u1 iN).pure W _ (by assumption)).mono ?_ | with_reducible refine ((put_any _ _ _ _ u0 ug iN).pure W _ (by assumption)).mono ?_); rintro e w' ⟨rfl, hg'⟩)
        | (go_at_call 9; (first | with_reducible refine ((get_any _ _ _ uy iN).pure W _ (by assumption)).mono ?_ | with_reducible refine ((get_any _ _ _ u1 iN).pure W _ (by assumption)).mono ?_ | with_reducible refine ((get_any _ _ _ u0 iN).pure W _ (by assumption)).mono ?_ | with_reducible refine ((get_any _ _ _ uy iL).pure W _ (by assumption)).mono ?_ | with_reducible refine ((get_any _ _ _ u0 iL).pure W _ (by assumption)).mono ?_); rintro e w' ⟨rfl, hg'⟩)
        | (go_at_call 17; with_reducible refine (awake_any W hp _ (by assumption)).mono ?_; rintro e w' ⟨rfl, hg'⟩))
      go_ret
      exact ⟨rfl, by assumption⟩

theorem walk (W : World) (hp : Pieces W) (a0 a1 a2 a3 a4 a5 : Int) (w0 : (Lit.int .u32 a0).wf = true) (w1 : (Lit.int .u32 a1).wf = true) (w2 : (Lit.int .u8 a2).wf = true) (w3 : (Lit.int .u8 a3).wf = true) (w4 : (Lit.int .u8 a4).wf = true) (w5 : (Lit.int .u8 a5).wf = true) :
    Calls Tryd.prog 6 #[.int .u32 a0, .int .u32 a1, .int .u8 a2, .int .u8 a3, .int .u8 a4, .int .u8 a5] W fun e w' => e = .returned (.bool true) ∧ Grown W w' := by
  obtain ⟨V, rfl, hV⟩ := (wf_u32 w0).nat
  obtain ⟨X, rfl, hX⟩ := (wf_u32 w1).nat
  obtain ⟨h2, g2⟩ := wf_u8 w2
  obtain ⟨h3, g3⟩ := wf_u8 w3
  obtain ⟨h4, g4⟩ := wf_u8 w4
  obtain ⟨h5, g5⟩ := wf_u8 w5
  have hA : a2 % 33 = (((a2 % 33).toNat : Nat) : Int) := by omega
  have hB : a4 % 33 = (((a4 % 33).toNat : Nat) : Int) := by omega
  have n1 : 0 ≤ a3 % (33 - a2 % 33) := Int.emod_nonneg _ (by omega)
  have n2 : a3 % (33 - a2 % 33) < 33 - a2 % 33 := Int.emod_lt_of_pos _ (by omega)
  have n3 : 0 ≤ a5 % (33 - a4 % 33) := Int.emod_nonneg _ (by omega)
  have n4 : a5 % (33 - a4 % 33) < 33 - a4 % 33 := Int.emod_lt_of_pos _ (by omega)
  exact core W hp V X (a2 % 33).toNat (a3 % (33 - a2 % 33)).toNat (a4 % 33).toNat (a5 % (33 - a4 % 33)).toNat (by omega) (by omega) (by omega) (by omega) a2 a3 a4 a5 hA (by rw [← hA]; omega) hB (by rw [← hB]; omega) h2 h3 h4 h5 g2 g3 g4 g5
end bitsPuts
end Go.Proofs.YtckgnmnfhkjpjaaDoor
