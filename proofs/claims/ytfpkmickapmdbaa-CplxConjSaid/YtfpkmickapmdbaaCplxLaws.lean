/- awake and the five laws of coxlesslaw02 return true, for every argument; no condition. -/
import Derived.Test.YtfpkmickapmdbaaCplxRef
namespace Go.Proofs.Ytfpkmickapmdbaa
open Go.ChangeShapes Go.WideShapes Go.ChangeAt Go.RowKit

theorem order_same {v : Int} {b : Nat} (h : FI b v) : FloatKind.f64.format.order b b = some .eq := by rw [order_FI h h, compare_self]
theorem lit_u32 {n : Int} (h : (Lit.int .u32 n).wf = true) : 0 ≤ n ∧ n < 4294967296 := by
  simp only [Lit.wf, Bool.and_eq_true, decide_eq_true_eq] at h
  have h1 : IntKind.u32.min = 0 := rfl
  have h2 : IntKind.u32.max = 4294967295 := rfl
  exact ⟨by omega, by omega⟩
theorem lit_i64 {n : Int} (h : (Lit.int .i64 n).wf = true) : -9223372036854775808 ≤ n ∧ n ≤ 9223372036854775807 := by
  simp only [Lit.wf, Bool.and_eq_true, decide_eq_true_eq] at h
  have h1 : IntKind.i64.min = -9223372036854775808 := rfl
  have h2 : IntKind.i64.max = 9223372036854775807 := rfl
  exact ⟨by omega, by omega⟩
theorem half_pack (x y : Int) (up : Bool) : halfZ (packZ x y) up = if up then downZ y else downZ x := by
  have c1 := clampZ_range (x / 32768)
  have c2 := clampZ_range (y / 32768)
  have e1 : downZ x = clampZ (x / 32768) := rfl
  have e2 : downZ y = clampZ (y / 32768) := rfl
  unfold halfZ halfOf packZ
  rw [e1, e2]
  generalize clampZ (x / 32768) = p at *
  generalize clampZ (y / 32768) = q at *
  cases up
  · simp only [Bool.false_eq_true, if_false]
    split <;> omega
  · simp only [if_true]
    split <;> omega

theorem awake2_any : Still Try.prog 13 #[] (.bool true) := by
  intro w
  have k1 : FloatKind.f64.nearest (halfZ 4294901763 false) = 4613937818241073152 := by decide +kernel
  have k2 : FloatKind.f64.nearest (halfZ 4294901763 true) = 13830554455654793216 := by decide +kernel
  have k3 : FloatKind.f64.format.order 4613937818241073152 4613937818241073152 = some .eq := by decide +kernel
  have k4 : FloatKind.f64.format.order 13830554455654793216 13830554455654793216 = some .eq := by decide +kernel
  have O := of_any 4294901763 (by decide) (by decide)
  rw [k1, k2] at O
  have M := mul_any 1073741824 1073741824 (by decide) (by decide) (by decide) (by decide)
  have k5 : packZ (mulRe 1073741824 1073741824) (mulIm 1073741824 1073741824) = 57344 := by decide +kernel
  rw [k5] at M
  have C := mulConj_any 2147516416 2147516416 (by decide) (by decide) (by decide) (by decide)
  have k6 : packZ (conRe 2147516416 2147516416) (conIm 2147516416 2147516416) = 32767 := by decide +kernel
  rw [k6] at C
  clear k1 k2 k5 k6
  go_enter Try.func13, Try.ntmps13
  go_wp2_with (first
    | (go_at_call 8; refine (O _).mono ?_; rintro e w' ⟨rfl, rfl⟩)
    | (go_at_call 10; refine (M _).mono ?_; rintro e w' ⟨rfl, rfl⟩)
    | (go_at_call 12; refine (C _).mono ?_; rintro e w' ⟨rfl, rfl⟩))
  go_ret
  exact ⟨rfl, rfl⟩

namespace cplxMuls
theorem walk (W : World) (a0 a1 : Int) (w0 : (Lit.int .u32 a0).wf = true) (w1 : (Lit.int .u32 a1).wf = true) :
    Calls Try.prog 3 #[.int .u32 a0, .int .u32 a1] W fun e w' => e = .returned (.bool true) ∧ Grown W w' := by
  obtain ⟨l0, m0⟩ := lit_u32 w0
  obtain ⟨l1, m1⟩ := lit_u32 w1
  clear w0 w1
  have O := of_any a0 l0 m0
  have H1 := rhalf_any a0 false l0 m0
  have H2 := rhalf_any a0 true l0 m0
  have o1 : FloatKind.f64.format.order (FloatKind.f64.nearest (halfZ a0 false)) (floatOfInt .f64 (halfZ a0 false)) = some .eq := order_same (half_FI a0 false l0 m0)
  have o2 : FloatKind.f64.format.order (FloatKind.f64.nearest (halfZ a0 true)) (floatOfInt .f64 (halfZ a0 true)) = some .eq := order_same (half_FI a0 true l0 m0)
  have M := mul_any a0 a1 l0 m0 l1 m1
  have C := mulConj_any a0 a1 l0 m0 l1 m1
  have R1 := rmul_any a0 a1 1 l0 m0 l1 m1 (.inl rfl)
  have R2 := rmul_any a0 a1 (-1) l0 m0 l1 m1 (.inr rfl)
  rw [if_pos rfl] at R1
  rw [if_neg (by decide)] at R2
  have hg := Grown.refl W
  go_enter Try.func3, Try.ntmps3
  go_wp2_with (first
    | (go_at_call 8; refine (O _).mono ?_; rintro e w' ⟨rfl, rfl⟩)
    | (go_at_call 9; (first | with_reducible refine (H1 _).mono ?_ | with_reducible refine (H2 _).mono ?_); rintro e w' ⟨rfl, rfl⟩)
    | (go_at_call 10; refine (M _).mono ?_; rintro e w' ⟨rfl, rfl⟩)
    | (go_at_call 12; refine (C _).mono ?_; rintro e w' ⟨rfl, rfl⟩)
    | (go_at_call 11; (first | with_reducible refine (R1 _).mono ?_ | with_reducible refine (R2 _).mono ?_); rintro e w' ⟨rfl, rfl⟩)
    | (go_at_call 13; refine (awake2_any _).mono ?_; rintro e w' ⟨rfl, rfl⟩))
  go_ret
  exact ⟨rfl, hg⟩
end cplxMuls

namespace cplxPacks
theorem walk (W : World) (a0 a1 : Int) (_ : (Lit.int .i64 a0).wf = true) (_ : (Lit.int .i64 a1).wf = true) :
    Calls Try.prog 4 #[.int .i64 a0, .int .i64 a1] W fun e w' => e = .returned (.bool true) ∧ Grown W w' := by
  have tr : ∀ x : Int, -1125899906842624 < x.tmod 1125899906842624 ∧ x.tmod 1125899906842624 < 1125899906842624 := fun x => by
    have := Int.tmod_lt_of_pos x (show (0 : Int) < 1125899906842624 by decide)
    have h2 := Int.tmod_lt_of_pos (-x) (show (0 : Int) < 1125899906842624 by decide)
    rw [Int.neg_tmod] at h2
    omega
  have t0 := tr a0
  have t1 := tr a1
  clear tr
  have f0 := nearest_FI (a0.tmod 1125899906842624) (by omega)
  have f1 := nearest_FI (a1.tmod 1125899906842624) (by omega)
  have P : Still Try.prog 14 #[.complex .f64 (floatOfInt .f64 (a0.tmod 1125899906842624)) (floatOfInt .f64 (a1.tmod 1125899906842624))] (.int .u32 (packZ (a0.tmod 1125899906842624) (a1.tmod 1125899906842624))) := by
    have := pack_any f0 (by rw [div_U]; omega) f1 (by rw [div_U]; omega)
    rwa [div_U, div_U] at this
  clear f0 f1
  generalize hx : a0.tmod 1125899906842624 = x at *
  generalize hy : a1.tmod 1125899906842624 = y at *
  obtain ⟨l0, m0⟩ := packZ_u32 x y
  have H1 := rhalf_any (packZ x y) false l0 m0
  have H2 := rhalf_any (packZ x y) true l0 m0
  rw [half_pack] at H1 H2
  have D1 := down_any x (by omega) (by omega)
  have D2 := down_any y (by omega) (by omega)
  have hg := Grown.refl W
  go_enter Try.func4, Try.ntmps4
  go_wp2_with (first
    | (go_at_call 14; refine (P _).mono ?_; rintro e w' ⟨rfl, rfl⟩)
    | (go_at_call 9; (first | with_reducible refine (H1 _).mono ?_ | with_reducible refine (H2 _).mono ?_); rintro e w' ⟨rfl, rfl⟩)
    | (go_at_call 15; (first | with_reducible refine (D1 _).mono ?_ | with_reducible refine (D2 _).mono ?_); rintro e w' ⟨rfl, rfl⟩)
    | (go_at_call 13; refine (awake2_any _).mono ?_; rintro e w' ⟨rfl, rfl⟩))
  go_ret
  exact ⟨rfl, hg⟩
end cplxPacks

namespace cplxTurns
theorem turn_sum (t : Int) (h1 : -2147483648 ≤ t) (h2 : t ≤ 2147483648) : -1 ≤ downZ t + downZ (-t) ∧ downZ t + downZ (-t) ≤ 0 := by
  unfold downZ clampZ
  (repeat' split) <;> omega
theorem walk (W : World) (a0 a1 : Int) (w0 : (Lit.int .u32 a0).wf = true) (w1 : (Lit.int .u32 a1).wf = true) :
    Calls Try.prog 6 #[.int .u32 a0, .int .u32 a1] W fun e w' => e = .returned (.bool true) ∧ Grown W w' := by
  obtain ⟨l0, m0⟩ := lit_u32 w0
  obtain ⟨l1, m1⟩ := lit_u32 w1
  clear w0 w1
  have M1 := mul_any a0 a1 l0 m0 l1 m1
  have M2 := mul_any a1 a0 l1 m1 l0 m0
  have em : packZ (mulRe a1 a0) (mulIm a1 a0) = packZ (mulRe a0 a1) (mulIm a0 a1) := by
    have e1 : mulRe a1 a0 = mulRe a0 a1 := by unfold mulRe; rw [Int.mul_comm (halfZ a1 false), Int.mul_comm (halfZ a1 true)]
    have e2 : mulIm a1 a0 = mulIm a0 a1 := by unfold mulIm; rw [Int.mul_comm (halfZ a1 false), Int.mul_comm (halfZ a1 true), Int.add_comm]
    rw [e1, e2]
  rw [em] at M2
  have C1 := mulConj_any a0 a1 l0 m0 l1 m1
  have C2 := mulConj_any a1 a0 l1 m1 l0 m0
  have C3 := mulConj_any a0 a0 l0 m0 l0 m0
  have ec : conRe a1 a0 = conRe a0 a1 := by unfold conRe; rw [Int.mul_comm (halfZ a1 false), Int.mul_comm (halfZ a1 true)]
  have ei : conIm a1 a0 = -conIm a0 a1 := by unfold conIm; rw [Int.mul_comm (halfZ a1 false), Int.mul_comm (halfZ a1 true)]; omega
  have e0 : conIm a0 a0 = 0 := by unfold conIm; rw [Int.mul_comm]; omega
  have er : 0 ≤ conRe a0 a0 := by
    unfold conRe
    have hs : ∀ x : Int, 0 ≤ x * x := fun x => by
      rw [← Int.natAbs_mul_self]; omega
    have := hs (halfZ a0 false)
    have := hs (halfZ a0 true)
    omega
  rw [ec, ei] at C2
  rw [e0] at C3
  have r1 := halfZ_range a0 false l0 m0
  have r2 := halfZ_range a0 true l0 m0
  have r3 := halfZ_range a1 false l1 m1
  have r4 := halfZ_range a1 true l1 m1
  have q1 := mul_natAbs_le (x := halfZ a0 true) (y := halfZ a1 false) (A := 32768) (B := 32768) (by omega) (by omega)
  have q2 := mul_natAbs_le (x := halfZ a0 false) (y := halfZ a1 true) (A := 32768) (B := 32768) (by omega) (by omega)
  have hT : -2147483648 ≤ conIm a0 a1 ∧ conIm a0 a1 ≤ 2147483648 := by unfold conIm; omega
  have hsum := turn_sum _ hT.1 hT.2
  clear em ec ei e0 r1 r2 r3 r4 q1 q2 hT
  generalize packZ (mulRe a0 a1) (mulIm a0 a1) = P at *
  have u1 := packZ_u32 (conRe a0 a1) (conIm a0 a1)
  have u2 := packZ_u32 (conRe a0 a1) (-conIm a0 a1)
  have u3 := packZ_u32 (conRe a0 a0) 0
  have p1 := part_any _ true u1.1 u1.2
  have p2 := part_any _ false u1.1 u1.2
  have p3 := part_any _ true u2.1 u2.2
  have p4 := part_any _ false u2.1 u2.2
  have p5 := part_any _ true u3.1 u3.2
  have p6 := part_any _ false u3.1 u3.2
  rw [half_pack, if_pos rfl] at p1 p3 p5
  rw [half_pack, if_neg (by decide)] at p2 p4 p6
  have d0 : downZ 0 = 0 := by decide
  rw [d0] at p5
  have d1 : 0 ≤ downZ (conRe a0 a0) := by unfold downZ clampZ; (repeat' split) <;> omega
  have d2 : downZ (conRe a0 a0) ≤ 32767 := (clampZ_range _).2
  have k1 : -32768 ≤ downZ (conIm a0 a1) ∧ downZ (conIm a0 a1) ≤ 32767 := clampZ_range _
  have k2 : -32768 ≤ downZ (-conIm a0 a1) ∧ downZ (-conIm a0 a1) ≤ 32767 := clampZ_range _
  obtain ⟨k11, k12⟩ := k1
  obtain ⟨k21, k22⟩ := k2
  obtain ⟨s1, s2⟩ := hsum
  clear u1 u2 u3 d0 er
  generalize packZ (conRe a0 a1) (conIm a0 a1) = X at *
  generalize packZ (conRe a0 a1) (-conIm a0 a1) = Y at *
  generalize packZ (conRe a0 a0) 0 = Z at *
  generalize downZ (conRe a0 a0) = E at *
  generalize downZ (conIm a0 a1) = F at *
  generalize downZ (-conIm a0 a1) = G at *
  generalize downZ (conRe a0 a1) = H at *
  have hg := Grown.refl W
  go_enter Try.func6, Try.ntmps6
  go_wp2_with (first
    | (go_at_call 12; (first | with_reducible refine (C1 _).mono ?_ | with_reducible refine (C2 _).mono ?_ | with_reducible refine (C3 _).mono ?_); rintro e w' ⟨rfl, rfl⟩)
    | (go_at_call 10; (first | with_reducible refine (M1 _).mono ?_ | with_reducible refine (M2 _).mono ?_); rintro e w' ⟨rfl, rfl⟩)
    | (go_at_call 18; (first | with_reducible refine (p1 _).mono ?_ | with_reducible refine (p2 _).mono ?_ | with_reducible refine (p3 _).mono ?_ | with_reducible refine (p4 _).mono ?_ | with_reducible refine (p5 _).mono ?_ | with_reducible refine (p6 _).mono ?_); rintro e w' ⟨rfl, rfl⟩)
    | (go_at_call 13; refine (awake2_any _).mono ?_; rintro e w' ⟨rfl, rfl⟩))
  go_ret
  exact ⟨rfl, hg⟩
end cplxTurns
end Go.Proofs.Ytfpkmickapmdbaa
