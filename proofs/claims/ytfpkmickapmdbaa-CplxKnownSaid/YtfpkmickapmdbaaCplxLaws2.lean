/- CplxConj and CplxKnown return true, for every argument; no condition. -/
import Derived.Test.YtfpkmickapmdbaaCplxLaws
namespace Go.Proofs.Ytfpkmickapmdbaa
open Go.ChangeShapes Go.WideShapes Go.ChangeAt Go.RowKit

namespace cplxConj
theorem walk (W : World) (a0 a1 : Int) (w0 : (Lit.int .u32 a0).wf = true) (w1 : (Lit.int .u32 a1).wf = true) :
    Calls Try.prog 7 #[.int .u32 a0, .int .u32 a1] W fun e w' => e = .returned (.bool true) ∧ Grown W w' := by
  obtain ⟨l0, m0⟩ := lit_u32 w0
  obtain ⟨l1, m1⟩ := lit_u32 w1
  clear w0 w1
  have hg := Grown.refl W
  by_cases h : a1 / 65536 = 32768
  · go_enter Try.func7, Try.ntmps7
    go_wp2_with (go_at_call 13; refine (awake2_any _).mono ?_; rintro e w' ⟨rfl, rfl⟩)
    go_ret
    exact ⟨rfl, hg⟩
  · have C := mulConj_any a0 a1 l0 m0 l1 m1
    obtain ⟨t, ht⟩ : ∃ t : Int, t = -(a1 / 65536) % 65536 * 65536 + a1 % 65536 := ⟨_, rfl⟩
    have M := mul_any a0 t l0 m0 (by omega) (by omega)
    have e1 : halfZ t false = halfZ a1 false := by
      have : t % 65536 = a1 % 65536 := by omega
      show (if t % 65536 < 32768 then t % 65536 else t % 65536 - 65536) = _
      rw [this]; rfl
    have e2 : halfZ t true = -halfZ a1 true := by
      have : t / 65536 = -(a1 / 65536) % 65536 := by omega
      show (if t / 65536 < 32768 then t / 65536 else t / 65536 - 65536) = -(if a1 / 65536 < 32768 then a1 / 65536 else a1 / 65536 - 65536)
      rw [this]
      (repeat' split) <;> omega
    have e3 : packZ (mulRe a0 t) (mulIm a0 t) = packZ (conRe a0 a1) (conIm a0 a1) := by
      unfold mulRe mulIm conRe conIm
      rw [e1, e2, Int.mul_neg, Int.mul_neg, Int.sub_neg]
      congr 1
      omega
    rw [e3] at M
    clear e1 e2 e3
    generalize packZ (conRe a0 a1) (conIm a0 a1) = P at *
    have hor := or_halves (-(a1 / 65536) % 65536) (a1 % 65536) (by omega) (by omega)
    rw [← ht] at hor
    clear ht
    go_enter Try.func7, Try.ntmps7
    go_wp2_with (first
      | (go_at_call 12; refine (C _).mono ?_; rintro e w' ⟨rfl, rfl⟩)
      | (go_at_call 10; refine (M _).mono ?_; rintro e w' ⟨rfl, rfl⟩)
      | (go_at_call 13; refine (awake2_any _).mono ?_; rintro e w' ⟨rfl, rfl⟩))
    go_ret
    exact ⟨rfl, hg⟩
end cplxConj

/-! ### infinities and NaN -/
theorem run_frombits (n : Int) (w : World) : (callFunc 22 #[.int .u64 n]).run Try.prog w = .ok (.value (.float .f64 n.toNat)) w := by
  rw [run_callFunc_extern (e := _root_.Go.Extern.MathFloatBits.float64frombits) Try.func22 (by kernel_rfl) (by kernel_rfl) (by kernel_rfl) (by kernel_rfl)]
  rfl
theorem inf_any : Still Try.prog 16 #[.int .i64 1] (.float .f64 9218868437227405312) := by
  intro w
  have hd := run_frombits
  go_enter Try.func16, Try.ntmps16
  go_wp2
  go_ret
  exact ⟨rfl, rfl⟩
theorem nan_any : Still Try.prog 17 #[] (.float .f64 9221120237041090561) := by
  intro w
  have hd := run_frombits
  go_enter Try.func17, Try.ntmps17
  go_wp2
  go_ret
  exact ⟨rfl, rfl⟩
theorem isNaN_at {b : Nat} {o : Option Ordering} (h : FloatKind.f64.format.order b b = o) : Still Try.prog 23 #[.float .f64 b] (.bool (o != some .eq)) := by
  intro w
  go_enter Try.func23, Try.ntmps23
  go_wp2
  go_ret
  exact ⟨rfl, rfl⟩
theorem floor_lit {b : Nat} (h : ∀ w, (_root_.Go.Extern.MathFloor.toIntegral "math.archFloor" .down #[.float .f64 b]).run Try.prog w = .ok (.float .f64 b) w) : Still Try.prog 24 #[.float .f64 b] (.float .f64 b) := by
  intro w
  have hd : ∀ w : World, (callFunc 25 #[.float .f64 b]).run Try.prog w = .ok (.value (.float .f64 b)) w := fun w => by
    rw [run_callFunc_extern (e := _root_.Go.Extern.MathFloor.toIntegral "math.archFloor" .down) Try.func25 (by kernel_rfl) (by kernel_rfl) (by kernel_rfl) (by kernel_rfl), h]
    rfl
  go_enter Try.func24, Try.ntmps24
  go_wp2
  go_ret
  exact ⟨rfl, rfl⟩
theorem packPart_nan : Still Try.prog 21 #[.float .f64 9221120237041090561] (.int .u32 0) := by
  intro w
  have N1 := isNaN_at (b := 9221120237041090561) (o := none) (by decide +kernel)
  go_enter Try.func21, Try.ntmps21
  go_wp2_with (go_at_call 23; refine (N1 _).mono ?_; rintro e w' ⟨rfl, rfl⟩)
  go_ret
  exact ⟨rfl, rfl⟩
theorem packPart_inf : Still Try.prog 21 #[.float .f64 9218868437227405312] (.int .u32 32767) := by
  intro w
  have N1 := isNaN_at (b := 9218868437227405312) (o := some .eq) (by decide +kernel)
  have F1 := floor_lit (b := 9218868437227405312) (fun w => by kernel_rfl)
  have hquo := fun t (w : World) => run_float_arith (P := Try.prog) w .quo t .f64 9218868437227405312 4674736413210574848 9218868437227405312 (by decide +kernel)
  have hmax : ∀ (w : World) ts t, (Builtin.max_ ts t #[.float .f64 9218868437227405312, .float .f64 13898108450065350656]).run Try.prog w = .ok (.float .f64 9218868437227405312) w := fun w ts t => by kernel_rfl
  have hmin : ∀ (w : World) ts t, (Builtin.min_ ts t #[.float .f64 9218868437227405312, .float .f64 4674736138332667904]).run Try.prog w = .ok (.float .f64 4674736138332667904) w := fun w ts t => by kernel_rfl
  have hconv := fun (w : World) => run_convert_float_int (P := Try.prog) w 25 38 .f64 .i16 4674736138332667904 32767 (by rw [Try.underlying25]; rfl) Try.underlying38 (by decide +kernel)
  go_enter Try.func21, Try.ntmps21
  go_wp2_with (first
    | (go_at_call 23; refine (N1 _).mono ?_; rintro e w' ⟨rfl, rfl⟩)
    | (go_at_call 24; refine (F1 _).mono ?_; rintro e w' ⟨rfl, rfl⟩))
  go_ret
  exact ⟨rfl, rfl⟩
theorem packPart_ninf : Still Try.prog 21 #[.float .f64 18442240474082181120] (.int .u32 32768) := by
  intro w
  have N1 := isNaN_at (b := 18442240474082181120) (o := some .eq) (by decide +kernel)
  have F1 := floor_lit (b := 18442240474082181120) (fun w => by kernel_rfl)
  have hquo := fun t (w : World) => run_float_arith (P := Try.prog) w .quo t .f64 18442240474082181120 4674736413210574848 18442240474082181120 (by decide +kernel)
  have hmax : ∀ (w : World) ts t, (Builtin.max_ ts t #[.float .f64 18442240474082181120, .float .f64 13898108450065350656]).run Try.prog w = .ok (.float .f64 13898108450065350656) w := fun w ts t => by kernel_rfl
  have hmin : ∀ (w : World) ts t, (Builtin.min_ ts t #[.float .f64 13898108450065350656, .float .f64 4674736138332667904]).run Try.prog w = .ok (.float .f64 13898108450065350656) w := fun w ts t => by kernel_rfl
  have hconv := fun (w : World) => run_convert_float_int (P := Try.prog) w 25 38 .f64 .i16 13898108450065350656 (-32768) (by rw [Try.underlying25]; rfl) Try.underlying38 (by decide +kernel)
  go_enter Try.func21, Try.ntmps21
  go_wp2_with (first
    | (go_at_call 23; refine (N1 _).mono ?_; rintro e w' ⟨rfl, rfl⟩)
    | (go_at_call 24; refine (F1 _).mono ?_; rintro e w' ⟨rfl, rfl⟩))
  go_ret
  exact ⟨rfl, rfl⟩

/-- A number read off its bits: what packPart gives. -/
theorem packPart_read {b : Nat} {s : Bool} {m d : Nat} (hb : b < 2 ^ 64) (hr : Ieee.double.read b = .number s m (-(d : Int))) (hd : d ≤ 1074) (hm : (sg s m / ((2 ^ d : Nat) : Int)).natAbs < 2 ^ 53) :
    Still Try.prog 21 #[.float .f64 b] (.int .u32 (downZ (sg s m / ((2 ^ d : Nat) : Int)) % 65536)) := by
  have hk := kU_eq
  have h : FI b (sg s (m * 2 ^ (-(d : Int) + 1100).toNat)) := ⟨hb, s, m, _, hr, by omega, rfl⟩
  have hU : U = 2 ^ d * 2 ^ (-(d : Int) + 1100).toNat := by rw [← Nat.pow_add, U_eq, show d + (-(d : Int) + 1100).toNat = kU by omega]
  have e : sg s (m * 2 ^ (-(d : Int) + 1100).toNat) / (U : Int) = sg s m / ((2 ^ d : Nat) : Int) := by
    rw [hU, sg_mul, Int.natCast_mul (2 ^ d)]
    exact Int.mul_ediv_mul_of_pos_left _ _ (by have := Nat.two_pow_pos (-(d : Int) + 1100).toNat; omega)
  have := packPart_any h (by rw [e]; exact hm)
  rwa [e] at this

theorem packPart_at {b : Nat} {x : Int} (s : Bool) (m d : Nat) (hb : b < 2 ^ 64) (hr : Ieee.double.read b = .number s m (-(d : Int))) (hd : d ≤ 1074) (hm : (sg s m / ((2 ^ d : Nat) : Int)).natAbs < 2 ^ 53) (hx : downZ (sg s m / ((2 ^ d : Nat) : Int)) % 65536 = x) :
    Still Try.prog 21 #[.float .f64 b] (.int .u32 x) := by
  rw [← hx]; exact packPart_read hb hr hd hm

namespace cplxKnown
theorem walk (W : World) : Calls Try.prog 5 #[] W fun e w' => e = .returned (.bool true) ∧ Grown W w' := by
  have M1 := mul_any 16384 16384 (by decide) (by decide) (by decide) (by decide)
  have k1 : packZ (mulRe 16384 16384) (mulIm 16384 16384) = 8192 := by decide +kernel
  rw [k1] at M1
  have M2 := mul_any 2147516416 2147516416 (by decide) (by decide) (by decide) (by decide)
  have k2 : packZ (mulRe 2147516416 2147516416) (mulIm 2147516416 2147516416) = 2147418112 := by decide +kernel
  rw [k2] at M2
  have M3 := mul_any 0 305419896 (by decide) (by decide) (by decide) (by decide)
  have k3 : packZ (mulRe 0 305419896) (mulIm 0 305419896) = 0 := by decide +kernel
  rw [k3] at M3
  have M4 := mul_any 65535 65535 (by decide) (by decide) (by decide) (by decide)
  have k4 : packZ (mulRe 65535 65535) (mulIm 65535 65535) = 0 := by decide +kernel
  rw [k4] at M4
  have M5 := mul_any 65535 1 (by decide) (by decide) (by decide) (by decide)
  have k5 : packZ (mulRe 65535 1) (mulIm 65535 1) = 65535 := by decide +kernel
  rw [k5] at M5
  clear k1 k2 k3 k4 k5
  have Q1 : Still Try.prog 21 #[.float .f64 13830554455654793216] (.int .u32 65535) := packPart_at true 4503599627370496 52 (by decide) (by decide +kernel) (by decide) (by decide +kernel) (by decide +kernel)
  have Q2 : Still Try.prog 21 #[.float .f64 4674736138332667904] (.int .u32 0) := packPart_at false 9006924376834048 38 (by decide) (by decide +kernel) (by decide) (by decide +kernel) (by decide +kernel)
  have Q3 : Still Try.prog 21 #[.float .f64 4674736481930051584] (.int .u32 1) := packPart_at false 4503668346847232 37 (by decide) (by decide +kernel) (by decide) (by decide +kernel) (by decide +kernel)
  have Q4 : Still Try.prog 21 #[.float .f64 13898108450065350656] (.int .u32 65535) := packPart_at true 4503599627370496 37 (by decide) (by decide +kernel) (by decide) (by decide +kernel) (by decide +kernel)
  have P1 := pack_of packPart_nan packPart_inf (by decide) (by decide)
  have P2 := pack_of packPart_ninf packPart_nan (by decide) (by decide)
  have P3 := pack_of Q1 Q2 (by decide) (by decide)
  have P4 := pack_of Q3 Q4 (by decide) (by decide)
  clear Q1 Q2 Q3 Q4
  have hneg : ∀ w : World, (Op.unary .neg (.float .f64 9218868437227405312)).run Try.prog w = .ok (.float .f64 18442240474082181120) w := fun _ => by kernel_rfl
  have hg := Grown.refl W
  go_enter Try.func5, Try.ntmps5
  go_wp2_with (first
    | (go_at_call 16; refine (inf_any _).mono ?_; rintro e w' ⟨rfl, rfl⟩)
    | (go_at_call 17; refine (nan_any _).mono ?_; rintro e w' ⟨rfl, rfl⟩)
    | (go_at_call 10; (first | with_reducible refine (M1 _).mono ?_ | with_reducible refine (M2 _).mono ?_ | with_reducible refine (M3 _).mono ?_ | with_reducible refine (M4 _).mono ?_ | with_reducible refine (M5 _).mono ?_); rintro e w' ⟨rfl, rfl⟩)
    | (go_at_call 14; (first | with_reducible refine (P1 _).mono ?_ | with_reducible refine (P2 _).mono ?_ | with_reducible refine (P3 _).mono ?_ | with_reducible refine (P4 _).mono ?_); rintro e w' ⟨rfl, rfl⟩)
    | (go_at_call 13; refine (awake2_any _).mono ?_; rintro e w' ⟨rfl, rfl⟩))
  go_ret
  exact ⟨rfl, hg⟩
end cplxKnown
end Go.Proofs.Ytfpkmickapmdbaa
