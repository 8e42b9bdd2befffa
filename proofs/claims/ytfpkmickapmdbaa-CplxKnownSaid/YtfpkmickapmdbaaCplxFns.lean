/- What the functions of package cplx return, for every argument that is a word or a number that fits. -/
import Derived.Test.YtfpkmickapmdbaaCplxOps2
import Derived.Laws.Externs
import Derived.Laws.BitsAllLaws
namespace Go.Proofs.Ytfpkmickapmdbaa
open Go.ChangeShapes Go.WideShapes Go.ChangeAt Go.RowKit

/-- A half of a word, signed. -/
def halfOf (w : Int) (up : Bool) : Int := if up then w / 65536 else w % 65536
def halfZ (w : Int) (up : Bool) : Int := if halfOf w up < 32768 then halfOf w up else halfOf w up - 65536
/-- A number divided by 2^15, rounded down, saturated. -/
def clampZ (q : Int) : Int := if q < -32768 then -32768 else if 32767 < q then 32767 else q
def downZ (n : Int) : Int := clampZ (n / 32768)
/-- The word of two packed parts. -/
def packZ (x y : Int) : Int := downZ y % 65536 * 65536 + downZ x % 65536
def mulRe (a b : Int) : Int := halfZ a false * halfZ b false - halfZ a true * halfZ b true
def mulIm (a b : Int) : Int := halfZ a false * halfZ b true + halfZ a true * halfZ b false
def conRe (a b : Int) : Int := halfZ a false * halfZ b false + halfZ a true * halfZ b true
def conIm (a b : Int) : Int := halfZ a true * halfZ b false - halfZ a false * halfZ b true

theorem halfZ_range (w : Int) (up : Bool) (h1 : 0 ≤ w) (h2 : w < 4294967296) : -32768 ≤ halfZ w up ∧ halfZ w up ≤ 32767 := by
  unfold halfZ halfOf; cases up <;> simp <;> split <;> omega
theorem clampZ_range (q : Int) : -32768 ≤ clampZ q ∧ clampZ q ≤ 32767 := by
  unfold clampZ; split
  · omega
  · split <;> omega
theorem packZ_u32 (x y : Int) : 0 ≤ packZ x y ∧ packZ x y < 4294967296 := by unfold packZ; omega

theorem wrap_i16 (x : Int) : IntKind.i16.wrap x = if x % 65536 < 32768 then x % 65536 else x % 65536 - 65536 := by
  have e : IntKind.i16.wrap x = if (true && decide (x % 65536 ≥ 32768)) = true then x % 65536 - 65536 else x % 65536 := rfl
  rw [e]
  by_cases h : x % 65536 < 32768
  · rw [if_pos h, if_neg (by simp; omega)]
  · rw [if_neg h, if_pos (by simp; omega)]
theorem wrap_lo (v : Int) : IntKind.i16.wrap v = halfZ v false := by rw [wrap_i16]; rfl
theorem wrap_hi (v : Int) (h1 : 0 ≤ v) (h2 : v < 4294967296) : IntKind.i16.wrap (v / 65536) = halfZ v true := by
  rw [wrap_i16, Int.emod_eq_of_lt (by omega) (by omega)]; rfl

theorem mul_natAbs_le {x y : Int} {A B : Nat} (hx : x.natAbs ≤ A) (hy : y.natAbs ≤ B) : (x * y).natAbs ≤ A * B := by
  rw [Int.natAbs_mul]; exact Nat.mul_le_mul hx hy

theorem of_any (v : Int) (h1 : 0 ≤ v) (h2 : v < 4294967296) : Still Try.prog 8 #[.int .u32 v] (.complex .f64 (FloatKind.f64.nearest (halfZ v false)) (FloatKind.f64.nearest (halfZ v true))) := by
  intro w
  go_enter Try.func8, Try.ntmps8
  go_wp2
  go_ret
  exact ⟨by rw [wrap_lo, wrap_hi v h1 h2]; rfl, rfl⟩

theorem half_FI (v : Int) (up : Bool) (h1 : 0 ≤ v) (h2 : v < 4294967296) : FI (FloatKind.f64.nearest (halfZ v up)) (halfZ v up * U) :=
  nearest_FI _ (by have := halfZ_range v up h1 h2; omega)

section
attribute [local irreducible] FloatKind.decode
theorem floor_entry {P : Program} {b : Nat} {v : Int} (h : FI b v) (w : World) : (_root_.Go.Extern.MathFloor.toIntegral "math.archFloor" .down #[.float .f64 b]).run P w = .ok (.float .f64 (floorB b)) w := by
  obtain ⟨_, s, m, i, hra, hi, hv⟩ := h
  have hr : FloatKind.f64.decode b = .number s m i := by unfold FloatKind.decode; exact hra
  unfold floorB
  delta _root_.Go.Extern.MathFloor.toIntegral
  conv => lhs; arg 2; whnf
  rw [hr]
  rfl
end

theorem run_archFloor {b : Nat} {v : Int} (h : FI b v) (w : World) : (callFunc 25 #[.float .f64 b]).run Try.prog w = .ok (.value (.float .f64 (floorB b))) w := by
  rw [run_callFunc_extern (e := _root_.Go.Extern.MathFloor.toIntegral "math.archFloor" .down) Try.func25 (by kernel_rfl) (by kernel_rfl) (by kernel_rfl) (by kernel_rfl), floor_entry h]
  rfl

theorem floor_any {b : Nat} {v : Int} (h : FI b v) : Still Try.prog 24 #[.float .f64 b] (.float .f64 (floorB b)) := by
  intro w
  have hd := fun w => run_archFloor h w
  go_enter Try.func24, Try.ntmps24
  go_wp2
  go_ret
  exact ⟨rfl, rfl⟩

theorem compare_self (v : Int) : compare v v = .eq := by rw [compare_def]; simp

theorem isNaN_any {b : Nat} {v : Int} (h : FI b v) : Still Try.prog 23 #[.float .f64 b] (.bool false) := by
  intro w
  have ho := order_FI h h
  rw [compare_self] at ho
  go_enter Try.func23, Try.ntmps23
  go_wp2
  go_ret
  exact ⟨rfl, rfl⟩

theorem clamp_U (q : Int) : (if 32767 * (U : Int) < (if q * U < -32768 * U then -32768 * (U : Int) else q * U) then 32767 * (U : Int) else (if q * U < -32768 * U then -32768 * (U : Int) else q * U)) = clampZ q * U := by
  have hU : (0 : Int) < U := by have := U_pos; omega
  have h1 : ∀ x y : Int, (x * (U : Int) < y * U) = (x < y) := fun x y => propext ⟨fun h => Int.lt_of_mul_lt_mul_right h (Int.le_of_lt hU), fun h => Int.mul_lt_mul_of_pos_right h hU⟩
  unfold clampZ
  have e1 : (if q * (U : Int) < -32768 * U then -32768 * (U : Int) else q * U) = (if q < -32768 then -32768 else q) * U := by
    by_cases h : q < -32768
    · rw [if_pos h, if_pos ((h1 _ _).mpr h)]
    · rw [if_neg h, if_neg (fun h2 => h ((h1 _ _).mp h2))]
  rw [e1]
  generalize he : (if q < -32768 then (-32768 : Int) else q) = e
  by_cases h3 : 32767 < e
  · rw [if_pos ((h1 _ _).mpr h3)]
    congr 1
    split at he <;> split <;> omega
  · rw [if_neg (fun h2 => h3 ((h1 _ _).mp h2))]
    congr 1
    split at he <;> split <;> omega

theorem packPart_any {b : Nat} {v : Int} (h : FI b v) (hb : (v / U).natAbs < 2 ^ 53) : Still Try.prog 21 #[.float .f64 b] (.int .u32 (downZ (v / U) % 65536)) := by
  intro w
  have f1 := floor_FI h hb
  obtain ⟨r, hq, f2⟩ := quo_FI f1 hb
  have hV : v / U * (V15 : Int) / U = v / U / 32768 := by
    have := V15_pos
    rw [U_V15, Int.natCast_mul, Int.mul_comm (V15 : Int)]
    exact Int.mul_ediv_mul_of_pos_left _ _ (by omega)
  generalize hn : v / U = n at *
  have f3 := floor_FI f2 (by rw [hV]; omega)
  rw [hV] at f3
  have f4 := max_FI f3 FI_least
  have hmax := fun (w : World) ts t => run_max2 (P := Try.prog) w f3 FI_least ts t
  have f5 := min_FI f4 FI_most
  have hmin := fun (w : World) ts t => run_min2 (P := Try.prog) w f4 FI_most ts t
  rw [clamp_U] at f5
  have hi := toInt_FI f5
  have hc := clampZ_range (n / 32768)
  have hto : floatToIntVal .f64 (minB (maxB (floorB r) cLeast) cMost) .i16 = some (clampZ (n / 32768)) := by
    unfold floatToIntVal
    rw [hi]
    have h1 : IntKind.i16.min = -32768 := rfl
    have h2 : IntKind.i16.max = 32767 := rfl
    simp only
    rw [if_pos (by omega)]
  have hconv := fun (w : World) => run_convert_float_int (P := Try.prog) w 25 38 .f64 .i16 _ _ (by rw [Try.underlying25]; rfl) Try.underlying38 hto
  have hquo := fun t (w : World) => run_float_arith (P := Try.prog) w .quo t .f64 _ _ _ hq
  unfold D15 at hquo
  unfold cLeast at hmax hmin hconv
  unfold cMost at hmin hconv
  have N1 := isNaN_any h
  have F1 := floor_any h
  have F2 := floor_any f2
  clear hq hto hi f1 f3 f4 f5
  go_enter Try.func21, Try.ntmps21
  go_wp2_with (first
    | (go_at_call 23; refine (N1 _).mono ?_; rintro e w' ⟨rfl, rfl⟩)
    | (go_at_call 24; (first | with_reducible refine (F1 _).mono ?_ | with_reducible refine (F2 _).mono ?_); rintro e w' ⟨rfl, rfl⟩))
  go_ret
  refine ⟨ret_int ?_, rfl⟩
  have e : IntKind.u16.wrap (clampZ (n / 32768)) = clampZ (n / 32768) % 65536 := rfl
  rw [e]
  unfold downZ
  omega

theorem or_halves (y x : Int) (hy : 0 ≤ y ∧ y < 65536) (hx : 0 ≤ x ∧ x < 65536) : bits .or .u32 (y * 65536) x = y * 65536 + x := by
  obtain ⟨Y, rfl⟩ := Int.eq_ofNat_of_zero_le hy.1
  obtain ⟨X, rfl⟩ := Int.eq_ofNat_of_zero_le hx.1
  have e : (Y : Int) * 65536 = ((2 ^ 16 * Y : Nat) : Int) := by rw [Int.natCast_mul]; omega
  rw [e, u32_or_nat _ _ (by omega) (by omega), ← Nat.two_pow_add_eq_or_of_lt (show X < 2 ^ 16 by omega) Y]
  exact Int.natCast_add ..

theorem pack_of {a b : Nat} {x y : Int} (P1 : Still Try.prog 21 #[.float .f64 a] (.int .u32 x)) (P2 : Still Try.prog 21 #[.float .f64 b] (.int .u32 y)) (hx : 0 ≤ x ∧ x < 65536) (hy : 0 ≤ y ∧ y < 65536) : Still Try.prog 14 #[.complex .f64 a b] (.int .u32 (y * 65536 + x)) := by
  intro w
  go_enter Try.func14, Try.ntmps14
  go_wp2_with (go_at_call 21; (first | with_reducible refine (P1 _).mono ?_ | with_reducible refine (P2 _).mono ?_); rintro e w' ⟨rfl, rfl⟩)
  go_ret
  exact ⟨ret_int (or_halves _ _ hy hx), rfl⟩
theorem pack_any {a b : Nat} {v u : Int} (h : FI a v) (hb : (v / U).natAbs < 2 ^ 53) (h2 : FI b u) (hb2 : (u / U).natAbs < 2 ^ 53) : Still Try.prog 14 #[.complex .f64 a b] (.int .u32 (packZ (v / U) (u / U))) :=
  pack_of (packPart_any h hb) (packPart_any h2 hb2) (by omega) (by omega)

theorem conjugate_any (a b : Nat) : Still Try.prog 20 #[.complex .f64 a b] (.complex .f64 a (Op.negFloat .f64 b)) := by
  intro w
  have hn : ∀ (b : Nat) (w : World), (Op.unary .neg (.float .f64 b)).run Try.prog w = .ok (.float .f64 (Op.negFloat .f64 b)) w := fun _ _ => rfl
  go_enter Try.func20, Try.ntmps20
  go_wp2
  go_ret
  exact ⟨rfl, rfl⟩

/-- The product of two numbers with whole parts that are not great: exact. -/
theorem cmul_FI {a b c d : Nat} {x y u v : Int} (ha : FI a (x * U)) (hb : FI b (y * U)) (hc : FI c (u * U)) (hd : FI d (v * U)) (h1 : x.natAbs ≤ 32768) (h2 : y.natAbs ≤ 32768) (h3 : u.natAbs ≤ 32768) (h4 : v.natAbs ≤ 32768) :
    ∃ re im, cMulBits a b c d = some (re, im) ∧ FI re ((x * u - y * v) * U) ∧ FI im ((x * v + y * u) * U) := by
  have m1 := mul_natAbs_le h1 h3
  have m2 := mul_natAbs_le h2 h4
  have m3 := mul_natAbs_le h1 h4
  have m4 := mul_natAbs_le h2 h3
  obtain ⟨r1, e1, f1⟩ := mul_FI ha hc (by omega)
  obtain ⟨r2, e2, f2⟩ := mul_FI hb hd (by omega)
  obtain ⟨r3, e3, f3⟩ := mul_FI ha hd (by omega)
  obtain ⟨r4, e4, f4⟩ := mul_FI hb hc (by omega)
  obtain ⟨r5, e5, f5⟩ := sub_FI f1 f2 (by omega)
  obtain ⟨r6, e6, f6⟩ := add_FI f3 f4 (by omega)
  exact ⟨r5, r6, by simp [cMulBits, e1, e2, e3, e4, e5, e6], f5, f6⟩

theorem div_U (x : Int) : x * (U : Int) / U = x := Int.mul_ediv_cancel _ (by have := U_pos; omega)

theorem mul_any (x y : Int) (h1 : 0 ≤ x) (h2 : x < 4294967296) (h3 : 0 ≤ y) (h4 : y < 4294967296) : Still Try.prog 10 #[.int .u32 x, .int .u32 y] (.int .u32 (packZ (mulRe x y) (mulIm x y))) := by
  intro w
  have r1 := halfZ_range x false h1 h2
  have r2 := halfZ_range x true h1 h2
  have r3 := halfZ_range y false h3 h4
  have r4 := halfZ_range y true h3 h4
  obtain ⟨re, im, hm, f1, f2⟩ := cmul_FI (half_FI x false h1 h2) (half_FI x true h1 h2) (half_FI y false h3 h4) (half_FI y true h3 h4) (by omega) (by omega) (by omega) (by omega)
  have m1 := mul_natAbs_le (x := halfZ x false) (y := halfZ y false) (A := 32768) (B := 32768) (by omega) (by omega)
  have m2 := mul_natAbs_le (x := halfZ x true) (y := halfZ y true) (A := 32768) (B := 32768) (by omega) (by omega)
  have m3 := mul_natAbs_le (x := halfZ x false) (y := halfZ y true) (A := 32768) (B := 32768) (by omega) (by omega)
  have m4 := mul_natAbs_le (x := halfZ x true) (y := halfZ y false) (A := 32768) (B := 32768) (by omega) (by omega)
  have PK := pack_any f1 (by rw [div_U]; omega) f2 (by rw [div_U]; omega)
  rw [div_U, div_U] at PK
  have O1 := of_any x h1 h2
  have O2 := of_any y h3 h4
  have hop := fun t w => run_complex_mul (P := Try.prog) w t _ _ _ _ _ _ hm
  clear hm f1 f2 r1 r2 r3 r4 m1 m2 m3 m4
  go_enter Try.func10, Try.ntmps10
  go_wp2_with (first
    | (go_at_call 8; (first | with_reducible refine (O1 _).mono ?_ | with_reducible refine (O2 _).mono ?_); rintro e w' ⟨rfl, rfl⟩)
    | (go_at_call 14; refine (PK _).mono ?_; rintro e w' ⟨rfl, rfl⟩))
  go_ret
  exact ⟨rfl, rfl⟩

theorem mulConj_any (x y : Int) (h1 : 0 ≤ x) (h2 : x < 4294967296) (h3 : 0 ≤ y) (h4 : y < 4294967296) : Still Try.prog 12 #[.int .u32 x, .int .u32 y] (.int .u32 (packZ (conRe x y) (conIm x y))) := by
  intro w
  have r1 := halfZ_range x false h1 h2
  have r2 := halfZ_range x true h1 h2
  have r3 := halfZ_range y false h3 h4
  have r4 := halfZ_range y true h3 h4
  have hn := neg_FI (half_FI y true h3 h4)
  rw [← Int.neg_mul] at hn
  obtain ⟨re, im, hm, f1, f2⟩ := cmul_FI (half_FI x false h1 h2) (half_FI x true h1 h2) (half_FI y false h3 h4) hn (by omega) (by omega) (by omega) (by omega)
  have m1 := mul_natAbs_le (x := halfZ x false) (y := halfZ y false) (A := 32768) (B := 32768) (by omega) (by omega)
  have m2 := mul_natAbs_le (x := halfZ x true) (y := -halfZ y true) (A := 32768) (B := 32768) (by omega) (by omega)
  have m3 := mul_natAbs_le (x := halfZ x false) (y := -halfZ y true) (A := 32768) (B := 32768) (by omega) (by omega)
  have m4 := mul_natAbs_le (x := halfZ x true) (y := halfZ y false) (A := 32768) (B := 32768) (by omega) (by omega)
  have PK := pack_any f1 (by rw [div_U]; omega) f2 (by rw [div_U]; omega)
  rw [div_U, div_U] at PK
  have er : halfZ x false * halfZ y false - halfZ x true * -halfZ y true = conRe x y := by unfold conRe; rw [Int.mul_neg, Int.sub_neg]
  have ei : halfZ x false * -halfZ y true + halfZ x true * halfZ y false = conIm x y := by unfold conIm; rw [Int.mul_neg]; omega
  rw [er, ei] at PK
  have O1 := of_any x h1 h2
  have O2 := of_any y h3 h4
  have C1 := conjugate_any (FloatKind.f64.nearest (halfZ y false)) (FloatKind.f64.nearest (halfZ y true))
  have hop := fun t w => run_complex_mul (P := Try.prog) w t _ _ _ _ _ _ hm
  clear hm f1 f2 r1 r2 r3 r4 m1 m2 m3 m4 hn er ei
  go_enter Try.func12, Try.ntmps12
  go_wp2_with (first
    | (go_at_call 8; (first | with_reducible refine (O1 _).mono ?_ | with_reducible refine (O2 _).mono ?_); rintro e w' ⟨rfl, rfl⟩)
    | (go_at_call 20; refine (C1 _).mono ?_; rintro e w' ⟨rfl, rfl⟩)
    | (go_at_call 14; refine (PK _).mono ?_; rintro e w' ⟨rfl, rfl⟩))
  go_ret
  exact ⟨rfl, rfl⟩
end Go.Proofs.Ytfpkmickapmdbaa
