/- What the functions of coxlessref02 and the laws' own functions of coxlesslaw02 return; no condition but those named. -/
import Derived.Test.YtfpkmickapmdbaaCplxFns
namespace Go.Proofs.Ytfpkmickapmdbaa
open Go.ChangeShapes Go.WideShapes Go.ChangeAt Go.RowKit

theorem rhalf_any (v : Int) (up : Bool) (h1 : 0 ≤ v) (h2 : v < 4294967296) : Still Try.prog 9 #[.int .u32 v, .bool up] (.int .i64 (halfZ v up)) := by
  intro w
  cases up
  · have e : halfZ v false = if v % 65536 < 32768 then v % 65536 else v % 65536 - 65536 := rfl
    by_cases h : v % 65536 < 32768
    · rw [if_pos h] at e
      have E := Lib.hid e
      clear e
      go_enter Try.func9, Try.ntmps9
      go_wp2
      go_ret
      exact ⟨ret_int E.out.symm, rfl⟩
    · rw [if_neg h] at e
      have E := Lib.hid e
      clear e
      go_enter Try.func9, Try.ntmps9
      go_wp2
      go_ret
      exact ⟨ret_int E.out.symm, rfl⟩
  · have e : halfZ v true = if v / 65536 < 32768 then v / 65536 else v / 65536 - 65536 := rfl
    by_cases h : v / 65536 < 32768
    · rw [if_pos h] at e
      have E := Lib.hid e
      clear e
      go_enter Try.func9, Try.ntmps9
      go_wp2
      go_ret
      exact ⟨ret_int E.out.symm, rfl⟩
    · rw [if_neg h] at e
      have E := Lib.hid e
      clear e
      go_enter Try.func9, Try.ntmps9
      go_wp2
      go_ret
      exact ⟨ret_int E.out.symm, rfl⟩

theorem down_any (v : Int) (h1 : -4611686018427387904 ≤ v) (h2 : v ≤ 4611686018427387904) : Still Try.prog 15 #[.int .i64 v] (.int .i64 (downZ v)) := by
  intro w
  have hd : downZ v = if v / 32768 < -32768 then -32768 else if 32767 < v / 32768 then 32767 else v / 32768 := rfl
  have HD := Lib.hid hd
  clear hd
  by_cases h0 : 0 ≤ v
  · go_enter Try.func15, Try.ntmps15
    go_wp2
    all_goals
      go_ret
      refine ⟨ret_int ?_, rfl⟩
      rw [HD.out]
      (repeat' split) <;> omega
  · have k1 := Int.mul_tdiv_add_tmod v 32768
    have k2 : v.tmod 32768 ≤ 0 := by
      have := Int.tmod_nonneg (a := -v) 32768 (by omega)
      rw [Int.neg_tmod] at this
      omega
    have k3 : -32768 < v.tmod 32768 := by
      have := Int.tmod_lt_of_pos (-v) (show (0 : Int) < 32768 by decide)
      rw [Int.neg_tmod] at this
      omega
    by_cases h3 : v % 32768 = 0
    · have e1 : v.tdiv 32768 = v / 32768 := by omega
      have e2 : v.tmod 32768 = 0 := by omega
      clear k1 k2 k3
      go_enter Try.func15, Try.ntmps15
      go_wp2
      all_goals
        go_ret
        refine ⟨ret_int ?_, rfl⟩
        rw [HD.out]
        (repeat' split) <;> omega
    · have e1 : v.tdiv 32768 = v / 32768 + 1 := by omega
      have e2 : ¬ v.tmod 32768 = 0 := by omega
      clear k1 k2 k3
      go_enter Try.func15, Try.ntmps15
      go_wp2
      all_goals
        go_ret
        refine ⟨ret_int ?_, rfl⟩
        rw [HD.out]
        (repeat' split) <;> omega

theorem join_any (x y : Int) (h1 : -32768 ≤ x) (h2 : x ≤ 32767) (h3 : -32768 ≤ y) (h4 : y ≤ 32767) : Still Try.prog 19 #[.int .i64 x, .int .i64 y] (.int .u32 (y % 65536 * 65536 + x % 65536)) := by
  intro w
  by_cases c1 : x < 0
  · by_cases c2 : y < 0
    all_goals
      go_enter Try.func19, Try.ntmps19
      go_wp2
      go_ret
      exact ⟨ret_int (by omega), rfl⟩
  · by_cases c2 : y < 0
    all_goals
      go_enter Try.func19, Try.ntmps19
      go_wp2
      go_ret
      exact ⟨ret_int (by omega), rfl⟩

/-- The document's product, by sign s = 1 or s = -1. -/
theorem rmul_any (x y s : Int) (h1 : 0 ≤ x) (h2 : x < 4294967296) (h3 : 0 ≤ y) (h4 : y < 4294967296) (hs : s = 1 ∨ s = -1) : Still Try.prog 11 #[.int .u32 x, .int .u32 y, .int .i64 s] (.int .u32 (if s = 1 then packZ (mulRe x y) (mulIm x y) else packZ (conRe x y) (conIm x y))) := by
  intro w
  have r1 := halfZ_range x false h1 h2
  have r2 := halfZ_range x true h1 h2
  have r3 := halfZ_range y false h3 h4
  have r4 := halfZ_range y true h3 h4
  have H1 := rhalf_any x false h1 h2
  have H2 := rhalf_any x true h1 h2
  have H3 := rhalf_any y false h3 h4
  have H4 := rhalf_any y true h3 h4
  have q5 : -32768 ≤ s * halfZ y true ∧ s * halfZ y true ≤ 32768 := by rcases hs with rfl | rfl <;> omega
  have m1 := mul_natAbs_le (x := halfZ x false) (y := halfZ y false) (A := 32768) (B := 32768) (by omega) (by omega)
  have m2 := mul_natAbs_le (x := halfZ x true) (y := s * halfZ y true) (A := 32768) (B := 32768) (by omega) (by omega)
  have m3 := mul_natAbs_le (x := halfZ x false) (y := s * halfZ y true) (A := 32768) (B := 32768) (by omega) (by omega)
  have m4 := mul_natAbs_le (x := halfZ x true) (y := halfZ y false) (A := 32768) (B := 32768) (by omega) (by omega)
  have er : (if s = 1 then packZ (mulRe x y) (mulIm x y) else packZ (conRe x y) (conIm x y)) = packZ (halfZ x false * halfZ y false - halfZ x true * (s * halfZ y true)) (halfZ x false * (s * halfZ y true) + halfZ x true * halfZ y false) := by
    rcases hs with rfl | rfl
    · rw [if_pos rfl, Int.one_mul]; rfl
    · rw [if_neg (by decide), Int.neg_mul, Int.one_mul, Int.mul_neg, Int.mul_neg, Int.sub_neg]
      unfold conRe conIm
      congr 1
      omega
  generalize (if s = 1 then packZ (mulRe x y) (mulIm x y) else packZ (conRe x y) (conIm x y)) = res at er ⊢
  have ER := Lib.hid er
  clear er
  have es : wrap64 (s * halfZ y true) = s * halfZ y true := by rcases hs with rfl | rfl <;> (unfold wrap64; omega)
  have q1 : -1073741824 ≤ halfZ x false * halfZ y false ∧ halfZ x false * halfZ y false ≤ 1073741824 := by omega
  have q2 : -1073741824 ≤ halfZ x true * (s * halfZ y true) ∧ halfZ x true * (s * halfZ y true) ≤ 1073741824 := by omega
  have q3 : -1073741824 ≤ halfZ x false * (s * halfZ y true) ∧ halfZ x false * (s * halfZ y true) ≤ 1073741824 := by omega
  have q4 : -1073741824 ≤ halfZ x true * halfZ y false ∧ halfZ x true * halfZ y false ≤ 1073741824 := by omega
  clear m1 m2 m3 m4
  generalize hP : halfZ x false * halfZ y false = P at *
  generalize hQ : halfZ x true * (s * halfZ y true) = Q at *
  generalize hR : halfZ x false * (s * halfZ y true) = R at *
  generalize hT : halfZ x true * halfZ y false = T at *
  generalize hV : s * halfZ y true = V at *
  have D1 := down_any (P - Q) (by omega) (by omega)
  have D2 := down_any (R + T) (by omega) (by omega)
  have c1 := clampZ_range ((P - Q) / 32768)
  have c2 := clampZ_range ((R + T) / 32768)
  have J := join_any (downZ (P - Q)) (downZ (R + T)) c1.1 c1.2 c2.1 c2.2
  go_enter Try.func11, Try.ntmps11
  go_wp2_with (first
    | (go_at_call 9; (first | with_reducible refine (H1 _).mono ?_ | with_reducible refine (H2 _).mono ?_ | with_reducible refine (H3 _).mono ?_ | with_reducible refine (H4 _).mono ?_); rintro e w' ⟨rfl, rfl⟩)
    | (go_at_call 15; (first | with_reducible refine (D1 _).mono ?_ | with_reducible refine (D2 _).mono ?_); rintro e w' ⟨rfl, rfl⟩)
    | (go_at_call 19; refine (J _).mono ?_; rintro e w' ⟨rfl, rfl⟩))
  go_ret
  exact ⟨ret_int ER.out.symm, rfl⟩

theorem part_any (v : Int) (up : Bool) (h1 : 0 ≤ v) (h2 : v < 4294967296) : Still Try.prog 18 #[.int .u32 v, .bool up] (.int .i64 (halfZ v up)) := by
  intro w
  have r1 := halfZ_range v up h1 h2
  have e2 : wrap64 (halfZ v up) = halfZ v up := by unfold wrap64; omega
  have R := Lib.hid (And.intro e2 (wrap_i16 (v % 65536)))
  clear e2 r1
  cases up
  · go_enter Try.func18, Try.ntmps18
    go_wp2
    go_ret
    refine ⟨ret_int ?_, rfl⟩
    have e : IntKind.i16.wrap (IntKind.u16.wrap v) = halfZ v false := by
      rw [show IntKind.u16.wrap v = v % 65536 from rfl, R.out.2, Int.emod_emod_of_dvd _ (Int.dvd_refl _)]; rfl
    rw [e]; exact R.out.1
  · go_enter Try.func18, Try.ntmps18
    go_wp2
    go_ret
    refine ⟨ret_int ?_, rfl⟩
    rw [wrap_hi v h1 h2]; exact R.out.1
end Go.Proofs.Ytfpkmickapmdbaa
