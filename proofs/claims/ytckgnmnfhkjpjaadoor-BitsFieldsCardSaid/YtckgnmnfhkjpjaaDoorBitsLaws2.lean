/- BitsWords, BitsFields and BitsKnown return true, for every argument, in every world that holds the table of pieces. -/
import Derived.Test.YtckgnmnfhkjpjaaDoorBitsLaws
namespace Go.Proofs.YtckgnmnfhkjpjaaDoor
open Go.ChangeShapes Go.WideShapes Go.ChangeAt Go.RowKit

namespace bitsWords
set_option maxHeartbeats 400000 in
theorem walk (W : World) (hp : Pieces W) (a0 a1 a2 a3 : Int) (w0 : (Lit.int .u32 a0).wf = true) (w1 : (Lit.int .u8 a1).wf = true) (w2 : (Lit.int .u32 a2).wf = true) (w3 : (Lit.int .u8 a3).wf = true) :
    Calls Tryd.prog 4 #[.int .u32 a0, .int .u8 a1, .int .u32 a2, .int .u8 a3] W fun e w' => e = .returned (.bool true) ∧ Grown W w' := by
  have u0 := wf_u32 w0
  have u1 := wf_u8 w1
  have u2 := wf_u32 w2
  have u3 := wf_u8 w3
  have b1 := codeZ_u8 a0
  have b3 := parseZ_u8 a0
  have i0 : isI 0 := ⟨by decide, by decide⟩
  have i1 : isI 26 := ⟨by decide, by decide⟩
  have i2 : isI 6 := ⟨by decide, by decide⟩
  have i3 : isI 14 := ⟨by decide, by decide⟩
  have i4 : isI 2 := ⟨by decide, by decide⟩
  have i5 : isI 16 := ⟨by decide, by decide⟩
  have i6 : isI 10 := ⟨by decide, by decide⟩
  obtain ⟨l0, m0⟩ := id u0
  obtain ⟨c1, d1⟩ := id b1
  obtain ⟨c3, d3⟩ := id b3
  have k1 : getZ a0 26 6 = codeZ a0 := by rw [show getZ a0 26 6 = _ from getZ_lit a0 26 6 (by decide)]; unfold codeZ; omega
  have k2 : getZ a0 14 2 = parseZ a0 := by rw [show getZ a0 14 2 = _ from getZ_lit a0 14 2 (by decide)]; unfold parseZ; omega
  have k3 : getZ a0 0 14 = a0 % 16384 := by rw [show getZ a0 0 14 = _ from getZ_lit a0 0 14 (by decide)]; omega
  have k4 : getZ a0 16 10 = a0 / 65536 % 1024 := by rw [show getZ a0 16 10 = _ from getZ_lit a0 16 10 (by decide)]; omega
  have k5 : payZ a0 = a0 % 16384 + a0 / 65536 % 1024 * 16384 := by unfold payZ; omega
  have hg := Grown.refl W
  clear w0 w1 w2 w3
  go_enter Tryd.func4, Tryd.ntmps4
  go_wp2_with (first
    | (go_at_call 18; with_reducible refine (parts_any W hp _ u0 _ (by assumption)).mono ?_; rintro e w' ⟨rfl, hg'⟩)
    | (go_at_call 19; with_reducible refine (word_any W hp _ _ _ u1 u2 u3 _ (by assumption)).mono ?_; rintro e w' ⟨rfl, hg'⟩)
    | (go_at_call 21; with_reducible refine (thirty_any W hp _ u0 _ (by assumption)).mono ?_; rintro e w' ⟨rfl, hg'⟩)
    | (go_at_call 20; with_reducible refine ((refWord_any _ _ _ u1 u2 u3).pure W _ (by assumption)).mono ?_; rintro e w' ⟨rfl, hg'⟩)
    | (go_at_call 22; with_reducible refine ((refThirty_any _ u0).pure W _ (by assumption)).mono ?_; rintro e w' ⟨rfl, hg'⟩)
    | (go_at_call 10; (first | with_reducible refine ((refGet_any _ _ _ u0 i1 i2).pure W _ (by assumption)).mono ?_ | with_reducible refine ((refGet_any _ _ _ u0 i3 i4).pure W _ (by assumption)).mono ?_ | with_reducible refine ((refGet_any _ _ _ u0 i0 i3).pure W _ (by assumption)).mono ?_ | with_reducible refine ((refGet_any _ _ _ u0 i5 i6).pure W _ (by assumption)).mono ?_); rintro e w' ⟨rfl, hg'⟩)
    | (go_at_call 17; with_reducible refine (awake_any W hp _ (by assumption)).mono ?_; rintro e w' ⟨rfl, hg'⟩))
  go_ret
  exact ⟨rfl, by assumption⟩
end bitsWords

namespace bitsFields
set_option maxHeartbeats 400000 in
theorem walk (W : World) (hp : Pieces W) (a0 a1 a2 a3 a4 a5 : Int) (a6 : Bool) (w0 : (Lit.int .u32 a0).wf = true) (w1 : (Lit.int .u32 a1).wf = true) (w2 : (Lit.int .i64 a2).wf = true) (w3 : (Lit.int .i64 a3).wf = true) (w4 : (Lit.int .i64 a4).wf = true) (_w5 : (Lit.int .i64 a5).wf = true) :
    Calls Tryd.prog 3 #[.int .u32 a0, .int .u32 a1, .int .i64 a2, .int .i64 a3, .int .i64 a4, .int .i64 a5, .bool a6] W fun e w' => e = .returned (.bool true) ∧ Grown W w' := by
  have u0 := wf_u32 w0
  have u1 := wf_u32 w1
  have u2 := wf_i64 w2
  have u3 := wf_i64 w3
  have u4 := wf_i64 w4
  have hg := Grown.refl W
  clear w0 w1 w2 w3 w4
  cases hf : fitsB a4 a3 a5 a6
  all_goals
    go_enter Tryd.func3, Tryd.ntmps3
    go_wp2_with (first
      | (go_at_call 9; with_reducible refine ((get_any _ _ _ u0 u3).pure W _ (by assumption)).mono ?_; rintro e w' ⟨rfl, hg'⟩)
      | (go_at_call 11; with_reducible refine ((put_any _ _ _ _ u0 u1 u3).pure W _ (by assumption)).mono ?_; rintro e w' ⟨rfl, hg'⟩)
      | (go_at_call 13; with_reducible refine ((sext_any _ _ u1 u3).pure W _ (by assumption)).mono ?_; rintro e w' ⟨rfl, hg'⟩)
      | (go_at_call 15; with_reducible refine ((fits_any _ _ _ _ u4).pure W _ (by assumption)).mono ?_; rintro e w' ⟨rfl, hg'⟩)
      | (go_at_call 10; with_reducible refine ((refGet_any _ _ _ u0 u2 u3).pure W _ (by assumption)).mono ?_; rintro e w' ⟨rfl, hg'⟩)
      | (go_at_call 12; with_reducible refine ((refPut_any _ _ _ _ u0 u1 u2 u3).pure W _ (by assumption)).mono ?_; rintro e w' ⟨rfl, hg'⟩)
      | (go_at_call 14; with_reducible refine ((refSext_any _ _ u1).pure W _ (by assumption)).mono ?_; rintro e w' ⟨rfl, hg'⟩)
      | (go_at_call 16; with_reducible refine ((refFits_any _ _ _ _ u4).pure W _ (by assumption)).mono ?_; rintro e w' ⟨rfl, hg'⟩)
      | (go_at_call 17; with_reducible refine (awake_any W hp _ (by assumption)).mono ?_; rintro e w' ⟨rfl, hg'⟩))
    go_ret
    exact ⟨rfl, by assumption⟩
end bitsFields

namespace bitsKnown
set_option maxHeartbeats 400000 in
theorem walk (W : World) (hp : Pieces W) :
    Calls Tryd.prog 5 #[] W fun e w' => e = .returned (.bool true) ∧ Grown W w' := by
  have hg := Grown.refl W
  have p1 : putZ 0 4 4 31 = 240 := by decide
  have p2 : getZ 1 31 2 = 0 := by decide
  have p3 : getZ 2147483648 31 1 = 1 := by decide
  have p4 : getZ 4294967295 0 32 = 4294967295 := by decide
  have p5 : putZ 5 32 0 9 = 5 := by decide
  have p6 : putZ 0 0 32 9 = 9 := by decide
  have p7 : putZ 7 (-1) 2 0 = 7 := by decide
  have p8 : getZ 7 0 (-1) = 0 := by decide
  have p9 : sextZ 127 8 = 127 := by decide
  have p10 : sextZ 5 0 = 0 := by decide
  have p11 : sextZ 2147483648 32 = -2147483648 := by decide
  have p12 : sextZ 1 1 = -1 := by decide
  have p13 : sextZ 1 33 = 0 := by decide
  have p14 : fitsB 128 8 0 true = false := by decide
  have p15 : fitsB 6 8 2 false = false := by decide
  have p16 : fitsB 1020 8 2 false = true := by decide
  have p17 : fitsB 1024 8 2 false = false := by decide
  have p18 : fitsB 4294967295 32 0 false = true := by decide
  have p19 : fitsB 0 0 0 false = false := by decide
  have p20 : fitsB 0 8 9 false = false := by decide
  have p21 : fromThirtyZ 1 3 = 49153 := by decide
  go_enter Tryd.func5, Tryd.ntmps5
  go_wp2_with (first
    | (go_at_call 9; refine ((get_any _ _ _ ⟨by decide, by decide⟩ ⟨by decide, by decide⟩).pure W _ (by assumption)).mono ?_; rintro e w' ⟨rfl, hg'⟩)
    | (go_at_call 11; refine ((put_any _ _ _ _ ⟨by decide, by decide⟩ ⟨by decide, by decide⟩ ⟨by decide, by decide⟩).pure W _ (by assumption)).mono ?_; rintro e w' ⟨rfl, hg'⟩)
    | (go_at_call 13; refine ((sext_any _ _ ⟨by decide, by decide⟩ ⟨by decide, by decide⟩).pure W _ (by assumption)).mono ?_; rintro e w' ⟨rfl, hg'⟩)
    | (go_at_call 15; refine ((fits_any _ _ _ _ ⟨by decide, by decide⟩).pure W _ (by assumption)).mono ?_; rintro e w' ⟨rfl, hg'⟩)
    | (go_at_call 23; refine (fromThirty_any W hp _ _ ⟨by decide, by decide⟩ ⟨by decide, by decide⟩ _ (by assumption)).mono ?_; rintro e w' ⟨rfl, hg'⟩)
    | (go_at_call 17; with_reducible refine (awake_any W hp _ (by assumption)).mono ?_; rintro e w' ⟨rfl, hg'⟩))
  go_ret
  exact ⟨rfl, by assumption⟩
end bitsKnown
end Go.Proofs.YtckgnmnfhkjpjaaDoor
