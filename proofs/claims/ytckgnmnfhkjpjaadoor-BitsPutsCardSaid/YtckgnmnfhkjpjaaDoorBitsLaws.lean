/- awake and BitsBack return true, for every argument, in every world that holds the table of pieces. -/
import Derived.Test.YtckgnmnfhkjpjaaDoorBitsWord
import Derived.Test.YtckgnmnfhkjpjaaDoorBitsRef3
import Derived.Test.YtckgnmnfhkjpjaaDoorLaid
namespace Go.Proofs.YtckgnmnfhkjpjaaDoor
open Go.ChangeShapes Go.WideShapes Go.ChangeAt Go.RowKit

/-! ### the laws' own functions: awake, BitsKnown -/
theorem awake_any (W : World) (hp : Pieces W) : Pure Tryd.prog W 17 #[] (.bool true) := by
  intro w hg
  have u1 : isU32 134201343 := ⟨by decide, by decide⟩
  have u2 : isU32 4294918143 := ⟨by decide, by decide⟩
  have u3 : isU32 16777215 := ⟨by decide, by decide⟩
  have u4 : isU8 1 := ⟨by decide, by decide⟩
  have u5 : isU8 2 := ⟨by decide, by decide⟩
  have u6 : isU32 240 := ⟨by decide, by decide⟩
  have u7 : isU32 255 := ⟨by decide, by decide⟩
  have i4 : isI 4 := ⟨by decide, by decide⟩
  have i8 : isI 8 := ⟨by decide, by decide⟩
  have i128 : isI (-128) := ⟨by decide, by decide⟩
  have k1 : codeZ 134201343 = 1 := by decide
  have k2 : payZ 134201343 = 16777215 := by decide
  have k3 : parseZ 134201343 = 2 := by decide
  have k4 : getZ 240 4 8 = 15 := by decide
  have k5 : sextZ 255 8 = -1 := by decide
  have k6 : fitsB (-128) 8 0 true = true := by decide
  have k7 : wordZ 1 16777215 2 = 134201343 := by decide
  have k8 : thirtyZ 4294918143 = 1073741823 := by decide
  go_enter Tryd.func17, Tryd.ntmps17
  go_wp2_with (first
    | (go_at_call 18; with_reducible refine (parts_any W hp _ u1 _ (by assumption)).mono ?_; rintro e w' ⟨rfl, hg'⟩)
    | (go_at_call 9; with_reducible refine ((get_any _ _ _ u6 i8).pure W _ (by assumption)).mono ?_; rintro e w' ⟨rfl, hg'⟩)
    | (go_at_call 13; with_reducible refine ((sext_any _ _ u7 i8).pure W _ (by assumption)).mono ?_; rintro e w' ⟨rfl, hg'⟩)
    | (go_at_call 15; with_reducible refine ((fits_any _ _ _ _ i128).pure W _ (by assumption)).mono ?_; rintro e w' ⟨rfl, hg'⟩)
    | (go_at_call 19; with_reducible refine (word_any W hp _ _ _ u4 u3 u5 _ (by assumption)).mono ?_; rintro e w' ⟨rfl, hg'⟩)
    | (go_at_call 21; with_reducible refine (thirty_any W hp _ u2 _ (by assumption)).mono ?_; rintro e w' ⟨rfl, hg'⟩))
  go_ret
  exact ⟨rfl, by assumption⟩


theorem pieces_of {W : World} (h : laidMet Tryd.prog Rows.bitsBackRow.laid W) : Pieces W :=
  laid_block (vs := piecesCells.toList) 5 0 h rfl (g := 0) (t := 46) (by kernel_rfl) (by kernel_rfl) (by kernel_rfl)

/-- A world for the witness: the settled one, the table's block holding what its initialiser lays. -/
noncomputable def laidWorld (os : Os) : World :=
  { World.holding Tryd.prog os ⟨#[], #[], []⟩ with heap := (World.holding Tryd.prog os ⟨#[], #[], []⟩).heap.modify 0 fun
      | .cells _ t frozen => .cells piecesCells t frozen
      | o => o }

theorem wf_u32 {n : Int} (h : (Lit.int .u32 n).wf = true) : isU32 n := by
  simp only [Lit.wf, Bool.and_eq_true, decide_eq_true_eq] at h
  have h1 : IntKind.u32.min = 0 := rfl
  have h2 : IntKind.u32.max = 4294967295 := rfl
  exact ⟨by omega, by omega⟩
theorem wf_u8 {n : Int} (h : (Lit.int .u8 n).wf = true) : isU8 n := by
  simp only [Lit.wf, Bool.and_eq_true, decide_eq_true_eq] at h
  have h1 : IntKind.u8.min = 0 := rfl
  have h2 : IntKind.u8.max = 255 := rfl
  exact ⟨by omega, by omega⟩
theorem wf_i64 {n : Int} (h : (Lit.int .i64 n).wf = true) : isI n := by
  simp only [Lit.wf, Bool.and_eq_true, decide_eq_true_eq] at h
  have h1 : IntKind.i64.min = -9223372036854775808 := rfl
  have h2 : IntKind.i64.max = 9223372036854775807 := rfl
  exact ⟨by omega, by omega⟩

theorem codeZ_u8 (v : Int) : isU8 (codeZ v) := by unfold codeZ; exact ⟨by omega, by omega⟩
theorem parseZ_u8 (v : Int) : isU8 (parseZ v) := by unfold parseZ; exact ⟨by omega, by omega⟩
theorem payZ_u32 (v : Int) : isU32 (payZ v) := by unfold payZ; exact ⟨by omega, by omega⟩
theorem thirtyZ_u32 (v : Int) : isU32 (thirtyZ v) := by unfold thirtyZ; exact ⟨by omega, by omega⟩
theorem wordZ_u32 (c p q : Int) : isU32 (wordZ c p q) := by unfold wordZ; exact ⟨by omega, by omega⟩
theorem fromThirtyZ_u32 (v q : Int) : isU32 (fromThirtyZ v q) := by unfold fromThirtyZ; exact ⟨by omega, by omega⟩

namespace bitsBack
set_option maxHeartbeats 400000 in
theorem walk (W : World) (hp : Pieces W) (a0 a1 a2 a3 : Int) (w0 : (Lit.int .u32 a0).wf = true) (w1 : (Lit.int .u8 a1).wf = true) (w2 : (Lit.int .u32 a2).wf = true) (w3 : (Lit.int .u8 a3).wf = true) :
    Calls Tryd.prog 8 #[.int .u32 a0, .int .u8 a1, .int .u32 a2, .int .u8 a3] W fun e w' => e = .returned (.bool true) ∧ Grown W w' := by
  have u0 := wf_u32 w0
  have u1 := wf_u8 w1
  have u2 := wf_u32 w2
  have u3 := wf_u8 w3
  have b1 := codeZ_u8 a0
  have b2 := payZ_u32 a0
  have b3 := parseZ_u8 a0
  have b4 := thirtyZ_u32 a0
  have b5 := wordZ_u32 a1 a2 a3
  have b6 := fromThirtyZ_u32 a2 a3
  obtain ⟨l0, m0⟩ := id u0
  obtain ⟨l1, m1⟩ := id u1
  obtain ⟨l2, m2⟩ := id u2
  obtain ⟨l3, m3⟩ := id u3
  obtain ⟨c1, d1⟩ := id b1
  obtain ⟨c2, d2⟩ := id b2
  obtain ⟨c3, d3⟩ := id b3
  obtain ⟨c4, d4⟩ := id b4
  have k1 : wordZ (codeZ a0) (payZ a0) (parseZ a0) = a0 := by
    have e1 : payZ a0 / 16384 % 1024 = a0 / 65536 % 1024 := by unfold payZ; omega
    have e2 : payZ a0 % 16384 = a0 % 16384 := by unfold payZ; omega
    have e3 : codeZ a0 % 64 = a0 / 67108864 := by unfold codeZ; omega
    have e4 : parseZ a0 % 4 = a0 / 16384 % 4 := by unfold parseZ; omega
    unfold wordZ
    rw [e1, e2, e3, e4]
    omega
  have k2 : fromThirtyZ (thirtyZ a0) (parseZ a0) = a0 := by unfold fromThirtyZ thirtyZ parseZ; omega
  have k3 : thirtyZ a0 / 1073741824 = 0 := by unfold thirtyZ; omega
  have k4 : payZ a0 / 16777216 = 0 := by unfold payZ; omega
  have k5 : codeZ a0 / 64 = 0 := by unfold codeZ; omega
  have k6 : parseZ a0 / 4 = 0 := by unfold parseZ; omega
  have k7 : codeZ (wordZ a1 a2 a3) = a1 % 64 := by
    have e1 : 0 ≤ a2 / 16384 % 1024 * 65536 + a3 % 4 * 16384 + a2 % 16384 ∧ a2 / 16384 % 1024 * 65536 + a3 % 4 * 16384 + a2 % 16384 < 67108864 := by omega
    unfold codeZ wordZ
    rw [Int.add_assoc, Int.add_assoc, ← Int.add_assoc (a2 / 16384 % 1024 * 65536)]
    generalize a2 / 16384 % 1024 * 65536 + a3 % 4 * 16384 + a2 % 16384 = r at *
    omega
  have k8 : payZ (wordZ a1 a2 a3) = a2 % 16777216 := by
    have e1 : wordZ a1 a2 a3 / 65536 % 1024 = a2 / 16384 % 1024 := by unfold wordZ; omega
    have e2 : wordZ a1 a2 a3 % 16384 = a2 % 16384 := by unfold wordZ; omega
    unfold payZ
    rw [e1, e2]
    omega
  have k9 : parseZ (wordZ a1 a2 a3) = a3 % 4 := by unfold wordZ parseZ; omega
  have k10 : thirtyZ (fromThirtyZ a2 a3) = a2 % 1073741824 := by unfold thirtyZ fromThirtyZ; omega
  have hg := Grown.refl W
  clear w0 w1 w2 w3
  go_enter Tryd.func8, Tryd.ntmps8
  go_wp2_with (first
    | (go_at_call 18; (first | with_reducible refine (parts_any W hp _ u0 _ (by assumption)).mono ?_ | with_reducible refine (parts_any W hp _ b5 _ (by assumption)).mono ?_); rintro e w' ⟨rfl, hg'⟩)
    | (go_at_call 19; (first | with_reducible refine (word_any W hp _ _ _ b1 b2 b3 _ (by assumption)).mono ?_ | with_reducible refine (word_any W hp _ _ _ u1 u2 u3 _ (by assumption)).mono ?_); rintro e w' ⟨rfl, hg'⟩)
    | (go_at_call 21; (first | with_reducible refine (thirty_any W hp _ u0 _ (by assumption)).mono ?_ | with_reducible refine (thirty_any W hp _ b6 _ (by assumption)).mono ?_); rintro e w' ⟨rfl, hg'⟩)
    | (go_at_call 23; (first | with_reducible refine (fromThirty_any W hp _ _ b4 b3 _ (by assumption)).mono ?_ | with_reducible refine (fromThirty_any W hp _ _ u2 u3 _ (by assumption)).mono ?_); rintro e w' ⟨rfl, hg'⟩)
    | (go_at_call 17; with_reducible refine (awake_any W hp _ (by assumption)).mono ?_; rintro e w' ⟨rfl, hg'⟩))
  go_ret
  exact ⟨rfl, by assumption⟩
end bitsBack
end Go.Proofs.YtckgnmnfhkjpjaaDoor
