/- The laws of ext, their arguments' bounds as the row has them; no condition but these. -/
import Derived.Test.YteghoocjhhahbaaDoorExtLaws2
import Derived.Test.YteghoocjhhahbaaDoorExtLaws3
import Derived.Test.YteghoocjhhahbaaDoorExtLaws4
namespace Go.Proofs.YteghoocjhhahbaaDoor
open Go.ChangeShapes Go.WideShapes Go.ChangeAt Go.RowKit

theorem u32_of_wf {n : Int} (h : (Lit.int .u32 n).wf = true) : isU32 n := by
  simp only [Lit.wf, Bool.and_eq_true, decide_eq_true_eq] at h
  have h1 : IntKind.u32.min = 0 := rfl
  have h2 : IntKind.u32.max = 4294967295 := rfl
  exact ⟨by omega, by omega⟩
theorem i32_of_wf {n : Int} (h : (Lit.int .i32 n).wf = true) : -2147483648 ≤ n ∧ n ≤ 2147483647 := by
  simp only [Lit.wf, Bool.and_eq_true, decide_eq_true_eq] at h
  have h1 : IntKind.i32.min = -2147483648 := rfl
  have h2 : IntKind.i32.max = 2147483647 := rfl
  exact ⟨by omega, by omega⟩
theorem i64_of_wf {n : Int} (h : (Lit.int .i64 n).wf = true) : isI n := by
  simp only [Lit.wf, Bool.and_eq_true, decide_eq_true_eq] at h
  have h1 : IntKind.i64.min = -9223372036854775808 := rfl
  have h2 : IntKind.i64.max = 9223372036854775807 := rfl
  exact ⟨by omega, by omega⟩
theorem extTells.walkA (W : World) (hN : Names W) (a0 : In) (a1 : Int) (w0 : a0.small) (w1 : (Lit.int .u32 a1).wf = true) : Calls Tryd.prog 3 #[a0.val, .int .u32 a1] W fun e w' => e = .returned (.bool true) ∧ Made W w' :=
  extTells.walk W hN a0 w0 a1 (u32_of_wf w1)
theorem extParts.walkA (W : World) (hN : Names W) (a0 a1 a2 a3 : Int) (w0 : (Lit.int .i64 a0).wf = true) (w1 : (Lit.int .u32 a1).wf = true) (w2 : (Lit.int .u32 a2).wf = true) (w3 : (Lit.int .u32 a3).wf = true) :
    Calls Tryd.prog 4 #[.int .i64 a0, .int .u32 a1, .int .u32 a2, .int .u32 a3] W fun e w' => e = .returned (.bool true) ∧ Made W w' :=
  extParts.walk W hN a0 a1 a2 a3 (i64_of_wf w0) (u32_of_wf w1) (u32_of_wf w2) (u32_of_wf w3)
theorem extMoves.walkA (W : World) (hN : Names W) (a0 a1 a2 a3 : Int) (w0 : (Lit.int .u32 a0).wf = true) (w1 : (Lit.int .u32 a1).wf = true) (w2 : (Lit.int .u32 a2).wf = true) (w3 : (Lit.int .u8 a3).wf = true) :
    Calls Tryd.prog 7 #[.int .u32 a0, .int .u32 a1, .int .u32 a2, .int .u8 a3] W fun e w' => e = .returned (.bool true) ∧ Made W w' :=
  extMoves.walk W hN a0 a1 a2 a3 (u32_of_wf w0) (u32_of_wf w1) (u32_of_wf w2) (u8_of_wf w3)
theorem extBack.walkA (W : World) (hN : Names W) (a0 a1 a2 : Int) (a3 : In) (a4 : Int) (w0 : (Lit.int .i32 a0).wf = true) (w1 : (Lit.int .u32 a1).wf = true) (w2 : (Lit.int .u32 a2).wf = true) (w3 : a3.small) (w4 : (Lit.int .u32 a4).wf = true) :
    Calls Tryd.prog 6 #[.int .i32 a0, .int .u32 a1, .int .u32 a2, a3.val, .int .u32 a4] W fun e w' => e = .returned (.bool true) ∧ Made W w' :=
  extBack.walk W hN a0 a1 a2 a3 a4 (i32_of_wf w0).1 (i32_of_wf w0).2 (u32_of_wf w1) (u32_of_wf w2) w3 (u32_of_wf w4)
end Go.Proofs.YteghoocjhhahbaaDoor
