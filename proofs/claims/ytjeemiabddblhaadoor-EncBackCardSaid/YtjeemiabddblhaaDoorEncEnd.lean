/- EncBack and EncMoves, their arguments' bounds as the row has them; no condition but these. -/
import Derived.Test.YtjeemiabddblhaaDoorEncLaws2
import Derived.Test.YtjeemiabddblhaaDoorEncLaws3
namespace Go.Proofs.YtjeemiabddblhaaDoor
open Go.ChangeShapes Go.WideShapes Go.ChangeAt Go.RowKit

theorem u32_of_wf {n : Int} (h : (Lit.int .u32 n).wf = true) : isU32 n := by
  simp only [Lit.wf, Bool.and_eq_true, decide_eq_true_eq] at h
  have h1 : IntKind.u32.min = 0 := rfl
  have h2 : IntKind.u32.max = 4294967295 := rfl
  exact ⟨by omega, by omega⟩
theorem encBack.walkA (W : World) (hT : Tables W) (a0 a1 : Int) (a2 : Bool) (a3 : In) (a4 a5 : Int) (w0 : (Lit.int .u32 a0).wf = true) (w1 : (Lit.int .u32 a1).wf = true) (w3 : a3.small) (_w4 : (Lit.int .u32 a4).wf = true) (w5 : (Lit.int .u8 a5).wf = true) :
    Calls Tryd.prog 6 #[.int .u32 a0, .int .u32 a1, .bool a2, a3.val, .int .u32 a4, .int .u8 a5] W fun e w' => e = .returned (.bool true) ∧ Made W w' :=
  encBack.walk W hT a0 a1 a2 a3 a4 a5 (u32_of_wf w0) (u32_of_wf w1) w3 (u8_of_wf w5)
theorem encMoves.walkA (W : World) (hT : Tables W) (a0 : In) (a1 a2 : Int) (w0 : a0.small) (w1 : (Lit.int .u32 a1).wf = true) (w2 : (Lit.int .u32 a2).wf = true) :
    Calls Tryd.prog 7 #[a0.val, .int .u32 a1, .int .u32 a2] W fun e w' => e = .returned (.bool true) ∧ Made W w' :=
  encMoves.walk W hT a0 a1 a2 w0 (u32_of_wf w1) (u32_of_wf w2)
end Go.Proofs.YtjeemiabddblhaaDoor
