/- What the closings of the laws of inst share: the table of names out of a row's list, a world for the witness; no condition. -/
import Derived.Test.YtkmnndiciihefaaDoorInstTurned
namespace Go.Proofs.YtkmnndiciihefaaDoor
open Go.ChangeShapes Go.WideShapes Go.ChangeAt Go.RowKit

theorem names_of {W : World} (h : laidMet Tryd.prog Rows.instKnownRow.laid W) : Names W :=
  laid_block (vs := namesL.map fun (l : List UInt8) => Value.string (ByteArray.mk l.toArray)) 5 0 h rfl (g := 0) (t := 87) (by kernel_rfl) (by kernel_rfl) (by kernel_rfl)
/-- A world for the witness: the settled one, the table's block holding what its initialiser lays. -/
noncomputable def laidWorld (os : Os) : World :=
  { World.holding Tryd.prog os ⟨#[], #[], []⟩ with heap := (World.holding Tryd.prog os ⟨#[], #[], []⟩).heap.modify 0 fun
      | .cells _ t frozen => .cells (namesL.map fun l => Value.string ⟨l.toArray⟩).toArray t frozen
      | o => o }
namespace instTurned
theorem walkA (W : World) (hN : Names W) (a0 : In) (a1 : Int) (w0 : a0.small) (w1 : (Lit.int .u8 a1).wf = true) : Calls Tryd.prog 6 #[a0.val, .int .u8 a1] W fun e w' => e = .returned (.bool true) ∧ Made W w' :=
  walk W hN a0 w0 a1 (u8_of_wf w1).1 (u8_of_wf w1).2
end instTurned
end Go.Proofs.YtkmnndiciihefaaDoor
