/- What the closings of the laws of rules share: the table of names out of a row's list, a world for the witness; no condition. -/
import Derived.Test.YtdaildmoodfocaaDoorCards
import Derived.Test.YtdaildmoodfocaaDoorLaid
import Derived.Test.YtdaildmoodfocaaDoorIsaUse
namespace Go.Proofs.YtdaildmoodfocaaDoor
open Go.ChangeShapes Go.WideShapes Go.ChangeAt Go.RowKit

theorem names_of {W : World} (h : laidMet Tryd.prog Rows.rulesKnownRow.laid W) : Names W :=
  laid_block (vs := namesL.map fun (l : List UInt8) => Value.string (ByteArray.mk l.toArray)) 5 0 h rfl (g := 0) (t := 87) (by kernel_rfl) (by kernel_rfl) (by kernel_rfl)
/-- A world for the witness: the settled one, the table's block holding what its initialiser lays. -/
noncomputable def laidWorld (os : Os) : World :=
  { World.holding Tryd.prog os ⟨#[], #[], []⟩ with heap := (World.holding Tryd.prog os ⟨#[], #[], []⟩).heap.modify 0 fun
      | .cells _ t frozen => .cells (namesL.map fun l => Value.string ⟨l.toArray⟩).toArray t frozen
      | o => o }
end Go.Proofs.YtdaildmoodfocaaDoor
