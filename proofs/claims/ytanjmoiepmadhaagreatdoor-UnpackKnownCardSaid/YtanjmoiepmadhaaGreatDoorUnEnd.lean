/- What the closings of the laws of unpack share: the tables out of a row's list, a world for the witness; no condition. -/
import Derived.Test.YtanjmoiepmadhaaGreatDoorCards
import Derived.Test.YtanjmoiepmadhaaGreatDoorGBase
import Derived.Test.YtanjmoiepmadhaaGreatDoorGDup
namespace Go.Proofs.YtanjmoiepmadhaaGreatDoor
open Go.ChangeShapes Go.WideShapes Go.ChangeAt Go.RowKit

abbrev theLaid := Rows.unpackReadsRow.laid
theorem names_of {W : World} (h : laidMet Tryz.prog theLaid W) : Names W :=
  laid_block (vs := namesL.map fun (l : List UInt8) => Value.string (ByteArray.mk l.toArray)) 5 1 h rfl (g := 2) (t := 228) (by kernel_rfl) (by kernel_rfl) (by kernel_rfl)
theorem pieces_of {W : World} (h : laidMet Tryz.prog theLaid W) : Pieces W :=
  laid_block (vs := piecesCells.toList) 5 0 h rfl (g := 0) (t := 140) (by kernel_rfl) (by kernel_rfl) (by kernel_rfl)
theorem srows_of {W : World} (h : laidMet Tryz.prog theLaid W) : SRows W :=
  laid_block (vs := srowsV) 5 2 h rfl (g := 1) (t := 216) (by kernel_rfl) (by kernel_rfl) (by kernel_rfl)
theorem tabs_of {W : World} (h : laidMet Tryz.prog theLaid W) : Tabs W := ⟨names_of h, srows_of h, pieces_of h⟩
def layNames : Obj → Obj
  | .cells _ t frozen => .cells (namesL.map fun l => Value.string ⟨l.toArray⟩).toArray t frozen
  | o => o
def layRows : Obj → Obj
  | .cells _ t frozen => .cells srowsV.toArray t frozen
  | o => o
def layPieces : Obj → Obj
  | .cells _ t frozen => .cells piecesCells t frozen
  | o => o
/-- A world for the witness: the settled one, the tables' blocks holding what their initialisers lay. -/
noncomputable def laidWorld (os : Os) : World :=
  { World.holding Tryz.prog os ⟨#[], #[], []⟩ with heap := (((World.holding Tryz.prog os ⟨#[], #[], []⟩).heap.modify 2 layNames).modify 1 layRows).modify 0 layPieces }
end Go.Proofs.YtanjmoiepmadhaaGreatDoor
