/- What the closings of the laws of parse share: the table of names and strconv's errors out of a row's list, a world for the witness; no condition. -/
import Derived.Test.YtnfmlmamgkpocaaGreatDoorCards
import Derived.Test.YtnfmlmamgkpocaaGreatDoorGBase
import Derived.Test.YtnfmlmamgkpocaaGreatDoorGIsa
import Derived.Test.YtnfmlmamgkpocaaGreatDoorGParX
import Derived.Stop.LaidErr
namespace Go.Proofs.YtnfmlmamgkpocaaGreatDoor
open Go.ChangeShapes Go.WideShapes Go.ChangeAt Go.RowKit

abbrev theLaid := Rows.parseKnownRow.laid
theorem names_of {W : World} (h : laidMet Tryz.prog theLaid W) : Names W :=
  laid_block (vs := namesL.map fun (l : List UInt8) => Value.string (ByteArray.mk l.toArray)) 5 0 h rfl (g := 0) (t := 160) (by kernel_rfl) (by kernel_rfl) (by kernel_rfl)
theorem star16 : "*" ++ "errors.errorString" = "*errors.errorString" := by decide
theorem row16 (u : TypeId) (h : Tryz.prog.typeName? 3 u = some "*errors.errorString") : u = 242 :=
  typeName_ptr_named (nm := "errors.errorString") (by rw [star16]; kernel_rfl) (by kernel_rfl) (by decide) u (by rw [star16]; exact h)
theorem errs_of {W : World} (h : laidMet Tryz.prog theLaid W) : Errs W := by
  have h4 := laidMet.tail (laidMet.tail (laidMet.tail (laidMet.tail h)))
  have h5 := laidMet.tail h4
  obtain ⟨a, s, hv, -⟩ := laid_sentinel h5 (g := 1) (ti := 154) (by kernel_rfl) (by kernel_rfl) Tryz.underlying154 row16 Tryz.underlying242 Tryz.underlying244 rfl rfl Tryz.underlying9 (by kernel_rfl) (by kernel_rfl)
  obtain ⟨a2, s2, hv2, -⟩ := laid_sentinel h4 (g := 2) (ti := 154) (by kernel_rfl) (by kernel_rfl) Tryz.underlying154 row16 Tryz.underlying242 Tryz.underlying244 rfl rfl Tryz.underlying9 (by kernel_rfl) (by kernel_rfl)
  exact ⟨⟨_, _, by simpa using World.var?_cell (g := 1) (by kernel_rfl) hv 0⟩, ⟨_, _, by simpa using World.var?_cell (g := 2) (by kernel_rfl) hv2 0⟩⟩
def lay16 (vs : Array Value) : Obj → Obj
  | .cells _ t frozen => .cells vs t frozen
  | o => o
noncomputable def dat16 (i : Nat) (t : TypeId) : Array Value := (((theLaid[i]?).bind fun d => flatT Tryz.prog 5 t d.2).getD []).toArray
abbrev rangeS : ByteArray := ⟨#[118, 97, 108, 117, 101, 32, 111, 117, 116, 32, 111, 102, 32, 114, 97, 110, 103, 101]⟩
abbrev syntaxS : ByteArray := ⟨#[105, 110, 118, 97, 108, 105, 100, 32, 115, 121, 110, 116, 97, 120]⟩
noncomputable def low16 : Nat := (World.holding Tryz.prog default ⟨#[], #[], []⟩).heap.size
/-- A world for the witness: the settled one, the tables' blocks holding what their initialisers lay, strconv's errors in blocks of their own. -/
noncomputable def laidWorld (os : Os) : World :=
  let w0 := World.holding Tryz.prog os ⟨#[.cells #[.string rangeS] 244, .cells #[.string syntaxS] 244], #[], []⟩
  { w0 with heap := (((((w0.heap.modify 0 (lay16 (dat16 0 160))).modify 5 (lay16 (dat16 1 256))).modify 6 (lay16 (dat16 2 257))).modify 4 (lay16 (dat16 3 247))).modify 2 (lay16 #[.iface 242 (.pointer (some ⟨low16, 0, none⟩))])).modify 1 (lay16 #[.iface 242 (.pointer (some ⟨low16 + 1, 0, none⟩))]) }
end Go.Proofs.YtnfmlmamgkpocaaGreatDoor
