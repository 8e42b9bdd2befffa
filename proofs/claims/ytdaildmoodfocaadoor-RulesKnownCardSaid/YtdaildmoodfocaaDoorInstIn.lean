/- An instruction as a value of the program: its eleven cells, and the block of a variable that holds one; no condition. -/
import Derived.Test.YtdaildmoodfocaaDoorIsaAt
import Derived.Test.YtdaildmoodfocaaDoorInstMath
namespace Go.Proofs.YtdaildmoodfocaaDoor
open Go.ChangeShapes Go.WideShapes Go.ChangeAt Go.RowKit Go.Sort

def In.cells (x : In) : List Value := [.int .u8 x.op, .int .u8 x.d, .int .u8 x.s, .int .u8 x.t, .int .u8 x.n, .int .u8 x.pred, .int .u8 x.mode, .bool x.new, .bool x.ext, .int .u16 x.count, .int .i64 x.imm]
abbrev In.val (x : In) : Value := .agg #[.int .u8 x.op, .int .u8 x.d, .int .u8 x.s, .int .u8 x.t, .int .u8 x.n, .int .u8 x.pred, .int .u8 x.mode, .bool x.new, .bool x.ext, .int .u16 x.count, .int .i64 x.imm]
/-- The block of a variable that holds an instruction. -/
abbrev InAt (w : World) (b : Nat) (x : In) : Prop := w.heap[b]? = some (.cells x.cells.toArray 24 (0, 0))
theorem in_cells {w : World} {b : Nat} {x : In} (h : InAt w b x) :
    w.cell? ⟨b, 0, none⟩ = some (.int .u8 x.op) ∧ w.cell? ⟨b, 1, none⟩ = some (.int .u8 x.d) ∧ w.cell? ⟨b, 2, none⟩ = some (.int .u8 x.s) ∧ w.cell? ⟨b, 3, none⟩ = some (.int .u8 x.t) ∧
    w.cell? ⟨b, 4, none⟩ = some (.int .u8 x.n) ∧ w.cell? ⟨b, 5, none⟩ = some (.int .u8 x.pred) ∧ w.cell? ⟨b, 6, none⟩ = some (.int .u8 x.mode) ∧ w.cell? ⟨b, 7, none⟩ = some (.bool x.new) ∧
    w.cell? ⟨b, 8, none⟩ = some (.bool x.ext) ∧ w.cell? ⟨b, 9, none⟩ = some (.int .u16 x.count) ∧ w.cell? ⟨b, 10, none⟩ = some (.int .i64 x.imm) :=
  ⟨cell_of_lit h 0, cell_of_lit h 1, cell_of_lit h 2, cell_of_lit h 3, cell_of_lit h 4, cell_of_lit h 5, cell_of_lit h 6, cell_of_lit h 7, cell_of_lit h 8, cell_of_lit h 9, cell_of_lit h 10⟩
end Go.Proofs.YtdaildmoodfocaaDoor
