/- awake and DuplexKnown of the laws of duplex return true, in every world that holds the tables of names, of small instructions and of pieces. Written by wip/tools/gen_duplaws.py. -/
import Derived.Test.YtckekkedjlkljaaDoorDupPair
import Derived.Test.YtckekkedjlkljaaDoorDupSplit
import Derived.Test.YtckekkedjlkljaaDoorLaid
namespace Go.Proofs.YtckekkedjlkljaaDoor
open Go.ChangeShapes Go.WideShapes Go.ChangeAt Go.RowKit Go.Sort BigFrame

theorem names_of {W : World} (h : laidMet Tryd.prog Rows.duplexKnownRow.laid W) : Names W :=
  laid_block (vs := namesL.map fun (l : List UInt8) => Value.string (ByteArray.mk l.toArray)) 5 1 h rfl (g := 2) (t := 95) (by kernel_rfl) (by kernel_rfl) (by kernel_rfl)
theorem pieces_of {W : World} (h : laidMet Tryd.prog Rows.duplexKnownRow.laid W) : Pieces W :=
  laid_block (vs := piecesCells.toList) 5 0 h rfl (g := 1) (t := 74) (by kernel_rfl) (by kernel_rfl) (by kernel_rfl)
theorem srows_of {W : World} (h : laidMet Tryd.prog Rows.duplexKnownRow.laid W) : SRows W :=
  laid_block (vs := srowsV) 5 2 h rfl (g := 0) (t := 69) (by kernel_rfl) (by kernel_rfl) (by kernel_rfl)
theorem tabs_of {W : World} (h : laidMet Tryd.prog Rows.duplexKnownRow.laid W) : Tabs W := ⟨names_of h, srows_of h, pieces_of h⟩
def layNames : Obj → Obj
  | .cells _ t frozen => .cells (namesL.map fun l => Value.string ⟨l.toArray⟩).toArray t frozen
  | o => o
def layRows : Obj → Obj
  | .cells _ t frozen => .cells srowsV.toArray t frozen
  | o => o
def layPieces : Obj → Obj
  | .cells _ t frozen => .cells piecesCells t frozen
  | o => o
/-- A world for the witness: the settled one, the tables' blocks holding what their initialisers lay. -/
noncomputable def laidWorld (os : Os) : World :=
  { World.holding Tryd.prog os ⟨#[], #[], []⟩ with heap := (((World.holding Tryd.prog os ⟨#[], #[], []⟩).heap.modify 2 layNames).modify 0 layRows).modify 1 layPieces }
theorem u32_of_wf {n : Int} (h : (Lit.int .u32 n).wf = true) : isU32 n := by
  simp only [Lit.wf, Bool.and_eq_true, decide_eq_true_eq] at h
  have h1 : IntKind.u32.min = 0 := rfl
  have h2 : IntKind.u32.max = 4294967295 := rfl
  exact ⟨by omega, by omega⟩
theorem pair_lit (a b : In) (ha : smallB a = true) (hb : smallB b = true) (v : Int) (o : Bool) (h : pairP a b = (v, o)) (W : World) (hT : Tabs W) : Makes Tryd.prog W 7 #[a.val, b.val] (.tuple #[.int .u32 v, .bool o]) := by
  have := pair_any W hT a b (small_of ha) (small_of hb)
  rwa [h] at this
theorem split_lit (c : Int) (h0 : 0 ≤ c) (h1 : c < 4294967296) (x y : In) (o : Bool) (h : splitP c = (x, y, o)) (W : World) (hT : Tabs W) : Makes Tryd.prog W 9 #[.int .u32 c] (.tuple #[x.val, y.val, .bool o]) := by
  have := split_any W hT c ⟨h0, h1⟩
  rwa [h] at this
theorem canon_lit (c : Int) (h0 : 0 ≤ c) (h1 : c < 4294967296) (o : Bool) (h : canonB c = o) (W : World) (hT : Tabs W) : Makes Tryd.prog W 10 #[.int .u32 c] (.bool o) := by
  have := canon_any W hT c ⟨h0, h1⟩
  rwa [h] at this
section
attribute [local irreducible] World.cell?
set_option maxHeartbeats 1000000 in
theorem movi_any (W : World) (d : Int) : Makes Tryd.prog W 8 #[.int .u8 d] (.agg #[.int .u8 8, .int .u8 d, .int .u8 0, .int .u8 0, .int .u8 0, .int .u8 0, .int .u8 0, .bool false, .bool false, .int .u16 0, .int .i64 0]) := by
  intro w hm
  have hz := hm.size
  have H0 := Lib.hid hm
  clear hm
  go_enter Tryd.func8, Tryd.ntmps8
  go_wp2
  refine bodyPost_ret (v := .agg #[.int .u8 8, .int .u8 d, .int .u8 0, .int .u8 0, .int .u8 0, .int .u8 0, .int .u8 0, .bool false, .bool false, .int .u16 0, .int .i64 0]) (by simp [results, Tryd.results8, go_sem]) rfl ?_
  exact ⟨rfl, H0.out.alloc hz _⟩
end
end Go.Proofs.YtckekkedjlkljaaDoor
