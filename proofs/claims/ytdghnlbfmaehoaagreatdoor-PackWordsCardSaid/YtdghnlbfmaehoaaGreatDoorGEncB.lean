/- What read of package enc returns, for every row and payload, in every world that holds the row's fields. · What Inst of package enc returns, for every word, upper part and address, in every world that has grown out of one that holds the tables of names and of pieces. -/
import Derived.Test.YtdghnlbfmaehoaaGreatDoorGEnc
import Derived.Deep.CutRange
import Derived.Deep.RegionHeld3
import Derived.Deep.DrawnRows
namespace Go.Proofs.YtdghnlbfmaehoaaGreatDoor
section
set_option maxRecDepth 100000
open Go.ChangeShapes Go.WideShapes Go.ChangeAt Go.RowKit Go.Sort BigFrame

abbrev set11 (w : World) (b : Nat) (v0 v1 v2 v3 v4 v5 v6 v7 v8 v9 v10 : Value) : World :=
  ((((((((((w.setCell ⟨b, 0, none⟩ v0).setCell ⟨b, 1, none⟩ v1).setCell ⟨b, 2, none⟩ v2).setCell ⟨b, 3, none⟩ v3).setCell ⟨b, 4, none⟩ v4).setCell ⟨b, 5, none⟩ v5).setCell ⟨b, 6, none⟩ v6).setCell ⟨b, 7, none⟩ v7).setCell ⟨b, 8, none⟩ v8).setCell ⟨b, 9, none⟩ v9).setCell ⟨b, 10, none⟩ v10
theorem made_set11 {W w : World} {b : Nat} (h : Made W w) (hb : W.heap.size ≤ b) (v0 v1 v2 v3 v4 v5 v6 v7 v8 v9 v10 : Value) : Made W (set11 w b v0 v1 v2 v3 v4 v5 v6 v7 v8 v9 v10) :=
  ((((((((((h.setCell hb v0).setCell hb v1).setCell hb v2).setCell hb v3).setCell hb v4).setCell hb v5).setCell hb v6).setCell hb v7).setCell hb v8).setCell hb v9).setCell hb v10
theorem read_drop (p u : Int) (has : Bool) (pc : Int) (l : List Fd) (k : Nat) (h : k < l.length) (low : Int) (y : In) : readFrom p u has pc (l.drop k) low y =
    if isVal l[k] then
      if has && decide (256 ≤ getZ p (low - l[k].bits) l[k].bits) then (inZero, false)
      else readFrom p u has pc (l.drop (k + 1)) (low - l[k].bits) { y with imm := joinV l[k] (getZ p (low - l[k].bits) l[k].bits) u has pc }
    else readFrom p u has pc (l.drop (k + 1)) (low - l[k].bits) (setZ y l[k].kind (getZ p (low - l[k].bits) l[k].bits)) := by
  rw [List.drop_eq_getElem_cons h]; rfl
theorem in_setImm {w : World} {b : Nat} {x : In} (h : InAt w b x) (i : Int) : InAt (w.setCell ⟨b, 10, none⟩ (.int .i64 i)) b { x with imm := i } :=
  heap_setCell_same w b 10 x.cells.toArray 42 _ h
/-- The variables ahead of the instruction's own. -/
structure ReadAt (W : World) (A : Nat) (row : List Value) (p : Option Addr) (n cap : Nat) (fs : List Fd) (v : World) : Prop where
  made : Made W v
  row : v.heap[A]? = some (.cells row.toArray 108 (0, 0))
  res : InAt v (A + 1) inZero
  size : v.heap.size = A + 2
  holds : Holds v p n cap fs
theorem readAt_of {W w : World} {p : Option Addr} {n cap : Nat} {fs : List Fd} (hm : Made W w) (hh : Holds w p n cap fs) (row : List Value) : ReadAt W w.heap.size row p n cap fs ((w.alloc (.cells row.toArray 108)).alloc (.cells inZero.cells.toArray 42)) := by
  have h1 := (Made.refl w).alloc (Nat.le_refl _) (.cells row.toArray 108)
  have h2 := h1.alloc h1.size (.cells inZero.cells.toArray 42)
  refine ⟨(hm.alloc hm.size _).alloc (hm.alloc hm.size _).size _, ?_, heap_at (by simp), by simp, hh.made h2⟩
  have hr : (w.alloc (.cells row.toArray 108)).heap[w.heap.size]? = some (.cells row.toArray 108 (0, 0)) := heap_alloc_new w _
  exact (Below.heap_alloc _ _ _ (heap_lt hr)).trans hr
theorem cell_lt {w : World} {b j : Nat} {v : Value} (h : w.cell? ⟨b, j, none⟩ = some v) : b < w.heap.size := by
  rcases Nat.lt_or_ge b w.heap.size with h' | h'
  · exact h'
  · simp [World.cell?, Array.getElem?_eq_none h'] at h
abbrev HeldIn (B : Nat) (y : In) (w' : World) : Prop :=
  w'.cell? ⟨B, 0, none⟩ = some (.int .u8 y.op) ∧ w'.cell? ⟨B, 1, none⟩ = some (.int .u8 y.d) ∧ w'.cell? ⟨B, 2, none⟩ = some (.int .u8 y.s) ∧ w'.cell? ⟨B, 3, none⟩ = some (.int .u8 y.t) ∧
    w'.cell? ⟨B, 4, none⟩ = some (.int .u8 y.n) ∧ w'.cell? ⟨B, 5, none⟩ = some (.int .u8 y.pred) ∧ w'.cell? ⟨B, 6, none⟩ = some (.int .u8 y.mode) ∧ w'.cell? ⟨B, 7, none⟩ = some (.bool y.new) ∧
    w'.cell? ⟨B, 8, none⟩ = some (.bool y.ext) ∧ w'.cell? ⟨B, 9, none⟩ = some (.int .u16 y.count) ∧ w'.cell? ⟨B, 10, none⟩ = some (.int .i64 y.imm)
theorem heldIn_made {B : Nat} {y : In} {w w' : World} (h : HeldIn B y w) (hm : Made w w') : HeldIn B y w' := by
  have hl := cell_lt h.1
  obtain ⟨h0, h1, h2, h3, h4, h5, h6, h7, h8, h9, h10⟩ := h
  have k := fun j => (bcell hm).1 B j hl
  exact ⟨(k 0).trans h0, (k 1).trans h1, (k 2).trans h2, (k 3).trans h3, (k 4).trans h4, (k 5).trans h5, (k 6).trans h6, (k 7).trans h7, (k 8).trans h8, (k 9).trans h9, (k 10).trans h10⟩
theorem heldIn_drew {B : Nat} {y : In} {w : World} (h : InAt w B y) : HeldIn B y w.drew := in_cells (w := w.drew) h
section
attribute [local irreducible] World.cell?
end
end
section
set_option maxRecDepth 100000
open Go.ChangeShapes Go.WideShapes Go.ChangeAt Go.RowKit Go.Sort BigFrame

theorem row_block {w : World} (row : List Value) : (w.alloc (.cells row.toArray 108)).heap[w.heap.size]? = some (.cells row.toArray 108 (0, 0)) := heap_alloc_new w _
theorem holds_op {W : World} {op : Int} {e : Ending} {w' : World} (h : IsOf W op e w') (ho : isOp op = true) : ∃ (p : Option Addr) (cap : Nat) (fs : List Fd) (nm : ByteArray) (c s : Int), fs = fieldsZ op ∧
    e = .returned (.tuple #[.agg #[.int .u8 op, .string nm, .int .u8 c, .int .u8 s, .slice p fs.length cap], .bool true]) ∧ Made W w' ∧ Holds w' p fs.length cap fs := by
  obtain ⟨p, cap, fs, o, nm, c, s, hfs, rfl, _, _, _, he, hm, hr⟩ := isOf_any h
  rw [opN_of ho] at hfs he
  rw [ho] at he
  refine ⟨p, cap, fs, nm, c, s, hfs, he, hm, ?_⟩
  rcases hr with h | ⟨b, cur, hp, hlo, hb, _, h1, h2, hcell⟩
  · exact ⟨rfl, .inl h⟩
  · exact ⟨rfl, .inr ⟨b, hp, heap_lt hb, h1, h2, hcell⟩⟩
/-- The three variables of Inst. -/
structure InstAt (W : World) (A B : Nat) (x : In) (v : World) : Prop where
  own : Own W A inZero v
  in_ : InAt v B x
theorem InstAt.next {W v v' : World} {A B : Nat} {x : In} (h : InstAt W A B x v) (hm : Made v v') : InstAt W A B x v' := ⟨h.own.next hm, hm.heap h.in_⟩
theorem instAt_of {W v : World} {A : Nat} (h : Own W A inZero v) (x : In) : InstAt W A v.heap.size x (v.alloc (.cells x.cells.toArray 42)) := ⟨h.next ((Made.refl _).alloc (Nat.le_refl _) _), heap_alloc_new v _⟩
section
attribute [local irreducible] World.cell?
end
end
end Go.Proofs.YtdghnlbfmaehoaaGreatDoor
