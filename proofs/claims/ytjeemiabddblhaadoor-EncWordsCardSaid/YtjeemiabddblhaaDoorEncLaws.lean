/- awake and EncKnown of the laws of enc return true, in every world that holds the tables of names and of pieces. Written by wip/tools/gen_enclaws.py. -/
import Derived.Test.YtjeemiabddblhaaDoorEncInst
import Derived.Test.YtjeemiabddblhaaDoorLaid
namespace Go.Proofs.YtjeemiabddblhaaDoor
open Go.ChangeShapes Go.WideShapes Go.ChangeAt Go.RowKit Go.Sort BigFrame

theorem names_of {W : World} (h : laidMet Tryd.prog Rows.encKnownRow.laid W) : Names W :=
  laid_block (vs := namesL.map fun (l : List UInt8) => Value.string (ByteArray.mk l.toArray)) 5 1 h rfl (g := 1) (t := 106) (by kernel_rfl) (by kernel_rfl) (by kernel_rfl)
theorem pieces_of {W : World} (h : laidMet Tryd.prog Rows.encKnownRow.laid W) : Pieces W :=
  laid_block (vs := piecesCells.toList) 5 0 h rfl (g := 0) (t := 98) (by kernel_rfl) (by kernel_rfl) (by kernel_rfl)
/-- The two tables of a row. -/
def Tables (W : World) : Prop := Names W ∧ Pieces W
theorem Tables.made {W w : World} (h : Tables W) (hm : Made W w) : Tables w := ⟨h.1.made hm, h.2.made hm⟩
theorem tables_of {W : World} (h : laidMet Tryd.prog Rows.encKnownRow.laid W) : Tables W := ⟨names_of h, pieces_of h⟩
def layNames : Obj → Obj
  | .cells _ t frozen => .cells (namesL.map fun l => Value.string ⟨l.toArray⟩).toArray t frozen
  | o => o
def layPieces : Obj → Obj
  | .cells _ t frozen => .cells piecesCells t frozen
  | o => o
/-- A world for the witness: the settled one, the tables' blocks holding what their initialisers lay. -/
noncomputable def laidWorld (os : Os) : World :=
  { World.holding Tryd.prog os ⟨#[], #[], []⟩ with heap := ((World.holding Tryd.prog os ⟨#[], #[], []⟩).heap.modify 1 layNames).modify 0 layPieces }
theorem word_lit {W : World} (hT : Tables W) (x : In) (hx : smallB x = true) (pc v u : Int) (b : Bool) (h1 : wordP x pc = v) (h2 : upP x pc = u) (h3 : sayB x pc = b) : Makes Tryd.prog W 8 #[x.val, .int .u32 pc] (.tuple #[.int .u32 v, .int .u32 u, .bool b]) := by
  have := encWord_any W hT.1 hT.2 x (small_of hx) pc
  rwa [h1, h2, h3] at this
theorem inst_lit {W : World} (hT : Tables W) (w u pc : Int) (has : Bool) (hw : isU32 w) (hu : isU32 u) (x : In) (b : Bool) (h1 : instP w u has pc = x) (h2 : instB w u has pc = b) : Makes Tryd.prog W 11 #[.int .u32 w, .int .u32 u, .bool has, .int .u32 pc] (.tuple #[x.val, .bool b]) := by
  have := encInst_any W hT.1 hT.2 w u pc has hw hu
  rwa [h1, h2] at this
section
attribute [local irreducible] World.cell?
set_option maxHeartbeats 1000000 in
theorem awake_any (W : World) (hT : Tables W) : Makes Tryd.prog W 10 #[] (.bool true) := by
  intro w hm
  have H0 := Lib.hid hm
  clear hm
  go_enter Tryd.func10, Tryd.ntmps10
  go_wp2_with (fail)
  refine (word_lit hT (litIn 2 1 2 3 0 0 0 false false 0 0) (by decide +kernel) 0 134284336 0 true (by decide +kernel) (by decide +kernel) (by decide +kernel) _ H0.out).mono ?_
  rintro e w1 ⟨rfl, h1⟩
  have H1 := Lib.hid h1
  clear h1
  go_wp2_with (fail)
  refine (word_lit hT (litIn 8 1 0 0 0 0 0 false true 0 305419896) (by decide +kernel) 0 536936568 1193046 true (by decide +kernel) (by decide +kernel) (by decide +kernel) _ H1.out).mono ?_
  rintro e w2 ⟨rfl, h2⟩
  have H2 := Lib.hid h2
  clear h2
  go_wp2
  go_ret
  exact ⟨rfl, H2.out⟩
namespace encKnown
/-- What EncKnown keeps: its first and its fifth instruction. -/
structure Kept (W : World) (B : Nat) (x : In) (w : World) : Prop where
  made : Made W w
  in_ : InAt w B x
theorem Kept.next {W w w' : World} {B : Nat} {x : In} (h : Kept W B x w) (hm : Made w w') : Kept W B x w' := ⟨Made.trans h.made hm, hm.heap h.in_⟩
set_option maxRecDepth 100000 in
set_option maxHeartbeats 8000000 in
theorem walk (W : World) (hT : Tables W) : Calls Tryd.prog 5 #[] W fun e w' => e = .returned (.bool true) ∧ Made W w' := by
  have H0 := Lib.hid (Made.refl W)
  have hop1 : ∀ w, (binOp .eql 24 (litIn 27 0 0 0 0 0 0 false false 0 96).val (litIn 27 0 0 0 0 0 0 false false 0 96).val).run Tryd.prog w = .ok (.bool true) w := fun w => (run_in_eql _ _ w).trans (by rw [decide_eq_true rfl])
  have hop2 : ∀ w, (binOp .eql 24 (litIn 8 1 0 0 0 0 0 false true 0 305419896).val (litIn 8 1 0 0 0 0 0 false true 0 305419896).val).run Tryd.prog w = .ok (.bool true) w := fun w => (run_in_eql _ _ w).trans (by rw [decide_eq_true rfl])
  go_enter Tryd.func5, Tryd.ntmps5
  go_wp2_with (fail)
  refine (word_lit hT (litIn 27 0 0 0 0 0 0 false false 0 8) (by decide +kernel) 12 1813987327 0 true (by decide +kernel) (by decide +kernel) (by decide +kernel) _ H0.out).mono ?_
  rintro e w1 ⟨rfl, h1⟩
  have H1 := Lib.hid h1
  clear h1
  go_wp2_with (fail)
  refine (inst_lit hT 1813987327 0 100 false ⟨by decide, by decide⟩ ⟨by decide, by decide⟩ (litIn 27 0 0 0 0 0 0 false false 0 96) true (by decide +kernel) (by decide +kernel) _ H1.out).mono ?_
  rintro e w2 ⟨rfl, h2⟩
  have H2 := Lib.hid h2
  clear h2
  go_upto_region 3 with (fail)
  refine name_world (fun v => Kept W w2.heap.size (litIn 27 0 0 0 0 0 0 false false 0 96) v) ⟨H2.out.alloc H2.out.size _, heap_alloc_new w2 _⟩ ?_
  intro v2 hv
  have K2 := Lib.hid hv
  clear hv
  go_wp2_with (fail)
  refine (word_lit (hT.made K2.out.made) (litIn 8 1 0 0 0 0 0 false false 0 (-1)) (by decide +kernel) 0 536952831 0 true (by decide +kernel) (by decide +kernel) (by decide +kernel) _ (Made.refl _)).mono ?_
  rintro e w3 ⟨rfl, h3⟩
  have K3 := Lib.hid (K2.out.next h3)
  clear h3
  go_wp2_with (fail)
  refine (word_lit (hT.made K3.out.made) (litIn 8 1 0 0 0 0 0 false false 0 305419896) (by decide +kernel) 0 0 0 false (by decide +kernel) (by decide +kernel) (by decide +kernel) _ (Made.refl _)).mono ?_
  rintro e w4 ⟨rfl, h4⟩
  have K4 := Lib.hid (K3.out.next h4)
  clear h4
  go_wp2_with (fail)
  refine (inst_lit (hT.made K4.out.made) 0 0 0 false ⟨by decide, by decide⟩ ⟨by decide, by decide⟩ inZero false (by decide +kernel) (by decide +kernel) _ (Made.refl _)).mono ?_
  rintro e w5 ⟨rfl, h5⟩
  have K5 := Lib.hid (K4.out.next h5)
  clear h5
  go_upto_region 6 with (fail)
  refine name_world (fun v => Kept W w2.heap.size (litIn 27 0 0 0 0 0 0 false false 0 96) v) (K5.out.next ((Made.refl _).alloc (Nat.le_refl _) _)) ?_
  intro v5 hv
  have L5 := Lib.hid hv
  clear hv
  go_wp2_with (fail)
  refine (inst_lit (hT.made L5.out.made) 67108865 0 0 false ⟨by decide, by decide⟩ ⟨by decide, by decide⟩ inZero false (by decide +kernel) (by decide +kernel) _ (Made.refl _)).mono ?_
  rintro e w6 ⟨rfl, h6⟩
  have K6 := Lib.hid (L5.out.next h6)
  clear h6
  go_upto_region 7 with (fail)
  refine name_world (fun v => Kept W w2.heap.size (litIn 27 0 0 0 0 0 0 false false 0 96) v) (K6.out.next ((Made.refl _).alloc (Nat.le_refl _) _)) ?_
  intro v6 hv
  have L6 := Lib.hid hv
  clear hv
  go_wp2_with (fail)
  refine (inst_lit (hT.made L6.out.made) 67108864 0 0 true ⟨by decide, by decide⟩ ⟨by decide, by decide⟩ inZero false (by decide +kernel) (by decide +kernel) _ (Made.refl _)).mono ?_
  rintro e w7 ⟨rfl, h7⟩
  have K7 := Lib.hid (L6.out.next h7)
  clear h7
  go_upto_region 8 with (fail)
  refine name_world (fun v => Kept W w2.heap.size (litIn 27 0 0 0 0 0 0 false false 0 96) v) (K7.out.next ((Made.refl _).alloc (Nat.le_refl _) _)) ?_
  intro v7 hv
  have L7 := Lib.hid hv
  clear hv
  go_wp2_with (fail)
  refine (inst_lit (hT.made L7.out.made) 536936824 1193046 0 true ⟨by decide, by decide⟩ ⟨by decide, by decide⟩ inZero false (by decide +kernel) (by decide +kernel) _ (Made.refl _)).mono ?_
  rintro e w8 ⟨rfl, h8⟩
  have K8 := Lib.hid (L7.out.next h8)
  clear h8
  go_upto_region 9 with (fail)
  refine name_world (fun v => Kept W w2.heap.size (litIn 27 0 0 0 0 0 0 false false 0 96) v) (K8.out.next ((Made.refl _).alloc (Nat.le_refl _) _)) ?_
  intro v8 hv
  have L8 := Lib.hid hv
  clear hv
  go_wp2_with (fail)
  refine (inst_lit (hT.made L8.out.made) 536985720 1193046 0 true ⟨by decide, by decide⟩ ⟨by decide, by decide⟩ (litIn 8 1 0 0 0 0 0 false true 0 305419896) true (by decide +kernel) (by decide +kernel) _ (Made.refl _)).mono ?_
  rintro e w9 ⟨rfl, h9⟩
  have K9 := Lib.hid (L8.out.next h9)
  clear h9
  go_upto_region 10 with (fail)
  refine name_world (fun v => Kept W w2.heap.size (litIn 27 0 0 0 0 0 0 false false 0 96) v ∧ InAt v w9.heap.size (litIn 8 1 0 0 0 0 0 false true 0 305419896)) ⟨K9.out.next ((Made.refl _).alloc (Nat.le_refl _) _), heap_alloc_new w9 _⟩ ?_
  rintro v9 ⟨hv, hi⟩
  have L9 := Lib.hid hv
  have I9 := Lib.hid hi
  clear hv hi
  go_wp2_with (fail)
  refine (inst_lit (hT.made L9.out.made) 536936568 17970262 0 true ⟨by decide, by decide⟩ ⟨by decide, by decide⟩ inZero false (by decide +kernel) (by decide +kernel) _ (Made.refl _)).mono ?_
  rintro e w10 ⟨rfl, h10⟩
  have K10 := Lib.hid (L9.out.next h10)
  have J := Lib.hid (Made.heap h10 I9.out)
  clear h10
  go_upto_region 11 with (fail)
  refine name_world (fun v => Kept W w2.heap.size (litIn 27 0 0 0 0 0 0 false false 0 96) v ∧ InAt v w9.heap.size (litIn 8 1 0 0 0 0 0 false true 0 305419896)) ⟨K10.out.next ((Made.refl _).alloc (Nat.le_refl _) _), Made.heap ((Made.refl _).alloc (Nat.le_refl _) _) J.out⟩ ?_
  rintro v10 ⟨hv, hi⟩
  have LL := Lib.hid hv
  have II := Lib.hid hi
  clear hv hi
  obtain ⟨a0, a1, a2, a3, a4, a5, a6, a7, a8, a9, a10⟩ := in_cells LL.out.in_
  obtain ⟨b0, b1, b2, b3, b4, b5, b6, b7, b8, b9, b10⟩ := in_cells II.out
  have hl1 := heap_lt LL.out.in_
  have hl2 := heap_lt II.out
  go_wp2_with (fail)
  refine (awake_any _ (hT.made LL.out.made) _ (Made.refl _)).mono ?_
  rintro e z ⟨rfl, hz⟩
  have KZ := Lib.hid (LL.out.next hz)
  clear hz
  go_wp2
  go_ret
  exact ⟨rfl, KZ.out.made⟩
end encKnown
end
end Go.Proofs.YtjeemiabddblhaaDoor
