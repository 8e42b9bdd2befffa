/- awake and SubKnown of the laws of sub return true, in every world that holds the table of small instructions. -/
import Derived.Test.YtlegoaecmkflhaaDoorSubInst
import Derived.Test.YtlegoaecmkflhaaDoorLaid
namespace Go.Proofs.YtlegoaecmkflhaaDoor
open Go.ChangeShapes Go.WideShapes Go.ChangeAt Go.RowKit Go.Sort BigFrame

theorem srows_of {W : World} (h : laidMet Tryd.prog Rows.subKnownRow.laid W) : SRows W :=
  laid_block (vs := srowsV) 5 0 h rfl (g := 0) (t := 56) (by kernel_rfl) (by kernel_rfl) (by kernel_rfl)
theorem srows_of2 {W : World} (h : laidMet Tryd.prog Rows.subBackRow.laid W) : SRows W :=
  laid_block (vs := srowsV) 5 1 h rfl (g := 0) (t := 56) (by kernel_rfl) (by kernel_rfl) (by kernel_rfl)
theorem names_of2 {W : World} (h : laidMet Tryd.prog Rows.subBackRow.laid W) : Names W :=
  laid_block (vs := namesL.map fun (l : List UInt8) => Value.string (ByteArray.mk l.toArray)) 5 0 h rfl (g := 1) (t := 82) (by kernel_rfl) (by kernel_rfl) (by kernel_rfl)
/-- The two tables of a row. -/
def Tables (W : World) : Prop := Names W ∧ SRows W
theorem Tables.made {W w : World} (h : Tables W) (hm : Made W w) : Tables w := ⟨h.1.made hm, h.2.made hm⟩
theorem tables_of {W : World} (h : laidMet Tryd.prog Rows.subBackRow.laid W) : Tables W := ⟨names_of2 h, srows_of2 h⟩
def layNames : Obj → Obj
  | .cells _ t frozen => .cells (namesL.map fun l => Value.string ⟨l.toArray⟩).toArray t frozen
  | o => o
def layRows : Obj → Obj
  | .cells _ t frozen => .cells srowsV.toArray t frozen
  | o => o
/-- A world for the witness: the settled one, the tables' blocks holding what their initialisers lay. -/
noncomputable def laidWorld (os : Os) : World :=
  { World.holding Tryd.prog os ⟨#[], #[], []⟩ with heap := ((World.holding Tryd.prog os ⟨#[], #[], []⟩).heap.modify 1 layNames).modify 0 layRows }
theorem of_lit (x : In) (hx : smallB x = true) (v : Int) (b : Bool) (h : subOf x = (v, b)) (W : World) (hR : SRows W) : Makes Tryd.prog W 7 #[x.val] (.tuple #[.int .u16 v, .bool b]) := by
  have := subOf_any W hR x (small_of hx)
  rwa [h] at this
theorem inst_lit (s : Int) (h0 : 0 ≤ s) (h1 : s < 65536) (x : In) (b : Bool) (h : subInst s = (x, b)) (W : World) (hR : SRows W) : Makes Tryd.prog W 8 #[.int .u16 s] (.tuple #[x.val, .bool b]) := by
  have := subInst_any W hR s h0 h1
  rwa [h] at this
section
attribute [local irreducible] World.cell?
set_option maxHeartbeats 1000000 in
theorem awake_any (W : World) (hR : SRows W) : Makes Tryd.prog W 9 #[] (.bool true) := by
  intro w hm
  have H0 := Lib.hid hm
  have hop := fun w => (run_in_eql (litIn 13 0 1 0 0 0 0 false false 0 1) (litIn 13 0 1 0 0 0 0 false false 0 1) w).trans (by rw [decide_eq_true rfl])
  clear hm
  go_enter Tryd.func9, Tryd.ntmps9
  go_wp2_with (fail)
  refine (of_lit (litIn 8 16 0 0 0 0 0 false false 0 127) (by decide +kernel) 3199 true (by decide +kernel) W hR _ H0.out).mono ?_
  rintro e w1 ⟨rfl, h1⟩
  have H1 := Lib.hid h1
  clear h1
  go_wp2_with (fail)
  refine (inst_lit 18561 (by decide) (by decide) (litIn 13 0 1 0 0 0 0 false false 0 1) true (by decide +kernel) W hR _ H1.out).mono ?_
  rintro e w2 ⟨rfl, h2⟩
  have H2 := Lib.hid (show Own W w2.heap.size (litIn 13 0 1 0 0 0 0 false false 0 1) (w2.alloc (.cells (litIn 13 0 1 0 0 0 0 false false 0 1).cells.toArray 26)) from ⟨h2.alloc h2.size _, heap_alloc_new w2 _⟩)
  clear h2
  go_upto_region 3 with (fail)
  refine name_world (fun v => Own W w2.heap.size (litIn 13 0 1 0 0 0 0 false false 0 1) v) H2.out ?_
  intro v hv
  have HV := Lib.hid hv
  clear hv H2
  go_wp2_with (fail)
  refine (inst_lit 0 (by decide) (by decide) inZero false (by decide +kernel) v (hR.made HV.out.made) _ (Made.refl _)).mono ?_
  rintro e w3 ⟨rfl, h3⟩
  have H3 := Lib.hid (HV.out.next (Made.trans h3 ((Made.refl w3).alloc (Nat.le_refl _) (.cells inZero.cells.toArray 26))))
  clear h3
  go_upto_region 4 with (fail)
  refine name_world (fun v => Own W w2.heap.size (litIn 13 0 1 0 0 0 0 false false 0 1) v) H3.out ?_
  intro v2 hv
  have HV2 := Lib.hid hv
  obtain ⟨a0, a1, a2, a3, a4, a5, a6, a7, a8, a9, a10⟩ := in_cells hv.in_
  have hl := heap_lt hv.in_
  clear hv H3
  go_wp2
  go_ret
  exact ⟨rfl, HV2.out.made⟩
namespace subKnown
set_option maxRecDepth 100000 in
set_option maxHeartbeats 8000000 in
theorem walk (W : World) (hR : SRows W) : Calls Tryd.prog 3 #[] W fun e w' => e = .returned (.bool true) ∧ Made W w' := by
  have H0 := Lib.hid (Made.refl W)
  go_enter Tryd.func3, Tryd.ntmps3
  go_wp2_with (fail)
  refine (of_lit (litIn 7 3 3 0 0 0 0 false false 0 (-1)) (by decide +kernel) 4607 true (by decide +kernel) W hR _ H0.out).mono ?_
  rintro e w1 ⟨rfl, h1⟩
  have H1 := Lib.hid h1
  clear h1 H0
  go_wp2_with (fail)
  refine (of_lit (litIn 7 3 4 0 0 0 0 false false 0 (-1)) (by decide +kernel) 0 false (by decide +kernel) W hR _ H1.out).mono ?_
  rintro e w2 ⟨rfl, h2⟩
  have H2 := Lib.hid h2
  clear h2 H1
  go_wp2_with (fail)
  refine (of_lit (litIn 21 7 23 0 0 0 0 false false 0 28) (by decide +kernel) 11263 true (by decide +kernel) W hR _ H2.out).mono ?_
  rintro e w3 ⟨rfl, h3⟩
  have H3 := Lib.hid h3
  clear h3 H2
  go_wp2_with (fail)
  refine (of_lit (litIn 21 7 23 0 0 0 0 false false 0 32) (by decide +kernel) 0 false (by decide +kernel) W hR _ H3.out).mono ?_
  rintro e w4 ⟨rfl, h4⟩
  have H4 := Lib.hid h4
  clear h4 H3
  go_wp2_with (fail)
  refine (of_lit (litIn 21 7 8 0 0 0 0 false false 0 28) (by decide +kernel) 0 false (by decide +kernel) W hR _ H4.out).mono ?_
  rintro e w5 ⟨rfl, h5⟩
  have H5 := Lib.hid h5
  clear h5 H4
  go_wp2_with (fail)
  refine (of_lit (litIn 8 1 0 0 0 0 0 false true 0 1) (by decide +kernel) 0 false (by decide +kernel) W hR _ H5.out).mono ?_
  rintro e w6 ⟨rfl, h6⟩
  have H6 := Lib.hid h6
  clear h6 H5
  go_wp2_with (fail)
  refine (of_lit (litIn 8 1 0 0 0 0 1 false false 0 1) (by decide +kernel) 0 false (by decide +kernel) W hR _ H6.out).mono ?_
  rintro e w7 ⟨rfl, h7⟩
  have H7 := Lib.hid h7
  clear h7 H6
  go_wp2_with (fail)
  refine (of_lit (litIn 24 0 0 0 0 0 0 true false 0 0) (by decide +kernel) 0 false (by decide +kernel) W hR _ H7.out).mono ?_
  rintro e w8 ⟨rfl, h8⟩
  have H8 := Lib.hid h8
  clear h8 H7
  go_wp2_with (fail)
  refine (of_lit (litIn 13 1 0 0 0 0 0 false false 0 0) (by decide +kernel) 0 false (by decide +kernel) W hR _ H8.out).mono ?_
  rintro e w9 ⟨rfl, h9⟩
  have H9 := Lib.hid h9
  clear h9 H8
  go_wp2_with (fail)
  refine (of_lit (litIn 8 1 0 0 0 0 0 false false 0 (-1)) (by decide +kernel) 0 false (by decide +kernel) W hR _ H9.out).mono ?_
  rintro e w10 ⟨rfl, h10⟩
  have H10 := Lib.hid h10
  clear h10 H9
  go_wp2_with (fail)
  refine (of_lit (litIn 0 0 0 0 0 0 0 false false 0 0) (by decide +kernel) 0 false (by decide +kernel) W hR _ H10.out).mono ?_
  rintro e w11 ⟨rfl, h11⟩
  have H11 := Lib.hid h11
  clear h11 H10
  go_wp2_with (fail)
  refine (inst_lit 6145 (by decide) (by decide) inZero false (by decide +kernel) W hR _ H11.out).mono ?_
  rintro e v12 ⟨rfl, h12⟩
  have G12 := Lib.hid (h12.alloc h12.size (.cells inZero.cells.toArray 26))
  clear h12 H11
  go_upto_region 13 with (fail)
  refine name_world (fun v => Made W v) G12.out ?_
  intro w12 h12
  have H12 := Lib.hid h12
  clear h12 G12
  go_wp2_with (fail)
  refine (inst_lit 34945 (by decide) (by decide) inZero false (by decide +kernel) W hR _ H12.out).mono ?_
  rintro e v13 ⟨rfl, h13⟩
  have G13 := Lib.hid (h13.alloc h13.size (.cells inZero.cells.toArray 26))
  clear h13 H12
  go_upto_region 14 with (fail)
  refine name_world (fun v => Made W v) G13.out ?_
  intro w13 h13
  have H13 := Lib.hid h13
  clear h13 G13
  go_wp2_with (fail)
  refine (inst_lit 20480 (by decide) (by decide) inZero false (by decide +kernel) W hR _ H13.out).mono ?_
  rintro e v14 ⟨rfl, h14⟩
  have G14 := Lib.hid (h14.alloc h14.size (.cells inZero.cells.toArray 26))
  clear h14 H13
  go_upto_region 15 with (fail)
  refine name_world (fun v => Made W v) G14.out ?_
  intro w14 h14
  have H14 := Lib.hid h14
  clear h14 G14
  go_wp2_with (fail)
  refine (of_lit (litIn 2 0 0 1 0 0 0 false false 0 0) (by decide +kernel) 8200 true (by decide +kernel) W hR _ H14.out).mono ?_
  rintro e w15 ⟨rfl, h15⟩
  have H15 := Lib.hid h15
  clear h15 H14
  go_wp2_with (fail)
  refine (awake_any W hR _ H15.out).mono ?_
  rintro e z ⟨rfl, hz⟩
  have HZ := Lib.hid hz
  clear hz
  go_wp2
  go_ret
  exact ⟨rfl, HZ.out⟩
end subKnown
end
end Go.Proofs.YtlegoaecmkflhaaDoor
