/- awake, ExtKnown and ExtTells of the laws of ext return true, for every instruction and address, in every world that holds the table of names. -/
import Derived.Test.YteghoocjhhahbaaDoorExtUse
import Derived.Test.YteghoocjhhahbaaDoorExtRef
import Derived.Test.YteghoocjhhahbaaDoorInstLit
import Derived.Test.YteghoocjhhahbaaDoorLaid
namespace Go.Proofs.YteghoocjhhahbaaDoor
open Go.ChangeShapes Go.WideShapes Go.ChangeAt Go.RowKit Go.Sort BigFrame

theorem names_of {W : World} (h : laidMet Tryd.prog Rows.extKnownRow.laid W) : Names W :=
  laid_block (vs := namesL.map fun (l : List UInt8) => Value.string (ByteArray.mk l.toArray)) 5 0 h rfl (g := 0) (t := 68) (by kernel_rfl) (by kernel_rfl) (by kernel_rfl)
/-- A world for the witness: the settled one, the table's block holding what its initialiser lays. -/
noncomputable def laidWorld (os : Os) : World :=
  { World.holding Tryd.prog os ⟨#[], #[], []⟩ with heap := (World.holding Tryd.prog os ⟨#[], #[], []⟩).heap.modify 0 fun
      | .cells _ t frozen => .cells (namesL.map fun l => Value.string ⟨l.toArray⟩).toArray t frozen
      | o => o }
theorem value_lit {W : World} (hN : Names W) (x : In) (hx : smallB x = true) (pc v : Int) (b : Bool) (h : valueP x pc = v) (hb : vB x.op = b) : Makes Tryd.prog W 8 #[x.val, .int .u32 pc] (.tuple #[.int .i64 v, .bool b]) := by
  have := value_any W hN x (small_of hx) pc
  rwa [h, hb] at this
theorem needs_lit {W : World} (hN : Names W) (x : In) (hx : smallB x = true) (pc : Int) (b : Bool) (h : needP x pc = b) : Makes Tryd.prog W 14 #[x.val, .int .u32 pc] (.bool b) := h ▸ needs_any W hN x (small_of hx) pc
theorem fits_lit {W : World} (hN : Names W) (x : In) (hx : smallB x = true) (pc : Int) (b : Bool) (h : fitP x pc = b) : Makes Tryd.prog W 12 #[x.val, .int .u32 pc] (.bool b) := h ▸ extFits_any W hN x (small_of hx) pc
theorem may_lit {W : World} (hN : Names W) (op : Int) (h0 : 0 ≤ op) (b : Bool) (h : mayZ op = b) : Makes Tryd.prog W 13 #[.int .u8 op] (.bool b) := h ▸ extendable_any W hN op h0
theorem target_lit (W : World) (r p t : Int) (h : targetZ r p = t) : Makes Tryd.prog W 20 #[.int .i64 r, .int .u32 p] (.int .i64 t) := h ▸ (extTarget_any r p).makes W
theorem join_lit (W : World) (u l : Int) (hu : isU32 u) (hl : isU32 l) (t : Int) (h : joinZ u l = t) : Makes Tryd.prog W 19 #[.int .u32 u, .int .u32 l] (.int .i64 t) := h ▸ (extJoin_any u l hu hl).makes W
set_option maxHeartbeats 1000000 in
theorem awake_any (W : World) (hN : Names W) : Makes Tryd.prog W 15 #[] (.bool true) := by
  intro w hm
  have H0 := Lib.hid hm
  clear hm
  go_enter Tryd.func15, Tryd.ntmps15
  go_wp2_with (fail)
  refine (value_lit hN (litIn 27 0 0 0 0 0 0 false false 0 8) (by decide +kernel) 12 (-4) true (by decide +kernel) (by decide +kernel) _ H0.out).mono ?_
  rintro e w1 ⟨rfl, h1⟩
  have H1 := Lib.hid h1
  clear h1
  go_wp2_with (fail)
  refine (target_lit W (-4) 12 8 (by decide +kernel) _ H1.out).mono ?_
  rintro e w2 ⟨rfl, h2⟩
  have H2 := Lib.hid h2
  clear h2
  go_wp2_with (fail)
  refine (needs_lit hN (litIn 8 0 0 0 0 0 0 false false 0 8192) (by decide +kernel) 0 true (by decide +kernel) _ H2.out).mono ?_
  rintro e w3 ⟨rfl, h3⟩
  have H3 := Lib.hid h3
  clear h3
  go_wp2_with (fail)
  refine (needs_lit hN (litIn 8 0 0 0 0 0 0 false false 0 8191) (by decide +kernel) 0 false (by decide +kernel) _ H3.out).mono ?_
  rintro e w4 ⟨rfl, h4⟩
  have H4 := Lib.hid h4
  clear h4
  go_wp2_with (fail)
  refine (join_lit W 1 255 ⟨by decide, by decide⟩ ⟨by decide, by decide⟩ 511 (by decide +kernel) _ H4.out).mono ?_
  rintro e w5 ⟨rfl, h5⟩
  have H5 := Lib.hid h5
  clear h5
  go_wp2_with (fail)
  go_ret
  exact ⟨rfl, H5.out⟩
theorem split_lit (W : World) (v u l : Int) (h : upperZ v = u) (h2 : lowerZ v = l) : Makes Tryd.prog W 16 #[.int .i64 v] (.tuple #[.int .u32 u, .int .u32 l]) := by
  have := (extSplit_any v).makes W
  rwa [h, h2] at this
namespace extKnown
set_option maxRecDepth 100000 in
set_option maxHeartbeats 4000000 in
theorem walk (W : World) (hN : Names W) : Calls Tryd.prog 5 #[] W fun e w' => e = .returned (.bool true) ∧ Made W w' := by
  have H0 := Lib.hid (Made.refl W)
  go_enter Tryd.func5, Tryd.ntmps5
  go_wp2_with (fail)
  refine (split_lit W (-1) 16777215 255 (by decide +kernel) (by decide +kernel) _ H0.out).mono ?_
  rintro e w1 ⟨rfl, h1⟩
  have H1 := Lib.hid h1
  clear h1
  go_wp2_with (fail)
  refine (value_lit hN (litIn 27 0 0 0 0 0 0 false false 0 4294967292) (by decide +kernel) 0 (-4) true (by decide +kernel) (by decide +kernel) _ H1.out).mono ?_
  rintro e w2 ⟨rfl, h2⟩
  have H2 := Lib.hid h2
  clear h2
  go_wp2_with (fail)
  refine (value_lit hN (litIn 2 0 0 0 0 0 0 false false 0 5) (by decide +kernel) 0 0 false (by decide +kernel) (by decide +kernel) _ H2.out).mono ?_
  rintro e w3 ⟨rfl, h3⟩
  have H3 := Lib.hid h3
  clear h3
  go_wp2_with (fail)
  refine (needs_lit hN (litIn 21 0 0 0 0 0 0 false false 0 6) (by decide +kernel) 0 true (by decide +kernel) _ H3.out).mono ?_
  rintro e w4 ⟨rfl, h4⟩
  have H4 := Lib.hid h4
  clear h4
  go_wp2_with (fail)
  refine (needs_lit hN (litIn 21 0 0 0 0 0 0 false false 0 (-8192)) (by decide +kernel) 0 false (by decide +kernel) _ H4.out).mono ?_
  rintro e w5 ⟨rfl, h5⟩
  have H5 := Lib.hid h5
  clear h5
  go_wp2_with (fail)
  refine (needs_lit hN (litIn 21 0 0 0 0 0 0 false false 0 8192) (by decide +kernel) 0 true (by decide +kernel) _ H5.out).mono ?_
  rintro e w6 ⟨rfl, h6⟩
  have H6 := Lib.hid h6
  clear h6
  go_wp2_with (fail)
  refine (may_lit hN 15 (by decide) false (by decide +kernel) _ H6.out).mono ?_
  rintro e w7 ⟨rfl, h7⟩
  have H7 := Lib.hid h7
  clear h7
  go_wp2_with (fail)
  refine (may_lit hN 0 (by decide) false (by decide +kernel) _ H7.out).mono ?_
  rintro e w8 ⟨rfl, h8⟩
  have H8 := Lib.hid h8
  clear h8
  go_wp2_with (fail)
  refine (fits_lit hN (litIn 15 0 0 0 0 0 0 false false 0 32) (by decide +kernel) 0 false (by decide +kernel) _ H8.out).mono ?_
  rintro e w9 ⟨rfl, h9⟩
  have H9 := Lib.hid h9
  clear h9
  go_wp2_with (fail)
  refine (fits_lit hN (litIn 1 0 0 0 0 0 0 false false 0 32) (by decide +kernel) 0 true (by decide +kernel) _ H9.out).mono ?_
  rintro e w10 ⟨rfl, h10⟩
  have H10 := Lib.hid h10
  clear h10
  go_wp2_with (fail)
  refine (needs_lit hN (litIn 15 0 0 0 0 0 0 false false 0 32) (by decide +kernel) 0 false (by decide +kernel) _ H10.out).mono ?_
  rintro e w11 ⟨rfl, h11⟩
  have H11 := Lib.hid h11
  clear h11
  go_wp2_with (fail)
  refine (target_lit W 4 4294967292 0 (by decide +kernel) _ H11.out).mono ?_
  rintro e w12 ⟨rfl, h12⟩
  have H12 := Lib.hid h12
  clear h12
  go_wp2_with (fail)
  refine (awake_any W hN _ H12.out).mono ?_
  rintro e w13 ⟨rfl, h13⟩
  have H13 := Lib.hid h13
  clear h13
  go_wp2_with (fail)
  go_ret
  exact ⟨rfl, H13.out⟩
end extKnown
theorem field_ext (a b : Int) (c d e : Bool) (w : World) : (Instr.field 30 (.agg #[.int .i64 a, .int .i64 b, .bool c, .bool d, .bool e]) 3).run Tryd.prog w = .ok (.bool d) w := by kernel_rfl
theorem need_eq (x : In) (pc : Int) : needP x pc = (mayZ x.op && !fitP x pc) := by
  unfold needP mayZ fitP
  cases vB x.op <;> simp
namespace extTells
section
attribute [local irreducible] World.cell?
set_option maxRecDepth 100000 in
set_option maxHeartbeats 4000000 in
theorem walk (W : World) (hN : Names W) (x : In) (hx : x.small) (pc : Int) (hp : isU32 pc) : Calls Tryd.prog 3 #[x.val, .int .u32 pc] W fun e w' => e = .returned (.bool true) ∧ Made W w' := by
  have K0 := Lib.hid (show Own W W.heap.size x (W.alloc (.cells x.cells.toArray 24)) from ⟨(Made.refl W).alloc (Nat.le_refl _) _, heap_alloc_new W _⟩)
  have hfe := field_ext
  have C1 := Lib.hid (fun u (hu : Names u) => value_any u hu x hx pc)
  have C2 := Lib.hid (fun u (_ : Names u) => refValue_any u x pc hp)
  have C3 := Lib.hid (fun u (_ : Names u) => refFits5_any u x hx pc hp)
  have C4 := Lib.hid (fun u (_ : Names u) => refOf_any u x.op)
  have C5 := Lib.hid (fun u (hu : Names u) => extFits_any u hu x hx pc)
  have C6 := Lib.hid (fun u (hu : Names u) => extendable_any u hu x.op hx.op0)
  have C7 := Lib.hid (fun u (hu : Names u) => needs_any u hu x hx pc)
  have C8 := Lib.hid (fun u (hu : Names u) => awake_any u hu)
  rewrite [(vf_op x.op).2] at C4
  rewrite [need_eq] at C7
  clear hx hp
  generalize valueP x pc = v at *
  generalize vB x.op = b at *
  generalize fitP x pc = ft at *
  generalize mayZ x.op = my at *
  generalize vF x.op = f at *
  go_enter Tryd.func3, Tryd.ntmps3
  go_wp2_with (fail)
  refine (C1.out _ (hN.made K0.out.made) _ (Made.refl _)).mono ?_
  rintro e w1 ⟨rfl, h1⟩
  have K1 := Lib.hid (K0.out.next h1)
  clear h1
  obtain ⟨a0, a1, a2, a3, a4, a5, a6, a7, a8, a9, a10⟩ := in_cells K1.out.in_
  have hb := heap_lt K1.out.in_
  go_wp2_with (fail)
  refine (C2.out _ (hN.made K1.out.made) _ (Made.refl _)).mono ?_
  rintro e w2 ⟨rfl, h2⟩
  have K2 := Lib.hid (K1.out.next h2)
  clear h2 a0 a1 a2 a3 a4 a5 a6 a7 a8 a9 a10 hb
  obtain ⟨a0, a1, a2, a3, a4, a5, a6, a7, a8, a9, a10⟩ := in_cells K2.out.in_
  have hb := heap_lt K2.out.in_
  go_wp2_with (fail)
  refine (C3.out _ (hN.made K2.out.made) _ (Made.refl _)).mono ?_
  rintro e w3 ⟨rfl, h3⟩
  have K3 := Lib.hid (K2.out.next h3)
  clear h3 a0 a1 a2 a3 a4 a5 a6 a7 a8 a9 a10 hb
  obtain ⟨a0, a1, a2, a3, a4, a5, a6, a7, a8, a9, a10⟩ := in_cells K3.out.in_
  have hb := heap_lt K3.out.in_
  go_wp2_with (fail)
  refine (C4.out _ (hN.made K3.out.made) _ (Made.refl _)).mono ?_
  rintro e w4 ⟨rfl, h4⟩
  have K4 := Lib.hid (K3.out.next h4)
  clear h4 a0 a1 a2 a3 a4 a5 a6 a7 a8 a9 a10 hb
  obtain ⟨a0, a1, a2, a3, a4, a5, a6, a7, a8, a9, a10⟩ := in_cells K4.out.in_
  have hb := heap_lt K4.out.in_
  go_wp2_with (fail)
  refine (C5.out _ (hN.made K4.out.made) _ (Made.refl _)).mono ?_
  rintro e w5 ⟨rfl, h5⟩
  have K5 := Lib.hid (K4.out.next h5)
  clear h5 a0 a1 a2 a3 a4 a5 a6 a7 a8 a9 a10 hb
  obtain ⟨a0, a1, a2, a3, a4, a5, a6, a7, a8, a9, a10⟩ := in_cells K5.out.in_
  have hb := heap_lt K5.out.in_
  cases ft <;> cases my
  all_goals
    go_wp2_with (fail)
    refine (C6.out _ (hN.made K5.out.made) _ (Made.refl _)).mono ?_
    rintro e w6 ⟨rfl, h6⟩
    have K6 := Lib.hid (K5.out.next h6)
    clear h6 a0 a1 a2 a3 a4 a5 a6 a7 a8 a9 a10 hb
    obtain ⟨a0, a1, a2, a3, a4, a5, a6, a7, a8, a9, a10⟩ := in_cells K6.out.in_
    have hb := heap_lt K6.out.in_
    go_wp2_with (fail)
    refine (C7.out _ (hN.made K6.out.made) _ (Made.refl _)).mono ?_
    rintro e w7 ⟨rfl, h7⟩
    have K7 := Lib.hid (K6.out.next h7)
    clear h7 a0 a1 a2 a3 a4 a5 a6 a7 a8 a9 a10 hb
    obtain ⟨a0, a1, a2, a3, a4, a5, a6, a7, a8, a9, a10⟩ := in_cells K7.out.in_
    have hb := heap_lt K7.out.in_
    go_wp2_with (fail)
    refine (C8.out _ (hN.made K7.out.made) _ (Made.refl _)).mono ?_
    rintro e w8 ⟨rfl, h8⟩
    have K8 := Lib.hid (K7.out.next h8)
    clear h8 a0 a1 a2 a3 a4 a5 a6 a7 a8 a9 a10 hb
    obtain ⟨a0, a1, a2, a3, a4, a5, a6, a7, a8, a9, a10⟩ := in_cells K8.out.in_
    have hb := heap_lt K8.out.in_
    go_wp2_with (fail)
    go_ret
    exact ⟨rfl, K8.out.made⟩
end
end extTells
end Go.Proofs.YteghoocjhhahbaaDoor
