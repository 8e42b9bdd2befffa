/- RulesKnown of the laws of rules returns true, in every world that holds the table of names. -/
import Derived.Test.YtdaildmoodfocaaDoorPacketMakers
namespace Go.Proofs.YtdaildmoodfocaaDoor
open Go.ChangeShapes Go.WideShapes Go.ChangeAt Go.RowKit Go.Sort BigFrame

namespace rulesKnown
abbrev x_cmp : In := ⟨10, 0, 0, 0, 0, 0, 0, false, false, 0, 0⟩
abbrev x_jump : In := ⟨27, 0, 0, 0, 0, 0, 3, false, false, 0, 0⟩
abbrev x_plain : In := ⟨27, 0, 0, 0, 0, 0, 0, false, false, 0, 0⟩
abbrev x_st : In := ⟨24, 0, 0, 1, 0, 0, 0, true, false, 0, 0⟩
abbrev x_ld : In := ⟨21, 1, 0, 0, 0, 0, 0, false, false, 0, 0⟩
abbrev x_nop : In := ⟨1, 0, 0, 0, 0, 0, 0, false, false, 0, 0⟩
abbrev x_loop : In := ⟨30, 0, 0, 0, 0, 0, 0, false, false, 0, 0⟩
abbrev x_call : In := ⟨29, 0, 0, 0, 0, 0, 0, false, false, 0, 0⟩
abbrev x_far : In := ⟨24, 0, 0, 31, 0, 0, 0, true, false, 0, 0⟩
abbrev x_zero : In := ⟨0, 0, 0, 0, 0, 0, 0, false, false, 0, 0⟩
abbrev r_0 : PRow := ⟨[addIn 1 1 0, addIn 1 4 0], false, false, false, false, 11⟩
abbrev r_1 : PRow := ⟨[addIn 1 1 0, addIn 1 2 1], false, false, false, false, 11⟩
abbrev r_2 : PRow := ⟨[addIn 1 1 0, addIn 1 2 0, addIn 1 1 0], false, false, false, false, 11⟩
abbrev r_3 : PRow := ⟨[x_cmp, x_jump], false, false, false, false, 0⟩
abbrev r_4 : PRow := ⟨[x_jump], false, false, false, false, 12⟩
abbrev r_5 : PRow := ⟨[x_plain, x_call], false, false, false, false, 14⟩
abbrev r_6 : PRow := ⟨[addIn 1 0 0, x_st], false, false, false, false, 0⟩
abbrev r_7 : PRow := ⟨[x_ld, x_st], false, false, false, false, 12⟩
abbrev r_8 : PRow := ⟨[addIn 1 1 0, x_st], false, false, false, false, 12⟩
abbrev r_9 : PRow := ⟨[addIn 1 1 0, addIn 1 2 0, x_st], false, false, false, false, 12⟩
abbrev r_10 : PRow := ⟨[x_call, x_far], false, false, false, false, 12⟩
abbrev r_11 : PRow := ⟨[x_nop], true, false, false, false, 0⟩
abbrev r_12 : PRow := ⟨[x_plain], true, false, false, false, 13⟩
abbrev r_13 : PRow := ⟨[x_loop], false, true, false, false, 13⟩
abbrev r_14 : PRow := ⟨[], false, false, false, false, 8⟩
abbrev r_15 : PRow := ⟨[x_nop, x_nop, x_nop, x_nop, x_nop], false, false, false, false, 8⟩
abbrev r_16 : PRow := ⟨[x_zero], false, false, false, false, 8⟩
abbrev r_17 : PRow := ⟨[x_nop], false, false, true, true, 8⟩
abbrev r_18 : PRow := ⟨[x_cmp, x_cmp], false, false, false, false, 11⟩
abbrev r_19 : PRow := ⟨[x_call, addIn 31 0 0], false, false, false, false, 11⟩
abbrev r_20 : PRow := ⟨[x_st], false, false, false, false, 12⟩
abbrev r_21 : PRow := ⟨[x_plain, x_loop], false, false, false, false, 0⟩
abbrev r_22 : PRow := ⟨[x_plain, x_plain, x_zero], false, false, false, false, 8⟩
def tab : List PRow := [r_0, r_1, r_2, r_3, r_4, r_5, r_6, r_7, r_8, r_9, r_10, r_11, r_12, r_13, r_14, r_15, r_16, r_17, r_18, r_19, r_20, r_21, r_22]
theorem tab_ok : (tab.all fun r => checkP ⟨r.insts, r.e0, r.e1, r.raw, r.dup⟩ == r.told && r.insts.all smallB && decide (r.insts.length ≤ 5)) = true := by decide +kernel
def kinds : List Kd := [.inst (addIn 1 1 0),
  .inst (addIn 1 4 0),
  .insts [addIn 1 1 0, addIn 1 4 0],
  .pk r_0,
  .inst (addIn 1 1 0),
  .inst (addIn 1 2 1),
  .insts [addIn 1 1 0, addIn 1 2 1],
  .pk r_1,
  .inst (addIn 1 1 0),
  .inst (addIn 1 2 0),
  .inst (addIn 1 1 0),
  .insts [addIn 1 1 0, addIn 1 2 0, addIn 1 1 0],
  .pk r_2,
  .inst x_cmp,
  .inst x_jump,
  .insts [x_cmp, x_jump],
  .pk r_3,
  .inst x_jump,
  .insts [x_jump],
  .pk r_4,
  .inst x_plain,
  .inst x_call,
  .insts [x_plain, x_call],
  .pk r_5,
  .inst (addIn 1 0 0),
  .inst x_st,
  .insts [addIn 1 0 0, x_st],
  .pk r_6,
  .inst x_ld,
  .inst x_st,
  .insts [x_ld, x_st],
  .pk r_7,
  .inst (addIn 1 1 0),
  .inst x_st,
  .insts [addIn 1 1 0, x_st],
  .pk r_8,
  .inst (addIn 1 1 0),
  .inst (addIn 1 2 0),
  .inst x_st,
  .insts [addIn 1 1 0, addIn 1 2 0, x_st],
  .pk r_9,
  .inst x_call,
  .inst x_far,
  .insts [x_call, x_far],
  .pk r_10,
  .inst x_nop,
  .insts [x_nop],
  .pk r_11,
  .inst x_plain,
  .insts [x_plain],
  .pk r_12,
  .inst x_loop,
  .insts [x_loop],
  .pk r_13,
  .pk r_14,
  .inst x_nop,
  .inst x_nop,
  .inst x_nop,
  .inst x_nop,
  .inst x_nop,
  .insts [x_nop, x_nop, x_nop, x_nop, x_nop],
  .pk r_15,
  .inst x_zero,
  .insts [x_zero],
  .pk r_16,
  .inst x_nop,
  .insts [x_nop],
  .pk r_17,
  .inst x_cmp,
  .inst x_cmp,
  .insts [x_cmp, x_cmp],
  .pk r_18,
  .inst x_call,
  .inst (addIn 31 0 0),
  .insts [x_call, addIn 31 0 0],
  .pk r_19,
  .inst x_st,
  .insts [x_st],
  .pk r_20,
  .inst x_plain,
  .inst x_loop,
  .insts [x_plain, x_loop],
  .pk r_21,
  .inst x_plain,
  .inst x_plain,
  .inst x_zero,
  .insts [x_plain, x_plain, x_zero],
  .pk r_22,
  .pks tab]
def S (t : Nat) : Kd := if t = 10 then .pks tab else if t < 23 then .none else kinds.getD (t - 23) .none
def mine (t : Nat) : Bool := t == 10 || (decide (23 ≤ t) && decide (t ≤ 111))
theorem mine_lt (t : Nat) (h : mine t = true) : t < 130 := by
  simp only [mine, Bool.or_eq_true, beq_iff_eq, Bool.and_eq_true, decide_eq_true_eq] at h
  omega
theorem list_lit (bs : List Nat) (n : Nat) (h : bs.length = n) : bs = (List.range n).map fun i => bs.getD i 0 := by
  subst h
  refine List.ext_getElem (by simp) fun i h1 h2 => ?_
  simp [List.getD, h1]
theorem array_lit (xs : Array Value) (n : Nat) (h : xs.size = n) : xs = ((List.range n).map fun i => xs.getD i undef).toArray := by
  subst h
  refine Array.ext (by simp) fun i h1 h2 => ?_
  simp [Array.getD, h1]
theorem rows_of (g : Nat → Nat) : Tryd.prog.builtSlice 27 23 ((((List.range 23).map g).zip tab).map (fun p => Value.agg (prV p.1 p.2).toArray) |>.zipIdx.map fun p => (p.2, p.1)) = some (flatP ((List.range 23).map g) tab).toArray := by kernel_rfl
theorem rows_fill (bs : List Nat) (h : bs.length = tab.length) : Tryd.prog.builtSlice 27 23 (((bs.zip tab).map fun p => Value.agg (prV p.1 p.2).toArray).zipIdx.map fun p => (p.2, p.1)) = some (flatP bs tab).toArray := by
  have e := list_lit bs 23 h
  rw [e]
  exact rows_of _
theorem act_of (a : Act) (hs : a.tmps.size = 130) (hd : a.defers = []) : ∃ f : Nat → Value, (∀ t, f t = a.eval (.tmp t)) ∧ a = { tmps := #[f 0, f 1, f 2, f 3, f 4, f 5, f 6, f 7, f 8, f 9, f 10, f 11, f 12, f 13, f 14, f 15, f 16, f 17, f 18, f 19, f 20, f 21, f 22, f 23, f 24, f 25, f 26, f 27, f 28, f 29, f 30, f 31, f 32, f 33, f 34, f 35, f 36, f 37, f 38, f 39, f 40, f 41, f 42, f 43, f 44, f 45, f 46, f 47, f 48, f 49, f 50, f 51, f 52, f 53, f 54, f 55, f 56, f 57, f 58, f 59, f 60, f 61, f 62, f 63, f 64, f 65, f 66, f 67, f 68, f 69, f 70, f 71, f 72, f 73, f 74, f 75, f 76, f 77, f 78, f 79, f 80, f 81, f 82, f 83, f 84, f 85, f 86, f 87, f 88, f 89, f 90, f 91, f 92, f 93, f 94, f 95, f 96, f 97, f 98, f 99, f 100, f 101, f 102, f 103, f 104, f 105, f 106, f 107, f 108, f 109, f 110, f 111, f 112, f 113, f 114, f 115, f 116, f 117, f 118, f 119, f 120, f 121, f 122, f 123, f 124, f 125, f 126, f 127, f 128, f 129], defers := [] } := by
  obtain ⟨tmps, defers⟩ := a
  have hd' : defers = [] := hd
  subst hd'
  refine ⟨fun t => tmps.getD t undef, fun _ => rfl, ?_⟩
  have e := array_lit tmps 130 hs
  exact congrArg (fun x => ({ tmps := x, defers := [] } : Act)) e
/-- The nine variables. -/
structure Nine (W w : World) : Prop where
  made : Made W w
  cmp : InAt w (W.heap.size) x_cmp
  jump : InAt w (W.heap.size + 1) x_jump
  plain : InAt w (W.heap.size + 1 + 1) x_plain
  st : InAt w (W.heap.size + 1 + 1 + 1) x_st
  ld : InAt w (W.heap.size + 1 + 1 + 1 + 1) x_ld
  nop : InAt w (W.heap.size + 1 + 1 + 1 + 1 + 1) x_nop
  loop : InAt w (W.heap.size + 1 + 1 + 1 + 1 + 1 + 1) x_loop
  call : InAt w (W.heap.size + 1 + 1 + 1 + 1 + 1 + 1 + 1) x_call
  far : InAt w (W.heap.size + 1 + 1 + 1 + 1 + 1 + 1 + 1 + 1) x_far
theorem nine_of (W : World) : Nine W (((((((((W.alloc (.cells x_cmp.cells.toArray 24)).alloc (.cells x_jump.cells.toArray 24)).alloc (.cells x_plain.cells.toArray 24)).alloc (.cells x_st.cells.toArray 24)).alloc (.cells x_ld.cells.toArray 24)).alloc (.cells x_nop.cells.toArray 24)).alloc (.cells x_loop.cells.toArray 24)).alloc (.cells x_call.cells.toArray 24)).alloc (.cells x_far.cells.toArray 24)) := by
  have e := Below.heap_alloc
  refine ⟨((((((((((Made.refl W).alloc (Nat.le_refl _) _).alloc (by simp only [World.size_alloc]; omega) _).alloc (by simp only [World.size_alloc]; omega) _).alloc (by simp only [World.size_alloc]; omega) _).alloc (by simp only [World.size_alloc]; omega) _).alloc (by simp only [World.size_alloc]; omega) _).alloc (by simp only [World.size_alloc]; omega) _).alloc (by simp only [World.size_alloc]; omega) _).alloc (by simp only [World.size_alloc]; omega) _), ?_, ?_, ?_, ?_, ?_, ?_, ?_, ?_, ?_⟩
  · show (_ : World).heap[_]? = _; rw [e _ _ _ (by simp only [World.size_alloc]; omega), e _ _ _ (by simp only [World.size_alloc]; omega), e _ _ _ (by simp only [World.size_alloc]; omega), e _ _ _ (by simp only [World.size_alloc]; omega), e _ _ _ (by simp only [World.size_alloc]; omega), e _ _ _ (by simp only [World.size_alloc]; omega), e _ _ _ (by simp only [World.size_alloc]; omega), e _ _ _ (by simp only [World.size_alloc]; omega)]; exact heap_at (by first | rfl | simp only [World.size_alloc])
  · show (_ : World).heap[_]? = _; rw [e _ _ _ (by simp only [World.size_alloc]; omega), e _ _ _ (by simp only [World.size_alloc]; omega), e _ _ _ (by simp only [World.size_alloc]; omega), e _ _ _ (by simp only [World.size_alloc]; omega), e _ _ _ (by simp only [World.size_alloc]; omega), e _ _ _ (by simp only [World.size_alloc]; omega), e _ _ _ (by simp only [World.size_alloc]; omega)]; exact heap_at (by first | rfl | simp only [World.size_alloc])
  · show (_ : World).heap[_]? = _; rw [e _ _ _ (by simp only [World.size_alloc]; omega), e _ _ _ (by simp only [World.size_alloc]; omega), e _ _ _ (by simp only [World.size_alloc]; omega), e _ _ _ (by simp only [World.size_alloc]; omega), e _ _ _ (by simp only [World.size_alloc]; omega), e _ _ _ (by simp only [World.size_alloc]; omega)]; exact heap_at (by first | rfl | simp only [World.size_alloc])
  · show (_ : World).heap[_]? = _; rw [e _ _ _ (by simp only [World.size_alloc]; omega), e _ _ _ (by simp only [World.size_alloc]; omega), e _ _ _ (by simp only [World.size_alloc]; omega), e _ _ _ (by simp only [World.size_alloc]; omega), e _ _ _ (by simp only [World.size_alloc]; omega)]; exact heap_at (by first | rfl | simp only [World.size_alloc])
  · show (_ : World).heap[_]? = _; rw [e _ _ _ (by simp only [World.size_alloc]; omega), e _ _ _ (by simp only [World.size_alloc]; omega), e _ _ _ (by simp only [World.size_alloc]; omega), e _ _ _ (by simp only [World.size_alloc]; omega)]; exact heap_at (by first | rfl | simp only [World.size_alloc])
  · show (_ : World).heap[_]? = _; rw [e _ _ _ (by simp only [World.size_alloc]; omega), e _ _ _ (by simp only [World.size_alloc]; omega), e _ _ _ (by simp only [World.size_alloc]; omega)]; exact heap_at (by first | rfl | simp only [World.size_alloc])
  · show (_ : World).heap[_]? = _; rw [e _ _ _ (by simp only [World.size_alloc]; omega), e _ _ _ (by simp only [World.size_alloc]; omega)]; exact heap_at (by first | rfl | simp only [World.size_alloc])
  · show (_ : World).heap[_]? = _; rw [e _ _ _ (by simp only [World.size_alloc]; omega)]; exact heap_at (by first | rfl | simp only [World.size_alloc])
  · exact heap_at (by first | rfl | simp only [World.size_alloc])
theorem Nine.drew {W w : World} (h : Nine W w) : Nine W w.drew := ⟨h.made.drew, h.cmp, h.jump, h.plain, h.st, h.ld, h.nop, h.loop, h.call, h.far⟩
theorem row_cells5 {w : World} {g : Nat} {bs : List Nat} {T : TypeId} (hg : w.heap[g]? = some (.cells (flatP bs tab).toArray T (0, 0))) {k : Nat} (hb : k < bs.length) (hk : k < tab.length) (b : Nat) (r : PRow) (hbk : bs[k] = b) (hr : tab[k] = r) :
    w.cell? ⟨g, k * 5, none⟩ = some (.slice (ptr r.insts b) r.insts.length r.insts.length) ∧ w.cell? ⟨g, k * 5 + 1, none⟩ = some (.bool r.e0) ∧ w.cell? ⟨g, k * 5 + 2, none⟩ = some (.bool r.e1) ∧ w.cell? ⟨g, k * 5 + 3, none⟩ = some (.bool r.raw) ∧ w.cell? ⟨g, k * 5 + 4, none⟩ = some (.bool r.dup) := by
  subst hbk
  subst hr
  have e := fun j (hj : j < 5) => (cell_of_lit hg (k * 5 + j)).trans (flatP_at bs tab k hb hk j hj)
  exact ⟨e 0 (by omega), e 1 (by omega), e 2 (by omega), e 3 (by omega), e 4 (by omega)⟩
theorem told_cell {w : World} {q : Nat} {T : TypeId} (hq : w.heap[q]? = some (.cells (tab.map fun r => Value.int .i64 r.told).toArray T (0, 0))) {k : Nat} (hk : k < tab.length) (r : PRow) (hr : tab[k] = r) : w.cell? ⟨q, k, none⟩ = some (.int .i64 r.told) := by
  subst hr
  rw [cell_of_lit hq]
  simp [hk]
/-- The two slices. -/
structure Two (W : World) (g q : Nat) (bs : List Nat) (w : World) : Prop where
  made : Made W w
  rows : w.heap[g]? = some (.cells (flatP bs tab).toArray 27 (0, 0))
  told : w.heap[q]? = some (.cells (tab.map fun r => Value.int .i64 r.told).toArray 31 (0, 0))
  blocks : Blocks w bs tab
theorem Two.next {W w w' : World} {g q : Nat} {bs : List Nat} (h : Two W g q bs w) (hm : Made w w') : Two W g q bs w' := ⟨Made.trans h.made hm, hm.heap h.rows, hm.heap h.told, blocks_made hm bs tab h.blocks⟩
section
attribute [local irreducible] World.cell?
set_option maxRecDepth 100000 in
set_option maxHeartbeats 16000000 in
theorem walk (W : World) (hN : Names W) : Calls Tryd.prog 3 #[] W fun e w' => e = .returned (.bool true) ∧ Made W w' := by
  have HN := Lib.hid hN
  clear hN
  go_enter Tryd.func3, Tryd.ntmps3
  go_upto_region 11 with (fail)
  refine name_world (fun u => Nine W u) (nine_of W) ?_
  intro u hu
  have HB := Lib.hid hu.drew
  clear hu
  refine wp_region_makers (own := mine) (R := fun t => Leaves (S t)) u rfl (by kernel_rfl) (by kernel_rfl) mine_lt (fun t => leaves_mono (S t)) ?_ ?_
  · dsimp only [List.append]
    refine List.forall_mem_cons.2 ⟨make_add 1 1 0 rfl, ?_⟩
    refine List.forall_mem_cons.2 ⟨make_add 1 4 0 rfl, ?_⟩
    refine List.forall_mem_cons.2 ⟨make_slice 2 _ [23, 24] [addIn 1 1 0, addIn 1 4 0] rfl rfl rfl rfl (by kernel_rfl) rfl, ?_⟩
    refine List.forall_mem_cons.2 ⟨make_of (t := 25) r_0 [addIn 1 1 0, addIn 1 4 0] rfl rfl (fun _ => rfl) rfl ⟨rfl, rfl, rfl, rfl⟩ rfl, ?_⟩
    refine List.forall_mem_cons.2 ⟨make_add 1 1 0 rfl, ?_⟩
    refine List.forall_mem_cons.2 ⟨make_add 1 2 1 rfl, ?_⟩
    refine List.forall_mem_cons.2 ⟨make_slice 2 _ [27, 28] [addIn 1 1 0, addIn 1 2 1] rfl rfl rfl rfl (by kernel_rfl) rfl, ?_⟩
    refine List.forall_mem_cons.2 ⟨make_of (t := 29) r_1 [addIn 1 1 0, addIn 1 2 1] rfl rfl (fun _ => rfl) rfl ⟨rfl, rfl, rfl, rfl⟩ rfl, ?_⟩
    refine List.forall_mem_cons.2 ⟨make_add 1 1 0 rfl, ?_⟩
    refine List.forall_mem_cons.2 ⟨make_add 1 2 0 rfl, ?_⟩
    refine List.forall_mem_cons.2 ⟨make_add 1 1 0 rfl, ?_⟩
    refine List.forall_mem_cons.2 ⟨make_slice 3 _ [31, 32, 33] [addIn 1 1 0, addIn 1 2 0, addIn 1 1 0] rfl rfl rfl rfl (by kernel_rfl) rfl, ?_⟩
    refine List.forall_mem_cons.2 ⟨make_of (t := 34) r_2 [addIn 1 1 0, addIn 1 2 0, addIn 1 1 0] rfl rfl (fun _ => rfl) rfl ⟨rfl, rfl, rfl, rfl⟩ rfl, ?_⟩
    refine List.forall_mem_cons.2 ⟨make_load (t := 1) x_cmp rfl rfl HB.out.cmp rfl, ?_⟩
    refine List.forall_mem_cons.2 ⟨make_load (t := 2) x_jump rfl rfl HB.out.jump rfl, ?_⟩
    refine List.forall_mem_cons.2 ⟨make_slice 2 _ [36, 37] [x_cmp, x_jump] rfl rfl rfl rfl (by kernel_rfl) rfl, ?_⟩
    refine List.forall_mem_cons.2 ⟨make_of (t := 38) r_3 [x_cmp, x_jump] rfl rfl (fun _ => rfl) rfl ⟨rfl, rfl, rfl, rfl⟩ rfl, ?_⟩
    refine List.forall_mem_cons.2 ⟨make_load (t := 2) x_jump rfl rfl HB.out.jump rfl, ?_⟩
    refine List.forall_mem_cons.2 ⟨make_slice 1 _ [40] [x_jump] rfl rfl rfl rfl (by kernel_rfl) rfl, ?_⟩
    refine List.forall_mem_cons.2 ⟨make_of (t := 41) r_4 [x_jump] rfl rfl (fun _ => rfl) rfl ⟨rfl, rfl, rfl, rfl⟩ rfl, ?_⟩
    refine List.forall_mem_cons.2 ⟨make_load (t := 3) x_plain rfl rfl HB.out.plain rfl, ?_⟩
    refine List.forall_mem_cons.2 ⟨make_load (t := 8) x_call rfl rfl HB.out.call rfl, ?_⟩
    refine List.forall_mem_cons.2 ⟨make_slice 2 _ [43, 44] [x_plain, x_call] rfl rfl rfl rfl (by kernel_rfl) rfl, ?_⟩
    refine List.forall_mem_cons.2 ⟨make_of (t := 45) r_5 [x_plain, x_call] rfl rfl (fun _ => rfl) rfl ⟨rfl, rfl, rfl, rfl⟩ rfl, ?_⟩
    refine List.forall_mem_cons.2 ⟨make_add 1 0 0 rfl, ?_⟩
    refine List.forall_mem_cons.2 ⟨make_load (t := 4) x_st rfl rfl HB.out.st rfl, ?_⟩
    refine List.forall_mem_cons.2 ⟨make_slice 2 _ [47, 48] [addIn 1 0 0, x_st] rfl rfl rfl rfl (by kernel_rfl) rfl, ?_⟩
    refine List.forall_mem_cons.2 ⟨make_of (t := 49) r_6 [addIn 1 0 0, x_st] rfl rfl (fun _ => rfl) rfl ⟨rfl, rfl, rfl, rfl⟩ rfl, ?_⟩
    refine List.forall_mem_cons.2 ⟨make_load (t := 5) x_ld rfl rfl HB.out.ld rfl, ?_⟩
    refine List.forall_mem_cons.2 ⟨make_load (t := 4) x_st rfl rfl HB.out.st rfl, ?_⟩
    refine List.forall_mem_cons.2 ⟨make_slice 2 _ [51, 52] [x_ld, x_st] rfl rfl rfl rfl (by kernel_rfl) rfl, ?_⟩
    refine List.forall_mem_cons.2 ⟨make_of (t := 53) r_7 [x_ld, x_st] rfl rfl (fun _ => rfl) rfl ⟨rfl, rfl, rfl, rfl⟩ rfl, ?_⟩
    refine List.forall_mem_cons.2 ⟨make_add 1 1 0 rfl, ?_⟩
    refine List.forall_mem_cons.2 ⟨make_load (t := 4) x_st rfl rfl HB.out.st rfl, ?_⟩
    refine List.forall_mem_cons.2 ⟨make_slice 2 _ [55, 56] [addIn 1 1 0, x_st] rfl rfl rfl rfl (by kernel_rfl) rfl, ?_⟩
    refine List.forall_mem_cons.2 ⟨make_of (t := 57) r_8 [addIn 1 1 0, x_st] rfl rfl (fun _ => rfl) rfl ⟨rfl, rfl, rfl, rfl⟩ rfl, ?_⟩
    refine List.forall_mem_cons.2 ⟨make_add 1 1 0 rfl, ?_⟩
    refine List.forall_mem_cons.2 ⟨make_add 1 2 0 rfl, ?_⟩
    refine List.forall_mem_cons.2 ⟨make_load (t := 4) x_st rfl rfl HB.out.st rfl, ?_⟩
    refine List.forall_mem_cons.2 ⟨make_slice 3 _ [59, 60, 61] [addIn 1 1 0, addIn 1 2 0, x_st] rfl rfl rfl rfl (by kernel_rfl) rfl, ?_⟩
    refine List.forall_mem_cons.2 ⟨make_of (t := 62) r_9 [addIn 1 1 0, addIn 1 2 0, x_st] rfl rfl (fun _ => rfl) rfl ⟨rfl, rfl, rfl, rfl⟩ rfl, ?_⟩
    refine List.forall_mem_cons.2 ⟨make_load (t := 8) x_call rfl rfl HB.out.call rfl, ?_⟩
    refine List.forall_mem_cons.2 ⟨make_load (t := 9) x_far rfl rfl HB.out.far rfl, ?_⟩
    refine List.forall_mem_cons.2 ⟨make_slice 2 _ [64, 65] [x_call, x_far] rfl rfl rfl rfl (by kernel_rfl) rfl, ?_⟩
    refine List.forall_mem_cons.2 ⟨make_of (t := 66) r_10 [x_call, x_far] rfl rfl (fun _ => rfl) rfl ⟨rfl, rfl, rfl, rfl⟩ rfl, ?_⟩
    refine List.forall_mem_cons.2 ⟨make_load (t := 6) x_nop rfl rfl HB.out.nop rfl, ?_⟩
    refine List.forall_mem_cons.2 ⟨make_slice 1 _ [68] [x_nop] rfl rfl rfl rfl (by kernel_rfl) rfl, ?_⟩
    refine List.forall_mem_cons.2 ⟨make_pk (t := 69) r_11 [x_nop] [(1, true)] rfl rfl (fun _ => rfl) rfl rfl (fun b n w => by simp [go_sem]), ?_⟩
    refine List.forall_mem_cons.2 ⟨make_load (t := 3) x_plain rfl rfl HB.out.plain rfl, ?_⟩
    refine List.forall_mem_cons.2 ⟨make_slice 1 _ [71] [x_plain] rfl rfl rfl rfl (by kernel_rfl) rfl, ?_⟩
    refine List.forall_mem_cons.2 ⟨make_pk (t := 72) r_12 [x_plain] [(1, true)] rfl rfl (fun _ => rfl) rfl rfl (fun b n w => by simp [go_sem]), ?_⟩
    refine List.forall_mem_cons.2 ⟨make_load (t := 7) x_loop rfl rfl HB.out.loop rfl, ?_⟩
    refine List.forall_mem_cons.2 ⟨make_slice 1 _ [74] [x_loop] rfl rfl rfl rfl (by kernel_rfl) rfl, ?_⟩
    refine List.forall_mem_cons.2 ⟨make_pk (t := 75) r_13 [x_loop] [(2, true)] rfl rfl (fun _ => rfl) rfl rfl (fun b n w => by simp [go_sem]), ?_⟩
    refine List.forall_mem_cons.2 ⟨make_none r_14 rfl rfl, ?_⟩
    refine List.forall_mem_cons.2 ⟨make_load (t := 6) x_nop rfl rfl HB.out.nop rfl, ?_⟩
    refine List.forall_mem_cons.2 ⟨make_load (t := 6) x_nop rfl rfl HB.out.nop rfl, ?_⟩
    refine List.forall_mem_cons.2 ⟨make_load (t := 6) x_nop rfl rfl HB.out.nop rfl, ?_⟩
    refine List.forall_mem_cons.2 ⟨make_load (t := 6) x_nop rfl rfl HB.out.nop rfl, ?_⟩
    refine List.forall_mem_cons.2 ⟨make_load (t := 6) x_nop rfl rfl HB.out.nop rfl, ?_⟩
    refine List.forall_mem_cons.2 ⟨make_slice 5 _ [78, 79, 80, 81, 82] [x_nop, x_nop, x_nop, x_nop, x_nop] rfl rfl rfl rfl (by kernel_rfl) rfl, ?_⟩
    refine List.forall_mem_cons.2 ⟨make_of (t := 83) r_15 [x_nop, x_nop, x_nop, x_nop, x_nop] rfl rfl (fun _ => rfl) rfl ⟨rfl, rfl, rfl, rfl⟩ rfl, ?_⟩
    refine List.forall_mem_cons.2 ⟨make_zero rfl, ?_⟩
    refine List.forall_mem_cons.2 ⟨make_slice 1 _ [85] [x_zero] rfl rfl rfl rfl (by kernel_rfl) rfl, ?_⟩
    refine List.forall_mem_cons.2 ⟨make_of (t := 86) r_16 [x_zero] rfl rfl (fun _ => rfl) rfl ⟨rfl, rfl, rfl, rfl⟩ rfl, ?_⟩
    refine List.forall_mem_cons.2 ⟨make_load (t := 6) x_nop rfl rfl HB.out.nop rfl, ?_⟩
    refine List.forall_mem_cons.2 ⟨make_slice 1 _ [88] [x_nop] rfl rfl rfl rfl (by kernel_rfl) rfl, ?_⟩
    refine List.forall_mem_cons.2 ⟨make_pk (t := 89) r_17 [x_nop] [(3, true), (4, true)] rfl rfl (fun _ => rfl) rfl rfl (fun b n w => by simp [go_sem]), ?_⟩
    refine List.forall_mem_cons.2 ⟨make_load (t := 1) x_cmp rfl rfl HB.out.cmp rfl, ?_⟩
    refine List.forall_mem_cons.2 ⟨make_load (t := 1) x_cmp rfl rfl HB.out.cmp rfl, ?_⟩
    refine List.forall_mem_cons.2 ⟨make_slice 2 _ [91, 92] [x_cmp, x_cmp] rfl rfl rfl rfl (by kernel_rfl) rfl, ?_⟩
    refine List.forall_mem_cons.2 ⟨make_of (t := 93) r_18 [x_cmp, x_cmp] rfl rfl (fun _ => rfl) rfl ⟨rfl, rfl, rfl, rfl⟩ rfl, ?_⟩
    refine List.forall_mem_cons.2 ⟨make_load (t := 8) x_call rfl rfl HB.out.call rfl, ?_⟩
    refine List.forall_mem_cons.2 ⟨make_add 31 0 0 rfl, ?_⟩
    refine List.forall_mem_cons.2 ⟨make_slice 2 _ [95, 96] [x_call, addIn 31 0 0] rfl rfl rfl rfl (by kernel_rfl) rfl, ?_⟩
    refine List.forall_mem_cons.2 ⟨make_of (t := 97) r_19 [x_call, addIn 31 0 0] rfl rfl (fun _ => rfl) rfl ⟨rfl, rfl, rfl, rfl⟩ rfl, ?_⟩
    refine List.forall_mem_cons.2 ⟨make_load (t := 4) x_st rfl rfl HB.out.st rfl, ?_⟩
    refine List.forall_mem_cons.2 ⟨make_slice 1 _ [99] [x_st] rfl rfl rfl rfl (by kernel_rfl) rfl, ?_⟩
    refine List.forall_mem_cons.2 ⟨make_of (t := 100) r_20 [x_st] rfl rfl (fun _ => rfl) rfl ⟨rfl, rfl, rfl, rfl⟩ rfl, ?_⟩
    refine List.forall_mem_cons.2 ⟨make_load (t := 3) x_plain rfl rfl HB.out.plain rfl, ?_⟩
    refine List.forall_mem_cons.2 ⟨make_load (t := 7) x_loop rfl rfl HB.out.loop rfl, ?_⟩
    refine List.forall_mem_cons.2 ⟨make_slice 2 _ [102, 103] [x_plain, x_loop] rfl rfl rfl rfl (by kernel_rfl) rfl, ?_⟩
    refine List.forall_mem_cons.2 ⟨make_of (t := 104) r_21 [x_plain, x_loop] rfl rfl (fun _ => rfl) rfl ⟨rfl, rfl, rfl, rfl⟩ rfl, ?_⟩
    refine List.forall_mem_cons.2 ⟨make_load (t := 3) x_plain rfl rfl HB.out.plain rfl, ?_⟩
    refine List.forall_mem_cons.2 ⟨make_load (t := 3) x_plain rfl rfl HB.out.plain rfl, ?_⟩
    refine List.forall_mem_cons.2 ⟨make_zero rfl, ?_⟩
    refine List.forall_mem_cons.2 ⟨make_slice 3 _ [106, 107, 108] [x_plain, x_plain, x_zero] rfl rfl rfl rfl (by kernel_rfl) rfl, ?_⟩
    refine List.forall_mem_cons.2 ⟨make_of (t := 109) r_22 [x_plain, x_plain, x_zero] rfl rfl (fun _ => rfl) rfl ⟨rfl, rfl, rfl, rfl⟩ rfl, ?_⟩
    refine List.forall_mem_cons.2 ⟨make_rows 23 _ [26, 30, 35, 39, 42, 46, 50, 54, 58, 63, 67, 70, 73, 76, 77, 84, 87, 90, 94, 98, 101, 105, 110] tab rfl rfl rfl rfl (fun bs hbs => rows_fill bs hbs) rfl, ?_⟩
    refine List.forall_mem_cons.2 ⟨make_assign (t := 111) rfl rfl, ?_⟩
    exact fun o ho => absurd ho (by simp)
  · intro a w1 hm1 hsz hdf hst hto
    have h10 := hto 10 rfl
    have h0 := hst 0 rfl
    obtain ⟨f, hf, rfl⟩ := act_of a hsz hdf
    rewrite [← hf] at h10 h0
    obtain ⟨g, bs, e10, hlen, hg, hbl⟩ := (show Leaves (.pks tab) (f 10) w1 from h10)
    have e0 : f 0 = .bool false := h0
    have hl23 : tab.length = 23 := rfl
    rewrite [hl23] at e10
    clear h10 h0 hsz hdf hst hto hf
    generalize f 10 = v10 at *
    generalize f 0 = v0 at *
    subst e10
    subst e0
    have M1 := Lib.hid (Made.trans HB.out.made hm1)
    have HG := Lib.hid hg
    have HBL := Lib.hid hbl
    have HLEN := Lib.hid hlen
    clear hg hbl hlen hm1 hl23
    dsimp only
    go_upto_block 0 with (refine Great.wpList_buildSliceTo rfl 32 31 23 _ rfl _ rfl _ rfl Tryd.underlying32 (tab.map fun r => Value.int .i64 r.told).toArray (by kernel_rfl) ?_)
    have m2 : Made w1 (w1.alloc (.cells (tab.map fun r => Value.int .i64 r.told).toArray 31)) := (Made.refl w1).alloc (Nat.le_refl _) _
    refine name_world (fun u => Two W g w1.heap.size bs u) ⟨Made.trans M1.out m2, m2.heap HG.out, heap_alloc_new w1 _, blocks_made m2 bs tab HBL.out⟩ ?_
    intro u2 hu2
    have T0 := Lib.hid hu2
    clear hu2 m2 HG HBL M1 HB
    generalize w1.heap.size = q at *
    go_wp2_with (fail)
    go_loopw [12] (fun i wr => ∃ k : Nat, k ≤ 23 ∧ i = .int .i64 k ∧ Two W g q bs wr) (fun i _ => 23 - (intOf i).toNat)
    case atStart => exact ⟨0, Nat.zero_le _, rfl, T0.out⟩
    case round =>
      obtain ⟨k, hk, rfl, hT⟩ := hrel
      have TR := Lib.hid hT
      clear hT
      by_cases hlt : k < 23
      · obtain ⟨r, hr⟩ : ∃ r, tab[k]'hlt = r := ⟨_, rfl⟩
        have hkb : k < bs.length := by rw [HLEN.out]; exact hlt
        obtain ⟨b, hb⟩ : ∃ b, bs[k] = b := ⟨_, rfl⟩
        have hok := List.all_eq_true.1 tab_ok r (hr ▸ List.getElem_mem _)
        simp only [Bool.and_eq_true, beq_iff_eq, decide_eq_true_eq] at hok
        obtain ⟨⟨hv, hsm⟩, hl5⟩ := hok
        obtain ⟨c0, c1, c2, c3, c4⟩ := row_cells5 TR.out.rows hkb hlt b r hb hr
        have t0 := told_cell TR.out.told hlt r hr
        have hbl : r.insts ≠ [] → BlockOf wr b r.insts := fun hn => by
          have h := blocks_at bs tab TR.out.blocks k hkb hlt (by rw [hr]; exact hn)
          rw [hr, hb] at h
          exact h
        have hI := insts_ptr hbl hl5 hsm
        have D1 : Makes Tryd.prog wr 10 #[pkV (ptr r.insts b) r.insts.length r.insts.length r.e0 r.e1 r.raw r.dup] (.int .i64 r.told) := fun z hz => by
          rw [← hv]
          exact (check_any _ _ r.insts r.e0 r.e1 r.raw r.dup z (HN.out.made (Made.trans TR.out.made hz)) (insts_made hI hz)).mono fun _ _ ⟨he, hm⟩ => ⟨he, Made.trans hz hm⟩
        have DA := Lib.hid D1
        have lg := heap_lt TR.out.rows
        have lq := heap_lt TR.out.told
        clear D1 hI hbl hv hsm hl5 hb hr hkb
        generalize ptr r.insts b = ao at *
        generalize r.insts.length = n at *
        generalize r.e0 = x0 at *
        generalize r.e1 = x1 at *
        generalize r.raw = x2 at *
        generalize r.dup = x3 at *
        generalize r.told = v at *
        have hne : (v == v) = true := by simp
        have g0 := fun d os => cell_regrown c0 d os
        have g1 := fun d os => cell_regrown c1 d os
        have g2 := fun d os => cell_regrown c2 d os
        have g3 := fun d os => cell_regrown c3 d os
        have g4 := fun d os => cell_regrown c4 d os
        have g5 := fun d os => cell_regrown t0 d os
        have hk0 : (0 : Int) ≤ (k : Int) := by omega
        have hk1 : (k : Int) < (23 : Int) := by omega
        go_upto_region 16 with (fail)
        refine wp_region_quiet_below (by kernel_rfl) (by kernel_rfl) ?_
        repeat (go_big_quiet_step ((go_at_call 10; with_reducible exact DA.out.again _ _)))
        refine wpQuiet_nil ?_
        intro z3 hw9
        have T1 := Lib.hid (TR.out.next (made_regrown hw9))
        clear hw9 c0 c1 c2 c3 c4 t0 g0 g1 g2 g3 g4 g5 DA TR lg lq
        go_wp2
        go_roundw
        case rel => exact ⟨k + 1, by omega, by go_num, T1.out⟩
        case measure => simp [intOf]; omega
      · obtain rfl : k = 23 := by omega
        go_wp2_with (fail)
        refine (awake10_any _ (HN.out.made TR.out.made) _ (Made.refl _)).mono ?_
        rintro e w5 ⟨rfl, h5⟩
        have M5 := Lib.hid (Made.trans TR.out.made h5)
        clear h5
        go_wp2
        go_ret
        exact ⟨rfl, M5.out⟩
end
end rulesKnown
end Go.Proofs.YtdaildmoodfocaaDoor
