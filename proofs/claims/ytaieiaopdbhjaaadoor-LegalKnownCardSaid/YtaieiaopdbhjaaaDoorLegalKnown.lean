/- LegalKnown of the laws of legal returns true, in every world that holds the tables. -/
import Derived.Test.YtaieiaopdbhjaaaDoorPkMakers
import Derived.Deep.CutBlock
import Derived.Test.YtaieiaopdbhjaaaDoorLegalLaws
namespace Go.Proofs.YtaieiaopdbhjaaaDoor
open Go.ChangeShapes Go.WideShapes Go.ChangeAt Go.RowKit Go.Sort BigFrame

abbrev ldIn (d : Int) : In := ⟨21, d, 0, 0, 0, 0, 0, false, false, 0, 0⟩
abbrev aslIn (d : Int) : In := ⟨15, d, 0, 0, 0, 0, 0, false, false, 0, 0⟩
section
attribute [local irreducible] World.cell?
theorem ldI_any (W : World) (d : Int) : Makes Tryd.prog W 7 #[.int .u8 d] (In.val (ldIn d)) := by
  intro w hm
  have hz := hm.size
  have H0 := Lib.hid hm
  clear hm
  go_enter Tryd.func7, Tryd.ntmps7
  go_wp2
  refine bodyPost_ret (v := In.val (ldIn d)) (by simp [results, Tryd.results7, go_sem]) rfl ?_
  exact ⟨rfl, H0.out.alloc hz _⟩
theorem aslI_any (W : World) (d : Int) : Makes Tryd.prog W 8 #[.int .u8 d] (In.val (aslIn d)) := by
  intro w hm
  have hz := hm.size
  have H0 := Lib.hid hm
  clear hm
  go_enter Tryd.func8, Tryd.ntmps8
  go_wp2
  refine bodyPost_ret (v := In.val (aslIn d)) (by simp [results, Tryd.results8, go_sem]) rfl ?_
  exact ⟨rfl, H0.out.alloc hz _⟩
end
theorem enters_ld : Enters 7 := enters_of Tryd.func7 (by kernel_rfl) (by kernel_rfl)
theorem enters_asl : Enters 8 := enters_of Tryd.func8 (by kernel_rfl) (by kernel_rfl)
/-- The first pair, as one Bool. -/
def firstB (l : List In) (i j : Nat) : Bool := decide (i < j) && decide (j < l.length) && okAt l i j && (List.range l.length).all fun b => (List.range b).all fun a => !decide (a < i ∨ (a = i ∧ b < j)) || !okAt l a b
theorem choice_first {l : List In} {i j : Nat} (h : firstB l i j = true) : IsChoice l i j true := by
  unfold firstB at h
  simp only [Bool.and_eq_true, decide_eq_true_eq, List.all_eq_true, List.mem_range, Bool.or_eq_true, Bool.not_eq_true', decide_eq_false_iff_not] at h
  obtain ⟨⟨⟨h1, h2⟩, h3⟩, h4⟩ := h
  refine ⟨fun _ => ⟨h1, h2, h3, fun a b hab hb ha => ?_⟩, fun h => by simp at h⟩
  rcases h4 b hb a hab with h5 | h5
  · exact absurd ha h5
  · exact h5
theorem choice_none {l : List In} (h : anyP l = false) : IsChoice l 0 0 false := by
  refine ⟨fun h => by simp at h, fun _ => ⟨rfl, rfl, fun a b hab hb => ?_⟩⟩
  cases h1 : okAt l a b with
  | false => rfl
  | true => rw [(any_iff l).2 ⟨a, b, hab, hb, h1⟩] at h; exact absurd h (by simp)
namespace legalKnown
abbrev x_st : In := ⟨24, 0, 0, 0, 0, 0, 0, false, false, 0, 0⟩
abbrev x_nop : In := ⟨1, 0, 0, 0, 0, 0, 0, false, false, 0, 0⟩
abbrev x_far : In := ⟨8, 2, 0, 0, 0, 0, 0, false, true, 0, 1048576⟩
abbrev x_loopI : In := ⟨30, 0, 0, 0, 0, 0, 0, false, false, 0, 0⟩
abbrev x_loopR : In := ⟨31, 0, 0, 0, 0, 0, 0, false, false, 0, 0⟩
abbrev x_add : In := ⟨2, 1, 2, 3, 0, 0, 0, false, false, 0, 0⟩
abbrev x_ldb : In := ⟨23, 3, 0, 0, 0, 0, 0, false, false, 0, 0⟩
abbrev r_0 : PRow := ⟨[ldIn 1, ldIn 2, ldIn 3], false, false, false, false, 9⟩
abbrev r_1 : PRow := ⟨[x_st, x_st], false, false, false, false, 9⟩
abbrev r_2 : PRow := ⟨[aslIn 1, aslIn 2, aslIn 3], false, false, false, false, 9⟩
abbrev r_3 : PRow := ⟨[x_loopI, x_loopR], false, false, false, false, 9⟩
abbrev r_4 : PRow := ⟨[x_nop, x_nop, x_nop, x_far], false, false, false, false, 10⟩
abbrev r_5 : PRow := ⟨[moviIn 0, moviIn 1, x_nop, x_far], false, false, false, true, 0⟩
abbrev r_6 : PRow := ⟨[x_nop], true, false, false, false, 13⟩
abbrev r_7 : PRow := ⟨[x_far], true, false, false, false, 0⟩
abbrev r_8 : PRow := ⟨[x_far], false, true, false, false, 13⟩
abbrev r_9 : PRow := ⟨[moviIn 0, moviIn 1], false, false, true, false, 0⟩
abbrev r_10 : PRow := ⟨[x_nop, x_nop], false, false, false, true, 9⟩
abbrev r_11 : PRow := ⟨[moviIn 0, x_st, ldIn 4, ldIn 5], false, false, false, true, 9⟩
abbrev r_12 : PRow := ⟨[], false, false, false, false, 8⟩
abbrev r_13 : PRow := ⟨[ldIn 1, x_st, aslIn 2, x_loopI], false, false, false, false, 0⟩
abbrev r_14 : PRow := ⟨[moviIn 1, moviIn 1], false, false, false, false, 11⟩
abbrev r_15 : PRow := ⟨[ldIn 1, ldIn 1, ldIn 1], false, false, false, false, 9⟩
def tab : List PRow := [r_0, r_1, r_2, r_3, r_4, r_5, r_6, r_7, r_8, r_9, r_10, r_11, r_12, r_13, r_14, r_15]
theorem tab_ok : (tab.all fun r => legalP ⟨r.insts, r.e0, r.e1, r.raw, r.dup⟩ == r.told && r.insts.all smallB && decide (r.insts.length ≤ 5)) = true := by decide +kernel
abbrev ch_0 : List In := [x_add, moviIn 0, moviIn 1]
theorem choice_0 : IsChoice ch_0 1 2 true := choice_first (by decide +kernel)
theorem small_0 : ch_0.all smallB = true := by decide +kernel
abbrev ch_1 : List In := [ldIn 0, moviIn 1, moviIn 2, x_ldb]
theorem choice_1 : IsChoice ch_1 0 3 true := choice_first (by decide +kernel)
theorem small_1 : ch_1.all smallB = true := by decide +kernel
abbrev ch_2 : List In := [moviIn 0, x_nop]
theorem choice_2 : IsChoice ch_2 0 0 false := choice_none (by decide +kernel)
theorem small_2 : ch_2.all smallB = true := by decide +kernel
theorem raw_takes : takesP ⟨[moviIn 0, moviIn 1], false, false, true, false⟩ = false := rfl
def kinds : List Kd := [.fn 7,
  .inst (ldIn 1),
  .fn 7,
  .inst (ldIn 2),
  .fn 7,
  .inst (ldIn 3),
  .insts [ldIn 1, ldIn 2, ldIn 3],
  .pk r_0,
  .inst x_st,
  .inst x_st,
  .insts [x_st, x_st],
  .pk r_1,
  .fn 8,
  .inst (aslIn 1),
  .fn 8,
  .inst (aslIn 2),
  .fn 8,
  .inst (aslIn 3),
  .insts [aslIn 1, aslIn 2, aslIn 3],
  .pk r_2,
  .inst x_loopI,
  .inst x_loopR,
  .insts [x_loopI, x_loopR],
  .pk r_3,
  .inst x_nop,
  .inst x_nop,
  .inst x_nop,
  .inst x_far,
  .insts [x_nop, x_nop, x_nop, x_far],
  .pk r_4,
  .inst (moviIn 0),
  .inst (moviIn 1),
  .inst x_nop,
  .inst x_far,
  .insts [moviIn 0, moviIn 1, x_nop, x_far],
  .pk r_5,
  .pk r_6,
  .pk r_7,
  .pk r_8,
  .pk r_9,
  .inst x_nop,
  .inst x_nop,
  .insts [x_nop, x_nop],
  .pk r_10,
  .inst (moviIn 0),
  .inst x_st,
  .fn 7,
  .inst (ldIn 4),
  .fn 7,
  .inst (ldIn 5),
  .insts [moviIn 0, x_st, ldIn 4, ldIn 5],
  .pk r_11,
  .pk r_12,
  .fn 7,
  .inst (ldIn 1),
  .inst x_st,
  .fn 8,
  .inst (aslIn 2),
  .inst x_loopI,
  .insts [ldIn 1, x_st, aslIn 2, x_loopI],
  .pk r_13,
  .inst (moviIn 1),
  .inst (moviIn 1),
  .insts [moviIn 1, moviIn 1],
  .pk r_14,
  .fn 7,
  .inst (ldIn 1),
  .fn 7,
  .inst (ldIn 1),
  .fn 7,
  .inst (ldIn 1),
  .insts [ldIn 1, ldIn 1, ldIn 1],
  .pk r_15,
  .pks tab]
def S (t : Nat) : Kd := if t = 10 then .pks tab else if t < 41 then .none else kinds.getD (t - 41) .none
def mine (t : Nat) : Bool := t == 10 || (decide (41 ≤ t) && decide (t ≤ 114))
def S2 (t : Nat) : Kd := ([.inst (moviIn 0), .inst x_nop, .insts ch_2, .val (.tuple #[.int .i64 0, .int .i64 0, .bool false]), .val (.int .i64 0), .val (.int .i64 0), .val (.bool false)] : List Kd).getD (t - 153) .none |> fun k => if t = 152 then .val (.tuple #[.int .i64 0, .int .i64 0, .bool false]) else if t = 19 ∨ t = 20 then .val (.int .i64 0) else if t = 21 then .val (.bool false) else if t < 153 then .none else k
def mine2 (t : Nat) : Bool := t == 19 || t == 20 || t == 21 || (decide (152 ≤ t) && decide (t ≤ 159))
theorem mine2_lt (t : Nat) (h : mine2 t = true) : t < 192 := by
  simp only [mine2, Bool.or_eq_true, beq_iff_eq, Bool.and_eq_true, decide_eq_true_eq] at h
  omega
theorem told_2 {w w' : World} {e : Ending} (h : Chosen ch_2 w e w') : e = .returned (.tuple #[.int .i64 0, .int .i64 0, .bool false]) ∧ Made w w' := by
  obtain ⟨i, j, ok, rfl, hc, hm⟩ := h
  obtain ⟨rfl, rfl, rfl⟩ := choice_one choice_2 hc
  exact ⟨rfl, hm⟩
theorem mine_lt (t : Nat) (h : mine t = true) : t < 192 := by
  simp only [mine, Bool.or_eq_true, beq_iff_eq, Bool.and_eq_true, decide_eq_true_eq] at h
  omega
theorem list_lit (bs : List Nat) (n : Nat) (h : bs.length = n) : bs = (List.range n).map fun i => bs.getD i 0 := by
  subst h
  refine List.ext_getElem (by simp) fun i h1 h2 => ?_
  simp [List.getD, h1]
theorem array_lit (xs : Array Value) (n : Nat) (h : xs.size = n) : xs = ((List.range n).map fun i => xs.getD i undef).toArray := by
  subst h
  refine Array.ext (by simp) fun i h1 h2 => ?_
  simp [Array.getD, h1]
theorem rows_of (g : Nat → Nat) : Tryd.prog.builtSlice 28 16 ((((List.range 16).map g).zip tab).map (fun p => Value.agg (prV p.1 p.2).toArray) |>.zipIdx.map fun p => (p.2, p.1)) = some (flatP ((List.range 16).map g) tab).toArray := by kernel_rfl
theorem rows_fill (bs : List Nat) (h : bs.length = tab.length) : Tryd.prog.builtSlice 28 16 (((bs.zip tab).map fun p => Value.agg (prV p.1 p.2).toArray).zipIdx.map fun p => (p.2, p.1)) = some (flatP bs tab).toArray := by
  have e := list_lit bs 16 h
  rw [e]
  exact rows_of _
theorem act_of (a : Act) (hs : a.tmps.size = 192) (hd : a.defers = []) : ∃ f : Nat → Value, (∀ t, f t = a.eval (.tmp t)) ∧ a = { tmps := #[f 0, f 1, f 2, f 3, f 4, f 5, f 6, f 7, f 8, f 9, f 10, f 11, f 12, f 13, f 14, f 15, f 16, f 17, f 18, f 19, f 20, f 21, f 22, f 23, f 24, f 25, f 26, f 27, f 28, f 29, f 30, f 31, f 32, f 33, f 34, f 35, f 36, f 37, f 38, f 39, f 40, f 41, f 42, f 43, f 44, f 45, f 46, f 47, f 48, f 49, f 50, f 51, f 52, f 53, f 54, f 55, f 56, f 57, f 58, f 59, f 60, f 61, f 62, f 63, f 64, f 65, f 66, f 67, f 68, f 69, f 70, f 71, f 72, f 73, f 74, f 75, f 76, f 77, f 78, f 79, f 80, f 81, f 82, f 83, f 84, f 85, f 86, f 87, f 88, f 89, f 90, f 91, f 92, f 93, f 94, f 95, f 96, f 97, f 98, f 99, f 100, f 101, f 102, f 103, f 104, f 105, f 106, f 107, f 108, f 109, f 110, f 111, f 112, f 113, f 114, f 115, f 116, f 117, f 118, f 119, f 120, f 121, f 122, f 123, f 124, f 125, f 126, f 127, f 128, f 129, f 130, f 131, f 132, f 133, f 134, f 135, f 136, f 137, f 138, f 139, f 140, f 141, f 142, f 143, f 144, f 145, f 146, f 147, f 148, f 149, f 150, f 151, f 152, f 153, f 154, f 155, f 156, f 157, f 158, f 159, f 160, f 161, f 162, f 163, f 164, f 165, f 166, f 167, f 168, f 169, f 170, f 171, f 172, f 173, f 174, f 175, f 176, f 177, f 178, f 179, f 180, f 181, f 182, f 183, f 184, f 185, f 186, f 187, f 188, f 189, f 190, f 191], defers := [] } := by
  obtain ⟨tmps, defers⟩ := a
  have hd' : defers = [] := hd
  subst hd'
  refine ⟨fun t => tmps.getD t undef, fun _ => rfl, ?_⟩
  have e := array_lit tmps 192 hs
  exact congrArg (fun x => ({ tmps := x, defers := [] } : Act)) e
/-- The three variables. -/
structure Three (W w : World) : Prop where
  made : Made W w
  st : InAt w W.heap.size x_st
  nop : InAt w (W.heap.size + 1) x_nop
  far : InAt w (W.heap.size + 1 + 1) x_far
theorem Three.next {W w w' : World} (h : Three W w) (hm : Made w w') : Three W w' := ⟨Made.trans h.made hm, hm.heap h.st, hm.heap h.nop, hm.heap h.far⟩
theorem three_of (W : World) : Three W (((W.alloc (.cells x_st.cells.toArray 24)).alloc (.cells x_nop.cells.toArray 24)).alloc (.cells x_far.cells.toArray 24)) := by
  have e := Below.heap_alloc
  refine ⟨(((Made.refl W).alloc (Nat.le_refl _) _).alloc (by simp only [World.size_alloc]; omega) _).alloc (by simp only [World.size_alloc]; omega) _, ?_, ?_, ?_⟩
  · show (_ : World).heap[_]? = _; rw [e _ _ _ (by simp only [World.size_alloc]; omega), e _ _ _ (by simp only [World.size_alloc]; omega)]; exact heap_at (by first | rfl | simp only [World.size_alloc])
  · show (_ : World).heap[_]? = _; rw [e _ _ _ (by simp only [World.size_alloc]; omega)]; exact heap_at (by first | rfl | simp only [World.size_alloc])
  · exact heap_at (by first | rfl | simp only [World.size_alloc])
/-- A packet's variable and its instructions. -/
def PkIn (w : World) (B b : Nat) (r : PRow) : Prop := w.heap[B]? = some (.cells (prV b r).toArray 28 (0, 0)) ∧ (BlockOf w b r.insts)
theorem PkIn.next {w w' : World} {B b : Nat} {r : PRow} (h : PkIn w B b r) (hm : Made w w') : PkIn w' B b r := ⟨hm.heap h.1, hm.heap h.2⟩
theorem made_al (w : World) (o : Obj) : Made w (w.alloc o) := (Made.refl w).alloc (Nat.le_refl _) o
/-- The two slices, the nop and the packet that is Raw. -/
structure Two (W : World) (g q : Nat) (bs : List Nat) (R b : Nat) (w : World) : Prop where
  three : Three W w
  rows : w.heap[g]? = some (.cells (flatP bs tab).toArray 28 (0, 0))
  told : w.heap[q]? = some (.cells (tab.map fun r => Value.int .i64 r.told).toArray 31 (0, 0))
  blocks : Blocks w bs tab
  raw : PkIn w R b r_9
theorem Two.next {W w w' : World} {g q : Nat} {bs : List Nat} {R b : Nat} (h : Two W g q bs R b w) (hm : Made w w') : Two W g q bs R b w' := ⟨h.three.next hm, hm.heap h.rows, hm.heap h.told, blocks_made hm bs tab h.blocks, h.raw.next hm⟩
theorem row_cells5 {w : World} {g : Nat} {bs : List Nat} {T : TypeId} (hg : w.heap[g]? = some (.cells (flatP bs tab).toArray T (0, 0))) {k : Nat} (hb : k < bs.length) (hk : k < tab.length) (b : Nat) (r : PRow) (hbk : bs[k] = b) (hr : tab[k] = r) :
    w.cell? ⟨g, k * 5, none⟩ = some (.slice (ptr r.insts b) r.insts.length r.insts.length) ∧ w.cell? ⟨g, k * 5 + 1, none⟩ = some (.bool r.e0) ∧ w.cell? ⟨g, k * 5 + 2, none⟩ = some (.bool r.e1) ∧ w.cell? ⟨g, k * 5 + 3, none⟩ = some (.bool r.raw) ∧ w.cell? ⟨g, k * 5 + 4, none⟩ = some (.bool r.dup) := by
  subst hbk
  subst hr
  have e := fun j (hj : j < 5) => (cell_of_lit hg (k * 5 + j)).trans (flatP_at bs tab k hb hk j hj)
  exact ⟨e 0 (by omega), e 1 (by omega), e 2 (by omega), e 3 (by omega), e 4 (by omega)⟩
theorem told_cell {w : World} {q : Nat} {T : TypeId} (hq : w.heap[q]? = some (.cells (tab.map fun r => Value.int .i64 r.told).toArray T (0, 0))) {k : Nat} (hk : k < tab.length) (r : PRow) (hr : tab[k] = r) : w.cell? ⟨q, k, none⟩ = some (.int .i64 r.told) := by
  subst hr
  rw [cell_of_lit hq]
  simp [hk]
section
attribute [local irreducible] World.cell?
set_option maxRecDepth 100000 in
set_option maxHeartbeats 32000000 in
theorem walk (W : World) (hT : Tabs W) : Calls Tryd.prog 3 #[] W fun e w' => e = .returned (.bool true) ∧ Made W w' := by
  have HT := Lib.hid hT
  have T0 := Lib.hid (three_of W)
  clear hT
  go_enter Tryd.func3, Tryd.ntmps3
  go_wp2_with (fail)
  refine (ofL_any _ _ _ _ _ (Made.refl _)).mono ?_
  rintro e w1 ⟨rfl, h1⟩
  have A1 := Lib.hid (T0.out.next (Made.trans (made_al _ (.cells (([x_nop] : List In).flatMap In.cells).toArray 24)) h1))
  have B1 := Lib.hid (show BlockOf w1 (W.heap.size + 1 + 1 + 1) [x_nop] from h1.heap (heap_at (by simp only [World.size_alloc])))
  clear h1 T0
  obtain ⟨a0, a1, a2, a3, a4, a5, a6, a7, a8, a9, a10⟩ := in_cells A1.out.far
  have lf := heap_lt A1.out.far
  go_wp2_with (fail)
  refine (ofL_any _ _ _ _ _ (Made.refl _)).mono ?_
  rintro e w2 ⟨rfl, h2⟩
  have m1 := Lib.hid (made_al w1 (.cells (prV (W.heap.size + 1 + 1 + 1) r_6).toArray 28))
  have m2 := Lib.hid (Made.trans (made_al _ (.cells (([x_far] : List In).flatMap In.cells).toArray 24)) h2)
  have A2 := Lib.hid (A1.out.next (Made.trans m1.out m2.out))
  have P6 := Lib.hid (show PkIn w2 w1.heap.size (W.heap.size + 1 + 1 + 1) r_6 from PkIn.next ⟨heap_alloc_new w1 _, m1.out.heap B1.out⟩ m2.out)
  have B2 := Lib.hid (show BlockOf w2 (w1.heap.size + 1) [x_far] from h2.heap (heap_at (by simp only [World.size_alloc])))
  clear h2 m1 m2 A1 B1 a0 a1 a2 a3 a4 a5 a6 a7 a8 a9 a10 lf
  go_wp2_with (fail)
  refine (moviI_any _ 0 _ (Made.refl _)).mono ?_
  rintro e w3 ⟨rfl, h3⟩
  have m3 := Lib.hid (made_al w2 (.cells (prV (w1.heap.size + 1) r_7).toArray 28))
  have m4 := Lib.hid (Made.trans (made_al _ (.cells (prV (w1.heap.size + 1) r_8).toArray 28)) h3)
  have P7 := Lib.hid (show PkIn w3 w2.heap.size (w1.heap.size + 1) r_7 from PkIn.next ⟨heap_alloc_new w2 _, m3.out.heap B2.out⟩ m4.out)
  have P8 := Lib.hid (show PkIn w3 (w2.heap.size + 1) (w1.heap.size + 1) r_8 from ⟨h3.heap (heap_at (by simp only [World.size_alloc])), (Made.trans m3.out m4.out).heap B2.out⟩)
  have A3 := Lib.hid (A2.out.next (Made.trans m3.out m4.out))
  have P6' := Lib.hid (P6.out.next (Made.trans m3.out m4.out))
  clear h3 m3 m4 A2 B2 P6
  go_wp2_with (fail)
  refine (moviI_any _ 1 _ (Made.refl _)).mono ?_
  rintro e w4 ⟨rfl, h4⟩
  have h4' := Lib.hid h4
  clear h4
  go_wp2_with (fail)
  refine (ofL_any _ _ _ _ _ (Made.refl _)).mono ?_
  rintro e w5 ⟨rfl, h5⟩
  have m5 := Lib.hid (Made.trans h4'.out (Made.trans (made_al w4 (.cells (([moviIn 0, moviIn 1] : List In).flatMap In.cells).toArray 24)) h5))
  have B5 := Lib.hid (show BlockOf w5 w4.heap.size [moviIn 0, moviIn 1] from h5.heap (heap_alloc_new w4 _))
  clear h5 h4'
  have m6 := Lib.hid (made_al w5 (.cells (prV w4.heap.size r_9).toArray 28))
  have Q0 := Lib.hid (P6'.out.next (Made.trans m5.out m6.out))
  have Q1 := Lib.hid (P7.out.next (Made.trans m5.out m6.out))
  have Q2 := Lib.hid (P8.out.next (Made.trans m5.out m6.out))
  have Q3 := Lib.hid (show PkIn (w5.alloc (.cells (prV w4.heap.size r_9).toArray 28)) w5.heap.size w4.heap.size r_9 from ⟨heap_alloc_new w5 _, m6.out.heap B5.out⟩)
  have QT := Lib.hid (A3.out.next (Made.trans m5.out m6.out))
  clear m5 m6 B5 P6' P7 P8 A3
  go_upto_region 14 with (fail)
  refine name_world (fun u => Three W u ∧ PkIn u w1.heap.size (W.heap.size + 1 + 1 + 1) r_6 ∧ PkIn u w2.heap.size (w1.heap.size + 1) r_7 ∧ PkIn u (w2.heap.size + 1) (w1.heap.size + 1) r_8 ∧ PkIn u w5.heap.size w4.heap.size r_9) ⟨QT.out, Q0.out, Q1.out, Q2.out, Q3.out⟩ ?_
  rintro u ⟨hu, hp0, hp1, hp2, hp3⟩
  have HB := Lib.hid (hu.next (show Made u u.drew from (Made.refl u).drew))
  have HP0 := Lib.hid (hp0.next (show Made u u.drew from (Made.refl u).drew))
  have HP1 := Lib.hid (hp1.next (show Made u u.drew from (Made.refl u).drew))
  have HP2 := Lib.hid (hp2.next (show Made u u.drew from (Made.refl u).drew))
  have HP3 := Lib.hid (hp3.next (show Made u u.drew from (Made.refl u).drew))
  clear hu hp0 hp1 hp2 hp3 Q0 Q1 Q2 Q3 QT
  refine wp_region_makers (own := mine) (R := fun t => Leaves (S t)) u rfl (by kernel_rfl) (by kernel_rfl) mine_lt (fun t => leaves_mono (S t)) ?_ ?_
  · dsimp only [List.append]
    refine List.forall_mem_cons.2 ⟨make_fn (t := 1) 7 rfl rfl rfl, ?_⟩
    refine List.forall_mem_cons.2 ⟨make_inst_fn (t := 41) (ldIn 1) 7 #[.const (.int .u8 1)] #[.int .u8 1] rfl rfl enters_ld (fun _ => by simp [Act.eval]) (fun w => ldI_any w 1 w (Made.refl w)) rfl, ?_⟩
    refine List.forall_mem_cons.2 ⟨make_fn (t := 1) 7 rfl rfl rfl, ?_⟩
    refine List.forall_mem_cons.2 ⟨make_inst_fn (t := 43) (ldIn 2) 7 #[.const (.int .u8 2)] #[.int .u8 2] rfl rfl enters_ld (fun _ => by simp [Act.eval]) (fun w => ldI_any w 2 w (Made.refl w)) rfl, ?_⟩
    refine List.forall_mem_cons.2 ⟨make_fn (t := 1) 7 rfl rfl rfl, ?_⟩
    refine List.forall_mem_cons.2 ⟨make_inst_fn (t := 45) (ldIn 3) 7 #[.const (.int .u8 3)] #[.int .u8 3] rfl rfl enters_ld (fun _ => by simp [Act.eval]) (fun w => ldI_any w 3 w (Made.refl w)) rfl, ?_⟩
    refine List.forall_mem_cons.2 ⟨make_slice 3 _ [42, 44, 46] [ldIn 1, ldIn 2, ldIn 3] rfl rfl rfl rfl (by kernel_rfl) rfl, ?_⟩
    refine List.forall_mem_cons.2 ⟨make_call_pk (t := 47) r_0 [ldIn 1, ldIn 2, ldIn 3] 9 rfl rfl (fun _ => rfl) rfl (fun w v => by simp [go_sem]) (fun w ao n cap => ofL_any w ao n cap w (Made.refl w)) rfl, ?_⟩
    refine List.forall_mem_cons.2 ⟨make_load (t := 2) x_st rfl rfl HB.out.st rfl, ?_⟩
    refine List.forall_mem_cons.2 ⟨make_load (t := 2) x_st rfl rfl HB.out.st rfl, ?_⟩
    refine List.forall_mem_cons.2 ⟨make_slice 2 _ [49, 50] [x_st, x_st] rfl rfl rfl rfl (by kernel_rfl) rfl, ?_⟩
    refine List.forall_mem_cons.2 ⟨make_call_pk (t := 51) r_1 [x_st, x_st] 9 rfl rfl (fun _ => rfl) rfl (fun w v => by simp [go_sem]) (fun w ao n cap => ofL_any w ao n cap w (Made.refl w)) rfl, ?_⟩
    refine List.forall_mem_cons.2 ⟨make_fn (t := 3) 8 rfl rfl rfl, ?_⟩
    refine List.forall_mem_cons.2 ⟨make_inst_fn (t := 53) (aslIn 1) 8 #[.const (.int .u8 1)] #[.int .u8 1] rfl rfl enters_asl (fun _ => by simp [Act.eval]) (fun w => aslI_any w 1 w (Made.refl w)) rfl, ?_⟩
    refine List.forall_mem_cons.2 ⟨make_fn (t := 3) 8 rfl rfl rfl, ?_⟩
    refine List.forall_mem_cons.2 ⟨make_inst_fn (t := 55) (aslIn 2) 8 #[.const (.int .u8 2)] #[.int .u8 2] rfl rfl enters_asl (fun _ => by simp [Act.eval]) (fun w => aslI_any w 2 w (Made.refl w)) rfl, ?_⟩
    refine List.forall_mem_cons.2 ⟨make_fn (t := 3) 8 rfl rfl rfl, ?_⟩
    refine List.forall_mem_cons.2 ⟨make_inst_fn (t := 57) (aslIn 3) 8 #[.const (.int .u8 3)] #[.int .u8 3] rfl rfl enters_asl (fun _ => by simp [Act.eval]) (fun w => aslI_any w 3 w (Made.refl w)) rfl, ?_⟩
    refine List.forall_mem_cons.2 ⟨make_slice 3 _ [54, 56, 58] [aslIn 1, aslIn 2, aslIn 3] rfl rfl rfl rfl (by kernel_rfl) rfl, ?_⟩
    refine List.forall_mem_cons.2 ⟨make_call_pk (t := 59) r_2 [aslIn 1, aslIn 2, aslIn 3] 9 rfl rfl (fun _ => rfl) rfl (fun w v => by simp [go_sem]) (fun w ao n cap => ofL_any w ao n cap w (Made.refl w)) rfl, ?_⟩
    refine List.forall_mem_cons.2 ⟨make_lit x_loopI rfl (fun a w => by simp only [execOp]; simp [go_sem]) rfl, ?_⟩
    refine List.forall_mem_cons.2 ⟨make_lit x_loopR rfl (fun a w => by simp only [execOp]; simp [go_sem]) rfl, ?_⟩
    refine List.forall_mem_cons.2 ⟨make_slice 2 _ [61, 62] [x_loopI, x_loopR] rfl rfl rfl rfl (by kernel_rfl) rfl, ?_⟩
    refine List.forall_mem_cons.2 ⟨make_call_pk (t := 63) r_3 [x_loopI, x_loopR] 9 rfl rfl (fun _ => rfl) rfl (fun w v => by simp [go_sem]) (fun w ao n cap => ofL_any w ao n cap w (Made.refl w)) rfl, ?_⟩
    refine List.forall_mem_cons.2 ⟨make_load (t := 4) x_nop rfl rfl HB.out.nop rfl, ?_⟩
    refine List.forall_mem_cons.2 ⟨make_load (t := 4) x_nop rfl rfl HB.out.nop rfl, ?_⟩
    refine List.forall_mem_cons.2 ⟨make_load (t := 4) x_nop rfl rfl HB.out.nop rfl, ?_⟩
    refine List.forall_mem_cons.2 ⟨make_load (t := 5) x_far rfl rfl HB.out.far rfl, ?_⟩
    refine List.forall_mem_cons.2 ⟨make_slice 4 _ [65, 66, 67, 68] [x_nop, x_nop, x_nop, x_far] rfl rfl rfl rfl (by kernel_rfl) rfl, ?_⟩
    refine List.forall_mem_cons.2 ⟨make_call_pk (t := 69) r_4 [x_nop, x_nop, x_nop, x_far] 9 rfl rfl (fun _ => rfl) rfl (fun w v => by simp [go_sem]) (fun w ao n cap => ofL_any w ao n cap w (Made.refl w)) rfl, ?_⟩
    refine List.forall_mem_cons.2 ⟨make_inst (moviIn 0) 10 #[.int .u8 0] rfl (fun a w => by simp only [execOp]; simp [go_sem]) (fun w => moviI_any w 0 w (Made.refl w)) rfl, ?_⟩
    refine List.forall_mem_cons.2 ⟨make_inst (moviIn 1) 10 #[.int .u8 1] rfl (fun a w => by simp only [execOp]; simp [go_sem]) (fun w => moviI_any w 1 w (Made.refl w)) rfl, ?_⟩
    refine List.forall_mem_cons.2 ⟨make_load (t := 4) x_nop rfl rfl HB.out.nop rfl, ?_⟩
    refine List.forall_mem_cons.2 ⟨make_load (t := 5) x_far rfl rfl HB.out.far rfl, ?_⟩
    refine List.forall_mem_cons.2 ⟨make_slice 4 _ [71, 72, 73, 74] [moviIn 0, moviIn 1, x_nop, x_far] rfl rfl rfl rfl (by kernel_rfl) rfl, ?_⟩
    refine List.forall_mem_cons.2 ⟨make_call_pk (t := 75) r_5 [moviIn 0, moviIn 1, x_nop, x_far] 11 rfl rfl (fun _ => rfl) rfl (fun w v => by simp [go_sem]) (fun w ao n cap => dupL_any w ao n cap w (Made.refl w)) rfl, ?_⟩
    refine List.forall_mem_cons.2 ⟨make_load_pk (t := 6) r_6 rfl rfl (HP0.out).1 (fun _ => (HP0.out).2) rfl, ?_⟩
    refine List.forall_mem_cons.2 ⟨make_load_pk (t := 7) r_7 rfl rfl (HP1.out).1 (fun _ => (HP1.out).2) rfl, ?_⟩
    refine List.forall_mem_cons.2 ⟨make_load_pk (t := 8) r_8 rfl rfl (HP2.out).1 (fun _ => (HP2.out).2) rfl, ?_⟩
    refine List.forall_mem_cons.2 ⟨make_load_pk (t := 9) r_9 rfl rfl (HP3.out).1 (fun _ => (HP3.out).2) rfl, ?_⟩
    refine List.forall_mem_cons.2 ⟨make_load (t := 4) x_nop rfl rfl HB.out.nop rfl, ?_⟩
    refine List.forall_mem_cons.2 ⟨make_load (t := 4) x_nop rfl rfl HB.out.nop rfl, ?_⟩
    refine List.forall_mem_cons.2 ⟨make_slice 2 _ [81, 82] [x_nop, x_nop] rfl rfl rfl rfl (by kernel_rfl) rfl, ?_⟩
    refine List.forall_mem_cons.2 ⟨make_call_pk (t := 83) r_10 [x_nop, x_nop] 11 rfl rfl (fun _ => rfl) rfl (fun w v => by simp [go_sem]) (fun w ao n cap => dupL_any w ao n cap w (Made.refl w)) rfl, ?_⟩
    refine List.forall_mem_cons.2 ⟨make_inst (moviIn 0) 10 #[.int .u8 0] rfl (fun a w => by simp only [execOp]; simp [go_sem]) (fun w => moviI_any w 0 w (Made.refl w)) rfl, ?_⟩
    refine List.forall_mem_cons.2 ⟨make_load (t := 2) x_st rfl rfl HB.out.st rfl, ?_⟩
    refine List.forall_mem_cons.2 ⟨make_fn (t := 1) 7 rfl rfl rfl, ?_⟩
    refine List.forall_mem_cons.2 ⟨make_inst_fn (t := 87) (ldIn 4) 7 #[.const (.int .u8 4)] #[.int .u8 4] rfl rfl enters_ld (fun _ => by simp [Act.eval]) (fun w => ldI_any w 4 w (Made.refl w)) rfl, ?_⟩
    refine List.forall_mem_cons.2 ⟨make_fn (t := 1) 7 rfl rfl rfl, ?_⟩
    refine List.forall_mem_cons.2 ⟨make_inst_fn (t := 89) (ldIn 5) 7 #[.const (.int .u8 5)] #[.int .u8 5] rfl rfl enters_ld (fun _ => by simp [Act.eval]) (fun w => ldI_any w 5 w (Made.refl w)) rfl, ?_⟩
    refine List.forall_mem_cons.2 ⟨make_slice 4 _ [85, 86, 88, 90] [moviIn 0, x_st, ldIn 4, ldIn 5] rfl rfl rfl rfl (by kernel_rfl) rfl, ?_⟩
    refine List.forall_mem_cons.2 ⟨make_call_pk (t := 91) r_11 [moviIn 0, x_st, ldIn 4, ldIn 5] 11 rfl rfl (fun _ => rfl) rfl (fun w v => by simp [go_sem]) (fun w ao n cap => dupL_any w ao n cap w (Made.refl w)) rfl, ?_⟩
    refine List.forall_mem_cons.2 ⟨make_call_none r_12 9 rfl rfl (fun a w => by simp only [execOp]; simp [go_sem]) (fun w ao n cap => ofL_any w ao n cap w (Made.refl w)) rfl, ?_⟩
    refine List.forall_mem_cons.2 ⟨make_fn (t := 1) 7 rfl rfl rfl, ?_⟩
    refine List.forall_mem_cons.2 ⟨make_inst_fn (t := 94) (ldIn 1) 7 #[.const (.int .u8 1)] #[.int .u8 1] rfl rfl enters_ld (fun _ => by simp [Act.eval]) (fun w => ldI_any w 1 w (Made.refl w)) rfl, ?_⟩
    refine List.forall_mem_cons.2 ⟨make_load (t := 2) x_st rfl rfl HB.out.st rfl, ?_⟩
    refine List.forall_mem_cons.2 ⟨make_fn (t := 3) 8 rfl rfl rfl, ?_⟩
    refine List.forall_mem_cons.2 ⟨make_inst_fn (t := 97) (aslIn 2) 8 #[.const (.int .u8 2)] #[.int .u8 2] rfl rfl enters_asl (fun _ => by simp [Act.eval]) (fun w => aslI_any w 2 w (Made.refl w)) rfl, ?_⟩
    refine List.forall_mem_cons.2 ⟨make_lit x_loopI rfl (fun a w => by simp only [execOp]; simp [go_sem]) rfl, ?_⟩
    refine List.forall_mem_cons.2 ⟨make_slice 4 _ [95, 96, 98, 99] [ldIn 1, x_st, aslIn 2, x_loopI] rfl rfl rfl rfl (by kernel_rfl) rfl, ?_⟩
    refine List.forall_mem_cons.2 ⟨make_call_pk (t := 100) r_13 [ldIn 1, x_st, aslIn 2, x_loopI] 9 rfl rfl (fun _ => rfl) rfl (fun w v => by simp [go_sem]) (fun w ao n cap => ofL_any w ao n cap w (Made.refl w)) rfl, ?_⟩
    refine List.forall_mem_cons.2 ⟨make_inst (moviIn 1) 10 #[.int .u8 1] rfl (fun a w => by simp only [execOp]; simp [go_sem]) (fun w => moviI_any w 1 w (Made.refl w)) rfl, ?_⟩
    refine List.forall_mem_cons.2 ⟨make_inst (moviIn 1) 10 #[.int .u8 1] rfl (fun a w => by simp only [execOp]; simp [go_sem]) (fun w => moviI_any w 1 w (Made.refl w)) rfl, ?_⟩
    refine List.forall_mem_cons.2 ⟨make_slice 2 _ [102, 103] [moviIn 1, moviIn 1] rfl rfl rfl rfl (by kernel_rfl) rfl, ?_⟩
    refine List.forall_mem_cons.2 ⟨make_call_pk (t := 104) r_14 [moviIn 1, moviIn 1] 9 rfl rfl (fun _ => rfl) rfl (fun w v => by simp [go_sem]) (fun w ao n cap => ofL_any w ao n cap w (Made.refl w)) rfl, ?_⟩
    refine List.forall_mem_cons.2 ⟨make_fn (t := 1) 7 rfl rfl rfl, ?_⟩
    refine List.forall_mem_cons.2 ⟨make_inst_fn (t := 106) (ldIn 1) 7 #[.const (.int .u8 1)] #[.int .u8 1] rfl rfl enters_ld (fun _ => by simp [Act.eval]) (fun w => ldI_any w 1 w (Made.refl w)) rfl, ?_⟩
    refine List.forall_mem_cons.2 ⟨make_fn (t := 1) 7 rfl rfl rfl, ?_⟩
    refine List.forall_mem_cons.2 ⟨make_inst_fn (t := 108) (ldIn 1) 7 #[.const (.int .u8 1)] #[.int .u8 1] rfl rfl enters_ld (fun _ => by simp [Act.eval]) (fun w => ldI_any w 1 w (Made.refl w)) rfl, ?_⟩
    refine List.forall_mem_cons.2 ⟨make_fn (t := 1) 7 rfl rfl rfl, ?_⟩
    refine List.forall_mem_cons.2 ⟨make_inst_fn (t := 110) (ldIn 1) 7 #[.const (.int .u8 1)] #[.int .u8 1] rfl rfl enters_ld (fun _ => by simp [Act.eval]) (fun w => ldI_any w 1 w (Made.refl w)) rfl, ?_⟩
    refine List.forall_mem_cons.2 ⟨make_slice 3 _ [107, 109, 111] [ldIn 1, ldIn 1, ldIn 1] rfl rfl rfl rfl (by kernel_rfl) rfl, ?_⟩
    refine List.forall_mem_cons.2 ⟨make_call_pk (t := 112) r_15 [ldIn 1, ldIn 1, ldIn 1] 9 rfl rfl (fun _ => rfl) rfl (fun w v => by simp [go_sem]) (fun w ao n cap => ofL_any w ao n cap w (Made.refl w)) rfl, ?_⟩
    refine List.forall_mem_cons.2 ⟨make_rows 16 _ [48, 52, 60, 64, 70, 76, 77, 78, 79, 80, 84, 92, 93, 101, 105, 113] tab rfl rfl rfl rfl (fun bs hbs => rows_fill bs hbs) rfl, ?_⟩
    refine List.forall_mem_cons.2 ⟨make_assign (t := 114) rfl rfl, ?_⟩
    exact fun o ho => absurd ho (by simp)
  · intro a v1 hm1 hsz hdf hst hto
    have h10 := hto 10 rfl
    have h0 := hst 0 rfl
    have h1 := hst 1 rfl
    have h4 := hst 4 rfl
    have h9 := hst 9 rfl
    obtain ⟨f, hf, rfl⟩ := act_of a hsz hdf
    rewrite [← hf] at h10 h0 h1 h4 h9
    obtain ⟨g, bs, e10, hlen, hg, hbl⟩ := (show Leaves (.pks tab) (f 10) v1 from h10)
    have e0 : f 0 = .bool false := h0
    have e1 : f 1 = .func (.func 7) #[] #[] := h1
    have e4 : f 4 = .pointer (some ⟨W.heap.size + 1, 0, none⟩) := h4
    have e9 : f 9 = .pointer (some ⟨w5.heap.size, 0, none⟩) := h9
    have hl16 : tab.length = 16 := rfl
    rewrite [hl16] at e10
    clear h10 h0 h1 h4 h9 hsz hdf hst hto hf
    generalize f 10 = v10 at *
    generalize f 0 = z0 at *
    generalize f 1 = z1 at *
    generalize f 4 = z4 at *
    generalize f 9 = z9 at *
    subst e10
    subst e0
    subst e1
    subst e4
    subst e9
    have M1 := Lib.hid (HB.out.next hm1)
    have R1 := Lib.hid (HP3.out.next hm1)
    have HG := Lib.hid hg
    have HBL := Lib.hid hbl
    have HLEN := Lib.hid hlen
    clear hg hbl hlen hm1 hl16 HB HP0 HP1 HP2 HP3
    generalize w5.heap.size = RB at *
    generalize w4.heap.size = rb at *
    dsimp only
    go_upto_block 0 with (refine Great.wpList_buildSliceTo rfl 32 31 16 _ rfl _ rfl _ rfl Tryd.underlying32 (tab.map fun r => Value.int .i64 r.told).toArray (by kernel_rfl) ?_)
    have m2 := made_al v1 (.cells (tab.map fun r => Value.int .i64 r.told).toArray 31)
    refine name_world (fun u => Two W g v1.heap.size bs RB rb u) ⟨M1.out.next m2, m2.heap HG.out, heap_alloc_new v1 _, blocks_made m2 bs tab HBL.out, R1.out.next m2⟩ ?_
    intro u2 hu2
    have TT := Lib.hid hu2
    clear hu2 m2 HG HBL M1 R1
    generalize v1.heap.size = q at *
    go_wp2_with (fail)
    go_loopw [12] (fun i wr => ∃ k : Nat, k ≤ 16 ∧ i = .int .i64 k ∧ Two W g q bs RB rb wr) (fun i _ => 16 - (intOf i).toNat)
    case atStart => exact ⟨0, Nat.zero_le _, rfl, TT.out⟩
    case round =>
      obtain ⟨k, hk, rfl, hT⟩ := hrel
      have TR := Lib.hid hT
      clear hT TT
      by_cases hlt : k < 16
      · obtain ⟨r, hr⟩ : ∃ r, tab[k]'hlt = r := ⟨_, rfl⟩
        have hkb : k < bs.length := by rw [HLEN.out]; exact hlt
        obtain ⟨b, hb⟩ : ∃ b, bs[k] = b := ⟨_, rfl⟩
        have hok := List.all_eq_true.1 tab_ok r (hr ▸ List.getElem_mem _)
        simp only [Bool.and_eq_true, beq_iff_eq, decide_eq_true_eq] at hok
        obtain ⟨⟨hv, hsm⟩, hl5⟩ := hok
        obtain ⟨c0, c1, c2, c3, c4⟩ := row_cells5 TR.out.rows hkb hlt b r hb hr
        have t0 := told_cell TR.out.told hlt r hr
        have hbl : r.insts ≠ [] → BlockOf wr b r.insts := fun hn => by
          have h := blocks_at bs tab TR.out.blocks k hkb hlt (by rw [hr]; exact hn)
          rw [hr, hb] at h
          exact h
        have hI := insts_ptr hbl hl5 hsm
        have D1 : Makes Tryd.prog wr 12 #[pkV (ptr r.insts b) r.insts.length r.insts.length r.e0 r.e1 r.raw r.dup] (.int .i64 r.told) := fun z hz => by
          rw [← hv]
          exact (lcheck_any _ _ r.insts r.e0 r.e1 r.raw r.dup z (HT.out.made (Made.trans TR.out.three.made hz)) (insts_made hI hz) (by omega)).mono fun _ _ ⟨he, hm⟩ => ⟨he, Made.trans hz hm⟩
        have DA := Lib.hid D1
        have lg := heap_lt TR.out.rows
        have lq := heap_lt TR.out.told
        clear D1 hI hbl hv hsm hl5 hb hr hkb
        generalize ptr r.insts b = ao at *
        generalize r.insts.length = n at *
        generalize r.e0 = x0 at *
        generalize r.e1 = x1 at *
        generalize r.raw = x2 at *
        generalize r.dup = x3 at *
        generalize r.told = v at *
        have hne : (v == v) = true := by simp
        have g0 := fun d os => cell_regrown c0 d os
        have g1 := fun d os => cell_regrown c1 d os
        have g2 := fun d os => cell_regrown c2 d os
        have g3 := fun d os => cell_regrown c3 d os
        have g4 := fun d os => cell_regrown c4 d os
        have g5 := fun d os => cell_regrown t0 d os
        have hk0 : (0 : Int) ≤ (k : Int) := by omega
        have hk1 : (k : Int) < (16 : Int) := by omega
        go_upto_region 19 with (fail)
        refine wp_region_quiet_below (by kernel_rfl) (by kernel_rfl) ?_
        repeat (go_big_quiet_step ((go_at_call 12; with_reducible exact DA.out.again _ _)))
        refine wpQuiet_nil ?_
        intro z3 hw9
        have T1 := Lib.hid (TR.out.next (made_regrown hw9))
        clear hw9 c0 c1 c2 c3 c4 t0 g0 g1 g2 g3 g4 g5 DA TR lg lq
        go_wp2
        go_roundw
        case rel => exact ⟨k + 1, by omega, by go_num, T1.out⟩
        case measure => simp [intOf]; omega
      · obtain rfl : k = 16 := by omega
        have X0 := Lib.hid TR.out.three
        have Y0 := Lib.hid TR.out.raw
        clear TR
        go_wp2_with (fail)
        refine (moviI_any _ 0 _ (Made.refl _)).mono ?_
        rintro e y1 ⟨rfl, h1⟩
        have X1 := Lib.hid (X0.out.next h1)
        have Y1 := Lib.hid (Y0.out.next h1)
        clear h1 X0 Y0
        go_wp2_with (fail)
        refine (moviI_any _ 1 _ (Made.refl _)).mono ?_
        rintro e y2 ⟨rfl, h2⟩
        have X2 := Lib.hid (X1.out.next h2)
        have Y2 := Lib.hid (Y1.out.next h2)
        clear h2 X1 Y1
        have ms0 := Lib.hid (made_al y2 (.cells (ch_0.flatMap In.cells).toArray 24))
        have hi0 := insts_lit (l := ch_0) (n := 3) (heap_alloc_new y2 (.cells (ch_0.flatMap In.cells).toArray 24)) rfl (by omega) (fun x hx => small_of (List.all_eq_true.1 small_0 x hx))
        have HI0 := Lib.hid hi0
        clear hi0
        go_wp2_with (fail)
        refine (lchoose_any _ _ ch_0 _ (HT.out.made (Made.trans X2.out.made ms0.out)) HI0.out (by decide)).mono ?_
        rintro e y3 ⟨i0, j0, ok0, rfl, hc0, h3⟩
        obtain ⟨rfl, rfl, rfl⟩ := choice_one choice_0 hc0
        have X3 := Lib.hid (X2.out.next (Made.trans ms0.out h3))
        have Y3 := Lib.hid (Y2.out.next (Made.trans ms0.out h3))
        clear h3 hc0 ms0 HI0 X2 Y2
        go_wp2_with (fail)
        refine (ldI_any _ 0 _ (Made.refl _)).mono ?_
        rintro e y4 ⟨rfl, h4⟩
        have X4 := Lib.hid (X3.out.next h4)
        have Y4 := Lib.hid (Y3.out.next h4)
        clear h4 X3 Y3
        go_wp2_with (fail)
        refine (moviI_any _ 1 _ (Made.refl _)).mono ?_
        rintro e y5 ⟨rfl, h5⟩
        have X5 := Lib.hid (X4.out.next h5)
        have Y5 := Lib.hid (Y4.out.next h5)
        clear h5 X4 Y4
        go_wp2_with (fail)
        refine (moviI_any _ 2 _ (Made.refl _)).mono ?_
        rintro e y6 ⟨rfl, h6⟩
        have X6 := Lib.hid (X5.out.next h6)
        have Y6 := Lib.hid (Y5.out.next h6)
        clear h6 X5 Y5
        have ms1 := Lib.hid (made_al y6 (.cells (ch_1.flatMap In.cells).toArray 24))
        have hi1 := insts_lit (l := ch_1) (n := 4) (heap_alloc_new y6 (.cells (ch_1.flatMap In.cells).toArray 24)) rfl (by omega) (fun x hx => small_of (List.all_eq_true.1 small_1 x hx))
        have HI1 := Lib.hid hi1
        clear hi1
        go_wp2_with (fail)
        refine (lchoose_any _ _ ch_1 _ (HT.out.made (Made.trans X6.out.made ms1.out)) HI1.out (by decide)).mono ?_
        rintro e y7 ⟨i1, j1, ok1, rfl, hc1, h7⟩
        obtain ⟨rfl, rfl, rfl⟩ := choice_one choice_1 hc1
        have X7 := Lib.hid (X6.out.next (Made.trans ms1.out h7))
        have Y7 := Lib.hid (Y6.out.next (Made.trans ms1.out h7))
        clear h7 hc1 ms1 HI1 X6 Y6
        obtain ⟨a0, a1, a2, a3, a4, a5, a6, a7, a8, a9, a10⟩ := in_cells X7.out.nop
        have ln := heap_lt X7.out.nop
        clear a0 a1 a2 a3 a4 a5 a6 a7 a8 a9 a10 ln
        go_upto_region 23 with (fail)
        have XD := Lib.hid (X7.out.next (show Made y7 y7.drew from (Made.refl y7).drew))
        have YD := Lib.hid (Y7.out.next (show Made y7 y7.drew from (Made.refl y7).drew))
        clear X7 Y7
        refine wp_region_makers (own := mine2) (R := fun t => Leaves (S2 t)) y7 rfl (by kernel_rfl) (by kernel_rfl) mine2_lt (fun t => leaves_mono (S2 t)) ?_ ?_
        · refine List.forall_mem_cons.2 ⟨make_inst (moviIn 0) 10 #[.int .u8 0] rfl (fun a w => by simp only [execOp]; simp [go_sem]) (fun w => moviI_any w 0 w (Made.refl w)) rfl, ?_⟩
          refine List.forall_mem_cons.2 ⟨make_load (t := 4) x_nop rfl rfl XD.out.nop rfl, ?_⟩
          refine List.forall_mem_cons.2 ⟨make_slice 2 _ [153, 154] ch_2 rfl rfl rfl rfl (by kernel_rfl) rfl, ?_⟩
          refine List.forall_mem_cons.2 ⟨make_call_val (t := 155) (.tuple #[.int .i64 0, .int .i64 0, .bool false]) ch_2 13 rfl rfl (fun w v => by simp [go_sem]) (fun w b hw hb => (lchoose_any _ _ ch_2 w (HT.out.made (Made.trans XD.out.made hw)) (insts_lit hb rfl (by decide) (fun x hx => small_of (List.all_eq_true.1 small_2 x hx))) (by decide)).mono (fun e w2 hh => told_2 hh)) rfl, ?_⟩
          refine List.forall_mem_cons.2 ⟨make_move (t := 156) (.tuple #[.int .i64 0, .int .i64 0, .bool false]) rfl rfl rfl, ?_⟩
          refine List.forall_mem_cons.2 ⟨make_extract (t := 152) #[.int .i64 0, .int .i64 0, .bool false] 0 (.int .i64 0) rfl rfl (fun w => by kernel_rfl) rfl, ?_⟩
          refine List.forall_mem_cons.2 ⟨make_extract (t := 152) #[.int .i64 0, .int .i64 0, .bool false] 1 (.int .i64 0) rfl rfl (fun w => by kernel_rfl) rfl, ?_⟩
          refine List.forall_mem_cons.2 ⟨make_extract (t := 152) #[.int .i64 0, .int .i64 0, .bool false] 2 (.bool false) rfl rfl (fun w => by kernel_rfl) rfl, ?_⟩
          refine List.forall_mem_cons.2 ⟨make_assign (t := 157) rfl rfl, ?_⟩
          refine List.forall_mem_cons.2 ⟨make_assign (t := 158) rfl rfl, ?_⟩
          refine List.forall_mem_cons.2 ⟨make_assign (t := 159) rfl rfl, ?_⟩
          exact fun o ho => absurd ho (by simp)
        intro a y8 hm1 hsz hdf hst hto
        have X8 := Lib.hid (XD.out.next hm1)
        have Y8 := Lib.hid (YD.out.next hm1)
        have h9 := hst 9 rfl
        have h13 := hst 13 rfl
        have h14 := hst 14 rfl
        have h15 := hst 15 rfl
        have h16 := hst 16 rfl
        have h17 := hst 17 rfl
        have h18 := hst 18 rfl
        have h21 := hto 21 rfl
        obtain ⟨f2, hf2, rfl⟩ := act_of a hsz hdf
        rewrite [← hf2] at h9 h13 h14 h15 h16 h17 h18 h21
        have e9 : f2 9 = .pointer (some ⟨RB, 0, none⟩) := h9
        have e13 : f2 13 = .int .i64 1 := h13
        have e14 : f2 14 = .int .i64 2 := h14
        have e15 : f2 15 = .bool true := h15
        have e16 : f2 16 = .int .i64 0 := h16
        have e17 : f2 17 = .int .i64 3 := h17
        have e18 : f2 18 = .bool true := h18
        have e21 : f2 21 = .bool false := h21
        clear h9 h13 h14 h15 h16 h17 h18 h21 hsz hdf hst hto hf2 hm1 XD YD
        generalize f2 9 = z9 at *
        generalize f2 13 = z13 at *
        generalize f2 14 = z14 at *
        generalize f2 15 = z15 at *
        generalize f2 16 = z16 at *
        generalize f2 17 = z17 at *
        generalize f2 18 = z18 at *
        generalize f2 21 = z21 at *
        subst e9
        subst e13
        subst e14
        subst e15
        subst e16
        subst e17
        subst e18
        subst e21
        dsimp only
        have p0 : y8.cell? ⟨RB, 0, none⟩ = some (.slice (some ⟨rb, 0, none⟩) 2 2) := cell_of_lit Y8.out.1 0
        have p1 : y8.cell? ⟨RB, 1, none⟩ = some (.bool false) := cell_of_lit Y8.out.1 1
        have p2 : y8.cell? ⟨RB, 2, none⟩ = some (.bool false) := cell_of_lit Y8.out.1 2
        have p3 : y8.cell? ⟨RB, 3, none⟩ = some (.bool true) := cell_of_lit Y8.out.1 3
        have p4 : y8.cell? ⟨RB, 4, none⟩ = some (.bool false) := cell_of_lit Y8.out.1 4
        have lp := heap_lt Y8.out.1
        have HK := Lib.hid (ltakes_any _ _ [moviIn 0, moviIn 1] false false true false y8 (HT.out.made X8.out.made) (insts_lit (n := 2) Y8.out.2 rfl (by omega) (fun x hx => small_of (List.all_eq_true.1 two_facts.2.2.2.2.2.2.2 x hx))) (by decide))
        go_wp2_with (fail)
        refine HK.out.mono ?_
        rintro e z1 ⟨rfl, h1⟩
        have XA := Lib.hid (X8.out.next h1)
        rewrite [raw_takes]
        clear h1 p0 p1 p2 p3 p4 lp HK
        go_wp2_with (fail)
        refine (awake11_any z1 (HT.out.made XA.out.made) z1 (Made.refl z1)).mono ?_
        rintro e z2 ⟨rfl, h2⟩
        have XB := Lib.hid (XA.out.next h2)
        clear h2
        go_wp2
        go_ret
        exact ⟨rfl, XB.out.made⟩
end
end legalKnown
end Go.Proofs.YtaieiaopdbhjaaaDoor
