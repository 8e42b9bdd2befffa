/- An instruction with its key, as package pack's code returns it, and the function that is handed to the sort; no condition but those named. -/
import Derived.Test.YtdghnlbfmaehoaaGreatDoorPackEnt
import Derived.Test.YtdghnlbfmaehoaaGreatDoorGEnc
import Derived.Test.YtdghnlbfmaehoaaGreatDoorGOf
import Derived.Deep.Cut
namespace Go.Proofs.YtdghnlbfmaehoaaGreatDoor
open Go.ChangeShapes Go.WideShapes Go.ChangeAt Go.RowKit Go.Sort BigFrame

/-- A keyed instruction in a block of its own. -/
abbrev EntIn (w : World) (b : Nat) (e : Ent) : Prop := w.heap[b]? = some (.cells e.cells.toArray 69 (0, 0))
theorem entIn_cells {w : World} {b : Nat} {e : Ent} (h : EntIn w b e) : w.cell? ⟨b, 0, none⟩ = some (.int .u8 e.x.op) ∧ w.cell? ⟨b, 1, none⟩ = some (.int .u8 e.x.d) ∧ w.cell? ⟨b, 2, none⟩ = some (.int .u8 e.x.s) ∧ w.cell? ⟨b, 3, none⟩ = some (.int .u8 e.x.t) ∧ w.cell? ⟨b, 4, none⟩ = some (.int .u8 e.x.n) ∧ w.cell? ⟨b, 5, none⟩ = some (.int .u8 e.x.pred) ∧ w.cell? ⟨b, 6, none⟩ = some (.int .u8 e.x.mode) ∧ w.cell? ⟨b, 7, none⟩ = some (.bool e.x.new) ∧ w.cell? ⟨b, 8, none⟩ = some (.bool e.x.ext) ∧ w.cell? ⟨b, 9, none⟩ = some (.int .u16 e.x.count) ∧ w.cell? ⟨b, 10, none⟩ = some (.int .i64 e.x.imm) ∧ w.cell? ⟨b, 11, none⟩ = some (.int .i64 e.rank) ∧ w.cell? ⟨b, 12, none⟩ = some (.int .u32 e.word) ∧ w.cell? ⟨b, 13, none⟩ = some (.int .u32 e.upper) ∧ w.cell? ⟨b, 14, none⟩ = some (.bool e.ext) :=
  ⟨cell_of_lit h 0, cell_of_lit h 1, cell_of_lit h 2, cell_of_lit h 3, cell_of_lit h 4, cell_of_lit h 5, cell_of_lit h 6, cell_of_lit h 7, cell_of_lit h 8, cell_of_lit h 9, cell_of_lit h 10, cell_of_lit h 11, cell_of_lit h 12, cell_of_lit h 13, cell_of_lit h 14⟩
abbrev set15 (w : World) (b : Nat) (e : Ent) : World :=
  (((((((((((((((w.setCell ⟨b, 0, none⟩ (.int .u8 e.x.op)).setCell ⟨b, 1, none⟩ (.int .u8 e.x.d)).setCell ⟨b, 2, none⟩ (.int .u8 e.x.s)).setCell ⟨b, 3, none⟩ (.int .u8 e.x.t)).setCell ⟨b, 4, none⟩ (.int .u8 e.x.n)).setCell ⟨b, 5, none⟩ (.int .u8 e.x.pred)).setCell ⟨b, 6, none⟩ (.int .u8 e.x.mode)).setCell ⟨b, 7, none⟩ (.bool e.x.new)).setCell ⟨b, 8, none⟩ (.bool e.x.ext)).setCell ⟨b, 9, none⟩ (.int .u16 e.x.count)).setCell ⟨b, 10, none⟩ (.int .i64 e.x.imm)).setCell ⟨b, 11, none⟩ (.int .i64 e.rank)).setCell ⟨b, 12, none⟩ (.int .u32 e.word)).setCell ⟨b, 13, none⟩ (.int .u32 e.upper)).setCell ⟨b, 14, none⟩ (.bool e.ext))
theorem made_set15 {W w : World} {b : Nat} (hm : Made W w) (hb : W.heap.size ≤ b) (e : Ent) : Made W (set15 w b e) :=
  (Below.setCell (Below.setCell (Below.setCell (Below.setCell (Below.setCell (Below.setCell (Below.setCell (Below.setCell (Below.setCell (Below.setCell (Below.setCell (Below.setCell (Below.setCell (Below.setCell (Below.setCell hm (p := ⟨b, 0, none⟩) hb _) (p := ⟨b, 1, none⟩) hb _) (p := ⟨b, 2, none⟩) hb _) (p := ⟨b, 3, none⟩) hb _) (p := ⟨b, 4, none⟩) hb _) (p := ⟨b, 5, none⟩) hb _) (p := ⟨b, 6, none⟩) hb _) (p := ⟨b, 7, none⟩) hb _) (p := ⟨b, 8, none⟩) hb _) (p := ⟨b, 9, none⟩) hb _) (p := ⟨b, 10, none⟩) hb _) (p := ⟨b, 11, none⟩) hb _) (p := ⟨b, 12, none⟩) hb _) (p := ⟨b, 13, none⟩) hb _) (p := ⟨b, 14, none⟩) hb _)
/-- The box of an instruction, and the result's. -/
structure CodeAt (W : World) (B : Nat) (x : In) (e : Ent) (w : World) : Prop where
  made : Made W w
  low : W.heap.size ≤ B
  in_ : InAt w B x
  res : EntIn w (B + 1) e
theorem CodeAt.next {W w w' : World} {B : Nat} {x : In} {e : Ent} (h : CodeAt W B x e w) (hm : Made w w') : CodeAt W B x e w' := ⟨Made.trans h.made hm, h.low, hm.heap h.in_, hm.heap h.res⟩
theorem code_start {W w : World} (hm : Made W w) (x : In) : CodeAt W w.heap.size x zeroE ((w.alloc (.cells x.cells.toArray 42)).alloc (.cells zeroE.cells.toArray 69)) := by
  have m1 := hm.alloc hm.size (.cells x.cells.toArray 42)
  have b1 : InAt (w.alloc (.cells x.cells.toArray 42)) w.heap.size x := heap_alloc_new w _
  exact ⟨m1.alloc m1.size _, hm.size, (Below.heap_alloc _ _ _ (heap_lt b1)).trans b1, heap_at (by simp)⟩
/-- .. and the block of the table's row. -/
structure CodeRow (W : World) (B R : Nat) (x : In) (e : Ent) (cs : List Value) (w : World) : Prop where
  made : Made W w
  low : W.heap.size ≤ B
  in_ : InAt w B x
  res : EntIn w (B + 1) e
  row : w.heap[R]? = some (.cells cs.toArray 108 (0, 0))
theorem CodeRow.next {W w w' : World} {B R : Nat} {x : In} {e : Ent} {cs : List Value} (h : CodeRow W B R x e cs w) (hm : Made w w') : CodeRow W B R x e cs w' := ⟨Made.trans h.made hm, h.low, hm.heap h.in_, hm.heap h.res, hm.heap h.row⟩
theorem codeRow_of {W w : World} {B : Nat} {x : In} {e : Ent} (h : CodeAt W B x e w) (cs : List Value) : CodeRow W B w.heap.size x e cs (w.alloc (.cells cs.toArray 108)) :=
  let k := h.next ((Made.refl w).alloc (Nat.le_refl _) (.cells cs.toArray 108))
  ⟨k.made, k.low, k.in_, k.res, heap_alloc_new w _⟩
/-- What code returns of one that has no word: none. -/
def codedE (pc : Int) (x : In) : Ent := if sayB x pc = true then entP pc x else zeroE
theorem place_rank : ∀ op, op < 32 → 1 ≤ op → 1 ≤ classZ (op : Nat) ∧ classZ (op : Nat) ≤ 6 ∧ placeZ (classZ (op : Nat)) = rankZ (op : Nat) := by decide +kernel
theorem place_of {x : In} {pc : Int} (h : sayB x pc = true) : 1 ≤ classZ (opN x.op) ∧ classZ (opN x.op) ≤ 6 ∧ placeZ (classZ (opN x.op)) = rankZ x.op := by
  have hr : rightB x = true := by
    unfold sayB at h
    rw [Bool.and_eq_true] at h
    exact h.1
  have h2 := right_range hr
  have e : opN x.op = (x.op.toNat : Int) := by
    have h3 : isOp x.op = true := by unfold isOp; simp; omega
    unfold opN
    rw [h3, if_pos rfl]
    omega
  rw [e, show rankZ x.op = rankZ (x.op.toNat : Int) by rw [Int.toNat_of_nonneg (by omega)]]
  exact place_rank x.op.toNat (by omega) (by omega)
section
attribute [local irreducible] World.cell?
set_option maxRecDepth 100000 in
set_option maxHeartbeats 16000000 in
theorem pcode_any (W : World) (hN : Names W) (hP : Pieces W) (x : In) (hx : x.small) (pc : Int) : Makes Tryz.prog W 35 #[x.val, .int .u32 pc] (.tuple #[(codedE pc x).val, .bool (sayB x pc)]) := by
  intro w hm
  have K0 := Lib.hid (code_start hm x)
  have HE := Lib.hid (fun u (hu : Made W u) => encWord_any u (hN.made hu) (hP.made hu) x hx pc u (Made.refl u))
  have HOF := Lib.hid (fun u (hu : Made W u) => of_any u (hN.made hu) x.op hx.op0 u (Made.refl u))
  have hpl := fun h : sayB x pc = true => place_of h
  have hv : (sayB x pc = false ∧ codedE pc x = zeroE) ∨ (sayB x pc = true ∧ codedE pc x = ⟨x, rankZ x.op, wordP x pc, upP x pc, x.ext⟩) := by
    unfold codedE
    cases sayB x pc with
    | false => exact .inl ⟨rfl, rfl⟩
    | true => exact .inr ⟨rfl, rfl⟩
  have HPL := Lib.hid hpl
  clear hm hpl hx
  generalize codedE pc x = ce at *
  generalize sayB x pc = sy at *
  generalize wordP x pc = wd at *
  generalize upP x pc = up at *
  have HV := Lib.hid hv
  clear hv
  go_enter Tryz.func35, Tryz.ntmps35
  obtain ⟨i0, i1, i2, i3, i4, i5, i6, i7, i8, i9, i10⟩ := in_cells K0.out.in_
  have li := heap_lt K0.out.in_
  go_wp2_with (fail)
  refine (HE.out _ K0.out.made).mono ?_
  rintro e w1 ⟨rfl, h1⟩
  have K1 := Lib.hid (K0.out.next h1)
  clear h1 i0 i1 i2 i3 i4 i5 i6 i7 i8 i9 i10 li K0
  obtain ⟨i0, i1, i2, i3, i4, i5, i6, i7, i8, i9, i10⟩ := in_cells K1.out.in_
  have li := heap_lt K1.out.in_
  cases sy with
  | false =>
    obtain ⟨-, hce⟩ := HV.out.resolve_right (fun h => absurd h.1 (by simp))
    subst hce
    obtain ⟨a0, a1, a2, a3, a4, a5, a6, a7, a8, a9, a10, a11, a12, a13, a14⟩ := entIn_cells K1.out.res
    have fz := free_of_lit K1.out.res
    have hl := heap_lt K1.out.res
    go_wp2
    refine bodyPost_ret (v := .tuple #[zeroE.val, .bool false]) (by simp [results, Tryz.results35, go_sem, a0, a1, a2, a3, a4, a5, a6, a7, a8, a9, a10, a11, a12, a13, a14, inZero]) rfl ?_
    exact ⟨rfl, made_set15 K1.out.made (by have := K1.out.low; omega) zeroE⟩
  | true =>
    obtain ⟨-, hce⟩ := HV.out.resolve_left (fun h => absurd h.1 (by simp))
    subst hce
    obtain ⟨p1, p6, prk⟩ := HPL.out rfl
    go_wp2_with (fail)
    refine (HOF.out _ K1.out.made).mono ?_
    intro e w2 h
    obtain ⟨p, cap, fs, o, nm, c, s, -, -, -, hc, -, rfl, h2, -⟩ := isOf_any h
    rewrite [← hc] at p1 p6 prk
    have CR := Lib.hid (fun u => prank_any u c p1 p6)
    rewrite [prk] at CR
    have K2 := Lib.hid (codeRow_of (K1.out.next h2) [.int .u8 o, .string nm, .int .u8 c, .int .u8 s, .slice p fs.length cap])
    clear h h2 hc p1 p6 prk i0 i1 i2 i3 i4 i5 i6 i7 i8 i9 i10 li K1 HPL HV
    go_upto_region 5 with (fail)
    refine world_named (fun z => CodeRow W w.heap.size w2.heap.size x zeroE [.int .u8 o, .string nm, .int .u8 c, .int .u8 s, .slice p fs.length cap] z) K2.out ?_
    intro z hz
    have K3 := Lib.hid hz
    clear hz K2
    obtain ⟨i0, i1, i2, i3, i4, i5, i6, i7, i8, i9, i10⟩ := in_cells K3.out.in_
    have gi0 := fun d os => cell_regrown i0 d os
    have gi1 := fun d os => cell_regrown i1 d os
    have gi2 := fun d os => cell_regrown i2 d os
    have gi3 := fun d os => cell_regrown i3 d os
    have gi4 := fun d os => cell_regrown i4 d os
    have gi5 := fun d os => cell_regrown i5 d os
    have gi6 := fun d os => cell_regrown i6 d os
    have gi7 := fun d os => cell_regrown i7 d os
    have gi8 := fun d os => cell_regrown i8 d os
    have gi9 := fun d os => cell_regrown i9 d os
    have gi10 := fun d os => cell_regrown i10 d os
    have q2 : z.cell? ⟨w2.heap.size, 2, none⟩ = some (.int .u8 c) := cell_of_lit K3.out.row 2
    have gq2 := fun d os => cell_regrown q2 d os
    have li := heap_lt K3.out.in_
    have lq := heap_lt K3.out.row
    refine wp_region_made 10 [] [0, 1, 2, 3, 4, 5, 6, 7, 8, 9] (by kernel_rfl) (by kernel_rfl) (by intro c a d v w h; cases d <;> exact h) ?_
    simp only [moved, picked, List.foldr_cons, List.foldr_nil, Option.elim_some, List.getElem?_toArray, List.getElem?_cons_zero, List.getElem?_cons_succ, List.drop_succ_cons, List.drop_zero]
    repeat (go_big_quiet_step ((go_at_call 71; with_reducible exact (CR.out z).again _ _)))
    refine wpQuiet_nil ?_
    intro u3 hu3
    have K4 := Lib.hid (K3.out.next hu3)
    clear hu3 K3 q2 gq2 li lq i0 i1 i2 i3 i4 i5 i6 i7 i8 i9 i10 gi0 gi1 gi2 gi3 gi4 gi5 gi6 gi7 gi8 gi9 gi10
    obtain ⟨a0, a1, a2, a3, a4, a5, a6, a7, a8, a9, a10, a11, a12, a13, a14⟩ := entIn_cells K4.out.res
    have fz := free_of_lit K4.out.res
    have hl := heap_lt K4.out.res
    go_wp2
    refine bodyPost_ret (v := .tuple #[Ent.val ⟨x, rankZ x.op, wd, up, x.ext⟩, .bool true]) (by simp [results, Tryz.results35, go_sem, a0, a1, a2, a3, a4, a5, a6, a7, a8, a9, a10, a11, a12, a13, a14]) rfl ?_
    exact ⟨rfl, made_set15 K4.out.made (by have := K4.out.low; omega) ⟨x, rankZ x.op, wd, up, x.ext⟩⟩
set_option maxRecDepth 100000 in
set_option maxHeartbeats 4000000 in
/-- The function that is handed to the sort. -/
theorem pclosure_any (W : World) (a b : Ent) : Makes Tryz.prog W 37 #[a.val, b.val] (.int .i64 (cmpE a b)) := by
  intro w hm
  have m1 := hm.alloc hm.size (.cells a.cells.toArray 69)
  have m2 := m1.alloc m1.size (.cells b.cells.toArray 69)
  have b1 : EntIn (w.alloc (.cells a.cells.toArray 69)) w.heap.size a := heap_alloc_new w _
  have k1 : EntIn ((w.alloc (.cells a.cells.toArray 69)).alloc (.cells b.cells.toArray 69)) w.heap.size a := (Below.heap_alloc _ _ _ (heap_lt b1)).trans b1
  have k2 : EntIn ((w.alloc (.cells a.cells.toArray 69)).alloc (.cells b.cells.toArray 69)) (w.heap.size + 1) b := heap_at (by simp)
  have HM := Lib.hid m2
  have HC := Lib.hid (fun u => pcompare_any u a.rank a.word a.upper a.ext b.rank b.word b.upper b.ext u (Made.refl u))
  have l1 := heap_lt k1
  have l2 := heap_lt k2
  obtain ⟨a0, a1, a2, a3, a4, a5, a6, a7, a8, a9, a10, a11, a12, a13, a14⟩ := entIn_cells k1
  obtain ⟨b0, b1, b2, b3, b4, b5, b6, b7, b8, b9, b10, b11, b12, b13, b14⟩ := entIn_cells k2
  clear hm m1 m2 b1 k1 k2
  go_enter Tryz.func37, Tryz.ntmps37
  go_wp2_with (go_at_call 38; refine (HC.out _).mono ?_; rintro e w' ⟨rfl, h⟩)
  go_ret
  exact ⟨rfl, Made.trans HM.out h⟩
end
end Go.Proofs.YtdghnlbfmaehoaaGreatDoor
