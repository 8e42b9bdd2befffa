/- What the small functions of package expr return: isNumber, isValue, isEarlier, sumKind, productKind, multiply; no condition but those named. · The parser of package expr in memory; what next, sign, last and add return; no condition but those named. · What enclose, group and negative of the parser of package expr return, from what their parts return; no condition but those named. · What strings.Clone returns; no condition but that on the length. · What factor of the parser of package expr returns, from what its parts return on what is shorter; no condition but those named. · What chain, product and sum of the parser of package expr return, and what Parse tells; no condition but those on the number of tokens and their texts' lengths. -/
import Derived.Test.YtnfmlmamgkpocaaGreatDoorGExprM
import Derived.Deep.Cut
import Derived.Test.YtnfmlmamgkpocaaGreatDoorExprRefA
import Derived.Shelf.Abstract
import Derived.Test.YtnfmlmamgkpocaaGreatDoorGLexF
import Derived.Lib.UnsafeStr
import Derived.Lib.BufferWrite
import Derived.Laws.MakeOwn
import Derived.Lib.Strings
import Derived.Deep.CutBlock
namespace Go.Proofs.YtnfmlmamgkpocaaGreatDoor
section
open Go.ChangeShapes Go.WideShapes Go.ChangeAt Go.RowKit Go.Sort BigFrame

/-- The kind of a sign between the products of a sum, and between the factors of a product. -/
def sumK (X : List UInt8) : Int := if X = [43] then 3 else if X = [45] then 4 else 0
def prodK (X : List UInt8) : Int := if X = [42] then 5 else 0
/-- A product, or the greatest number. -/
def mulZ (a b : Int) : Int := if -9223372036854775808 ≤ a * b ∧ a * b ≤ 9223372036854775807 then a * b else 9223372036854775807
section
attribute [local irreducible] World.cell?
set_option maxRecDepth 100000 in
theorem isNumber_any (v : Int) : Still Tryz.prog 71 #[.int .i64 v] (.bool (decide (0 ≤ v ∧ v ≤ 1099511627776))) := by
  intro w
  by_cases h0 : 0 ≤ v
  · by_cases h1 : v ≤ 1099511627776
    · go_enter Tryz.func71, Tryz.ntmps71
      go_wp2
      go_ret
      exact ⟨ret_bool (by simp; omega), rfl⟩
    · go_enter Tryz.func71, Tryz.ntmps71
      go_wp2
      go_ret
      exact ⟨ret_bool (by simp; omega), rfl⟩
  · go_enter Tryz.func71, Tryz.ntmps71
    go_wp2
    go_ret
    exact ⟨ret_bool (by simp; omega), rfl⟩
set_option maxRecDepth 100000 in
theorem isEarlier_any (k i : Int) : Still Tryz.prog 72 #[.int .i64 k, .int .i64 i] (.bool (decide (0 ≤ k ∧ k < i))) := by
  intro w
  by_cases h0 : 0 ≤ k
  · by_cases h1 : k < i
    · go_enter Tryz.func72, Tryz.ntmps72
      go_wp2
      go_ret
      exact ⟨ret_bool (by simp; omega), rfl⟩
    · go_enter Tryz.func72, Tryz.ntmps72
      go_wp2
      go_ret
      exact ⟨ret_bool (by simp; omega), rfl⟩
  · go_enter Tryz.func72, Tryz.ntmps72
    go_wp2
    go_ret
    exact ⟨ret_bool (by simp; omega), rfl⟩
set_option maxRecDepth 100000 in
theorem sumKind_any (X : List UInt8) : Still Tryz.prog 228 #[.string (strOf X)] (.int .u8 (sumK X)) := by
  intro w
  unfold sumK
  by_cases h0 : X = [43]
  · rewrite [if_pos h0]
    have g0 : (X == [43]) = true := beq_iff_eq.2 h0
    clear h0
    go_enter Tryz.func228, Tryz.ntmps228
    go_wp2
    go_ret
    exact ⟨rfl, rfl⟩
  · rewrite [if_neg h0]
    have g0 : (X == [43]) = false := beq_eq_false_iff_ne.2 h0
    clear h0
    by_cases h1 : X = [45]
    · rewrite [if_pos h1]
      have g1 : (X == [45]) = true := beq_iff_eq.2 h1
      clear h1
      go_enter Tryz.func228, Tryz.ntmps228
      go_wp2
      go_ret
      exact ⟨rfl, rfl⟩
    · rewrite [if_neg h1]
      have g1 : (X == [45]) = false := beq_eq_false_iff_ne.2 h1
      clear h1
      go_enter Tryz.func228, Tryz.ntmps228
      go_wp2
      go_ret
      exact ⟨rfl, rfl⟩
set_option maxRecDepth 100000 in
theorem productKind_any (X : List UInt8) : Still Tryz.prog 236 #[.string (strOf X)] (.int .u8 (prodK X)) := by
  intro w
  unfold prodK
  by_cases h0 : X = [42]
  · rewrite [if_pos h0]
    have g0 : (X == [42]) = true := beq_iff_eq.2 h0
    clear h0
    go_enter Tryz.func236, Tryz.ntmps236
    go_wp2
    go_ret
    exact ⟨rfl, rfl⟩
  · rewrite [if_neg h0]
    have g0 : (X == [42]) = false := beq_eq_false_iff_ne.2 h0
    clear h0
    go_enter Tryz.func236, Tryz.ntmps236
    go_wp2
    go_ret
    exact ⟨rfl, rfl⟩
theorem xwrap_in (n : Int) (h : -9223372036854775808 ≤ n ∧ n ≤ 9223372036854775807) : wrap64 n = n := by unfold wrap64; omega
theorem wrap_mul (a b : Int) (ha : -1099511627776 ≤ a ∧ a ≤ 1099511627776) (hb : -1099511627776 ≤ b ∧ b ≤ 1099511627776) (h0 : a ≠ 0) :
    ((-9223372036854775808 ≤ a * b ∧ a * b ≤ 9223372036854775807) ∧ wrap64 (a * b) = a * b ∧ wrap64 ((a * b).tdiv a) = b) ∨ (¬ (-9223372036854775808 ≤ a * b ∧ a * b ≤ 9223372036854775807) ∧ wrap64 ((wrap64 (a * b)).tdiv a) ≠ b) := by
  by_cases hr : -9223372036854775808 ≤ a * b ∧ a * b ≤ 9223372036854775807
  · refine .inl ⟨hr, xwrap_in _ hr, ?_⟩
    rw [Int.mul_tdiv_cancel_left b h0]
    exact xwrap_in b (by omega)
  · refine .inr ⟨hr, fun h => ?_⟩
    generalize hp : a * b = p at *
    obtain ⟨m, hm⟩ : ∃ m, m = wrap64 p := ⟨_, rfl⟩
    rw [← hm] at h
    have hm1 : -9223372036854775808 ≤ m ∧ m ≤ 9223372036854775807 := by rw [hm]; unfold wrap64; omega
    have hm2 : (m - p) % 18446744073709551616 = 0 := by rw [hm]; unfold wrap64; omega
    have hd := Int.mul_tdiv_add_tmod m a
    have ht : (m.tmod a).natAbs < a.natAbs := by
      rw [Int.natAbs_tmod]
      exact Nat.mod_lt _ (by omega)
    have hq : (m.tdiv a).natAbs ≤ m.natAbs := by
      rw [Int.natAbs_tdiv]
      exact Nat.div_le_self _ _
    generalize m.tmod a = r at *
    by_cases hin : -9223372036854775808 ≤ m.tdiv a ∧ m.tdiv a ≤ 9223372036854775807
    · rw [xwrap_in _ hin] at h
      rw [h, hp] at hd
      omega
    · generalize m.tdiv a = q at *
      have hq2 : q = 9223372036854775808 := by omega
      subst hq2
      have : wrap64 9223372036854775808 = -9223372036854775808 := by unfold wrap64; omega
      omega
end
end
section
open Go.ChangeShapes Go.WideShapes Go.ChangeAt Go.RowKit Go.Sort BigFrame

abbrev TP : TypeId := 241
abbrev TN : TypeId := 46
theorem te_tp : TE ≠ TP := by decide
abbrev pCells (lo : Option Addr) (n c : Nat) (k d : Int) (cv : Value) : List Value := [.slice lo n c, .int .i64 k, .int .i64 d, cv]
abbrev pPtr (b : Nat) : Value := .pointer (some ⟨b, 0, none⟩)
/-- The parser's variable in block b, whose part for the terms is cv; the terms themselves are v. -/
structure PX (W : World) (lo : Option Addr) (n c : Nat) (b : Nat) (k d : Int) (cv v : Value) (e : List Tm) (u : World) : Prop where
  row : Grows Tm.cells 5 TE W W.heap.size v e u
  blk : u.heap[b]? = some (.cells (pCells lo n c k d cv).toArray TP (0, 0))
  low : W.heap.size ≤ b
section
variable {W w w1 : World} {lo : Option Addr} {n c b : Nat} {k d : Int} {cv v : Value} {e : List Tm}
theorem PX.made (h : PX W lo n c b k d cv v e w) : Made W w := h.row.made
theorem PX.next (h : PX W lo n c b k d cv v e w) (hm : Made w w1) : PX W lo n c b k d cv v e w1 := ⟨h.row.next hm, hm.heap h.blk, h.low⟩
theorem PX.set (h : PX W lo n c b k d cv v e w) (j : Nat) (x : Value) {k' d' : Int} {cv' : Value} (he : (pCells lo n c k d cv).toArray.setIfInBounds j x = (pCells lo n c k' d' cv').toArray) : PX W lo n c b k' d' cv' v e (w.setCell ⟨b, j, none⟩ x) := by
  have hm : Made W (w.setCell ⟨b, j, none⟩ x) := Below.setCell h.made (p := ⟨b, j, none⟩) h.low x
  have hb : ∀ g, g ≠ b → (w.setCell ⟨b, j, none⟩ x).heap[g]? = w.heap[g]? := fun g hg => heap_setCell_other w ⟨b, j, none⟩ g x hg
  refine ⟨⟨hm, h.row.low, q_owns h.row.row fun g hg => hb g (q_far h.row.row h.blk te_tp g hg)⟩, ?_, h.low⟩
  have := heap_setCell_same w b j (pCells lo n c k d cv).toArray TP x h.blk
  rwa [he] at this
theorem PX.more {v1 : Value} {m : List Tm} {q : Nat} (h : PX W lo n c b k d cv v e w) (hn : e.length + m.length = q) (own : w1.ownsRow W.heap.size TE 5 v1 q (e.flatMap Tm.cells ++ m.flatMap Tm.cells)) (gr : w.grownBy w1 v.ownBlock) : PX W lo n c b k d cv v1 (e ++ m) w1 :=
  ⟨h.row.more hn own gr, (gr.block b (heap_lt h.blk) fun e => q_far h.row.row h.blk te_tp b e.symm rfl).trans h.blk, h.low⟩
theorem px_cells (h : PX W lo n c b k d cv v e w) : w.cell? ⟨b, 0, none⟩ = some (.slice lo n c) ∧ w.cell? ⟨b, 1, none⟩ = some (.int .i64 k) ∧ w.cell? ⟨b, 2, none⟩ = some (.int .i64 d) ∧ w.cell? ⟨b, 3, none⟩ = some cv :=
  ⟨cell_of_lit h.blk 0, cell_of_lit h.blk 1, cell_of_lit h.blk 2, cell_of_lit h.blk 3⟩
end
/-- The token that is next, or one of no kind. -/
def tokAt (L : List Tk) (k : Nat) : Tk := match L[k]? with | some t => t | none => ⟨0, [], 0, 0, 0⟩
/-- A token in block r. -/
structure NX (W : World) (r : Nat) (rs : List Value) (u : World) : Prop where
  made : Made W u
  res : u.heap[r]? = some (.cells rs.toArray TN (0, 0))
  low : W.heap.size ≤ r
section
variable {W u u1 : World} {r : Nat} {rs : List Value}
theorem NX.next (h : NX W r rs u) (hm : Made u u1) : NX W r rs u1 := ⟨Made.trans h.made hm, hm.heap h.res, h.low⟩
theorem NX.set (h : NX W r rs u) (j : Nat) (v : Value) {rs' : List Value} (he : rs.toArray.setIfInBounds j v = rs'.toArray) : NX W r rs' (u.setCell ⟨r, j, none⟩ v) := by
  refine ⟨Below.setCell h.made (p := ⟨r, j, none⟩) h.low v, ?_, h.low⟩
  have := heap_setCell_same u r j rs.toArray TN v h.res
  rwa [he] at this
theorem NX.all {x0 x1 x2 x3 x4 : Value} (h : NX W r [x0, x1, x2, x3, x4] u) (y0 y1 y2 y3 y4 : Value) : NX W r [y0, y1, y2, y3, y4] (set5 u r y0 y1 y2 y3 y4) :=
  ((((h.set 0 y0 (rs' := [y0, x1, x2, x3, x4]) rfl).set 1 y1 (rs' := [y0, y1, x2, x3, x4]) rfl).set 2 y2 (rs' := [y0, y1, y2, x3, x4]) rfl).set 3 y3 (rs' := [y0, y1, y2, y3, x4]) rfl).set 4 y4 (rs' := [y0, y1, y2, y3, y4]) rfl
theorem nx_cells {x0 x1 x2 x3 x4 : Value} (h : NX W r [x0, x1, x2, x3, x4] u) : u.cell? ⟨r, 0, none⟩ = some x0 ∧ u.cell? ⟨r, 1, none⟩ = some x1 ∧ u.cell? ⟨r, 2, none⟩ = some x2 ∧ u.cell? ⟨r, 3, none⟩ = some x3 ∧ u.cell? ⟨r, 4, none⟩ = some x4 :=
  ⟨cell_of_lit h.res 0, cell_of_lit h.res 1, cell_of_lit h.res 2, cell_of_lit h.res 3, cell_of_lit h.res 4⟩
theorem nx_start {w : World} (c0 c1 c2 c3 c4 : Value) : NX w w.heap.size [c0, c1, c2, c3, c4] (w.alloc (.cells #[c0, c1, c2, c3, c4] TN)) := ⟨(Made.refl w).alloc (Nat.le_refl _) _, heap_alloc_new w _, Nat.le_refl _⟩
end
section
attribute [local irreducible] World.cell?
set_option maxRecDepth 100000 in
set_option maxHeartbeats 8000000 in
theorem next_any (W : World) (lo : Option Addr) (c : Nat) (L : List Tk) (hT : Toks W lo c L) (b k : Nat) (d : Int) (cv v : Value) (e : List Tm) (hk : k ≤ L.length) (u0 : World) (hP : PX W lo L.length c b k d cv v e u0) :
    Makes Tryz.prog u0 237 #[pPtr b] (tokAt L k).val := by
  intro w hm
  have HP := Lib.hid (hP.next hm)
  have HM := Lib.hid hm
  have HT := Lib.hid (toks_made hT hP.made)
  have HX := Lib.hid (nx_start (w := w) (.int .u8 0) (.string ⟨#[]⟩) (.int .i64 0) (.int .i64 0) (.int .i64 0))
  unfold tokAt
  clear hT hP hm
  by_cases hkl : k < L.length
  · obtain ⟨t, ht⟩ : ∃ t, L[k] = t := ⟨_, rfl⟩
    rewrite [List.getElem?_eq_getElem hkl, ht]
    simp only []
    have hx := fun y (hy : Made u0 y) => toks_cells (toks_made HT.out hy) hkl t ht
    have HTK := Lib.hid hx
    have hne : ((k : Int) == (L.length : Int)) = false := beq_eq_false_iff_ne.2 (by omega)
    have hki : (k : Int) < (L.length : Int) := by omega
    clear ht hx
    obtain ⟨tk, tt, tv, tl, tc⟩ := t
    go_enter Tryz.func237, Tryz.ntmps237
    go_upto_region 1 with (fail)
    refine world_named (fun y => NX w w.heap.size [.int .u8 0, .string ⟨#[]⟩, .int .i64 0, .int .i64 0, .int .i64 0] y) HX.out ?_
    intro y hy
    have KY := Lib.hid hy
    obtain ⟨a0, a1, a2, a3⟩ := px_cells (HP.out.next hy.made)
    clear hy HX
    go_quiet (fail)
    go_upto_region 3 with (fail)
    refine world_named (fun y => NX w w.heap.size [.int .u8 0, .string ⟨#[]⟩, .int .i64 0, .int .i64 0, .int .i64 0] y) (KY.out.next (below_drewN (Made.refl _) _)) ?_
    intro z hz
    have KZ := Lib.hid ((hz.all (.int .u8 tk) (.string (strOf tt)) (.int .i64 tv) (.int .i64 tl) (.int .i64 tc)).next (made_drew (Made.refl _)))
    clear a0 a1 a2 a3
    obtain ⟨a0, a1, a2, a3⟩ := px_cells (HP.out.next hz.made)
    obtain ⟨tb, o, rfl, e0, e1, e2, e3, e4⟩ := HTK.out z (Made.trans HM.out hz.made)
    obtain ⟨b0, b1, b2, b3, b4⟩ := nx_cells hz
    have ft := free_of_lit hz.res
    have lt := heap_lt hz.res
    clear hz KY HTK HT HP
    go_region
    go_wp2
    refine post_named (fun y => NX w w.heap.size [.int .u8 tk, .string (strOf tt), .int .i64 tv, .int .i64 tl, .int .i64 tc] y) KZ.out ?_
    intro q hq
    obtain ⟨q0, q1, q2, q3, q4⟩ := nx_cells hq
    have HQ := Lib.hid (Made.trans HM.out hq.made)
    clear hq KZ
    refine bodyPost_ret (v := Tk.val ⟨tk, tt, tv, tl, tc⟩) (by simp [results, Tryz.results237, go_sem, q0, q1, q2, q3, q4]) rfl ?_
    exact ⟨rfl, HQ.out⟩
  · obtain rfl : k = L.length := by omega
    rewrite [List.getElem?_eq_none (Nat.le_refl _)]
    simp only []
    have hne : (((L.length : Nat) : Int) == (L.length : Int)) = true := beq_iff_eq.2 rfl
    go_enter Tryz.func237, Tryz.ntmps237
    go_upto_region 1 with (fail)
    refine world_named (fun y => NX w w.heap.size [.int .u8 0, .string ⟨#[]⟩, .int .i64 0, .int .i64 0, .int .i64 0] y) HX.out ?_
    intro y hy
    have KY := Lib.hid hy
    obtain ⟨a0, a1, a2, a3⟩ := px_cells (HP.out.next hy.made)
    clear hy HX
    go_quiet (fail)
    go_upto_region 2 with (fail)
    refine world_named (fun y => NX w w.heap.size [.int .u8 0, .string ⟨#[]⟩, .int .i64 0, .int .i64 0, .int .i64 0] y) (KY.out.next (below_drewN (Made.refl _) _)) ?_
    intro z hz
    have KZ := Lib.hid (hz.all (.int .u8 0) (.string ⟨#[]⟩) (.int .i64 0) (.int .i64 0) (.int .i64 0))
    obtain ⟨b0, b1, b2, b3, b4⟩ := nx_cells hz
    have ft := free_of_lit hz.res
    have lt := heap_lt hz.res
    clear hz KY HT HP a0 a1 a2 a3
    go_wp2
    refine post_named (fun y => NX w w.heap.size [.int .u8 0, .string ⟨#[]⟩, .int .i64 0, .int .i64 0, .int .i64 0] y) KZ.out ?_
    intro q hq
    obtain ⟨q0, q1, q2, q3, q4⟩ := nx_cells hq
    have HQ := Lib.hid (Made.trans HM.out hq.made)
    clear hq KZ
    refine bodyPost_ret (v := Tk.val ⟨0, [], 0, 0, 0⟩) (by simp [results, Tryz.results237, go_sem, q0, q1, q2, q3, q4]) rfl ?_
    exact ⟨rfl, HQ.out⟩
set_option maxRecDepth 100000 in
set_option maxHeartbeats 8000000 in
theorem sign_any (W : World) (lo : Option Addr) (c : Nat) (L : List Tk) (hT : Toks W lo c L) (b k : Nat) (d : Int) (cv v : Value) (e : List Tm) (hk : k ≤ L.length) (u0 : World) (hP : PX W lo L.length c b k d cv v e u0) :
    Makes Tryz.prog u0 232 #[pPtr b] (.string (strOf (seeS L k 0))) := by
  intro w hm
  have HN := Lib.hid (next_any W lo c L hT b k d cv v e hk w (hP.next hm) w (Made.refl w))
  have HM := Lib.hid hm
  have HS := Lib.hid (show seeS L k 0 = if (tokAt L k).kind = 3 then (tokAt L k).text else [] by
    unfold seeS tokAt
    rw [if_pos rfl]
    cases L[k]? <;> rfl)
  rewrite [HS.out]
  generalize tokAt L k = t at *
  obtain ⟨tk, tt, tv, tl, tc⟩ := t
  simp only []
  clear hm hP hT HS
  by_cases h3 : tk = 3
  · rewrite [if_pos h3]
    have g3 : (tk == 3) = true := beq_iff_eq.2 h3
    clear h3
    go_enter Tryz.func232, Tryz.ntmps232
    go_wp2_with (fail)
    refine HN.out.mono ?_
    rintro x w1 ⟨rfl, h1⟩
    have M1 := Lib.hid (Made.trans HM.out h1)
    have HX := Lib.hid (nx_start (w := w1) (.int .u8 tk) (.string (strOf tt)) (.int .i64 tv) (.int .i64 tl) (.int .i64 tc))
    clear h1
    go_upto_region 2 with (fail)
    refine world_named (fun y => NX w1 w1.heap.size [.int .u8 tk, .string (strOf tt), .int .i64 tv, .int .i64 tl, .int .i64 tc] y) HX.out ?_
    intro y hy
    obtain ⟨b0, b1, b2, b3, b4⟩ := nx_cells hy
    have HQ := Lib.hid (Made.trans M1.out hy.made)
    clear hy HX
    go_wp2
    go_ret
    exact ⟨rfl, HQ.out⟩
  · rewrite [if_neg h3]
    have g3 : (tk == 3) = false := beq_eq_false_iff_ne.2 h3
    clear h3
    go_enter Tryz.func232, Tryz.ntmps232
    go_wp2_with (fail)
    refine HN.out.mono ?_
    rintro x w1 ⟨rfl, h1⟩
    have M1 := Lib.hid (Made.trans HM.out h1)
    have HX := Lib.hid (nx_start (w := w1) (.int .u8 tk) (.string (strOf tt)) (.int .i64 tv) (.int .i64 tl) (.int .i64 tc))
    clear h1
    go_upto_region 2 with (fail)
    refine world_named (fun y => NX w1 w1.heap.size [.int .u8 tk, .string (strOf tt), .int .i64 tv, .int .i64 tl, .int .i64 tc] y) HX.out ?_
    intro y hy
    obtain ⟨b0, b1, b2, b3, b4⟩ := nx_cells hy
    have HQ := Lib.hid (Made.trans M1.out hy.made)
    clear hy HX
    go_wp2
    go_ret
    exact ⟨rfl, HQ.out⟩
set_option maxRecDepth 100000 in
set_option maxHeartbeats 8000000 in
theorem last_any (W : World) (lo : Option Addr) (n c : Nat) (b : Nat) (k d : Int) (so : Option Addr) (m sc : Nat) (v : Value) (e : List Tm) (hm : (m : Int) ≤ 100000) (u0 : World) (hP : PX W lo n c b k d (.slice so m sc) v e u0) :
    Makes Tryz.prog u0 233 #[pPtr b] (.int .i64 ((m : Int) - 1)) := by
  intro w hm
  have HM := Lib.hid hm
  obtain ⟨a0, a1, a2, a3⟩ := px_cells (hP.next hm)
  clear hm hP
  go_enter Tryz.func233, Tryz.ntmps233
  go_wp2
  go_ret
  exact ⟨rfl, HM.out⟩
theorem tm_row : (Tryz.prog.info? TE).map (fun i => (i.zero, i.size, i.bytes)) = some (some (Tm.val ⟨0, 0, [], 0, 0⟩), 5, 48) := by kernel_rfl
/-- One term more. -/
def XAdd (W : World) (lo : Option Addr) (n c b : Nat) (k d : Int) (e : List Tm) (t : Tm) (x : Ending) (w' : World) : Prop := ∃ so sc, x = .returned (.tuple #[]) ∧ PX W lo n c b k d (.slice so (e.length + 1) sc) (.slice so (e.length + 1) sc) (e ++ [t]) w'
set_option maxRecDepth 100000 in
set_option maxHeartbeats 8000000 in
theorem padd_any (W : World) (lo : Option Addr) (n c b : Nat) (k d : Int) (v : Value) (e : List Tm) (hl : e.length ≤ 100000) (t : Tm) (w : World) (hP : PX W lo n c b k d v v e w) :
    Calls Tryz.prog 234 #[pPtr b, t.val] w (XAdd W lo n c b k d e t) := by
  obtain ⟨tk, tv, tn, ta, tb⟩ := t
  have HI := Lib.hid (info_parts tm_row)
  have hmx : e.length + 1 ≤ maxLen := by unfold maxLen; omega
  have hby : (e.length + 1) * 48 ≤ 140737488355328 := by omega
  have HX := Lib.hid (show PX W lo n c b k d v v e (w.alloc (.cells #[.int .u8 tk, .int .i64 tv, .string (strOf tn), .int .i64 ta, .int .i64 tb] TE)) ∧ (w.alloc (.cells #[.int .u8 tk, .int .i64 tv, .string (strOf tn), .int .i64 ta, .int .i64 tb] TE)).heap[w.heap.size]? = some (.cells #[.int .u8 tk, .int .i64 tv, .string (strOf tn), .int .i64 ta, .int .i64 tb] TE (0, 0)) from ⟨hP.next ((Made.refl w).alloc (Nat.le_refl _) _), heap_alloc_new w _⟩)
  clear hP
  go_enter Tryz.func234, Tryz.ntmps234
  go_upto_region 1 with (fail)
  refine world_named (fun u => PX W lo n c b k d v v e u ∧ u.heap[w.heap.size]? = some (.cells #[.int .u8 tk, .int .i64 tv, .string (strOf tn), .int .i64 ta, .int .i64 tb] TE (0, 0))) HX.out ?_
  rintro u ⟨hu, hb⟩
  have lt0 := heap_lt hu.blk
  have lt1 := heap_lt hb
  obtain ⟨a0, a1, a2, a3⟩ := px_cells hu
  have c0 : u.cell? ⟨w.heap.size, 0, none⟩ = some (.int .u8 tk) := cell_of_lit hb 0
  have c1 : u.cell? ⟨w.heap.size, 1, none⟩ = some (.int .i64 tv) := cell_of_lit hb 1
  have c2 : u.cell? ⟨w.heap.size, 2, none⟩ = some (.string (strOf tn)) := cell_of_lit hb 2
  have c3 : u.cell? ⟨w.heap.size, 3, none⟩ = some (.int .i64 ta) := cell_of_lit hb 3
  have c4 : u.cell? ⟨w.heap.size, 4, none⟩ = some (.int .i64 tb) := cell_of_lit hb 4
  have KA := Lib.hid ((hu.next (made_drew (Made.refl _))).next ((Made.refl _).alloc (Nat.le_refl _) (.cells ([(⟨tk, tv, tn, ta, tb⟩ : Tm)].flatMap Tm.cells).toArray TE)))
  have HOL := Lib.hid (tm_olds u.drew ⟨tk, tv, tn, ta, tb⟩)
  have hsz := Lib.hid KA.out.made.size
  clear hu hb HX
  go_region_law (first
    | (obtain ⟨i0, hi0, hz0, hz1, hz2⟩ := HI.out
       refine step_append_each rfl (.tmp 8) (.tmp 10) 27 rfl W.heap.size TE i0 (Tm.val ⟨0, 0, [], 0, 0⟩) 5 48 Tryz.underlying27 hi0 hz0 hz1 hz2 rfl (by decide) v e.length (e.flatMap Tm.cells) (by simp [Act.eval]) KA.out.row.row ⟨u.heap.size, 0, none⟩ 1 1 ([(⟨tk, tv, tn, ta, tb⟩ : Tm)].flatMap Tm.cells) (by simp [Act.eval]) rfl (HOL.out _ rfl) (tm_one _) hmx hby hsz.out ?_
       intro u1 w9 own1 gr1 _
       have KG := Lib.hid (KA.out.more rfl own1 gr1)
       obtain ⟨so, cp, hv, -⟩ := KG.out.row.recs tm_len (by decide)
       obtain rfl : u1 = .slice so (e.length + 1) cp := by rw [hv, List.length_append]; rfl
       clear hv
       have d5 := (px_cells KG.out).2.2.2
       have ft := free_of_lit KG.out.blk
       have lt := heap_lt KG.out.blk
       clear own1 gr1 i0 hi0 hz0 hz1 hz2)
    | fail)
  all_goals
    go_wp2
    refine bodyPost_ret (v := .tuple #[]) (by simp [results, Tryz.results234, go_sem]) rfl ?_
    exact ⟨so, cp, rfl, KG.out.set 3 (.slice so (e.length + 1) cp) (k' := k) (d' := d) (cv' := .slice so (e.length + 1) cp) rfl⟩
end
end
section
open Go.ChangeShapes Go.WideShapes Go.ChangeAt Go.RowKit Go.Sort BigFrame

/-- What a reading tells. -/
def XQ (W : World) (lo : Option Addr) (c : Nat) (L : List Tk) (b d : Nat) (e : List Tm) : Rs → Ending → World → Prop
  | .ok a r, x, u => ∃ (k' : Nat) (v : Value), x = .returned (.int .i64 0) ∧ k' ≤ L.length ∧ r = (L.map Tk.q).drop k' ∧ PX W lo L.length c b k' d v v (e ++ a.post e.length) u
  | .bad r why, x, u => ∃ (k' : Nat) (v : Value) (e' : List Tm), x = .returned (.int .i64 why) ∧ k' ≤ L.length ∧ r = (L.map Tk.q).drop k' ∧ PX W lo L.length c b k' d v v e' u
def ReadX (m : Md) (fn : FuncId) (W : World) (lo : Option Addr) (c : Nat) (L : List Tk) (b N : Nat) : Prop :=
  ∀ (k d : Nat) (v : Value) (e : List Tm) (res : Rs) (w : World), L.length - k < N → k ≤ L.length → d ≤ 16 → e.length + (L.length - k) ≤ 50000 → PX W lo L.length c b k d v v e w → Rd m d ((L.map Tk.q).drop k) res →
    Calls Tryz.prog fn #[pPtr b] w (XQ W lo c L b d e res)
/-- Behind a bracket's sum, and behind a prefix -'s factor. -/
def cloR : Rs → Rs
  | .ok a r => if isSg 41 r = true then .ok a r.tail else .bad r 8
  | .bad r w => .bad r w
def ngoR : Rs → Rs
  | .ok a r => .ok (.neg a) r
  | .bad r w => .bad r w
/-- The ways of a factor. -/
theorem fac_ways {d : Nat} {ts : List Tq} {res : Rs} (h : Rd .fac d ts res) :
    (∃ t r, ts = t :: r ∧ t.kind = 2 ∧ 0 ≤ t.v ∧ t.v ≤ 1099511627776 ∧ res = .ok (.num t.v) r) ∨
    (∃ t r, ts = t :: r ∧ t.kind = 1 ∧ t.text ≠ [] ∧ res = .ok (.nam t.text) r) ∨
    (isSg 40 ts = true ∧ d = 16 ∧ res = .bad ts 3) ∨
    (∃ r0, isSg 40 ts = true ∧ d < 16 ∧ Rd .sum (d + 1) ts.tail r0 ∧ res = cloR r0) ∨
    (isSg 45 ts = true ∧ d = 16 ∧ res = .bad ts 3) ∨
    (∃ r0, isSg 45 ts = true ∧ d < 16 ∧ Rd .fac (d + 1) ts.tail r0 ∧ res = ngoR r0) ∨
    (isSg 40 ts = false ∧ isSg 45 ts = false ∧ (∀ t r, ts = t :: r → ¬ (t.kind = 2 ∧ 0 ≤ t.v ∧ t.v ≤ 1099511627776) ∧ ¬ (t.kind = 1 ∧ t.text ≠ [])) ∧ res = .bad ts 8) := by
  cases h with
  | deepP h hd16 => exact .inr (.inr (.inl ⟨h, hd16, rfl⟩))
  | deepN h hd16 => exact .inr (.inr (.inr (.inr (.inl ⟨h, hd16, rfl⟩))))
  | parOk h hd16 hs hc => exact .inr (.inr (.inr (.inl ⟨_, h, hd16, hs, by simp only [cloR]; rw [if_pos hc]; rfl⟩)))
  | parOpen h hd16 hs hc => exact .inr (.inr (.inr (.inl ⟨_, h, hd16, hs, by simp only [cloR]; rw [if_neg (by rw [hc]; decide)]⟩)))
  | parBad h hd16 hs => exact .inr (.inr (.inr (.inl ⟨_, h, hd16, hs, rfl⟩)))
  | negOk h hd16 hs => exact .inr (.inr (.inr (.inr (.inr (.inl ⟨_, h, hd16, hs, rfl⟩)))))
  | negBad h hd16 hs => exact .inr (.inr (.inr (.inr (.inr (.inl ⟨_, h, hd16, hs, rfl⟩)))))
  | number hk h0 h1 => exact .inl ⟨_, _, rfl, hk, h0, h1, rfl⟩
  | name hk h0 => exact .inr (.inl ⟨_, _, rfl, hk, h0, rfl⟩)
  | noneEnd => exact .inr (.inr (.inr (.inr (.inr (.inr ⟨rfl, rfl, fun t r h => (by cases h), rfl⟩)))))
  | noneTok h0 h1 h2 h3 => exact .inr (.inr (.inr (.inr (.inr (.inr ⟨h0, h1, fun t r h => (by cases h; exact ⟨h2, h3⟩), rfl⟩)))))
/-- What is told, of whatever comes. -/
theorem xq_open {W : World} {lo : Option Addr} {c : Nat} {L : List Tk} {b d : Nat} {e : List Tm} {res : Rs} {x : Ending} {u : World} (h : XQ W lo c L b d e res x u) (hw : ∀ r y, res = .bad r y → y = 3 ∨ y = 8) :
    ∃ (k1 : Nat) (bad : Int) (v : Value) (E : List Tm), x = .returned (.int .i64 bad) ∧ k1 ≤ L.length ∧ PX W lo L.length c b k1 d v v E u ∧
      ((bad = 0 ∧ ∃ a, res = .ok a ((L.map Tk.q).drop k1) ∧ E = e ++ a.post e.length) ∨ (bad ≠ 0 ∧ res = .bad ((L.map Tk.q).drop k1) bad)) := by
  cases res with
  | ok a r =>
    obtain ⟨k', v, hx, hk, hr, hP⟩ := h
    exact ⟨k', 0, v, _, hx, hk, hP, .inl ⟨rfl, a, by rw [hr], rfl⟩⟩
  | bad r y =>
    obtain ⟨k', v, e', hx, hk, hr, hP⟩ := h
    have := hw r y rfl
    exact ⟨k', y, v, e', hx, hk, hP, .inr ⟨by omega, by rw [hr]⟩⟩
theorem xq_shut {W : World} {lo : Option Addr} {c : Nat} {L : List Tk} {b d : Nat} {e : List Tm} {res : Rs} {k1 : Nat} {bad : Int} {v : Value} {E : List Tm} {u : World} (hk : k1 ≤ L.length) (hP : PX W lo L.length c b k1 d v v E u)
    (h : (bad = 0 ∧ ∃ a, res = .ok a ((L.map Tk.q).drop k1) ∧ E = e ++ a.post e.length) ∨ (bad ≠ 0 ∧ res = .bad ((L.map Tk.q).drop k1) bad)) : XQ W lo c L b d e res (.returned (.int .i64 bad)) u := by
  rcases h with ⟨rfl, a, rfl, rfl⟩ | ⟨-, rfl⟩
  · exact ⟨k1, v, rfl, hk, rfl, hP⟩
  · exact ⟨k1, v, E, rfl, hk, rfl, hP⟩
section
attribute [local irreducible] World.cell?
set_option maxRecDepth 100000 in
set_option maxHeartbeats 8000000 in
theorem enclose_deep (W : World) (lo : Option Addr) (c : Nat) (L : List Tk) (b k : Nat) (f : Value) (v : Value) (e : List Tm) (hk : k ≤ L.length) (w : World) (hP : PX W lo L.length c b k 16 v v e w) :
    Calls Tryz.prog 238 #[pPtr b, f] w (XQ W lo c L b 16 e (.bad ((L.map Tk.q).drop k) 3)) := by
  have HP := Lib.hid hP
  obtain ⟨a0, a1, a2, a3⟩ := px_cells hP
  clear hP
  go_enter Tryz.func238, Tryz.ntmps238
  go_wp2
  refine bodyPost_ret (v := .int .i64 3) (by simp [results, Tryz.results238, go_sem]) rfl ?_
  exact ⟨k, v, e, rfl, hk, rfl, HP.out⟩
set_option maxRecDepth 100000 in
set_option maxHeartbeats 8000000 in
theorem enclose_any (W : World) (lo : Option Addr) (c : Nat) (L : List Tk) (hL : L.length ≤ 10000) (b k d : Nat) (hd : d < 16) (K : FuncId) (hK : EntersX K) (v : Value) (e : List Tm) (r0 : Rs) (hw : ∀ r y, r0 = .bad r y → y = 3 ∨ y = 8) (hk : k ≤ L.length)
    (hpart : ∀ w, PX W lo L.length c b ((k : Int) + 1) ((d : Int) + 1) v v e w → Calls Tryz.prog K #[pPtr b] w (XQ W lo c L b (d + 1) e r0)) (w : World) (hP : PX W lo L.length c b k d v v e w) :
    Calls Tryz.prog 238 #[pPtr b, .func (.func K) #[pPtr b] #[]] w (XQ W lo c L b d e r0) := by
  have HP := Lib.hid (hP.set 1 (.int .i64 ((k : Int) + 1)) (k' := (k : Int) + 1) (d' := d) (cv' := v) rfl)
  have HP2 := Lib.hid ((hP.set 1 (.int .i64 ((k : Int) + 1)) (k' := (k : Int) + 1) (d' := d) (cv' := v) rfl).set 2 (.int .i64 ((d : Int) + 1)) (k' := (k : Int) + 1) (d' := (d : Int) + 1) (cv' := v) rfl)
  have HPART := Lib.hid hpart
  have HW := Lib.hid hw
  obtain ⟨a0, a1, a2, a3⟩ := px_cells hP
  have ft := free_of_lit hP.blk
  have lt := heap_lt hP.blk
  have g16 : ((d : Int) == 16) = false := beq_eq_false_iff_ne.2 (by omega)
  have hk1 : (k : Int) ≤ 10000 := by omega
  have hd1 : (d : Int) ≤ 16 := by omega
  clear hP hpart hw
  go_enter Tryz.func238, Tryz.ntmps238
  go_upto_region 4 with (fail)
  refine world_named (fun u => PX W lo L.length c b ((k : Int) + 1) d v v e u) HP.out ?_
  intro u1 hu
  have K1 := Lib.hid (hu.set 2 (.int .i64 ((d : Int) + 1)) (k' := (k : Int) + 1) (d' := (d : Int) + 1) (cv' := v) rfl)
  clear a0 a1 a2 a3 ft lt HP HP2
  obtain ⟨a0, a1, a2, a3⟩ := px_cells hu
  have ft := free_of_lit hu.blk
  have lt := heap_lt hu.blk
  clear hu
  go_wp2_with (fail)
  refine (HPART.out _ K1.out).mono ?_
  intro x u2 hq
  obtain ⟨k1, bad, v1, E, rfl, hk1', hP2, hways⟩ := xq_open hq HW.out
  have HWY := Lib.hid hways
  have K2 := Lib.hid (hP2.set 2 (.int .i64 (d : Int)) (k' := (k1 : Int)) (d' := (d : Int)) (cv' := v1) rfl)
  clear a0 a1 a2 a3 ft lt hq hways K1 HPART
  obtain ⟨a0, a1, a2, a3⟩ := px_cells hP2
  have ft := free_of_lit hP2.blk
  have lt := heap_lt hP2.blk
  have hdd : ((d + 1 : Nat) : Int) = (d : Int) + 1 := by omega
  rewrite [hdd] at a2
  clear hP2 hdd
  go_wp2
  refine bodyPost_ret (v := .int .i64 bad) (by simp [results, Tryz.results238, go_sem]) rfl ?_
  exact xq_shut hk1' K2.out HWY.out
set_option maxRecDepth 100000 in
set_option maxHeartbeats 8000000 in
theorem group_any (W : World) (lo : Option Addr) (c : Nat) (L : List Tk) (hT : Toks W lo c L) (hL : L.length ≤ 10000) (b d : Nat) (e : List Tm) (r0 : Rs) (hw : ∀ r y, r0 = .bad r y → y = 3 ∨ y = 8) (w : World)
    (hpart : Calls Tryz.prog 215 #[pPtr b] w (XQ W lo c L b d e r0)) :
    Calls Tryz.prog 239 #[pPtr b] w (XQ W lo c L b d e (cloR r0)) := by
  have HPART := Lib.hid hpart
  have HW := Lib.hid hw
  have HT := Lib.hid hT
  clear hpart hw hT
  go_enter Tryz.func239, Tryz.ntmps239
  go_wp2_with (fail)
  refine HPART.out.mono ?_
  intro x u hq
  obtain ⟨k1, bad, v1, E, rfl, hk1', hP2, hways⟩ := xq_open hq HW.out
  have K1 := Lib.hid hP2
  clear hq hP2 HPART
  rcases hways with ⟨rfl, a, hr, hE⟩ | ⟨hb, hr⟩
  · have HR := Lib.hid hr
    have HE := Lib.hid hE
    have HSG := Lib.hid (see_sg L k1 41)
    clear hr hE
    go_wp2_with (fail)
    refine (sign_any W lo c L HT.out b k1 d v1 v1 E hk1' u K1.out u (Made.refl u)).mono ?_
    rintro x u2 ⟨rfl, h2⟩
    have K2 := Lib.hid (K1.out.next h2)
    have K3 := Lib.hid ((K1.out.next h2).set 1 (.int .i64 ((k1 : Int) + 1)) (k' := (k1 : Int) + 1) (d' := d) (cv' := v1) rfl)
    obtain ⟨a0, a1, a2, a3⟩ := px_cells K2.out
    have ft := free_of_lit K2.out.blk
    have lt := heap_lt K2.out.blk
    have hkk : (k1 : Int) ≤ 10000 := by omega
    clear h2 K1
    by_cases h41 : seeS L k1 0 = [41]
    · have g : (seeS L k1 0 != [41]) = false := bne_eq_false_iff_eq.2 h41
      have g' : (seeS L k1 0 == [41]) = true := beq_iff_eq.2 h41
      have hsg : isSg 41 ((L.map Tk.q).drop k1) = true := HSG.out.trans (decide_eq_true h41)
      have HSG2 := Lib.hid hsg
      obtain ⟨X, hX⟩ : ∃ X, seeS L k1 0 = X := ⟨_, rfl⟩
      rewrite [hX] at g g'
      rewrite [hX]
      clear h41 hX hsg
      go_wp2
      refine bodyPost_ret (v := .int .i64 0) (by simp [results, Tryz.results239, go_sem]) rfl ?_
      have hlt : k1 < L.length := by
        rcases Nat.lt_or_ge k1 L.length with h | h
        · exact h
        · have h9 := HSG2.out
          rw [List.drop_eq_nil_of_le (by rw [List.length_map]; exact h)] at h9
          cases h9
      rw [HR.out]
      simp only [cloR]
      rw [if_pos HSG2.out, List.tail_drop]
      exact ⟨k1 + 1, v1, rfl, hlt, rfl, by rw [← HE.out]; exact K3.out⟩
    · have g : (seeS L k1 0 != [41]) = true := bne_iff_ne.2 h41
      have g' : (seeS L k1 0 == [41]) = false := beq_eq_false_iff_ne.2 h41
      have HSG2 := Lib.hid (HSG.out.trans (decide_eq_false h41))
      obtain ⟨X, hX⟩ : ∃ X, seeS L k1 0 = X := ⟨_, rfl⟩
      rewrite [hX] at g g'
      rewrite [hX]
      clear h41 hX
      go_wp2
      refine bodyPost_ret (v := .int .i64 8) (by simp [results, Tryz.results239, go_sem]) rfl ?_
      rw [HR.out]
      simp only [cloR]
      rw [if_neg (by rw [HSG2.out]; decide)]
      exact ⟨k1, v1, E, rfl, hk1', rfl, K2.out⟩
  · have g : (bad != 0) = true := bne_iff_ne.2 hb
    have HR := Lib.hid hr
    clear hr hb
    go_wp2
    refine bodyPost_ret (v := .int .i64 bad) (by simp [results, Tryz.results239, go_sem]) rfl ?_
    rw [HR.out]
    exact ⟨k1, v1, E, rfl, hk1', rfl, K1.out⟩
set_option maxRecDepth 100000 in
set_option maxHeartbeats 8000000 in
theorem negative_any (W : World) (lo : Option Addr) (c : Nat) (L : List Tk) (b d : Nat) (e : List Tm) (r0 : Rs) (hw : ∀ r y, r0 = .bad r y → y = 3 ∨ y = 8) (hfew : ∀ a r, r0 = .ok a r → e.length + a.size ≤ 50000) (w : World)
    (hpart : Calls Tryz.prog 235 #[pPtr b] w (XQ W lo c L b d e r0)) :
    Calls Tryz.prog 240 #[pPtr b] w (XQ W lo c L b d e (ngoR r0)) := by
  have HPART := Lib.hid hpart
  have HW := Lib.hid hw
  have HF := Lib.hid hfew
  clear hpart hw hfew
  go_enter Tryz.func240, Tryz.ntmps240
  go_wp2_with (fail)
  refine HPART.out.mono ?_
  intro x u hq
  obtain ⟨k1, bad, v1, E, rfl, hk1', hP2, hways⟩ := xq_open hq HW.out
  have K1 := Lib.hid hP2
  clear hq hP2 HPART
  rcases hways with ⟨rfl, a, hr, hE⟩ | ⟨hb, hr⟩
  · have HR := Lib.hid hr
    have HE := Lib.hid hE
    have hEl : E.length = e.length + a.size := by rw [hE, List.length_append, post_len]
    have hE5 : E.length ≤ 50000 := by rw [hEl]; exact HF.out _ _ hr
    have HEL := Lib.hid hEl
    obtain ⟨so, sc, rfl, -⟩ := K1.out.row.recs tm_len (by decide)
    clear hr hE hEl
    go_wp2_with (fail)
    refine (last_any W lo L.length c b k1 d so E.length sc _ E (by omega) u K1.out u (Made.refl u)).mono ?_
    rintro x u2 ⟨rfl, h2⟩
    have K2 := Lib.hid (K1.out.next h2)
    clear h2 K1
    go_wp2_with (fail)
    refine (padd_any W lo L.length c b k1 d _ E (by omega) ⟨6, 0, [], (E.length : Int) - 1, 0⟩ u2 K2.out).mono ?_
    rintro x u3 ⟨so3, sc3, rfl, h3⟩
    have K3 := Lib.hid h3
    clear h3 K2
    go_wp2
    refine bodyPost_ret (v := .int .i64 0) (by simp [results, Tryz.results240, go_sem]) rfl ?_
    rw [HR.out]
    refine ⟨k1, .slice so3 (E.length + 1) sc3, rfl, hk1', rfl, ?_⟩
    have h9 := K3.out
    simp only [Ex.post]
    rw [← List.append_assoc, ← HE.out, show (e.length : Int) + (a.size : Int) - 1 = (E.length : Int) - 1 by have := HEL.out; omega]
    exact h9
  · have g : (bad != 0) = true := bne_iff_ne.2 hb
    have HR := Lib.hid hr
    clear hr hb
    go_wp2
    refine bodyPost_ret (v := .int .i64 bad) (by simp [results, Tryz.results240, go_sem]) rfl ?_
    rw [HR.out]
    exact ⟨k1, v1, E, rfl, hk1', rfl, K1.out⟩
end
end
section
open Go.ChangeShapes Go.WideShapes Go.ChangeAt Go.RowKit Go.Sort BigFrame

theorem byteX_row : (Tryz.prog.info? 5).map (fun i => (i.zero, i.size, i.bytes)) = some (some (Value.int .u8 0), 1, 1) := by kernel_rfl
section
attribute [local irreducible] World.cell?
set_option maxRecDepth 100000 in
set_option maxHeartbeats 4000000 in
theorem cloneX_any (W : World) (S : ByteArray) (hS : S.size ≤ 140737488351232) : Makes Tryz.prog W 154 #[.string S] (.string S) := by
  intro w hm
  by_cases h0 : S.size = 0
  · have hs : S = ⟨#[]⟩ := by
      apply ByteArray.ext
      exact Array.eq_empty_of_size_eq_zero h0
    subst hs
    go_enter Tryz.func154, Tryz.ntmps154
    go_wp2
    go_ret
    exact ⟨rfl, hm⟩
  obtain ⟨i0, hi0, hz0, hz1, hz2⟩ := info_parts byteX_row
  -- the new row, and what the copy leaves in it
  obtain ⟨M, hM⟩ : ∃ M, M = madeCells (Value.int .u8 0).cells (((S.size : Nat) : Int).toNat * i0.size) := ⟨_, rfl⟩
  have hMs : M.size = S.size := by rw [hM, size_madeCells, hz1]; simp
  have hmk : ∀ u : World, (Instr.makeSlice 208 (.int .i64 (S.size : Int)) (.int .i64 (S.size : Int))).run Tryz.prog u = .ok (.slice (some ⟨u.heap.size, 0, none⟩) S.size S.size) (u.alloc (.cells M 5)) := fun u => by
    have h := run_make (P := Tryz.prog) u 208 5 i0 (.int .u8 0) Tryz.underlying208 hi0 hz0 .i64 .i64 (S.size : Int) (S.size : Int) (by omega) (by omega) (by rw [hz2]; omega) (by omega)
    rw [← hM] at h
    simpa using h
  clear hM
  have hinfo : (Tryz.prog.info? 5).map (·.size) = some 1 := by rw [hi0]; simp [hz1]
  have hcp := Lib.run_copy_row_string (P := Tryz.prog) (w.alloc (.cells M 5)) 208 9 3 5 w.heap.size 0 S.size S.size S M 5 Tryz.underlying208 hinfo (heap_alloc_new w _) (Nat.le_refl _) (by omega)
  obtain ⟨Y, hY⟩ : ∃ Y, Y = (M.toList.take 0 ++ Lib.byteCells S.data.toList ++ M.toList.drop (0 + S.size)).toArray := ⟨_, rfl⟩
  rw [← hY] at hcp
  have hYl : Y.toList = Lib.byteCells S.data.toList := by
    rw [hY, List.toList_toArray, List.take_zero, List.nil_append, List.drop_of_length_le (by rw [Array.length_toList]; omega), List.append_nil]
  have hYs : Y.size = S.size := by rw [← Array.length_toList, hYl, Lib.byteCells_length, ← Lib.size_eq]
  have hgY : ((w.alloc (.cells M 5)).setRow w.heap.size Y).heap[w.heap.size]? = some (.cells Y 5 (0, 0)) := setRow_heap _ _ M _ 5 (0, 0) (heap_alloc_new w _)
  have hne : S.data.toList ≠ [] := fun e => h0 (by rw [Lib.size_eq, e]; rfl)
  have hco : Tryz.prog.cellsOf 5 = 1 := by simp [Program.cellsOf, hi0, hz1]
  have hus := Lib.run_unsafeString_row (P := Tryz.prog) ((w.alloc (.cells M 5)).setRow w.heap.size Y) 226 3 9 5 Tryz.underlying226 hco w.heap.size Y.size (by unfold World.shape?; rw [hgY]) S.data.toList hne (by rw [← Lib.size_eq]; omega) (by rw [← Lib.size_eq]; omega)
    (fun j x hx => Lib.cells_of_row hgY Y.size j _ (by rw [List.take_of_length_le (by rw [Array.length_toList]; exact Nat.le_refl _), hYl]; simp [Lib.byteCells, hx]))
  rw [← Lib.size_eq] at hus
  have HB := Lib.hid (show Made W (((w.alloc (.cells M 5)).setRow w.heap.size Y).freeze ⟨w.heap.size, 0, none⟩ S.size) from by
    have b1 := hm.alloc hm.size (.cells M 5)
    have b2 : Below W.heap.size (w.alloc (.cells M 5)) ((w.alloc (.cells M 5)).setRow w.heap.size Y) := ⟨rfl, rfl, rfl, by simp, fun k hk => setRow_other _ _ _ _ (by have := hm.size; omega)⟩
    exact Lib.below_freeze (Below.trans b1 b2) (p := ⟨w.heap.size, 0, none⟩) hm.size _)
  clear hY
  go_enter Tryz.func154, Tryz.ntmps154
  go_wp2
  go_ret
  exact ⟨rfl, HB.out⟩
end
end
section
open Go.ChangeShapes Go.WideShapes Go.ChangeAt Go.RowKit Go.Sort BigFrame

theorem enters_sum : EntersX 215 := fun args w => enters_of Tryz.func215 (by kernel_rfl) rfl args w
theorem enters_group : EntersX 239 := fun args w => enters_of Tryz.func239 (by kernel_rfl) rfl args w
theorem enters_negative : EntersX 240 := fun args w => enters_of Tryz.func240 (by kernel_rfl) rfl args w
theorem enters_factor : EntersX 235 := fun args w => enters_of Tryz.func235 (by kernel_rfl) rfl args w
theorem enters_product : EntersX 227 := fun args w => enters_of Tryz.func227 (by kernel_rfl) rfl args w
theorem enters_sumKind : EntersX 228 := fun args w => enters_of Tryz.func228 (by kernel_rfl) rfl args w
theorem enters_productKind : EntersX 236 := fun args w => enters_of Tryz.func236 (by kernel_rfl) rfl args w
theorem tok_drop {L : List Tk} {k : Nat} {t : Tq} {r : List Tq} (h : (L.map Tk.q).drop k = t :: r) : k < L.length ∧ (tokAt L k).q = t ∧ r = (L.map Tk.q).drop (k + 1) ∧ tokAt L k ∈ L := by
  have hk : k < (L.map Tk.q).length := by
    rcases Nat.lt_or_ge k (L.map Tk.q).length with h' | h'
    · exact h'
    · rw [List.drop_eq_nil_of_le h'] at h
      cases h
  rw [List.drop_eq_getElem_cons hk] at h
  obtain ⟨h1, h2⟩ := List.cons.inj h
  have hk2 : k < L.length := by rwa [List.length_map] at hk
  unfold tokAt
  rw [List.getElem?_eq_getElem hk2]
  exact ⟨hk2, by rw [← h1, List.getElem_map], h2.symm, List.getElem_mem hk2⟩
theorem sg_tok {L : List Tk} {k : Nat} {x : UInt8} (h : isSg x ((L.map Tk.q).drop k) = true) : k < L.length ∧ (tokAt L k).kind = 3 := by
  cases hd : (L.map Tk.q).drop k with
  | nil => rw [hd] at h; cases h
  | cons t r =>
    obtain ⟨h1, h2, -, -⟩ := tok_drop hd
    rw [hd] at h
    have h3 := (sg_kind h).1
    rw [← h2] at h3
    exact ⟨h1, h3⟩
theorem tok_none {L : List Tk} {k : Nat} (h : ∀ t r, (L.map Tk.q).drop k = t :: r → ¬ (t.kind = 2 ∧ 0 ≤ t.v ∧ t.v ≤ 1099511627776) ∧ ¬ (t.kind = 1 ∧ t.text ≠ [])) :
    ¬ ((tokAt L k).kind = 2 ∧ 0 ≤ (tokAt L k).v ∧ (tokAt L k).v ≤ 1099511627776) ∧ ¬ ((tokAt L k).kind = 1 ∧ (tokAt L k).text ≠ []) := by
  cases hd : (L.map Tk.q).drop k with
  | nil =>
    have : L[k]? = none := by
      rw [List.getElem?_eq_none_iff]
      have := List.drop_eq_nil_iff.1 hd
      rwa [List.length_map] at this
    unfold tokAt
    rw [this]
    exact ⟨fun h => (by cases h.1), fun h => (by cases h.1)⟩
  | cons t r =>
    obtain ⟨-, h2, -, -⟩ := tok_drop hd
    have h3 := h t r hd
    rw [← h2] at h3
    exact h3
section
attribute [local irreducible] World.cell?
set_option maxRecDepth 100000 in
set_option maxHeartbeats 32000000 in
theorem xfactor_step (W : World) (lo : Option Addr) (c : Nat) (L : List Tk) (hT : Toks W lo c L) (hL : L.length ≤ 10000) (hN : ∀ t ∈ L, t.text.length ≤ 140737488351232) (b N : Nat)
    (hsum : ReadX .sum 215 W lo c L b N) (hfac : ReadX .fac 235 W lo c L b N) : ReadX .fac 235 W lo c L b (N + 1) := by
  intro k d v e res w hNk hk hd hen hP hR
  have HNX := Lib.hid (next_any W lo c L hT b k d v v e hk w hP)
  have HSG := Lib.hid (fun u h => sign_any W lo c L hT b k d v v e hk u h)
  have HP := Lib.hid hP
  have HWY := Lib.hid (rd_why hR)
  have HS40 := Lib.hid (see_sg L k 40)
  have HS45 := Lib.hid (see_sg L k 45)
  have HSUM := Lib.hid hsum
  have HFAC := Lib.hid hfac
  have HT := Lib.hid hT
  have HN := Lib.hid hN
  have HW := Lib.hid (show (∃ (r : List Tq), (tokAt L k).kind = 2 ∧ 0 ≤ (tokAt L k).v ∧ (tokAt L k).v ≤ 1099511627776 ∧ k < L.length ∧ res = .ok (.num (tokAt L k).v) ((L.map Tk.q).drop (k + 1))) ∨
      (∃ (r : List Tq), (tokAt L k).kind = 1 ∧ (tokAt L k).text ≠ [] ∧ (tokAt L k).text.length ≤ 140737488351232 ∧ k < L.length ∧ res = .ok (.nam (tokAt L k).text) ((L.map Tk.q).drop (k + 1))) ∨
      (seeS L k 0 = [40] ∧ (tokAt L k).kind = 3 ∧ d = 16 ∧ res = .bad ((L.map Tk.q).drop k) 3) ∨
      (∃ r0, seeS L k 0 = [40] ∧ (tokAt L k).kind = 3 ∧ k < L.length ∧ d < 16 ∧ Rd .sum (d + 1) ((L.map Tk.q).drop (k + 1)) r0 ∧ res = cloR r0) ∨
      (seeS L k 0 = [45] ∧ (tokAt L k).kind = 3 ∧ d = 16 ∧ res = .bad ((L.map Tk.q).drop k) 3) ∨
      (∃ r0, seeS L k 0 = [45] ∧ (tokAt L k).kind = 3 ∧ k < L.length ∧ d < 16 ∧ Rd .fac (d + 1) ((L.map Tk.q).drop (k + 1)) r0 ∧ res = ngoR r0) ∨
      (seeS L k 0 ≠ [40] ∧ seeS L k 0 ≠ [45] ∧ ¬ ((tokAt L k).kind = 2 ∧ 0 ≤ (tokAt L k).v ∧ (tokAt L k).v ≤ 1099511627776) ∧ ¬ ((tokAt L k).kind = 1 ∧ (tokAt L k).text ≠ []) ∧ res = .bad ((L.map Tk.q).drop k) 8) from by
    have h40 : ∀ {z}, isSg 40 ((L.map Tk.q).drop k) = z → decide (seeS L k 0 = [40]) = z := fun h => (see_sg L k 40).symm.trans h
    have h45 : ∀ {z}, isSg 45 ((L.map Tk.q).drop k) = z → decide (seeS L k 0 = [45]) = z := fun h => (see_sg L k 45).symm.trans h
    rcases fac_ways hR with ⟨t, r, hts, hk2, h0, h1, hr⟩ | ⟨t, r, hts, hk2, h0, hr⟩ | ⟨hs, hd6, hr⟩ | ⟨r0, hs, hd6, hrd, hr⟩ | ⟨hs, hd6, hr⟩ | ⟨r0, hs, hd6, hrd, hr⟩ | ⟨hs, hs2, hall, hr⟩
    · obtain ⟨e1, e2, e3, e4⟩ := tok_drop hts
      subst e2
      exact .inl ⟨r, hk2, h0, h1, e1, by rw [hr, e3]; rfl⟩
    · obtain ⟨e1, e2, e3, e4⟩ := tok_drop hts
      subst e2
      exact .inr (.inl ⟨r, hk2, h0, hN _ e4, e1, by rw [hr, e3]; rfl⟩)
    · exact .inr (.inr (.inl ⟨of_decide_eq_true (h40 hs), (sg_tok hs).2, hd6, hr⟩))
    · exact .inr (.inr (.inr (.inl ⟨r0, of_decide_eq_true (h40 hs), (sg_tok hs).2, (sg_tok hs).1, hd6, by rwa [List.tail_drop] at hrd, hr⟩)))
    · exact .inr (.inr (.inr (.inr (.inl ⟨of_decide_eq_true (h45 hs), (sg_tok hs).2, hd6, hr⟩))))
    · exact .inr (.inr (.inr (.inr (.inr (.inl ⟨r0, of_decide_eq_true (h45 hs), (sg_tok hs).2, (sg_tok hs).1, hd6, by rwa [List.tail_drop] at hrd, hr⟩)))))
    · exact .inr (.inr (.inr (.inr (.inr (.inr ⟨of_decide_eq_false (h40 hs), of_decide_eq_false (h45 hs2), (tok_none hall).1, (tok_none hall).2, hr⟩))))))
  clear hsum hfac hT hN hP hR HS40 HS45
  generalize tokAt L k = t at *
  generalize seeS L k 0 = X at *
  obtain ⟨tk, tt, tv, tl, tc⟩ := t
  simp only [] at HW
  go_enter Tryz.func235, Tryz.ntmps235
  go_wp2_with (fail)
  refine (HNX.out w (Made.refl w)).mono ?_
  rintro x w1 ⟨rfl, h1⟩
  have K1 := Lib.hid (HP.out.next h1)
  clear h1 HNX HP
  go_wp2_with (fail)
  refine (HSG.out w1 K1.out w1 (Made.refl w1)).mono ?_
  rintro x w2 ⟨rfl, h2⟩
  have HX := Lib.hid (show PX W lo L.length c b k d v v e (w2.alloc (.cells #[.int .u8 tk, .string (strOf tt), .int .i64 tv, .int .i64 tl, .int .i64 tc] TN)) ∧ NX w2 w2.heap.size [.int .u8 tk, .string (strOf tt), .int .i64 tv, .int .i64 tl, .int .i64 tc] (w2.alloc (.cells #[.int .u8 tk, .string (strOf tt), .int .i64 tv, .int .i64 tl, .int .i64 tc] TN)) from
    ⟨(K1.out.next h2).next ((Made.refl w2).alloc (Nat.le_refl _) _), nx_start _ _ _ _ _⟩)
  clear h2 K1 HSG
  go_upto_region 3 with (fail)
  refine world_named (fun y => PX W lo L.length c b k d v v e y ∧ NX w2 w2.heap.size [.int .u8 tk, .string (strOf tt), .int .i64 tv, .int .i64 tl, .int .i64 tc] y) HX.out ?_
  rintro y ⟨hy, hn⟩
  have KY := Lib.hid hy
  obtain ⟨b0, b1, b2, b3, b4⟩ := nx_cells hn
  have ltn := heap_lt hn.res
  clear hy hn HX
  have hkk : (k : Int) ≤ 10000 := by omega
  rcases HW.out with ⟨r, hk2, h0, h1, hkl, hr⟩ | ⟨r, hk2, h0, hsz, hkl, hr⟩ | ⟨hX, hk3, hd6, hr⟩ | ⟨r0, hX, hk3, hkl, hd6, hrd, hr⟩ | ⟨hX, hk3, hd6, hr⟩ | ⟨r0, hX, hk3, hkl, hd6, hrd, hr⟩ | ⟨hX0, hX1, hn1, hn2, hr⟩
  · have g2 : (tk == 2) = true := beq_iff_eq.2 hk2
    have HIN := Lib.hid (show Still Tryz.prog 71 #[.int .i64 tv] (.bool true) from by have h9 := isNumber_any tv; rwa [decide_eq_true ⟨h0, h1⟩] at h9)
    have HR := Lib.hid hr
    clear HW hr hk2
    go_wp2_with ((go_at_call 71; with_reducible refine (HIN.out _).mono ?_; rintro e w' ⟨rfl, rfl⟩))
    refine (padd_any W lo L.length c b k d v e (by omega) ⟨1, tv, [], 0, 0⟩ y KY.out).mono ?_
    rintro x w3 ⟨so3, sc3, rfl, h3⟩
    have K3 := Lib.hid (h3.set 1 (.int .i64 ((k : Int) + 1)) (k' := (k : Int) + 1) (d' := d) (cv' := .slice so3 (e.length + 1) sc3) rfl)
    obtain ⟨a0, a1, a2, a3⟩ := px_cells h3
    have ft := free_of_lit h3.blk
    have lt := heap_lt h3.blk
    clear h3 KY b0 b1 b2 b3 b4 ltn
    go_wp2
    refine bodyPost_ret (v := .int .i64 0) (by simp [results, Tryz.results235, go_sem]) rfl ?_
    rw [HR.out]
    exact ⟨k + 1, _, rfl, hkl, rfl, K3.out⟩
  · have g2 : (tk == 2) = false := by rw [hk2]; rfl
    have g1 : (tk == 1) = true := beq_iff_eq.2 hk2
    have ge : (tt != []) = true := bne_iff_ne.2 h0
    have ge2 : (tt == []) = false := beq_eq_false_iff_ne.2 h0
    have HCL := Lib.hid (cloneX_any y (strOf tt) (by rw [str_size (show IsStr (strOf tt) tt from rfl)]; exact hsz) y (Made.refl y))
    have HR := Lib.hid hr
    clear HW hr hk2
    go_wp2_with (fail)
    refine HCL.out.mono ?_
    rintro x w3 ⟨rfl, h3⟩
    have K3 := Lib.hid (KY.out.next h3)
    clear h3 KY HCL b0 b1 b2 b3 b4 ltn
    go_wp2_with (fail)
    refine (padd_any W lo L.length c b k d v e (by omega) ⟨2, 0, tt, 0, 0⟩ w3 K3.out).mono ?_
    rintro x w4 ⟨so3, sc3, rfl, h4⟩
    have K4 := Lib.hid (h4.set 1 (.int .i64 ((k : Int) + 1)) (k' := (k : Int) + 1) (d' := d) (cv' := .slice so3 (e.length + 1) sc3) rfl)
    obtain ⟨a0, a1, a2, a3⟩ := px_cells h4
    have ft := free_of_lit h4.blk
    have lt := heap_lt h4.blk
    clear h4 K3
    go_wp2
    refine bodyPost_ret (v := .int .i64 0) (by simp [results, Tryz.results235, go_sem]) rfl ?_
    rw [HR.out]
    exact ⟨k + 1, _, rfl, hkl, rfl, K4.out⟩
  · have g2 : (tk == 2) = false := by rw [hk3]; rfl
    have g1 : (tk == 1) = false := by rw [hk3]; rfl
    have gx : (X == [40]) = true := beq_iff_eq.2 hX
    have HR := Lib.hid hr
    subst hd6
    clear HW hr hk3 hX
    go_wp2_with (fail)
    refine (enclose_deep W lo c L b k _ v e hk y KY.out).mono ?_
    intro x w3 hq
    obtain ⟨k1, v1, e1, rfl, hk1, hr1, hP1⟩ := hq
    have K3 := Lib.hid hP1
    have HR1 := Lib.hid hr1
    clear hP1 hr1
    go_wp2
    refine bodyPost_ret (v := .int .i64 3) (by simp [results, Tryz.results235, go_sem]) rfl ?_
    rw [HR.out]
    exact ⟨k1, v1, e1, rfl, hk1, HR1.out, K3.out⟩
  · have g2 : (tk == 2) = false := by rw [hk3]; rfl
    have g1 : (tk == 1) = false := by rw [hk3]; rfl
    have gx : (X == [40]) = true := beq_iff_eq.2 hX
    have HR := Lib.hid hr
    have ek : ((k + 1 : Nat) : Int) = (k : Int) + 1 := by omega
    have ed : ((d + 1 : Nat) : Int) = (d : Int) + 1 := by omega
    have HEN := Lib.hid (enclose_any W lo c L hL b k d hd6 239 enters_group v e (cloR r0) (fun r y h => HWY.out r y (hr.trans h)) hk
      (fun u hu => group_any W lo c L HT.out hL b (d + 1) e r0 (rd_why hrd) u (HSUM.out (k + 1) (d + 1) v e r0 u (by omega) (by omega) (by omega) (by omega) (by rw [ek, ed]; exact hu) hrd)) y KY.out)
    clear HW hr hk3 hX hrd ek ed
    go_wp2_with (fail)
    refine HEN.out.mono ?_
    intro x w3 hq
    obtain ⟨k1, bad, v1, E, rfl, hk1, hP1, hways⟩ := xq_open hq (fun r y h => HWY.out r y (HR.out.trans h))
    have K3 := Lib.hid hP1
    have HWS := Lib.hid hways
    clear hq hP1 hways HEN
    go_wp2
    refine bodyPost_ret (v := .int .i64 bad) (by simp [results, Tryz.results235, go_sem]) rfl ?_
    rw [HR.out]
    exact xq_shut hk1 K3.out HWS.out
  · have g2 : (tk == 2) = false := by rw [hk3]; rfl
    have g1 : (tk == 1) = false := by rw [hk3]; rfl
    have gx : (X == [40]) = false := by rw [hX]; rfl
    have gx2 : (X == [45]) = true := beq_iff_eq.2 hX
    have HR := Lib.hid hr
    subst hd6
    clear HW hr hk3 hX
    go_wp2_with (fail)
    refine (enclose_deep W lo c L b k _ v e hk y KY.out).mono ?_
    intro x w3 hq
    obtain ⟨k1, v1, e1, rfl, hk1, hr1, hP1⟩ := hq
    have K3 := Lib.hid hP1
    have HR1 := Lib.hid hr1
    clear hP1 hr1
    go_wp2
    refine bodyPost_ret (v := .int .i64 3) (by simp [results, Tryz.results235, go_sem]) rfl ?_
    rw [HR.out]
    exact ⟨k1, v1, e1, rfl, hk1, HR1.out, K3.out⟩
  · have g2 : (tk == 2) = false := by rw [hk3]; rfl
    have g1 : (tk == 1) = false := by rw [hk3]; rfl
    have gx : (X == [40]) = false := by rw [hX]; rfl
    have gx2 : (X == [45]) = true := beq_iff_eq.2 hX
    have HR := Lib.hid hr
    have ek : ((k + 1 : Nat) : Int) = (k : Int) + 1 := by omega
    have ed : ((d + 1 : Nat) : Int) = (d : Int) + 1 := by omega
    have hfew : ∀ a r, r0 = .ok a r → e.length + a.size ≤ 50000 := fun a r h => by
      have h9 := rd_few hrd a r h
      simp only [List.length_drop, List.length_map] at h9
      omega
    have HEN := Lib.hid (enclose_any W lo c L hL b k d hd6 240 enters_negative v e (ngoR r0) (fun r y h => HWY.out r y (hr.trans h)) hk
      (fun u hu => negative_any W lo c L b (d + 1) e r0 (rd_why hrd) hfew u (HFAC.out (k + 1) (d + 1) v e r0 u (by omega) (by omega) (by omega) (by omega) (by rw [ek, ed]; exact hu) hrd)) y KY.out)
    clear HW hr hk3 hX hrd ek ed hfew
    go_wp2_with (fail)
    refine HEN.out.mono ?_
    intro x w3 hq
    obtain ⟨k1, bad, v1, E, rfl, hk1, hP1, hways⟩ := xq_open hq (fun r y h => HWY.out r y (HR.out.trans h))
    have K3 := Lib.hid hP1
    have HWS := Lib.hid hways
    clear hq hP1 hways HEN
    go_wp2
    refine bodyPost_ret (v := .int .i64 bad) (by simp [results, Tryz.results235, go_sem]) rfl ?_
    rw [HR.out]
    exact xq_shut hk1 K3.out HWS.out
  · have gx : (X == [40]) = false := beq_eq_false_iff_ne.2 hX0
    have gx2 : (X == [45]) = false := beq_eq_false_iff_ne.2 hX1
    have HR := Lib.hid hr
    clear HW hr hX0 hX1
    by_cases hk2 : tk = 2
    · have g2 : (tk == 2) = true := beq_iff_eq.2 hk2
      have g1 : (tk == 1) = false := by rw [hk2]; rfl
      have HIN := Lib.hid (show Still Tryz.prog 71 #[.int .i64 tv] (.bool false) from by
        have h9 := isNumber_any tv
        rwa [decide_eq_false (fun h => hn1 ⟨hk2, h.1, h.2⟩)] at h9)
      clear hn1 hn2 hk2
      go_wp2_with ((go_at_call 71; with_reducible refine (HIN.out _).mono ?_; rintro e w' ⟨rfl, rfl⟩))
      refine bodyPost_ret (v := .int .i64 8) (by simp [results, Tryz.results235, go_sem]) rfl ?_
      rw [HR.out]
      exact ⟨k, v, e, rfl, hk, rfl, KY.out⟩
    · have g2 : (tk == 2) = false := beq_eq_false_iff_ne.2 hk2
      by_cases hk1 : tk = 1
      · have g1 : (tk == 1) = true := beq_iff_eq.2 hk1
        have htt : tt = [] := by
          rcases Classical.em (tt = []) with h | h
          · exact h
          · exact absurd ⟨hk1, h⟩ hn2
        subst htt
        clear hn1 hn2 hk2 hk1
        go_wp2_with (fail)
        refine bodyPost_ret (v := .int .i64 8) (by simp [results, Tryz.results235, go_sem]) rfl ?_
        rw [HR.out]
        exact ⟨k, v, e, rfl, hk, rfl, KY.out⟩
      · have g1 : (tk == 1) = false := beq_eq_false_iff_ne.2 hk1
        clear hn1 hn2 hk2 hk1
        go_wp2_with (fail)
        refine bodyPost_ret (v := .int .i64 8) (by simp [results, Tryz.results235, go_sem]) rfl ?_
        rw [HR.out]
        exact ⟨k, v, e, rfl, hk, rfl, KY.out⟩
end
end
section
open Go.ChangeShapes Go.WideShapes Go.ChangeAt Go.RowKit Go.Sort BigFrame

/-- What may come behind a part, by the kind of the sign that is next. -/
def ChainOk (m0 : Md) (M : Ex → Md) (kk : List UInt8 → Int) : Prop := ∀ (L : List Tk) (k : Nat) (a : Ex) (d : Nat) (res : Rs), Rd (M a) d ((L.map Tk.q).drop k) res →
  (kk (seeS L k 0) = 0 ∧ res = .ok a ((L.map Tk.q).drop k)) ∨ (k < L.length ∧ kk (seeS L k 0) ≠ 0 ∧
    ∃ r1, Rd m0 d ((L.map Tk.q).drop (k + 1)) r1 ∧ (∀ b r, r1 = .ok b r → Rd (M (.bin (kk (seeS L k 0)) a b)) d r res) ∧ (∀ r w, r1 = .bad r w → res = .bad r w))
theorem chain_prod : ChainOk .fac .pt prodK := by
  intro L k a d res h
  have h42 : ∀ {z}, isSg 42 ((L.map Tk.q).drop k) = z → decide (seeS L k 0 = [42]) = z := fun h => (see_sg L k 42).symm.trans h
  generalize hts : (L.map Tk.q).drop k = ts at *
  cases h with
  | @starOk _ t r _ b r1 _ hs hf hp =>
    have e1 : seeS L k 0 = [42] := of_decide_eq_true (h42 hs)
    obtain ⟨hk, -, hr, -⟩ := tok_drop hts
    refine .inr ⟨hk, by rw [e1]; decide, _, by rw [← hr]; exact hf, fun b' r' e => ?_, fun r' w e => (by cases e)⟩
    cases e
    rw [e1]
    exact hp
  | @starBad _ t r _ r1 wy hs hf =>
    have e1 : seeS L k 0 = [42] := of_decide_eq_true (h42 hs)
    obtain ⟨hk, -, hr, -⟩ := tok_drop hts
    exact .inr ⟨hk, by rw [e1]; decide, _, by rw [← hr]; exact hf, fun b' r' e => (by cases e), fun r' w e => (by cases e; rfl)⟩
  | starEnd hs =>
    have e1 : ¬ seeS L k 0 = [42] := of_decide_eq_false (h42 hs)
    exact .inl ⟨if_neg e1, rfl⟩
theorem chain_sum : ChainOk .prod .st sumK := by
  intro L k a d res h
  have h43 : ∀ {z}, isSg 43 ((L.map Tk.q).drop k) = z → decide (seeS L k 0 = [43]) = z := fun h => (see_sg L k 43).symm.trans h
  have h45 : ∀ {z}, isSg 45 ((L.map Tk.q).drop k) = z → decide (seeS L k 0 = [45]) = z := fun h => (see_sg L k 45).symm.trans h
  generalize hts : (L.map Tk.q).drop k = ts at *
  cases h with
  | @plusOk _ t r _ b r1 _ hs hf hp =>
    have e1 : seeS L k 0 = [43] := of_decide_eq_true (h43 hs)
    obtain ⟨hk, -, hr, -⟩ := tok_drop hts
    refine .inr ⟨hk, by rw [e1]; decide, _, by rw [← hr]; exact hf, fun b' r' e => ?_, fun r' w e => (by cases e)⟩
    cases e
    rw [e1]
    exact hp
  | @plusBad _ t r _ r1 wy hs hf =>
    have e1 : seeS L k 0 = [43] := of_decide_eq_true (h43 hs)
    obtain ⟨hk, -, hr, -⟩ := tok_drop hts
    exact .inr ⟨hk, by rw [e1]; decide, _, by rw [← hr]; exact hf, fun b' r' e => (by cases e), fun r' w e => (by cases e; rfl)⟩
  | @subOk _ t r _ b r1 _ hs hf hp =>
    have e1 : seeS L k 0 = [45] := of_decide_eq_true (h45 hs)
    obtain ⟨hk, -, hr, -⟩ := tok_drop hts
    refine .inr ⟨hk, by rw [e1]; decide, _, by rw [← hr]; exact hf, fun b' r' e => ?_, fun r' w e => (by cases e)⟩
    cases e
    rw [e1]
    exact hp
  | @subBad _ t r _ r1 wy hs hf =>
    have e1 : seeS L k 0 = [45] := of_decide_eq_true (h45 hs)
    obtain ⟨hk, -, hr, -⟩ := tok_drop hts
    exact .inr ⟨hk, by rw [e1]; decide, _, by rw [← hr]; exact hf, fun b' r' e => (by cases e), fun r' w e => (by cases e; rfl)⟩
  | sumEnd hs hs2 =>
    have e1 : ¬ seeS L k 0 = [43] := of_decide_eq_false (h43 hs)
    have e2 : ¬ seeS L k 0 = [45] := of_decide_eq_false (h45 hs2)
    exact .inl ⟨by unfold sumK; rw [if_neg e1, if_neg e2], rfl⟩
/-- How much is left by the parser's variable. -/
def leftP (b n : Nat) (w : World) : Nat := n - (match w.cell? ⟨b, 1, none⟩ with | some (.int _ z) => z.toNat | _ => 0)
theorem left_px {W u : World} {lo : Option Addr} {n c b k : Nat} {d : Int} {cv v : Value} {E : List Tm} (h : PX W lo n c b k d cv v E u) : leftP b n u = n - k := by
  unfold leftP
  rw [(px_cells h).2.1]
  simp
section
attribute [local irreducible] World.cell?
set_option maxRecDepth 100000 in
set_option maxHeartbeats 32000000 in
theorem chain_any (W : World) (lo : Option Addr) (c : Nat) (L : List Tk) (hT : Toks W lo c L) (hL : L.length ≤ 10000) (b N : Nat) (m0 : Md) (hm0 : m0.eats = 1) (hf0 : ∀ {d : Nat} {ts : List Tq} {a : Ex} {r : List Tq}, Rd m0 d ts (.ok a r) → a.size + r.length ≤ ts.length)
    (M : Ex → Md) (kk : List UInt8 → Int) (Kp Kk : FuncId) (hKp : EntersX Kp) (hKk : EntersX Kk)
    (hkind : ∀ X, Still Tryz.prog Kk #[.string (strOf X)] (.int .u8 (kk X))) (hC : ChainOk m0 M kk) (hsub : ReadX m0 Kp W lo c L b N)
    (k d : Nat) (v : Value) (e : List Tm) (res r0 : Rs) (w : World) (hNk : L.length - k < N) (hk : k ≤ L.length) (hd : d ≤ 16) (hen : e.length + (L.length - k) ≤ 50000) (hP : PX W lo L.length c b k d v v e w)
    (hR0 : Rd m0 d ((L.map Tk.q).drop k) r0) (hok : ∀ a r, r0 = .ok a r → Rd (M a) d r res) (hbad : ∀ r y, r0 = .bad r y → res = .bad r y) :
    Calls Tryz.prog 226 #[pPtr b, .func (.func Kp) #[pPtr b] #[], .func (.func Kk) #[] #[]] w (XQ W lo c L b d e res) := by
  have HSIGN := Lib.hid (fun k v e hk u h => sign_any W lo c L hT b k d v v e hk u h)
  have HSUB := Lib.hid hsub
  have HQ := Lib.hid (hsub k d v e r0 w hNk hk hd hen hP hR0)
  have HWY := Lib.hid (rd_why hR0)
  have HOK := Lib.hid hok
  have HBAD := Lib.hid hbad
  have HC := Lib.hid hC
  have HKIND := Lib.hid hkind
  have HR0 := Lib.hid hR0
  have HF0 := Lib.hid (fun d ts a r => @hf0 d ts a r)
  clear hT hsub hP hok hbad hC hkind hR0 hf0
  go_enter Tryz.func226, Tryz.ntmps226
  go_wp2_with (fail)
  refine HQ.out.mono ?_
  intro x u1 hq
  obtain ⟨k1, bad, v1, E1, rfl, hk1, hP1, hways⟩ := xq_open hq HWY.out
  have K1 := Lib.hid hP1
  clear hq hP1 HQ
  rcases hways with ⟨rfl, a1, hr, hE⟩ | ⟨hb, hr⟩
  rotate_left
  · have g : (bad != 0) = true := bne_iff_ne.2 hb
    have HR := Lib.hid (HBAD.out _ _ hr)
    clear hr hb
    go_wp2
    refine bodyPost_ret (v := .int .i64 bad) (by simp [results, Tryz.results226, go_sem]) rfl ?_
    rw [HR.out]
    exact ⟨k1, v1, E1, rfl, hk1, rfl, K1.out⟩
  · have HREL := Lib.hid (show E1 = e ++ a1.post e.length ∧ Rd (M a1) d ((L.map Tk.q).drop k1) res ∧ L.length - k1 < N - 1 ∧ E1.length + (L.length - k1) ≤ 50000 from by
      have h0 := HR0.out
      rw [hr] at h0
      have h9 := HF0.out _ _ _ _ h0
      have h8 := (rd_len h0).2 _ _ rfl
      rw [hm0] at h8
      simp only [List.length_drop, List.length_map] at h9 h8
      have hl : E1.length = e.length + a1.size := by rw [hE, List.length_append, post_len]
      have hs := size_pos a1
      exact ⟨hE, HOK.out _ _ hr, by omega, by omega⟩)
    clear hr hE HR0 HWY HOK HBAD
    go_wp2_with (fail)
    go_loopw [8] (fun _ wr => ∃ (k2 : Nat) (v2 : Value) (E : List Tm) (a : Ex), k2 ≤ L.length ∧ PX W lo L.length c b k2 d v2 v2 E wr ∧ E = e ++ a.post e.length ∧ Rd (M a) d ((L.map Tk.q).drop k2) res ∧ L.length - k2 < N - 1 ∧ E.length + (L.length - k2) ≤ 50000) (fun _ wr => leftP b L.length wr)
    case atStart => exact ⟨k1, v1, E1, a1, hk1, K1.out, HREL.out⟩
    case round =>
      clear K1 HREL hk1
      obtain ⟨k2, v2, E, a, hk2, hP2, hE, hRd, hN2, hfew⟩ := hrel
      have K := Lib.hid hP2
      have HE := Lib.hid hE
      have HMS := Lib.hid (left_px hP2)
      have HRD := Lib.hid hRd
      have HS := Lib.hid (HSIGN.out k2 v2 E hk2 wr hP2 wr (Made.refl wr))
      have HW := Lib.hid (HC.out L k2 a d res hRd)
      obtain ⟨so, sc, rfl, -⟩ := hP2.row.recs tm_len (by decide)
      have hEl : E.length = e.length + a.size := by rw [hE, List.length_append, post_len]
      have HEL := Lib.hid hEl
      clear hP2 hE hRd hEl
      generalize hX : seeS L k2 0 = X at *
      have HKD := Lib.hid (HKIND.out X)
      clear hX
      generalize kk X = KD at *
      go_wp2_with (fail)
      refine HS.out.mono ?_
      rintro x u2 ⟨rfl, h2⟩
      have K2 := Lib.hid (K.out.next h2)
      clear h2 K HS
      go_wp2_with (fail)
      refine (HKD.out u2).mono ?_
      rintro x u3 ⟨rfl, rfl⟩
      rcases HW.out with ⟨hkd, hres⟩ | ⟨hkl, hkd, r1, hR1, hok1, hbad1⟩
      · have g : (KD == 0) = true := beq_iff_eq.2 hkd
        have HRS := Lib.hid hres
        clear hkd hres HW
        go_wp2
        refine bodyPost_ret (v := .int .i64 0) (by simp [results, Tryz.results226, go_sem]) rfl ?_
        rw [HRS.out]
        exact ⟨k2, _, rfl, hk2, rfl, by rw [← HE.out]; exact K2.out⟩
      · have g : (KD == 0) = false := beq_eq_false_iff_ne.2 hkd
        have K3 := Lib.hid (K2.out.set 1 (.int .i64 ((k2 : Int) + 1)) (k' := (k2 : Int) + 1) (d' := d) (cv' := .slice so E.length sc) rfl)
        obtain ⟨a0, a1, a2, a3⟩ := px_cells K2.out
        have ft := free_of_lit K2.out.blk
        have lt := heap_lt K2.out.blk
        have hkk : (k2 : Int) ≤ 10000 := by omega
        have ek : ((k2 + 1 : Nat) : Int) = (k2 : Int) + 1 := by omega
        have HOK1 := Lib.hid hok1
        have HBAD1 := Lib.hid hbad1
        have HWY1 := Lib.hid (rd_why hR1)
        have HR1 := Lib.hid hR1
        have HS1 := Lib.hid (fun u (hu : PX W lo L.length c b ((k2 : Int) + 1) d (.slice so E.length sc) (.slice so E.length sc) E u) => HSUB.out (k2 + 1) d (.slice so E.length sc) E r1 u (by omega) (by omega) hd (by omega) (by rw [ek]; exact hu) hR1)
        clear hkd hR1 hok1 hbad1 ek HW
        go_upto_region 8 with (fail)
        refine world_named (fun u => PX W lo L.length c b ((k2 : Int) + 1) d (.slice so E.length sc) (.slice so E.length sc) E u) K3.out ?_
        intro u4 hu4
        have K4 := Lib.hid hu4
        clear hu4 K2 K3 a0 a1 a2 a3 ft lt
        go_wp2_with (fail)
        refine (last_any W lo L.length c b ((k2 : Int) + 1) d so E.length sc _ E (by omega) u4 K4.out u4 (Made.refl u4)).mono ?_
        rintro x u5 ⟨rfl, h5⟩
        have K5 := Lib.hid (K4.out.next h5)
        clear h5 K4
        go_wp2_with (fail)
        refine (HS1.out u5 K5.out).mono ?_
        intro x u6 hq
        obtain ⟨k3, bad, v3, F, rfl, hk3, hP3, hways⟩ := xq_open hq HWY1.out
        have K6 := Lib.hid hP3
        clear hq hP3 K5 HS1
        rcases hways with ⟨rfl, b1, hr, hF⟩ | ⟨hb, hr⟩
        rotate_left
        · have g : (bad != 0) = true := bne_iff_ne.2 hb
          have HR := Lib.hid (HBAD1.out _ _ hr)
          clear hr hb
          go_wp2
          refine bodyPost_ret (v := .int .i64 bad) (by simp [results, Tryz.results226, go_sem]) rfl ?_
          rw [HR.out]
          exact ⟨k3, v3, F, rfl, hk3, rfl, K6.out⟩
        · have HRN := Lib.hid (HOK1.out _ _ hr)
          have HF := Lib.hid hF
          have hFl : F.length = E.length + b1.size := by rw [hF, List.length_append, post_len]
          have hnum : F.length + 1 + (L.length - k3) ≤ 50000 ∧ k2 < k3 := by
            have h0 := HR1.out
            rw [hr] at h0
            have h9 := HF0.out _ _ _ _ h0
            have h8 := (rd_len h0).2 _ _ rfl
            rw [hm0] at h8
            simp only [List.length_drop, List.length_map] at h9 h8
            omega
          obtain ⟨hf3, hk23⟩ := hnum
          have HFL := Lib.hid hFl
          obtain ⟨so3, sc3, rfl, -⟩ := K6.out.row.recs tm_len (by decide)
          clear hr hF hFl
          go_wp2_with (fail)
          refine (last_any W lo L.length c b k3 d so3 F.length sc3 _ F (by omega) u6 K6.out u6 (Made.refl u6)).mono ?_
          rintro x u7 ⟨rfl, h7⟩
          have K7 := Lib.hid (K6.out.next h7)
          clear h7 K6
          go_wp2_with (fail)
          refine (padd_any W lo L.length c b k3 d _ F (by omega) ⟨KD, 0, [], (E.length : Int) - 1, (F.length : Int) - 1⟩ u7 K7.out).mono ?_
          rintro x u8 ⟨so4, sc4, rfl, h8⟩
          have K8 := Lib.hid h8
          clear h8 K7
          go_wp2
          go_roundw
          case rel =>
            have hl : (F ++ [(⟨KD, 0, [], (E.length : Int) - 1, (F.length : Int) - 1⟩ : Tm)]).length = F.length + 1 := by rw [List.length_append]; rfl
            refine ⟨k3, .slice so4 (F.length + 1) sc4, _, .bin KD a b1, hk3, K8.out, ?_, HRN.out, by omega, by omega⟩
            simp only [Ex.post]
            rw [HFL.out, HF.out, ← List.append_assoc, ← List.append_assoc, ← HE.out, HEL.out]
            simp only [Int.natCast_add]
          case measure =>
            have h1 := left_px K8.out
            have h2 := HMS.out
            rw [h1, h2]
            omega
theorem fac_few {d : Nat} {ts : List Tq} {a : Ex} {r : List Tq} (h : Rd .fac d ts (.ok a r)) : a.size + r.length ≤ ts.length := rd_few h a r rfl
theorem prod_few {d : Nat} {ts : List Tq} {a : Ex} {r : List Tq} (h : Rd .prod d ts (.ok a r)) : a.size + r.length ≤ ts.length := rd_few h a r rfl
set_option maxRecDepth 100000 in
set_option maxHeartbeats 4000000 in
theorem xproduct_step (W : World) (lo : Option Addr) (c : Nat) (L : List Tk) (hT : Toks W lo c L) (hL : L.length ≤ 10000) (b N : Nat) (hsub : ReadX .fac 235 W lo c L b N) : ReadX .prod 227 W lo c L b N := by
  intro k d v e res w hNk hk hd hen hP hR
  have HX := Lib.hid (show Calls Tryz.prog 226 #[pPtr b, .func (.func 235) #[pPtr b] #[], .func (.func 236) #[] #[]] w (XQ W lo c L b d e res) from by
    cases hR with
    | prodOk hf hp => exact chain_any W lo c L hT hL b N .fac rfl fac_few .pt prodK _ _ enters_factor enters_productKind productKind_any chain_prod hsub k d v e res _ w hNk hk hd hen hP hf (fun a r e => by cases e; exact hp) (fun r y e => by cases e)
    | prodBad hf => exact chain_any W lo c L hT hL b N .fac rfl fac_few .pt prodK _ _ enters_factor enters_productKind productKind_any chain_prod hsub k d v e _ _ w hNk hk hd hen hP hf (fun a r e => by cases e) (fun r y e => by cases e; rfl))
  have HWY := Lib.hid (rd_why hR)
  clear hT hsub hP hR
  go_enter Tryz.func227, Tryz.ntmps227
  go_wp2_with (fail)
  refine HX.out.mono ?_
  intro x u hq
  obtain ⟨k1, bad, v1, E, rfl, hk1, hP1, hways⟩ := xq_open hq HWY.out
  have K := Lib.hid hP1
  have HWS := Lib.hid hways
  clear hq hP1 hways
  go_wp2
  refine bodyPost_ret (v := .int .i64 bad) (by simp [results, Tryz.results227, go_sem]) rfl ?_
  exact xq_shut hk1 K.out HWS.out
set_option maxRecDepth 100000 in
set_option maxHeartbeats 4000000 in
theorem xsum_step (W : World) (lo : Option Addr) (c : Nat) (L : List Tk) (hT : Toks W lo c L) (hL : L.length ≤ 10000) (b N : Nat) (hsub : ReadX .prod 227 W lo c L b N) : ReadX .sum 215 W lo c L b N := by
  intro k d v e res w hNk hk hd hen hP hR
  have HX := Lib.hid (show Calls Tryz.prog 226 #[pPtr b, .func (.func 227) #[pPtr b] #[], .func (.func 228) #[] #[]] w (XQ W lo c L b d e res) from by
    cases hR with
    | sumOk hf hp => exact chain_any W lo c L hT hL b N .prod rfl prod_few .st sumK _ _ enters_product enters_sumKind sumKind_any chain_sum hsub k d v e res _ w hNk hk hd hen hP hf (fun a r e => by cases e; exact hp) (fun r y e => by cases e)
    | sumBad hf => exact chain_any W lo c L hT hL b N .prod rfl prod_few .st sumK _ _ enters_product enters_sumKind sumKind_any chain_sum hsub k d v e _ _ w hNk hk hd hen hP hf (fun a r e => by cases e) (fun r y e => by cases e; rfl))
  have HWY := Lib.hid (rd_why hR)
  clear hT hsub hP hR
  go_enter Tryz.func215, Tryz.ntmps215
  go_wp2_with (fail)
  refine HX.out.mono ?_
  intro x u hq
  obtain ⟨k1, bad, v1, E, rfl, hk1, hP1, hways⟩ := xq_open hq HWY.out
  have K := Lib.hid hP1
  have HWS := Lib.hid hways
  clear hq hP1 hways
  go_wp2
  refine bodyPost_ret (v := .int .i64 bad) (by simp [results, Tryz.results215, go_sem]) rfl ?_
  exact xq_shut hk1 K.out HWS.out
theorem xfac_all (W : World) (lo : Option Addr) (c : Nat) (L : List Tk) (hT : Toks W lo c L) (hL : L.length ≤ 10000) (hN : ∀ t ∈ L, t.text.length ≤ 140737488351232) (b : Nat) : ∀ N, ReadX .fac 235 W lo c L b N
  | 0 => fun _ _ _ _ _ _ hN _ _ _ _ _ => absurd hN (Nat.not_lt_zero _)
  | N + 1 => xfactor_step W lo c L hT hL hN b N (xsum_step W lo c L hT hL b N (xproduct_step W lo c L hT hL b N (xfac_all W lo c L hT hL hN b N))) (xfac_all W lo c L hT hL hN b N)
set_option maxRecDepth 100000 in
set_option maxHeartbeats 4000000 in
theorem xparse_any (lo : Option Addr) (c : Nat) (L : List Tk) (w : World) (hT : Toks w lo c L) (hL : L.length ≤ 10000) (hN : ∀ t ∈ L, t.text.length ≤ 140737488351232) (res : Rs) (hR : Rd .sum 0 (L.map Tk.q) res) : Calls Tryz.prog 200 #[.slice lo L.length c] w (PSays (L.map Tk.q) w res) := by
  have HX := Lib.hid (show PX w lo L.length c w.heap.size (0 : Nat) (0 : Nat) (.slice none 0 0) (.slice none 0 0) [] (w.alloc (.cells #[.slice lo L.length c, .int .i64 0, .int .i64 0, .slice none 0 0] TP)) from
    ⟨grows_nil ((Made.refl w).alloc (Nat.le_refl _) _) (Nat.le_refl _), heap_alloc_new w _, Nat.le_refl _⟩)
  have HS := Lib.hid (fun u hu => xsum_step w lo c L hT hL w.heap.size (L.length + 1) (xproduct_step w lo c L hT hL w.heap.size (L.length + 1) (xfac_all w lo c L hT hL hN w.heap.size (L.length + 1))) 0 0 (.slice none 0 0) [] res u (by omega) (Nat.zero_le _) (Nat.zero_le _) (by simp; omega) hu hR)
  have HWY := Lib.hid (rd_why hR)
  clear hT hR hN
  go_enter Tryz.func200, Tryz.ntmps200
  go_upto_region 2 with (fail)
  refine world_named (fun u => PX w lo L.length c w.heap.size (0 : Nat) (0 : Nat) (.slice none 0 0) (.slice none 0 0) [] u) HX.out ?_
  intro u0 hu0
  have K0 := Lib.hid hu0
  clear hu0 HX
  go_wp2_with (fail)
  refine (HS.out u0 K0.out).mono ?_
  intro x u1 hq
  clear HS K0
  cases res with
  | ok a r =>
    obtain ⟨k', v, rfl, hk, hr, hP⟩ := hq
    have hl : ([] ++ a.post ([] : List Tm).length).length = a.size := by rw [List.nil_append, post_len]
    obtain ⟨so, cp, hv, hrec⟩ := hP.row.recs tm_len (by decide)
    rewrite [hl] at hv
    subst hv
    obtain ⟨a0, a1, a2, a3⟩ := px_cells hP
    have HREC := Lib.hid hrec
    have HM := Lib.hid hP.made
    have HRK := Lib.hid (show ((L.map Tk.q).length : Int) - r.length = k' by rw [hr, List.length_drop, List.length_map]; omega)
    clear hP hr hrec hl
    go_wp2_with (fail)
    go_quiet (fail)
    go_wp2
    refine bodyPost_ret (v := .tuple #[.slice so a.size cp, .int .i64 k', .int .i64 0]) (by simp [results, Tryz.results200, go_sem]) rfl ?_
    exact ⟨so, cp, by rw [HRK.out], HREC.out.made tm_len (below_drewN (Made.refl _) _), below_drewN HM.out _⟩
  | bad r wy =>
    obtain ⟨k', v, e', rfl, hk, hr, hP⟩ := hq
    have hwn : (wy != 0) = true := bne_iff_ne.2 (by have := HWY.out r wy rfl; omega)
    obtain ⟨a0, a1, a2, a3⟩ := px_cells hP
    have HM := Lib.hid hP.made
    have HRK := Lib.hid (show ((L.map Tk.q).length : Int) - r.length = k' by rw [hr, List.length_drop, List.length_map]; omega)
    clear hP hr
    go_wp2_with (fail)
    go_quiet (fail)
    go_wp2
    refine bodyPost_ret (v := .tuple #[.slice none 0 0, .int .i64 k', .int .i64 wy]) (by simp [results, Tryz.results200, go_sem]) rfl ?_
    exact ⟨by rw [HRK.out], below_drewN HM.out _⟩
end
end
end Go.Proofs.YtnfmlmamgkpocaaGreatDoor
