/- Instructions in rows of a call's own: written out, stored one by one, exchanged; a packet's variable beside them; no condition. -/
import Derived.Test.YtaieiaopdbhjaaaGreatDoorGRules
import Derived.Test.YtaieiaopdbhjaaaGreatDoorGInst
import Derived.BigRegion
namespace Go.Proofs.YtaieiaopdbhjaaaGreatDoor
open Go.ChangeShapes Go.WideShapes Go.ChangeAt Go.RowKit Go.Sort BigFrame

theorem pk5 {w : World} {B : Nat} {ao : Option Addr} {n cap : Nat} {e0 e1 raw dup : Bool} (h : w.heap[B]? = some (.cells (boxL ao n cap e0 e1 raw dup).toArray 24 (0, 0))) :
    w.cell? ⟨B, 0, none⟩ = some (.slice ao n cap) ∧ w.cell? ⟨B, 1, none⟩ = some (.bool e0) ∧ w.cell? ⟨B, 2, none⟩ = some (.bool e1) ∧ w.cell? ⟨B, 3, none⟩ = some (.bool raw) ∧ w.cell? ⟨B, 4, none⟩ = some (.bool dup) :=
  ⟨cell_of_lit h 0, cell_of_lit h 1, cell_of_lit h 2, cell_of_lit h 3, cell_of_lit h 4⟩
theorem flat_cell : ∀ (l : List In) (t r : Nat) (h : t < l.length), r < 11 → (l.flatMap In.cells)[t * 11 + r]? = (l[t].cells)[r]?
  | x :: l, 0, r, _, hr => by
    have hl : x.cells.length = 11 := rfl
    simp only [List.flatMap_cons, Nat.zero_mul, Nat.zero_add, List.getElem_cons_zero]
    rw [List.getElem?_append_left (by omega)]
  | x :: l, t + 1, r, h, hr => by
    have hl : x.cells.length = 11 := rfl
    simp only [List.flatMap_cons, List.getElem_cons_succ]
    rw [List.getElem?_append_right (by omega), show (t + 1) * 11 + r - x.cells.length = t * 11 + r by omega]
    exact flat_cell l t r (by simpa using h) hr
/-- Instructions written out in a block. -/
theorem insts_lit {w : World} {b : Nat} {l : List In} {n : Nat} {T : TypeId} (h : w.heap[b]? = some (.cells (l.flatMap In.cells).toArray T (0, 0))) (hn : l.length = n) (hl : n ≤ 1000) (hs : ∀ x ∈ l, x.small) : Insts w (some ⟨b, 0, none⟩) n l := by
  refine ⟨by omega, by unfold maxLen; omega, hs, fun h => by simp at h, fun t ht => ⟨b, 0, rfl, fun r hr => ?_⟩⟩
  rw [Nat.zero_add, cell_of_lit h]
  exact flat_cell l t r ht hr
theorem made_alloc {W w : World} (h : Made W w) (o : Obj) : Made W (w.alloc o) := h.alloc h.size o
/-- An instruction stored cell by cell. -/
abbrev put11 (w : World) (g o : Nat) (x : In) : World :=
  ((((((((((w.setCell ⟨g, o, none⟩ (.int .u8 x.op)).setCell ⟨g, o + 1, none⟩ (.int .u8 x.d)).setCell ⟨g, o + 2, none⟩ (.int .u8 x.s)).setCell ⟨g, o + 3, none⟩ (.int .u8 x.t)).setCell ⟨g, o + 4, none⟩ (.int .u8 x.n)).setCell ⟨g, o + 5, none⟩ (.int .u8 x.pred)).setCell
    ⟨g, o + 6, none⟩ (.int .u8 x.mode)).setCell ⟨g, o + 7, none⟩ (.bool x.new)).setCell ⟨g, o + 8, none⟩ (.bool x.ext)).setCell ⟨g, o + 9, none⟩ (.int .u16 x.count)).setCell ⟨g, o + 10, none⟩ (.int .i64 x.imm)
theorem flat_set : ∀ (l : List In) (t : Nat) (_ : t < l.length) (x : In),
    (((((((((((flatI l).set (t * 11) (.int .u8 x.op)).set (t * 11 + 1) (.int .u8 x.d)).set (t * 11 + 2) (.int .u8 x.s)).set (t * 11 + 3) (.int .u8 x.t)).set (t * 11 + 4) (.int .u8 x.n)).set (t * 11 + 5) (.int .u8 x.pred)).set
      (t * 11 + 6) (.int .u8 x.mode)).set (t * 11 + 7) (.bool x.new)).set (t * 11 + 8) (.bool x.ext)).set (t * 11 + 9) (.int .u16 x.count)).set (t * 11 + 10) (.int .i64 x.imm) = flatI (l.set t x)
  | y :: l, 0, _, x => by simp [flatI, In.cells]
  | y :: l, t + 1, h, x => by
    have ih := flat_set l t (by simpa using h) x
    have hc : ∀ (L : List Value) (j : Nat) (v : Value), (y.cells ++ L).set ((t + 1) * 11 + j) v = y.cells ++ L.set (t * 11 + j) v := fun L j v => by
      have hl : y.cells.length = 11 := rfl
      rw [List.set_append_right _ _ (by omega), hl, show (t + 1) * 11 + j - 11 = t * 11 + j by omega]
    have hc0 : ∀ (L : List Value) (v : Value), (y.cells ++ L).set ((t + 1) * 11) v = y.cells ++ L.set (t * 11) v := fun L v => hc L 0 v
    have e : flatI (y :: l) = y.cells ++ flatI l := rfl
    have e2 : flatI ((y :: l).set (t + 1) x) = y.cells ++ flatI (l.set t x) := rfl
    rw [e, e2, hc0, hc, hc, hc, hc, hc, hc, hc, hc, hc, hc, ih]
theorem row_put {w : World} {B g n cap : Nat} {l : List In} (h : w.ownsRow B 34 11 (.slice (some ⟨g, 0, none⟩) n cap) n (flatI l)) {t : Nat} (ht : t < l.length) (x : In) :
    (put11 w g (t * 11) x).ownsRow B 34 11 (.slice (some ⟨g, 0, none⟩) n cap) n (flatI (l.set t x)) := by
  rw [← flat_set l t ht x]
  exact ((((((((((((h.stored _ _).1.stored _ _).1.stored _ _).1.stored _ _).1.stored _ _).1.stored _ _).1.stored _ _).1.stored _ _).1.stored _ _).1.stored _ _).1.stored _ _).1)
theorem put_far {w : World} {g o k : Nat} (x : In) (h : k ≠ g) : (put11 w g o x).heap[k]? = w.heap[k]? := by
  unfold put11
  rw [heap_setCell_other _ _ _ _ h, heap_setCell_other _ _ _ _ h, heap_setCell_other _ _ _ _ h, heap_setCell_other _ _ _ _ h, heap_setCell_other _ _ _ _ h, heap_setCell_other _ _ _ _ h, heap_setCell_other _ _ _ _ h, heap_setCell_other _ _ _ _ h, heap_setCell_other _ _ _ _ h, heap_setCell_other _ _ _ _ h, heap_setCell_other _ _ _ _ h]
theorem put_made {W w : World} {g o : Nat} (hm : Made W w) (hg : W.heap.size ≤ g) (x : In) : Made W (put11 w g o x) :=
  ((((((((((Below.setCell (Below.setCell hm (p := ⟨g, o, none⟩) hg _) (p := ⟨g, o + 1, none⟩) hg _).setCell (p := ⟨g, o + 2, none⟩) hg _).setCell (p := ⟨g, o + 3, none⟩) hg _).setCell (p := ⟨g, o + 4, none⟩) hg _).setCell (p := ⟨g, o + 5, none⟩) hg _).setCell
    (p := ⟨g, o + 6, none⟩) hg _).setCell (p := ⟨g, o + 7, none⟩) hg _).setCell (p := ⟨g, o + 8, none⟩) hg _).setCell (p := ⟨g, o + 9, none⟩) hg _).setCell (p := ⟨g, o + 10, none⟩) hg _)
theorem rowI_cells {w : World} {B g n cap : Nat} {l : List In} (h : w.ownsRow B 34 11 (.slice (some ⟨g, 0, none⟩) n cap) n (flatI l)) {t : Nat} (ht : t < l.length) (x : In) (hx : l[t] = x) :
    w.cell? ⟨g, t * 11, none⟩ = some (.int .u8 x.op) ∧ w.cell? ⟨g, t * 11 + 1, none⟩ = some (.int .u8 x.d) ∧ w.cell? ⟨g, t * 11 + 2, none⟩ = some (.int .u8 x.s) ∧ w.cell? ⟨g, t * 11 + 3, none⟩ = some (.int .u8 x.t) ∧
    w.cell? ⟨g, t * 11 + 4, none⟩ = some (.int .u8 x.n) ∧ w.cell? ⟨g, t * 11 + 5, none⟩ = some (.int .u8 x.pred) ∧ w.cell? ⟨g, t * 11 + 6, none⟩ = some (.int .u8 x.mode) ∧ w.cell? ⟨g, t * 11 + 7, none⟩ = some (.bool x.new) ∧
    w.cell? ⟨g, t * 11 + 8, none⟩ = some (.bool x.ext) ∧ w.cell? ⟨g, t * 11 + 9, none⟩ = some (.int .u16 x.count) ∧ w.cell? ⟨g, t * 11 + 10, none⟩ = some (.int .i64 x.imm) := by
  subst hx
  have hl : l.length * 11 = n * 11 := by have := h.1; rw [flatI_len] at this; omega
  have key : ∀ r, r < 11 → w.cell? ⟨g, t * 11 + r, none⟩ = (l[t].cells)[r]? := fun r hr => (h.cellAt (t * 11 + r) (by omega)).trans (flatI_at l t r ht hr)
  exact ⟨key 0 (by omega), key 1 (by omega), key 2 (by omega), key 3 (by omega), key 4 (by omega), key 5 (by omega), key 6 (by omega), key 7 (by omega), key 8 (by omega), key 9 (by omega), key 10 (by omega)⟩
/-- The packet's variable, the other packet's, and its row. -/
structure RowAt (W : World) (B Q : Nat) (cs : List Value) (so : Option Addr) (n cq : Nat) (e0 e1 raw dup : Bool) (l : List In) (w : World) : Prop where
  made : Made W w
  low : W.heap.size ≤ B
  lt : B < Q
  pk : w.heap[B]? = some (.cells cs.toArray 24 (0, 0))
  qk : w.heap[Q]? = some (.cells (boxL so n cq e0 e1 raw dup).toArray 24 (0, 0))
  row : w.ownsRow (Q + 1) 34 11 (.slice so n cq) n (flatI l)
  small : ∀ x ∈ l, x.small
theorem RowAt.next {W w w' : World} {B Q : Nat} {cs : List Value} {so : Option Addr} {n cq : Nat} {e0 e1 raw dup : Bool} {l : List In} (h : RowAt W B Q cs so n cq e0 e1 raw dup l w) (hm : Made w w') : RowAt W B Q cs so n cq e0 e1 raw dup l w' :=
  ⟨Made.trans h.made hm, h.low, h.lt, hm.heap h.pk, hm.heap h.qk, owns_made h.row hm, h.small⟩
theorem RowAt.drew {W w : World} {B Q : Nat} {cs : List Value} {so : Option Addr} {n cq : Nat} {e0 e1 raw dup : Bool} {l : List In} (h : RowAt W B Q cs so n cq e0 e1 raw dup l w) : RowAt W B Q cs so n cq e0 e1 raw dup l w.drew :=
  ⟨made_drew h.made, h.low, h.lt, h.pk, h.qk, h.row.drew, h.small⟩
theorem RowAt.put {W w : World} {B Q g : Nat} {cs : List Value} {n cq : Nat} {e0 e1 raw dup : Bool} {l : List In} (h : RowAt W B Q cs (some ⟨g, 0, none⟩) n cq e0 e1 raw dup l w) {i : Nat} (hi : i < l.length) (y : In) (hy : y.small) :
    RowAt W B Q cs (some ⟨g, 0, none⟩) n cq e0 e1 raw dup (l.set i y) (put11 w g (i * 11) y) := by
  have hg : Q + 1 ≤ g := (h.row.lt g rfl).1
  have hlow := h.low
  have hlt := h.lt
  refine ⟨put_made h.made (show W.heap.size ≤ g by omega) y, hlow, hlt, (put_far y (show B ≠ g by omega)).trans h.pk, (put_far y (show Q ≠ g by omega)).trans h.qk, row_put h.row hi y, ?_⟩
  intro z hz
  rcases List.mem_or_eq_of_mem_set hz with hz2 | rfl
  · exact h.small z hz2
  · exact hy
theorem RowAt.swap {W w : World} {B Q g : Nat} {cs : List Value} {n cq : Nat} {e0 e1 raw dup : Bool} {l : List In} (h : RowAt W B Q cs (some ⟨g, 0, none⟩) n cq e0 e1 raw dup l w) {i j : Nat} (hi : i < l.length) (hj : j < l.length) (x y : In) (hx : l[i] = x) (hy : l[j] = y) :
    RowAt W B Q cs (some ⟨g, 0, none⟩) n cq e0 e1 raw dup ((l.set i y).set j x) (put11 (put11 w g (i * 11) y) g (j * 11) x).drew :=
  ((h.put hi y (h.small _ (hy ▸ List.getElem_mem hj))).put (i := j) (by simpa using hj) x (h.small _ (hx ▸ List.getElem_mem hi))).drew
theorem row_some {w : World} {B n c : Nat} {so : Option Addr} {xs : List Value} (h : w.ownsRow B 34 11 (.slice so n c) n xs) (hn : 0 < n) : ∃ g, so = some ⟨g, 0, none⟩ ∧ n ≤ c := by
  rcases h.2 with ⟨h1, h2⟩ | ⟨g, c2, cur, h1, _, hg, hc, hm, _⟩
  · omega
  · simp only [Value.slice.injEq] at h1
    obtain ⟨rfl, -, rfl⟩ := h1
    exact ⟨g, rfl, hc⟩
/-- The packet's variable and the other packet's. -/
structure PkTwo (W : World) (B : Nat) (cs : List Value) (w : World) : Prop where
  made : Made W w
  low : W.heap.size ≤ B
  pk : w.heap[B]? = some (.cells cs.toArray 24 (0, 0))
  qk : w.heap[B + 1]? = some (.cells cs.toArray 24 (0, 0))
theorem PkTwo.next {W w w' : World} {B : Nat} {cs : List Value} (h : PkTwo W B cs w) (hm : Made w w') : PkTwo W B cs w' := ⟨Made.trans h.made hm, h.low, hm.heap h.pk, hm.heap h.qk⟩
theorem pkTwo_start (W : World) (cs : List Value) : PkTwo W W.heap.size cs ((W.alloc (.cells cs.toArray 24)).alloc (.cells cs.toArray 24)) := by
  have m1 := (Made.refl W).alloc (Nat.le_refl _) (.cells cs.toArray 24)
  have b1 : (W.alloc (.cells cs.toArray 24)).heap[W.heap.size]? = some (.cells cs.toArray 24 (0, 0)) := heap_alloc_new W _
  exact ⟨m1.alloc m1.size _, Nat.le_refl _, (Below.heap_alloc _ _ _ (heap_lt b1)).trans b1, heap_at (by simp)⟩
theorem rowAt_start {W z : World} {B : Nat} {ao : Option Addr} {n cap : Nat} {e0 e1 raw dup : Bool} {l : List In} {so : Option Addr} {c : Nat} (h : PkTwo W B (boxL ao n cap e0 e1 raw dup) z)
    (ho : z.ownsRow (B + 1 + 1) 34 11 (.slice so n c) n (flatI l)) (hs : ∀ x ∈ l, x.small) :
    RowAt W B (B + 1) (boxL ao n cap e0 e1 raw dup) so n c e0 e1 raw dup l (z.setCell ⟨B + 1, 0, none⟩ (.slice so n c)) :=
  have hlow := h.low
  ⟨h.made.setCell (p := ⟨B + 1, 0, none⟩) (show W.heap.size ≤ B + 1 by omega) _, hlow, by omega, (heap_setCell_other z ⟨B + 1, 0, none⟩ B _ (show B ≠ B + 1 by omega)).trans h.pk, heap_setCell_same z (B + 1) 0 _ _ _ h.qk,
    ownsRow_setCell_below ho (show B + 1 < B + 1 + 1 by omega) (a := ⟨B + 1, 0, none⟩) _, hs⟩
theorem insts_first {w : World} {b o cap : Nat} {l : List In} (h : Insts w (some ⟨b, o, none⟩) cap l) (k : Nat) : Insts w (some ⟨b, o, none⟩) cap (l.take k) := by
  have hr := h.room
  refine ⟨by rw [List.length_take]; omega, h.max, fun x hx => h.small x (List.mem_of_mem_take hx), fun h => by simp at h, fun t ht => ?_⟩
  rw [List.length_take] at ht
  obtain ⟨b', o', e, hc⟩ := h.cell t (by omega)
  refine ⟨b', o', e, fun r hr => ?_⟩
  rw [hc r hr, List.getElem_take]
theorem insts_rest {w : World} {b o cap : Nat} {l : List In} (h : Insts w (some ⟨b, o, none⟩) cap l) (k : Nat) : ∀ j u, (flatI (l.drop (k + 1)))[j]? = some u → w.cell? ((⟨b, o + (k + 1) * 11, none⟩ : Addr).add j) = some u := by
  have hI : Insts w (some ⟨b, o + (k + 1) * 11, none⟩) cap (l.drop (k + 1)) := by
    have hr := h.room
    refine ⟨by rw [List.length_drop]; omega, h.max, fun x hx => h.small x (List.mem_of_mem_drop hx), fun h => by simp at h, fun t ht => ?_⟩
    rw [List.length_drop] at ht
    obtain ⟨b', o', e, hc⟩ := h.cell (k + 1 + t) (by omega)
    obtain ⟨rfl, rfl⟩ : b = b' ∧ o = o' := by simpa using e
    refine ⟨b, _, rfl, fun r hr => ?_⟩
    rw [show o + (k + 1) * 11 + t * 11 + r = o + (k + 1 + t) * 11 + r by omega, hc r hr, List.getElem_drop]
  exact insts_olds hI _ rfl
end Go.Proofs.YtaieiaopdbhjaaaGreatDoor
