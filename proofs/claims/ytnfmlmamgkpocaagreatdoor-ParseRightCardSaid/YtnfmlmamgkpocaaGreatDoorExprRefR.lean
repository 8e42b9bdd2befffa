/- What Right of the document's answer for expr returns; no condition but that on the number of terms. -/
import Derived.Test.YtnfmlmamgkpocaaGreatDoorGExprM
import Derived.Test.YtnfmlmamgkpocaaGreatDoorExprRefA
import Derived.Laws.StructEq
namespace Go.Proofs.YtnfmlmamgkpocaaGreatDoor
open Go.ChangeShapes Go.WideShapes Go.ChangeAt Go.RowKit Go.Sort BigFrame

theorem ok_ways (t : Tm) (i : Nat) :
    (t.kind = 1 ∧ okT t i = (decide (0 ≤ t.v ∧ t.v ≤ 1099511627776) && decide (t = ⟨t.kind, t.v, [], 0, 0⟩))) ∨
    (t.kind = 2 ∧ okT t i = (decide (t.name ≠ []) && decide (t = ⟨t.kind, 0, t.name, 0, 0⟩))) ∨
    ((t.kind = 3 ∨ t.kind = 4 ∨ t.kind = 5) ∧ okT t i = (decide (0 ≤ t.a ∧ t.a < i) && decide (0 ≤ t.b ∧ t.b < i) && decide (t = ⟨t.kind, 0, [], t.a, t.b⟩))) ∨
    (t.kind = 6 ∧ okT t i = (decide (0 ≤ t.a ∧ t.a < i) && decide (t = ⟨t.kind, 0, [], t.a, 0⟩))) ∨
    ((t.kind ≠ 1 ∧ t.kind ≠ 2 ∧ t.kind ≠ 3 ∧ t.kind ≠ 4 ∧ t.kind ≠ 5 ∧ t.kind ≠ 6) ∧ okT t i = false) := by
  obtain ⟨k, v, n, a, b⟩ := t
  unfold okT
  simp only [Tm.mk.injEq]
  by_cases h1 : k = 1
  · subst h1
    refine .inl ⟨rfl, ?_⟩
    rw [if_pos rfl, Bool.eq_iff_iff]
    simp only [Bool.and_eq_true, decide_eq_true_eq]
    constructor
    · rintro ⟨x1, x2, x3, x4, x5⟩
      exact ⟨⟨x1, x2⟩, trivial, trivial, x3, x4, x5⟩
    · rintro ⟨⟨x1, x2⟩, -, -, x3, x4, x5⟩
      exact ⟨x1, x2, x3, x4, x5⟩
  by_cases h2 : k = 2
  · subst h2
    refine .inr (.inl ⟨rfl, ?_⟩)
    rw [if_neg (by decide), if_pos rfl, Bool.eq_iff_iff]
    simp only [Bool.and_eq_true, decide_eq_true_eq]
    constructor
    · rintro ⟨x1, x2, x3, x4⟩
      exact ⟨x1, trivial, x2, trivial, x3, x4⟩
    · rintro ⟨x1, -, x2, -, x3, x4⟩
      exact ⟨x1, x2, x3, x4⟩
  by_cases h3 : k = 3 ∨ k = 4 ∨ k = 5
  · refine .inr (.inr (.inl ⟨h3, ?_⟩))
    rw [if_neg h1, if_neg h2, if_pos h3, Bool.eq_iff_iff]
    simp only [Bool.and_eq_true, decide_eq_true_eq]
    constructor
    · rintro ⟨x1, x2, x3, x4, x5, x6⟩
      exact ⟨⟨⟨x1, x2⟩, x3, x4⟩, trivial, x5, x6, trivial, trivial⟩
    · rintro ⟨⟨⟨x1, x2⟩, x3, x4⟩, -, x5, x6, -, -⟩
      exact ⟨x1, x2, x3, x4, x5, x6⟩
  by_cases h6 : k = 6
  · subst h6
    refine .inr (.inr (.inr (.inl ⟨rfl, ?_⟩)))
    rw [if_neg (by decide), if_neg (by decide), if_neg (by decide), if_pos rfl, Bool.eq_iff_iff]
    simp only [Bool.and_eq_true, decide_eq_true_eq]
    constructor
    · rintro ⟨x1, x2, x3, x4, x5⟩
      exact ⟨⟨x1, x2⟩, trivial, x4, x5, trivial, x3⟩
    · rintro ⟨⟨x1, x2⟩, -, x4, x5, -, x3⟩
      exact ⟨x1, x2, x3, x4, x5⟩
  · refine .inr (.inr (.inr (.inr ⟨⟨h1, h2, by omega, by omega, by omega, h6⟩, ?_⟩)))
    rw [if_neg h1, if_neg h2, if_neg h3, if_neg h6]
section
set_option maxRecDepth 100000 in
set_option maxHeartbeats 1000000 in
theorem tm_neql (y z : Tm) (w : World) : (binOp .neq TE y.val z.val).run Tryz.prog w = .ok (.bool (!decide (y = z))) w := by
  obtain ⟨y0, y1, y2, y3, y4⟩ := y
  obtain ⟨z0, z1, z2, z3, z4⟩ := z
  by_cases h0 : y0 = z0
  rotate_left
  · simp [go_sem, h0]
  subst h0
  by_cases h1 : y1 = z1
  rotate_left
  · simp [go_sem, h1]
  subst h1
  by_cases h2 : y2 = z2
  rotate_left
  · simp [go_sem, h2]
  subst h2
  by_cases h3 : y3 = z3
  rotate_left
  · simp [go_sem, h3]
  subst h3
  by_cases h4 : y4 = z4
  rotate_left
  · simp [go_sem, h4]
  subst h4
  simp [go_sem]
end
/-- A term's variable, and the one that it ought to be. -/
structure T2 (W : World) (b1 b2 : Nat) (x y : Tm) (u : World) : Prop where
  made : Made W u
  fst : u.heap[b1]? = some (.cells x.cells.toArray TE (0, 0))
  snd : u.heap[b2]? = some (.cells y.cells.toArray TE (0, 0))
  low : W.heap.size ≤ b2
  ne : b1 ≠ b2
theorem T2.set {W u : World} {b1 b2 : Nat} {x y : Tm} (h : T2 W b1 b2 x y u) (j : Nat) (v : Value) {z : Tm} (he : y.cells.toArray.setIfInBounds j v = z.cells.toArray) : T2 W b1 b2 x z (u.setCell ⟨b2, j, none⟩ v) := by
  refine ⟨Below.setCell h.made (p := ⟨b2, j, none⟩) h.low v, (heap_setCell_other u ⟨b2, j, none⟩ b1 v h.ne).trans h.fst, ?_, h.low, h.ne⟩
  have := heap_setCell_same u b2 j y.cells.toArray TE v h.snd
  rwa [he] at this
theorem T2.cells {W u : World} {b1 b2 : Nat} {x y : Tm} (h : T2 W b1 b2 x y u) :
    (u.cell? ⟨b1, 0, none⟩ = some (.int .u8 x.kind) ∧ u.cell? ⟨b1, 1, none⟩ = some (.int .i64 x.v) ∧ u.cell? ⟨b1, 2, none⟩ = some (.string (strOf x.name)) ∧ u.cell? ⟨b1, 3, none⟩ = some (.int .i64 x.a) ∧ u.cell? ⟨b1, 4, none⟩ = some (.int .i64 x.b)) ∧
    (u.cell? ⟨b2, 0, none⟩ = some (.int .u8 y.kind) ∧ u.cell? ⟨b2, 1, none⟩ = some (.int .i64 y.v) ∧ u.cell? ⟨b2, 2, none⟩ = some (.string (strOf y.name)) ∧ u.cell? ⟨b2, 3, none⟩ = some (.int .i64 y.a) ∧ u.cell? ⟨b2, 4, none⟩ = some (.int .i64 y.b)) :=
  ⟨⟨cell_of_lit h.fst 0, cell_of_lit h.fst 1, cell_of_lit h.fst 2, cell_of_lit h.fst 3, cell_of_lit h.fst 4⟩, cell_of_lit h.snd 0, cell_of_lit h.snd 1, cell_of_lit h.snd 2, cell_of_lit h.snd 3, cell_of_lit h.snd 4⟩
section
attribute [local irreducible] World.cell?
end
end Go.Proofs.YtnfmlmamgkpocaaGreatDoor
