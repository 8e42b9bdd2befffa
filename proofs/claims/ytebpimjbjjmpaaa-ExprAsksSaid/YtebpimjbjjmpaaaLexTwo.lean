/- Two rows of a call's own, tokens and what is wrong, that grow in turn, and a token's variable beside them; no condition but those named. -/
import Derived.Test.YtebpimjbjjmpaaaLexSay
namespace Go.Proofs.Ytebpimjbjjmpaaa
open Go.ChangeShapes Go.WideShapes Go.ChangeAt Go.RowKit Go.Sort BigFrame

theorem owns_of_block {w w' : World} {B : Nat} {T : TypeId} {s : Nat} {v : Value} {n : Nat} {xs : List Value} (h : w.ownsRow B T s v n xs) (hb : ∀ g, v.ownBlock = some g → w'.heap[g]? = w.heap[g]?) : w'.ownsRow B T s v n xs := by
  refine ⟨h.1, ?_⟩
  rcases h.2 with hn | ⟨g, cap, cur, rfl, hB, hg, r⟩
  · exact .inl hn
  · exact .inr ⟨g, cap, cur, rfl, hB, (hb g rfl).trans hg, r⟩
/-- Rows of other types lie in other blocks. -/
theorem owns_apart {w : World} {B B' : Nat} {T T' : TypeId} {s s' : Nat} {v v' : Value} {n n' : Nat} {xs xs' : List Value} (h : w.ownsRow B T s v n xs) (k : w.ownsRow B' T' s' v' n' xs') (hT : T ≠ T') : ∀ g, v.ownBlock = some g → v'.ownBlock ≠ some g := by
  intro g hg hg'
  rcases h.2 with ⟨rfl, _⟩ | ⟨a, _, _, rfl, _, ha, _⟩
  · simp [Value.ownBlock] at hg
  rcases k.2 with ⟨rfl, _⟩ | ⟨b, _, _, rfl, _, hb, _⟩
  · simp [Value.ownBlock] at hg'
  simp only [Value.ownBlock, Option.some.injEq] at hg hg'
  subst hg
  subst hg'
  rw [ha] at hb
  simp only [Option.some.injEq, Obj.cells.injEq] at hb
  exact hT hb.2.1
theorem Grows.kept {α : Type} {f : α → List Value} {s : Nat} {T : TypeId} {W w w1 : World} {B : Nat} {v : Value} {l : List α} {row : Option Nat} (h : Grows f s T W B v l w) (gr : w.grownBy w1 row) (hm : Made W w1) (hne : ∀ g, v.ownBlock = some g → row ≠ some g) : Grows f s T W B v l w1 := by
  refine ⟨hm, h.low, owns_of_block h.row fun g hg => gr.block g (h.row.lt g hg).2 fun e => hne g hg e.symm⟩
/-- The two rows. -/
structure LineTwo (T1 T2 : TypeId) (W : World) (v1 v2 : Value) (l1 : List Tk) (l2 : List Wr) (w : World) : Prop where
  fst : Grows Tk.cells 5 T1 W W.heap.size v1 l1 w
  snd : Grows Wr.cells 3 T2 W W.heap.size v2 l2 w
section
variable {T1 T2 : TypeId} {W w w1 : World} {v1 v2 : Value} {l1 : List Tk} {l2 : List Wr}
theorem two_start (W : World) : LineTwo T1 T2 W (.slice none 0 0) (.slice none 0 0) [] [] W := ⟨grows_nil (Made.refl W) (Nat.le_refl _), grows_nil (Made.refl W) (Nat.le_refl _)⟩
theorem LineTwo.made (h : LineTwo T1 T2 W v1 v2 l1 l2 w) : Made W w := h.fst.made
theorem LineTwo.next (h : LineTwo T1 T2 W v1 v2 l1 l2 w) (hm : Made w w1) : LineTwo T1 T2 W v1 v2 l1 l2 w1 := ⟨h.fst.next hm, h.snd.next hm⟩
theorem LineTwo.more1 {u1 : Value} {m1 : List Tk} {n : Nat} (hT : T1 ≠ T2) (h : LineTwo T1 T2 W v1 v2 l1 l2 w) (hn : l1.length + m1.length = n) (own : w1.ownsRow W.heap.size T1 5 u1 n (l1.flatMap Tk.cells ++ m1.flatMap Tk.cells)) (gr : w.grownBy w1 v1.ownBlock) : LineTwo T1 T2 W u1 v2 (l1 ++ m1) l2 w1 := by
  have h1 := h.fst.more hn own gr
  exact ⟨h1, h.snd.kept gr h1.made (fun g hg => owns_apart h.snd.row h.fst.row (Ne.symm hT) g hg)⟩
theorem LineTwo.more2 {u2 : Value} {m2 : List Wr} {n : Nat} (hT : T1 ≠ T2) (h : LineTwo T1 T2 W v1 v2 l1 l2 w) (hn : l2.length + m2.length = n) (own : w1.ownsRow W.heap.size T2 3 u2 n (l2.flatMap Wr.cells ++ m2.flatMap Wr.cells)) (gr : w.grownBy w1 v2.ownBlock) : LineTwo T1 T2 W v1 u2 l1 (l2 ++ m2) w1 := by
  have h1 := h.snd.more hn own gr
  exact ⟨h.fst.kept gr h1.made (fun g hg => owns_apart h.fst.row h.snd.row hT g hg), h1⟩
/-- .. and a token's variable. -/
structure LineTok (T1 T2 : TypeId) (W : World) (v1 v2 : Value) (l1 : List Tk) (l2 : List Wr) (B : Nat) (t : Tk) (w : World) : Prop where
  two : LineTwo T1 T2 W v1 v2 l1 l2 w
  blk : w.heap[B]? = some (.cells t.cells.toArray T1 (0, 0))
  lo : W.heap.size ≤ B
  far1 : ∀ g, v1.ownBlock = some g → g < B
  far2 : ∀ g, v2.ownBlock = some g → g < B
theorem tok_start (h : LineTwo T1 T2 W v1 v2 l1 l2 w) (t : Tk) : LineTok T1 T2 W v1 v2 l1 l2 w.heap.size t (w.alloc (.cells t.cells.toArray T1)) :=
  ⟨h.next ((Made.refl w).alloc (Nat.le_refl _) _), heap_alloc_new w _, h.made.size, fun g hg => (h.fst.row.lt g hg).2, fun g hg => (h.snd.row.lt g hg).2⟩
variable {B : Nat} {t : Tk}
theorem LineTok.next (h : LineTok T1 T2 W v1 v2 l1 l2 B t w) (hm : Made w w1) : LineTok T1 T2 W v1 v2 l1 l2 B t w1 := ⟨h.two.next hm, hm.heap h.blk, h.lo, h.far1, h.far2⟩
theorem LineTok.set (h : LineTok T1 T2 W v1 v2 l1 l2 B t w) (j : Nat) (v : Value) (u : Tk) (he : t.cells.toArray.setIfInBounds j v = u.cells.toArray) : LineTok T1 T2 W v1 v2 l1 l2 B u (w.setCell ⟨B, j, none⟩ v) := by
  have hm : Made W (w.setCell ⟨B, j, none⟩ v) := Below.setCell h.two.made (p := ⟨B, j, none⟩) h.lo v
  have hb : ∀ g, g < B → (w.setCell ⟨B, j, none⟩ v).heap[g]? = w.heap[g]? := fun g hg => heap_setCell_other w ⟨B, j, none⟩ g v (show g ≠ B by omega)
  refine ⟨⟨⟨hm, h.two.fst.low, owns_of_block h.two.fst.row fun g hg => hb g (h.far1 g hg)⟩, ⟨hm, h.two.snd.low, owns_of_block h.two.snd.row fun g hg => hb g (h.far2 g hg)⟩⟩, ?_, h.lo, h.far1, h.far2⟩
  have := heap_setCell_same w B j t.cells.toArray T1 v h.blk
  rwa [he] at this
theorem tok_cells (h : LineTok T1 T2 W v1 v2 l1 l2 B t w) : w.cell? ⟨B, 0, none⟩ = some (.int .u8 t.kind) ∧ w.cell? ⟨B, 1, none⟩ = some (.string (strOf t.text)) ∧ w.cell? ⟨B, 2, none⟩ = some (.int .i64 t.v) ∧ w.cell? ⟨B, 3, none⟩ = some (.int .i64 t.line) ∧ w.cell? ⟨B, 4, none⟩ = some (.int .i64 t.col) :=
  ⟨cell_of_lit h.blk 0, cell_of_lit h.blk 1, cell_of_lit h.blk 2, cell_of_lit h.blk 3, cell_of_lit h.blk 4⟩
end
theorem tk_one (l : List Tk) : ∀ u ∈ l.flatMap Tk.cells, u.oneCell' = true := by
  intro u hu
  obtain ⟨x, _, h⟩ := List.mem_flatMap.1 hu
  simp only [List.mem_cons, List.not_mem_nil, or_false] at h
  rcases h with rfl | rfl | rfl | rfl | rfl <;> rfl
theorem wr_one (l : List Wr) : ∀ u ∈ l.flatMap Wr.cells, u.oneCell' = true := by
  intro u hu
  obtain ⟨x, _, h⟩ := List.mem_flatMap.1 hu
  simp only [List.mem_cons, List.not_mem_nil, or_false] at h
  rcases h with rfl | rfl | rfl <;> rfl
theorem tok_olds (w : World) (T : TypeId) (t : Tk) : ∀ ad, (some ⟨w.heap.size, 0, none⟩ : Option Addr) = some ad → ∀ j u, ([t].flatMap Tk.cells)[j]? = some u → (w.alloc (.cells ([t].flatMap Tk.cells).toArray T)).cell? (ad.add j) = some u :=
  recs_olds tk_len (by decide) (recs_lit (l := [t]) (n := 1) tk_len (heap_alloc_new w _) rfl (by omega))
theorem wr_olds (w : World) (T : TypeId) (t : Wr) : ∀ ad, (some ⟨w.heap.size, 0, none⟩ : Option Addr) = some ad → ∀ j u, ([t].flatMap Wr.cells)[j]? = some u → (w.alloc (.cells ([t].flatMap Wr.cells).toArray T)).cell? (ad.add j) = some u :=
  recs_olds wr_len (by decide) (recs_lit (l := [t]) (n := 1) wr_len (heap_alloc_new w _) rfl (by omega))
end Go.Proofs.Ytebpimjbjjmpaaa
