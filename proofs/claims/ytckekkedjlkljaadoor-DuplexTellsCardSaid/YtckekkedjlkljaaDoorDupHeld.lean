/- Blocks of instructions that stand while new ones are made, any number of them; no condition. -/
import Derived.Test.YtckekkedjlkljaaDoorSubInst
namespace Go.Proofs.YtckekkedjlkljaaDoor
open Go.ChangeShapes Go.WideShapes Go.ChangeAt Go.RowKit Go.Sort BigFrame

/-- W's own blocks stand, and so do the listed instructions. -/
structure Held (W : World) (l : List (Nat × In)) (w : World) : Prop where
  made : Made W w
  at_ : ∀ p ∈ l, InAt w p.1 p.2
theorem Held.start {W w : World} (h : Made W w) : Held W [] w := ⟨h, fun _ h => by cases h⟩
theorem Held.next {W w w' : World} {l : List (Nat × In)} (h : Held W l w) (hm : Made w w') : Held W l w' := ⟨Made.trans h.made hm, fun p hp => Made.heap hm (h.at_ p hp)⟩
theorem Held.push {W w : World} {l : List (Nat × In)} (h : Held W l w) (x : In) : Held W ((w.heap.size, x) :: l) (w.alloc (.cells x.cells.toArray 24)) := by
  have h2 := (Made.refl w).alloc (Nat.le_refl _) (.cells x.cells.toArray 24)
  refine ⟨Made.trans h.made h2, fun p hp => ?_⟩
  rcases List.mem_cons.1 hp with rfl | hp
  · exact heap_alloc_new w _
  · exact Made.heap h2 (h.at_ p hp)
theorem Held.push2 {W w : World} {l : List (Nat × In)} (h : Held W l w) (x y : In) : Held W ((w.heap.size + 1, y) :: (w.heap.size, x) :: l) ((w.alloc (.cells x.cells.toArray 24)).alloc (.cells y.cells.toArray 24)) := by
  have := (h.push x).push y
  rwa [World.size_alloc] at this
theorem Held.one {W w : World} {l : List (Nat × In)} {b : Nat} {x : In} (h : Held W l w) (hp : (b, x) ∈ l) : InAt w b x := h.at_ _ hp
theorem Held.less {W w : World} {l l' : List (Nat × In)} (h : Held W l w) (hp : ∀ p ∈ l', p ∈ l) : Held W l' w := ⟨h.made, fun p h' => h.at_ p (hp p h')⟩
/-- What a block reads as behind draws and new blocks. -/
theorem in_again {w : World} {b : Nat} {x : In} (h : InAt w b x) :
    (∀ d os, (grow (redrawn w d) os).cell? ⟨b, 0, none⟩ = some (.int .u8 x.op)) ∧ (∀ d os, (grow (redrawn w d) os).cell? ⟨b, 1, none⟩ = some (.int .u8 x.d)) ∧ (∀ d os, (grow (redrawn w d) os).cell? ⟨b, 2, none⟩ = some (.int .u8 x.s)) ∧
    (∀ d os, (grow (redrawn w d) os).cell? ⟨b, 3, none⟩ = some (.int .u8 x.t)) ∧ (∀ d os, (grow (redrawn w d) os).cell? ⟨b, 4, none⟩ = some (.int .u8 x.n)) ∧ (∀ d os, (grow (redrawn w d) os).cell? ⟨b, 5, none⟩ = some (.int .u8 x.pred)) ∧
    (∀ d os, (grow (redrawn w d) os).cell? ⟨b, 6, none⟩ = some (.int .u8 x.mode)) ∧ (∀ d os, (grow (redrawn w d) os).cell? ⟨b, 7, none⟩ = some (.bool x.new)) ∧ (∀ d os, (grow (redrawn w d) os).cell? ⟨b, 8, none⟩ = some (.bool x.ext)) ∧
    (∀ d os, (grow (redrawn w d) os).cell? ⟨b, 9, none⟩ = some (.int .u16 x.count)) ∧ (∀ d os, (grow (redrawn w d) os).cell? ⟨b, 10, none⟩ = some (.int .i64 x.imm)) := by
  obtain ⟨a0, a1, a2, a3, a4, a5, a6, a7, a8, a9, a10⟩ := in_cells h
  exact ⟨fun d os => cell_regrown a0 d os, fun d os => cell_regrown a1 d os, fun d os => cell_regrown a2 d os, fun d os => cell_regrown a3 d os, fun d os => cell_regrown a4 d os, fun d os => cell_regrown a5 d os,
    fun d os => cell_regrown a6 d os, fun d os => cell_regrown a7 d os, fun d os => cell_regrown a8 d os, fun d os => cell_regrown a9 d os, fun d os => cell_regrown a10 d os⟩
/-- A whole instruction stored into its block. -/
theorem took_all {w : World} {b : Nat} {x : In} (y : In) (hx : InAt w b x) :
    Took w (set11b w b (.int .u8 y.op) (.int .u8 y.d) (.int .u8 y.s) (.int .u8 y.t) (.int .u8 y.n) (.int .u8 y.pred) (.int .u8 y.mode) (.bool y.new) (.bool y.ext) (.int .u16 y.count) (.int .i64 y.imm)) b y := by
  obtain ⟨x0, x1, x2, x3, x4, x5, x6, x7, x8, x9, x10⟩ := x
  obtain ⟨y0, y1, y2, y3, y4, y5, y6, y7, y8, y9, y10⟩ := y
  have h0 := took_set (j := 0) (v := .int .u8 y0) (y := ⟨y0, x1, x2, x3, x4, x5, x6, x7, x8, x9, x10⟩) hx rfl
  have h1 := took_set (j := 1) (v := .int .u8 y1) (y := ⟨y0, y1, x2, x3, x4, x5, x6, x7, x8, x9, x10⟩) h0.at_ rfl
  have h2 := took_set (j := 2) (v := .int .u8 y2) (y := ⟨y0, y1, y2, x3, x4, x5, x6, x7, x8, x9, x10⟩) h1.at_ rfl
  have h3 := took_set (j := 3) (v := .int .u8 y3) (y := ⟨y0, y1, y2, y3, x4, x5, x6, x7, x8, x9, x10⟩) h2.at_ rfl
  have h4 := took_set (j := 4) (v := .int .u8 y4) (y := ⟨y0, y1, y2, y3, y4, x5, x6, x7, x8, x9, x10⟩) h3.at_ rfl
  have h5 := took_set (j := 5) (v := .int .u8 y5) (y := ⟨y0, y1, y2, y3, y4, y5, x6, x7, x8, x9, x10⟩) h4.at_ rfl
  have h6 := took_set (j := 6) (v := .int .u8 y6) (y := ⟨y0, y1, y2, y3, y4, y5, y6, x7, x8, x9, x10⟩) h5.at_ rfl
  have h7 := took_set (j := 7) (v := .bool y7) (y := ⟨y0, y1, y2, y3, y4, y5, y6, y7, x8, x9, x10⟩) h6.at_ rfl
  have h8 := took_set (j := 8) (v := .bool y8) (y := ⟨y0, y1, y2, y3, y4, y5, y6, y7, y8, x9, x10⟩) h7.at_ rfl
  have h9 := took_set (j := 9) (v := .int .u16 y9) (y := ⟨y0, y1, y2, y3, y4, y5, y6, y7, y8, y9, x10⟩) h8.at_ rfl
  have h10 := took_set (j := 10) (v := .int .i64 y10) (y := ⟨y0, y1, y2, y3, y4, y5, y6, y7, y8, y9, y10⟩) h9.at_ rfl
  exact ((((((((((h0.then h1).then h2).then h3).then h4).then h5).then h6).then h7).then h8).then h9).then h10)
theorem Held.put {W w w' : World} {l : List (Nat × In)} {b : Nat} {x y : In} (h : Held W ((b, x) :: l) w) (k : Took w w' b y) (hb : W.heap.size ≤ b) (hne : ∀ p ∈ l, p.1 ≠ b) : Held W ((b, y) :: l) w' := by
  refine ⟨k.made W hb h.made, fun p hp => ?_⟩
  rcases List.mem_cons.1 hp with rfl | hp
  · exact k.at_
  · exact (k.far p.1 (hne p hp)).trans (h.at_ p (List.mem_cons_of_mem _ hp))
theorem below_drew {B : Nat} {a w : World} (h : Below B a w) : Below B a w.drew := ⟨h.os, h.tape, h.output, h.size, h.block⟩
theorem Held.drew {W w : World} {l : List (Nat × In)} (h : Held W l w) : Held W l w.drew := ⟨below_drew h.made, fun p hp => h.at_ p hp⟩
/-- Two instructions stored into their own blocks again. -/
theorem Held.both {W v : World} {b c : Nat} {x y : In} (h : Held W [(c, y), (b, x)] v) (hb : W.heap.size ≤ b) (hc : W.heap.size ≤ c) (hne : b ≠ c) :
    Held W [(c, y), (b, x)] (set11b (set11b v b (.int .u8 x.op) (.int .u8 x.d) (.int .u8 x.s) (.int .u8 x.t) (.int .u8 x.n) (.int .u8 x.pred) (.int .u8 x.mode) (.bool x.new) (.bool x.ext) (.int .u16 x.count) (.int .i64 x.imm))
      c (.int .u8 y.op) (.int .u8 y.d) (.int .u8 y.s) (.int .u8 y.t) (.int .u8 y.n) (.int .u8 y.pred) (.int .u8 y.mode) (.bool y.new) (.bool y.ext) (.int .u16 y.count) (.int .i64 y.imm)).drew := by
  have h1 : Held W [(b, x), (c, y)] v := h.less (by intro p hp; rcases List.mem_cons.1 hp with rfl | hp; · simp
                                                    · rcases List.mem_cons.1 hp with rfl | hp; · simp
                                                      · cases hp)
  have h2 := h1.put (took_all (x := x) x (h1.one (by simp))) hb (by intro p hp; rcases List.mem_cons.1 hp with rfl | hp; · exact fun h => hne h.symm
                                                                    · cases hp)
  have h3 := h2.less (l' := [(c, y), (b, x)]) (by intro p hp; rcases List.mem_cons.1 hp with rfl | hp; · simp
                                                  · rcases List.mem_cons.1 hp with rfl | hp; · simp
                                                    · cases hp)
  have h4 := h3.put (took_all (x := y) y (h3.one (by simp))) hc (by intro p hp; rcases List.mem_cons.1 hp with rfl | hp; · exact hne
                                                                    · cases hp)
  exact h4.drew
end Go.Proofs.YtckekkedjlkljaaDoor
