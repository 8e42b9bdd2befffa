/- What package pack's compare returns of two keys; no condition. -/
import Derived.Test.YtdghnlbfmaehoaaGreatDoorPackCmp
import Derived.Test.YtdghnlbfmaehoaaGreatDoorGBase
import Derived.Laws.StructEq
import Derived.Deep.Cut
import Derived.Deep.RegionLaw
namespace Go.Proofs.YtdghnlbfmaehoaaGreatDoor
open Go.ChangeShapes Go.WideShapes Go.ChangeAt Go.RowKit Go.Sort BigFrame

abbrev kV (r v x : Int) (e : Bool) : Value := .agg #[.int .i64 r, .int .u32 v, .int .u32 x, .bool e]
abbrev kL (r v x : Int) (e : Bool) : List Value := [.int .i64 r, .int .u32 v, .int .u32 x, .bool e]
def keysB (r v x : Int) (e : Bool) (q v2 x2 : Int) (f : Bool) : Bool := decide (r = q) && decide (v = v2) && decide (x = x2) && (e == f)
def cmpK (r v x : Int) (e : Bool) (q v2 x2 : Int) (f : Bool) : Int := if keysB r v x e q v2 x2 f = true then 0 else if orZ (sgnZ r q) (sgnZ v v2) (sgnZ x x2) ≠ 0 then orZ (sgnZ r q) (sgnZ v v2) (sgnZ x x2) else if e = true then 1 else -1
theorem run_key_eql (r v x : Int) (e : Bool) (q v2 x2 : Int) (f : Bool) (w : World) : (binOp .eql 67 (kV r v x e) (kV q v2 x2 f)).run Tryz.prog w = .ok (.bool (keysB r v x e q v2 x2 f)) w := by
  unfold keysB
  by_cases h0 : r = q
  rotate_left
  · simp [go_sem, h0]
  subst h0
  by_cases h1 : v = v2
  rotate_left
  · simp [go_sem, h1]
  subst h1
  by_cases h2 : x = x2
  rotate_left
  · simp [go_sem, h2]
  subst h2
  cases e <;> cases f <;> simp [go_sem]
/-- Two keys in blocks of a call's own. -/
structure Keys2 (W : World) (B : Nat) (L M : List Value) (w : World) : Prop where
  made : Made W w
  fst : w.heap[B]? = some (.cells L.toArray 67 (0, 0))
  snd : w.heap[B + 1]? = some (.cells M.toArray 67 (0, 0))
theorem Keys2.next {W w w' : World} {B : Nat} {L M : List Value} (h : Keys2 W B L M w) (hm : Made w w') : Keys2 W B L M w' := ⟨Made.trans h.made hm, hm.heap h.fst, hm.heap h.snd⟩
theorem keys_start {W w : World} (hm : Made W w) (L M : List Value) : Keys2 W w.heap.size L M ((w.alloc (.cells L.toArray 67)).alloc (.cells M.toArray 67)) := by
  have m1 := hm.alloc hm.size (.cells L.toArray 67)
  have b1 : (w.alloc (.cells L.toArray 67)).heap[w.heap.size]? = some (.cells L.toArray 67 (0, 0)) := heap_alloc_new w _
  exact ⟨m1.alloc m1.size _, (Below.heap_alloc _ _ _ (heap_lt b1)).trans b1, heap_at (by simp)⟩
section
attribute [local irreducible] World.cell?
set_option maxRecDepth 100000 in
set_option maxHeartbeats 4000000 in
theorem pcompare_any (W : World) (r v x : Int) (e : Bool) (q v2 x2 : Int) (f : Bool) : Makes Tryz.prog W 38 #[kV r v x e, kV q v2 x2 f] (.int .i64 (cmpK r v x e q v2 x2 f)) := by
  intro w hm
  have K0 := Lib.hid (keys_start hm (kL r v x e) (kL q v2 x2 f))
  have hop := fun u => run_key_eql r v x e q v2 x2 f u
  obtain ⟨res, hres⟩ : ∃ z, z = cmpK r v x e q v2 x2 f := ⟨_, rfl⟩
  rewrite [← hres]
  have hv : (keysB r v x e q v2 x2 f = true ∧ res = 0) ∨ (keysB r v x e q v2 x2 f = false ∧ orZ (sgnZ r q) (sgnZ v v2) (sgnZ x x2) ≠ 0 ∧ res = orZ (sgnZ r q) (sgnZ v v2) (sgnZ x x2)) ∨ (keysB r v x e q v2 x2 f = false ∧ orZ (sgnZ r q) (sgnZ v v2) (sgnZ x x2) = 0 ∧ e = true ∧ res = 1) ∨ (keysB r v x e q v2 x2 f = false ∧ orZ (sgnZ r q) (sgnZ v v2) (sgnZ x x2) = 0 ∧ e = false ∧ res = -1) := by
    rw [hres]
    unfold cmpK
    cases keysB r v x e q v2 x2 f with
    | true => exact .inl ⟨rfl, rfl⟩
    | false =>
      by_cases h : orZ (sgnZ r q) (sgnZ v v2) (sgnZ x x2) = 0
      · cases e with
        | true => exact .inr (.inr (.inl ⟨rfl, h, rfl, by rw [h]; rfl⟩))
        | false => exact .inr (.inr (.inr ⟨rfl, h, rfl, by rw [h]; rfl⟩))
      · exact .inr (.inl ⟨rfl, h, by simp [h]⟩)
  have CI := Lib.hid (fun u => (cmpi_any r q).makes u)
  have CV := Lib.hid (fun u => (cmpu_any v v2).makes u)
  have CX := Lib.hid (fun u => (cmpu_any x x2).makes u)
  have CO := Lib.hid (fun b u h => or_any b (sgnZ r q) (sgnZ v v2) (sgnZ x x2) u h)
  clear hres hm
  generalize keysB r v x e q v2 x2 f = kb at *
  generalize sgnZ r q = s1 at *
  generalize sgnZ v v2 = s2 at *
  generalize sgnZ x x2 = s3 at *
  generalize orZ s1 s2 s3 = od at *
  rcases hv with ⟨rfl, rfl⟩ | ⟨rfl, h2, rfl⟩ | ⟨rfl, rfl, rfl, rfl⟩ | ⟨rfl, rfl, rfl, rfl⟩
  case' inr.inl => have g1 : (res != 0) = true := bne_iff_ne.2 h2; clear h2
  case' inl => skip
  all_goals
    go_enter Tryz.func38, Tryz.ntmps38
    have c0 := fun k => cell_of_lit K0.out.fst k
    have a0 : _ = some (Value.int .i64 r) := c0 0
    have a1 : _ = some (Value.int .u32 v) := c0 1
    have a2 : _ = some (Value.int .u32 x) := c0 2
    first | (have a3 : _ = some (Value.bool e) := c0 3) | (have a3 : _ = some (Value.bool true) := c0 3) | (have a3 : _ = some (Value.bool false) := c0 3)
    have d0 := fun k => cell_of_lit K0.out.snd k
    have b0 : _ = some (Value.int .i64 q) := d0 0
    have b1 : _ = some (Value.int .u32 v2) := d0 1
    have b2 : _ = some (Value.int .u32 x2) := d0 2
    have b3 : _ = some (Value.bool f) := d0 3
    clear c0 d0
    have la := heap_lt K0.out.fst
    have lb := heap_lt K0.out.snd
  · go_wp2
    go_ret
    exact ⟨rfl, K0.out.made⟩
  all_goals
    have ga0 := fun d os => cell_regrown a0 d os
    have ga1 := fun d os => cell_regrown a1 d os
    have ga2 := fun d os => cell_regrown a2 d os
    have gb0 := fun d os => cell_regrown b0 d os
    have gb1 := fun d os => cell_regrown b1 d os
    have gb2 := fun d os => cell_regrown b2 d os
    go_upto_region 3 with (fail)
    refine world_named (fun z => Keys2 W w.heap.size _ _ z) K0.out ?_
    intro z0 hz
    have K1 := Lib.hid hz
    clear hz K0 a0 a1 a2 a3 b0 b1 b2 b3 la lb ga0 ga1 ga2 gb0 gb1 gb2
    have c0 := fun k => cell_of_lit K1.out.fst k
    have a0 : _ = some (Value.int .i64 r) := c0 0
    have a1 : _ = some (Value.int .u32 v) := c0 1
    have a2 : _ = some (Value.int .u32 x) := c0 2
    first | (have a3 : _ = some (Value.bool e) := c0 3) | (have a3 : _ = some (Value.bool true) := c0 3) | (have a3 : _ = some (Value.bool false) := c0 3)
    have d0 := fun k => cell_of_lit K1.out.snd k
    have b0 : _ = some (Value.int .i64 q) := d0 0
    have b1 : _ = some (Value.int .u32 v2) := d0 1
    have b2 : _ = some (Value.int .u32 x2) := d0 2
    clear c0 d0
    have la := heap_lt K1.out.fst
    have lb := heap_lt K1.out.snd
    have ga0 := fun d os => cell_regrown a0 d os
    have ga1 := fun d os => cell_regrown a1 d os
    have ga2 := fun d os => cell_regrown a2 d os
    have gb0 := fun d os => cell_regrown b0 d os
    have gb1 := fun d os => cell_regrown b1 d os
    have gb2 := fun d os => cell_regrown b2 d os
    refine wp_region_made 15 [] [0, 1, 2, 3, 4, 5, 6, 7, 8, 9, 10, 11, 12, 13, 14] (by kernel_rfl) (by kernel_rfl) (by intro c a d v w h; cases d <;> exact h) ?_
    simp only [moved, picked, List.foldr_cons, List.foldr_nil, Option.elim_some, List.getElem?_toArray, List.getElem?_cons_zero, List.getElem?_cons_succ, List.drop_succ_cons, List.drop_zero]
    repeat (go_big_quiet_step ((first
      | (go_at_call 75; with_reducible exact (CI.out z0).again _ _)
      | (go_at_call 76; with_reducible exact (CV.out z0).again _ _)
      | (go_at_call 76; with_reducible exact (CX.out z0).again _ _))))
    refine wpQuiet_nil ?_
    intro u3 hu3
    have K2 := Lib.hid (K1.out.next hu3)
    clear hu3 K1 a0 a1 a2 a3 b0 b1 b2 la lb ga0 ga1 ga2 gb0 gb1 gb2
    have K3 := Lib.hid (K2.out.next (made_alloc' (Made.refl u3) (.cells #[.int .i64 s1, .int .i64 s2, .int .i64 s3] 3)))
    have HB := Lib.hid (heap_alloc_new u3 (.cells #[.int .i64 s1, .int .i64 s2, .int .i64 s3] 3))
    have c0 := fun k => cell_of_lit K3.out.fst k
    first | (have a3 : _ = some (Value.bool e) := c0 3) | (have a3 : _ = some (Value.bool true) := c0 3) | (have a3 : _ = some (Value.bool false) := c0 3)
    clear c0
    have la := heap_lt K3.out.fst
    go_wp2_with (go_at_call 74; refine (CO.out _ _ HB.out).mono ?_; rintro e w' ⟨rfl, rfl⟩)
    go_ret
    exact ⟨rfl, K3.out.made⟩
end
end Go.Proofs.YtdghnlbfmaehoaaGreatDoor
