/- What Go's cmp.Compare of two ints and cmp.Or of three return, and slices.Index of six bytes; no condition but those named. · What package pack's compare returns of two keys; no condition. · How package pack tells two of a row apart, as plain data: the order of its keys is the document's; keyed instructions in memory; no condition but those named. · An instruction with its key, as package pack's code returns it, and the function that is handed to the sort; no condition but those named. · What Go's slices.Grow of nil and slices.Concat return of keyed instructions in memory; no condition but those named. · What package pack's rowOf, instsOf and Order return, for any instructions in memory, in every world that holds the three tables. · What package pack's parse, singly and paired return; no condition but those named. · What Words of package pack returns, for every packet in memory, in every world that holds the three tables. -/
import Derived.Test.YtanjmoiepmadhaaGreatDoorGBase
import Derived.Great.BuildSlice
import Derived.Laws.StructEq
import Derived.Deep.Cut
import Derived.Deep.RegionLaw
import Derived.Test.YtanjmoiepmadhaaGreatDoorGSort
import Derived.Test.YtanjmoiepmadhaaGreatDoorGPack
import Derived.Test.YtanjmoiepmadhaaGreatDoorGEnc
import Derived.Test.YtanjmoiepmadhaaGreatDoorGOf
import Derived.Lib.AppendZeros
import Derived.Test.YtanjmoiepmadhaaGreatDoorLegalCode
namespace Go.Proofs.YtanjmoiepmadhaaGreatDoor
section
set_option maxRecDepth 100000
open Go.ChangeShapes Go.WideShapes Go.ChangeAt Go.RowKit Go.Sort BigFrame

def sgnZ (a b : Int) : Int := if a < b then -1 else if b < a then 1 else 0
def orZ (a b c : Int) : Int := if a ≠ 0 then a else if b ≠ 0 then b else c
theorem sgn_ways (a b : Int) : (a < b ∧ sgnZ a b = -1) ∨ (b < a ∧ sgnZ a b = 1) ∨ (a = b ∧ sgnZ a b = 0) := by
  unfold sgnZ
  by_cases h1 : a < b
  · exact .inl ⟨h1, if_pos h1⟩
  · by_cases h2 : b < a
    · exact .inr (.inl ⟨h2, by rw [if_neg h1, if_pos h2]⟩)
    · exact .inr (.inr ⟨by omega, by rw [if_neg h1, if_neg h2]⟩)
theorem made_alloc' {W w : World} (h : Made W w) (o : Obj) : Made W (w.alloc o) := h.alloc h.size o
section
attribute [local irreducible] World.cell?
set_option maxRecDepth 100000 in
theorem cmpi_any (a b : Int) : Still Tryz.prog 97 #[.int .i64 a, .int .i64 b] (.int .i64 (sgnZ a b)) := by
  intro w
  have hs := sgn_ways a b
  generalize sgnZ a b = s at *
  rcases hs with ⟨h, rfl⟩ | ⟨h, rfl⟩ | ⟨h, rfl⟩
  case' inl => have g1 : decide (a < b) = true := decide_eq_true h
  case' inr.inl => have g1 : decide (a < b) = false := decide_eq_false (by omega); have g2 : decide (a > b) = true := decide_eq_true h
  case' inr.inr => have g1 : decide (a < b) = false := decide_eq_false (by omega); have g2 : decide (a > b) = false := decide_eq_false (by omega)
  all_goals
    clear h
    go_enter Tryz.func97, Tryz.ntmps97
    go_wp2
    go_ret
    exact ⟨rfl, rfl⟩
set_option maxRecDepth 100000 in
theorem cmpu_any (a b : Int) : Still Tryz.prog 98 #[.int .u32 a, .int .u32 b] (.int .i64 (sgnZ a b)) := by
  intro w
  have hs := sgn_ways a b
  generalize sgnZ a b = s at *
  rcases hs with ⟨h, rfl⟩ | ⟨h, rfl⟩ | ⟨h, rfl⟩
  case' inl => have g1 : decide (a < b) = true := decide_eq_true h
  case' inr.inl => have g1 : decide (a < b) = false := decide_eq_false (by omega); have g2 : decide (a > b) = true := decide_eq_true h
  case' inr.inr => have g1 : decide (a < b) = false := decide_eq_false (by omega); have g2 : decide (a > b) = false := decide_eq_false (by omega)
  all_goals
    clear h
    go_enter Tryz.func98, Tryz.ntmps98
    go_wp2
    go_ret
    exact ⟨rfl, rfl⟩
set_option maxRecDepth 100000 in
theorem or_any (b : Nat) (x y z : Int) (w : World) (hb : w.heap[b]? = some (.cells #[.int .i64 x, .int .i64 y, .int .i64 z] 3 (0, 0))) :
    Calls Tryz.prog 96 #[.slice (some ⟨b, 0, none⟩) 3 3] w fun e w' => e = .returned (.int .i64 (orZ x y z)) ∧ w = w' := by
  have c0 : w.cell? ⟨b, 0, none⟩ = some (.int .i64 x) := cell_of_lit (cs := [.int .i64 x, .int .i64 y, .int .i64 z]) hb 0
  have c1 : w.cell? ⟨b, 1, none⟩ = some (.int .i64 y) := cell_of_lit (cs := [.int .i64 x, .int .i64 y, .int .i64 z]) hb 1
  have c2 : w.cell? ⟨b, 2, none⟩ = some (.int .i64 z) := cell_of_lit (cs := [.int .i64 x, .int .i64 y, .int .i64 z]) hb 2
  have lb := heap_lt hb
  have hv : (x ≠ 0 ∧ orZ x y z = x) ∨ (x = 0 ∧ y ≠ 0 ∧ orZ x y z = y) ∨ (x = 0 ∧ y = 0 ∧ z ≠ 0 ∧ orZ x y z = z) ∨ (x = 0 ∧ y = 0 ∧ z = 0 ∧ orZ x y z = 0) := by
    unfold orZ
    by_cases h1 : x = 0
    · rw [if_neg (fun h => h h1)]
      by_cases h2 : y = 0
      · rw [if_neg (fun h => h h2)]
        by_cases h3 : z = 0
        · exact .inr (.inr (.inr ⟨h1, h2, h3, h3⟩))
        · exact .inr (.inr (.inl ⟨h1, h2, h3, rfl⟩))
      · rw [if_pos h2]
        exact .inr (.inl ⟨h1, h2, rfl⟩)
    · rw [if_pos h1]
      exact .inl ⟨h1, rfl⟩
  generalize orZ x y z = v at *
  clear hb
  rcases hv with ⟨h1, rfl⟩ | ⟨rfl, h2, rfl⟩ | ⟨rfl, rfl, h3, rfl⟩ | ⟨rfl, rfl, rfl, rfl⟩
  · have g1 : (v != 0) = true := bne_iff_ne.2 h1
    clear h1
    go_enter Tryz.func96, Tryz.ntmps96
    go_wp2_with (fail)
    refine wp_loop_rounds 1 ?_
    rewrite [rounds_succ]
    go_wp2
    go_ret
    exact ⟨rfl, rfl⟩
  · have g1 : (v != 0) = true := bne_iff_ne.2 h2
    clear h2
    go_enter Tryz.func96, Tryz.ntmps96
    go_wp2_with (fail)
    refine wp_loop_rounds 2 ?_
    rewrite [rounds_succ]
    go_wp2_with (fail)
    rewrite [rounds_succ]
    go_wp2
    go_ret
    exact ⟨rfl, rfl⟩
  · have g1 : (v != 0) = true := bne_iff_ne.2 h3
    clear h3
    go_enter Tryz.func96, Tryz.ntmps96
    go_wp2_with (fail)
    refine wp_loop_rounds 3 ?_
    rewrite [rounds_succ]
    go_wp2_with (fail)
    rewrite [rounds_succ]
    go_wp2_with (fail)
    rewrite [rounds_succ]
    go_wp2
    go_ret
    exact ⟨rfl, rfl⟩
  · go_enter Tryz.func96, Tryz.ntmps96
    go_wp2_with (fail)
    refine wp_loop_rounds 4 ?_
    rewrite [rounds_succ]
    go_wp2_with (fail)
    rewrite [rounds_succ]
    go_wp2_with (fail)
    rewrite [rounds_succ]
    go_wp2_with (fail)
    rewrite [rounds_succ]
    go_wp2
    go_ret
    exact ⟨rfl, rfl⟩
abbrev rankRow : List Value := [.int .u8 6, .int .u8 5, .int .u8 2, .int .u8 1, .int .u8 3, .int .u8 4]
def placeZ (c : Int) : Int := if c = 6 then 0 else if c = 5 then 1 else if c = 2 then 2 else if c = 1 then 3 else if c = 3 then 4 else 5
set_option maxRecDepth 100000 in
theorem idx6_any (b : Nat) (c : Int) (h1 : 1 ≤ c) (h6 : c ≤ 6) (w : World) (hb : w.heap[b]? = some (.cells rankRow.toArray 5 (0, 0))) :
    Calls Tryz.prog 127 #[.slice (some ⟨b, 0, none⟩) 6 6, .int .u8 c] w fun e w' => e = .returned (.int .i64 (placeZ c)) ∧ w = w' := by
  have c0 : w.cell? ⟨b, 0, none⟩ = some (.int .u8 6) := cell_of_lit (cs := rankRow) hb 0
  have c1 : w.cell? ⟨b, 1, none⟩ = some (.int .u8 5) := cell_of_lit (cs := rankRow) hb 1
  have c2 : w.cell? ⟨b, 2, none⟩ = some (.int .u8 2) := cell_of_lit (cs := rankRow) hb 2
  have c3 : w.cell? ⟨b, 3, none⟩ = some (.int .u8 1) := cell_of_lit (cs := rankRow) hb 3
  have c4 : w.cell? ⟨b, 4, none⟩ = some (.int .u8 3) := cell_of_lit (cs := rankRow) hb 4
  have c5 : w.cell? ⟨b, 5, none⟩ = some (.int .u8 4) := cell_of_lit (cs := rankRow) hb 5
  have lb := heap_lt hb
  clear hb
  have hc : c = 6 ∨ c = 5 ∨ c = 2 ∨ c = 1 ∨ c = 3 ∨ c = 4 := by omega
  clear h1 h6
  rcases hc with rfl | rfl | rfl | rfl | rfl | rfl
  · go_enter Tryz.func127, Tryz.ntmps127
    go_wp2_with (fail)
    refine wp_loop_rounds 1 ?_
    rewrite [rounds_succ]
    go_wp2
    go_ret
    exact ⟨rfl, rfl⟩
  · go_enter Tryz.func127, Tryz.ntmps127
    go_wp2_with (fail)
    refine wp_loop_rounds 2 ?_
    rewrite [rounds_succ]
    go_wp2_with (fail)
    rewrite [rounds_succ]
    go_wp2
    go_ret
    exact ⟨rfl, rfl⟩
  · go_enter Tryz.func127, Tryz.ntmps127
    go_wp2_with (fail)
    refine wp_loop_rounds 3 ?_
    rewrite [rounds_succ]
    go_wp2_with (fail)
    rewrite [rounds_succ]
    go_wp2_with (fail)
    rewrite [rounds_succ]
    go_wp2
    go_ret
    exact ⟨rfl, rfl⟩
  · go_enter Tryz.func127, Tryz.ntmps127
    go_wp2_with (fail)
    refine wp_loop_rounds 4 ?_
    rewrite [rounds_succ]
    go_wp2_with (fail)
    rewrite [rounds_succ]
    go_wp2_with (fail)
    rewrite [rounds_succ]
    go_wp2_with (fail)
    rewrite [rounds_succ]
    go_wp2
    go_ret
    exact ⟨rfl, rfl⟩
  · go_enter Tryz.func127, Tryz.ntmps127
    go_wp2_with (fail)
    refine wp_loop_rounds 5 ?_
    rewrite [rounds_succ]
    go_wp2_with (fail)
    rewrite [rounds_succ]
    go_wp2_with (fail)
    rewrite [rounds_succ]
    go_wp2_with (fail)
    rewrite [rounds_succ]
    go_wp2_with (fail)
    rewrite [rounds_succ]
    go_wp2
    go_ret
    exact ⟨rfl, rfl⟩
  · go_enter Tryz.func127, Tryz.ntmps127
    go_wp2_with (fail)
    refine wp_loop_rounds 6 ?_
    rewrite [rounds_succ]
    go_wp2_with (fail)
    rewrite [rounds_succ]
    go_wp2_with (fail)
    rewrite [rounds_succ]
    go_wp2_with (fail)
    rewrite [rounds_succ]
    go_wp2_with (fail)
    rewrite [rounds_succ]
    go_wp2_with (fail)
    rewrite [rounds_succ]
    go_wp2
    go_ret
    exact ⟨rfl, rfl⟩
set_option maxRecDepth 100000 in
theorem prank_any (W : World) (c : Int) (h1 : 1 ≤ c) (h6 : c ≤ 6) : Makes Tryz.prog W 93 #[.int .u8 c] (.int .i64 (placeZ c)) := by
  intro w hm
  have HM := Lib.hid (made_alloc' hm (.cells rankRow.toArray 5))
  have HB := Lib.hid (heap_alloc_new w (.cells rankRow.toArray 5))
  have HI := Lib.hid (fun u (hu : u.heap[w.heap.size]? = some (.cells rankRow.toArray 5 (0, 0))) => idx6_any w.heap.size c h1 h6 u hu)
  clear hm h1 h6
  go_enter Tryz.func93, Tryz.ntmps93
  go_wp2_with (go_at_call 127; refine (HI.out _ HB.out).mono ?_; rintro e w' ⟨rfl, rfl⟩)
  go_ret
  exact ⟨rfl, HM.out⟩
end
end
section
set_option maxRecDepth 100000
open Go.ChangeShapes Go.WideShapes Go.ChangeAt Go.RowKit Go.Sort BigFrame

abbrev kV (r v x : Int) (e : Bool) : Value := .agg #[.int .i64 r, .int .u32 v, .int .u32 x, .bool e]
abbrev kL (r v x : Int) (e : Bool) : List Value := [.int .i64 r, .int .u32 v, .int .u32 x, .bool e]
def keysB (r v x : Int) (e : Bool) (q v2 x2 : Int) (f : Bool) : Bool := decide (r = q) && decide (v = v2) && decide (x = x2) && (e == f)
def cmpK (r v x : Int) (e : Bool) (q v2 x2 : Int) (f : Bool) : Int := if keysB r v x e q v2 x2 f = true then 0 else if orZ (sgnZ r q) (sgnZ v v2) (sgnZ x x2) ≠ 0 then orZ (sgnZ r q) (sgnZ v v2) (sgnZ x x2) else if e = true then 1 else -1
theorem run_key_eql (r v x : Int) (e : Bool) (q v2 x2 : Int) (f : Bool) (w : World) : (binOp .eql 91 (kV r v x e) (kV q v2 x2 f)).run Tryz.prog w = .ok (.bool (keysB r v x e q v2 x2 f)) w := by
  unfold keysB
  by_cases h0 : r = q
  rotate_left
  · simp [go_sem, h0]
  subst h0
  by_cases h1 : v = v2
  rotate_left
  · simp [go_sem, h1]
  subst h1
  by_cases h2 : x = x2
  rotate_left
  · simp [go_sem, h2]
  subst h2
  cases e <;> cases f <;> simp [go_sem]
/-- Two keys in blocks of a call's own. -/
structure Keys2 (W : World) (B : Nat) (L M : List Value) (w : World) : Prop where
  made : Made W w
  fst : w.heap[B]? = some (.cells L.toArray 91 (0, 0))
  snd : w.heap[B + 1]? = some (.cells M.toArray 91 (0, 0))
theorem Keys2.next {W w w' : World} {B : Nat} {L M : List Value} (h : Keys2 W B L M w) (hm : Made w w') : Keys2 W B L M w' := ⟨Made.trans h.made hm, hm.heap h.fst, hm.heap h.snd⟩
theorem keys_start {W w : World} (hm : Made W w) (L M : List Value) : Keys2 W w.heap.size L M ((w.alloc (.cells L.toArray 91)).alloc (.cells M.toArray 91)) := by
  have m1 := hm.alloc hm.size (.cells L.toArray 91)
  have b1 : (w.alloc (.cells L.toArray 91)).heap[w.heap.size]? = some (.cells L.toArray 91 (0, 0)) := heap_alloc_new w _
  exact ⟨m1.alloc m1.size _, (Below.heap_alloc _ _ _ (heap_lt b1)).trans b1, heap_at (by simp)⟩
section
attribute [local irreducible] World.cell?
set_option maxRecDepth 100000 in
set_option maxHeartbeats 4000000 in
theorem pcompare_any (W : World) (r v x : Int) (e : Bool) (q v2 x2 : Int) (f : Bool) : Makes Tryz.prog W 64 #[kV r v x e, kV q v2 x2 f] (.int .i64 (cmpK r v x e q v2 x2 f)) := by
  intro w hm
  have K0 := Lib.hid (keys_start hm (kL r v x e) (kL q v2 x2 f))
  have hop := fun u => run_key_eql r v x e q v2 x2 f u
  obtain ⟨res, hres⟩ : ∃ z, z = cmpK r v x e q v2 x2 f := ⟨_, rfl⟩
  rewrite [← hres]
  have hv : (keysB r v x e q v2 x2 f = true ∧ res = 0) ∨ (keysB r v x e q v2 x2 f = false ∧ orZ (sgnZ r q) (sgnZ v v2) (sgnZ x x2) ≠ 0 ∧ res = orZ (sgnZ r q) (sgnZ v v2) (sgnZ x x2)) ∨ (keysB r v x e q v2 x2 f = false ∧ orZ (sgnZ r q) (sgnZ v v2) (sgnZ x x2) = 0 ∧ e = true ∧ res = 1) ∨ (keysB r v x e q v2 x2 f = false ∧ orZ (sgnZ r q) (sgnZ v v2) (sgnZ x x2) = 0 ∧ e = false ∧ res = -1) := by
    rw [hres]
    unfold cmpK
    cases keysB r v x e q v2 x2 f with
    | true => exact .inl ⟨rfl, rfl⟩
    | false =>
      by_cases h : orZ (sgnZ r q) (sgnZ v v2) (sgnZ x x2) = 0
      · cases e with
        | true => exact .inr (.inr (.inl ⟨rfl, h, rfl, by rw [h]; rfl⟩))
        | false => exact .inr (.inr (.inr ⟨rfl, h, rfl, by rw [h]; rfl⟩))
      · exact .inr (.inl ⟨rfl, h, by simp [h]⟩)
  have CI := Lib.hid (fun u => (cmpi_any r q).makes u)
  have CV := Lib.hid (fun u => (cmpu_any v v2).makes u)
  have CX := Lib.hid (fun u => (cmpu_any x x2).makes u)
  have CO := Lib.hid (fun b u h => or_any b (sgnZ r q) (sgnZ v v2) (sgnZ x x2) u h)
  clear hres hm
  generalize keysB r v x e q v2 x2 f = kb at *
  generalize sgnZ r q = s1 at *
  generalize sgnZ v v2 = s2 at *
  generalize sgnZ x x2 = s3 at *
  generalize orZ s1 s2 s3 = od at *
  rcases hv with ⟨rfl, rfl⟩ | ⟨rfl, h2, rfl⟩ | ⟨rfl, rfl, rfl, rfl⟩ | ⟨rfl, rfl, rfl, rfl⟩
  case' inr.inl => have g1 : (res != 0) = true := bne_iff_ne.2 h2; clear h2
  case' inl => skip
  all_goals
    go_enter Tryz.func64, Tryz.ntmps64
    have c0 := fun k => cell_of_lit K0.out.fst k
    have a0 : _ = some (Value.int .i64 r) := c0 0
    have a1 : _ = some (Value.int .u32 v) := c0 1
    have a2 : _ = some (Value.int .u32 x) := c0 2
    first | (have a3 : _ = some (Value.bool e) := c0 3) | (have a3 : _ = some (Value.bool true) := c0 3) | (have a3 : _ = some (Value.bool false) := c0 3)
    have d0 := fun k => cell_of_lit K0.out.snd k
    have b0 : _ = some (Value.int .i64 q) := d0 0
    have b1 : _ = some (Value.int .u32 v2) := d0 1
    have b2 : _ = some (Value.int .u32 x2) := d0 2
    have b3 : _ = some (Value.bool f) := d0 3
    clear c0 d0
    have la := heap_lt K0.out.fst
    have lb := heap_lt K0.out.snd
  · go_wp2
    go_ret
    exact ⟨rfl, K0.out.made⟩
  all_goals
    have ga0 := fun d os => cell_regrown a0 d os
    have ga1 := fun d os => cell_regrown a1 d os
    have ga2 := fun d os => cell_regrown a2 d os
    have gb0 := fun d os => cell_regrown b0 d os
    have gb1 := fun d os => cell_regrown b1 d os
    have gb2 := fun d os => cell_regrown b2 d os
    go_upto_region 3 with (fail)
    refine world_named (fun z => Keys2 W w.heap.size _ _ z) K0.out ?_
    intro z0 hz
    have K1 := Lib.hid hz
    clear hz K0 a0 a1 a2 a3 b0 b1 b2 b3 la lb ga0 ga1 ga2 gb0 gb1 gb2
    have c0 := fun k => cell_of_lit K1.out.fst k
    have a0 : _ = some (Value.int .i64 r) := c0 0
    have a1 : _ = some (Value.int .u32 v) := c0 1
    have a2 : _ = some (Value.int .u32 x) := c0 2
    first | (have a3 : _ = some (Value.bool e) := c0 3) | (have a3 : _ = some (Value.bool true) := c0 3) | (have a3 : _ = some (Value.bool false) := c0 3)
    have d0 := fun k => cell_of_lit K1.out.snd k
    have b0 : _ = some (Value.int .i64 q) := d0 0
    have b1 : _ = some (Value.int .u32 v2) := d0 1
    have b2 : _ = some (Value.int .u32 x2) := d0 2
    clear c0 d0
    have la := heap_lt K1.out.fst
    have lb := heap_lt K1.out.snd
    have ga0 := fun d os => cell_regrown a0 d os
    have ga1 := fun d os => cell_regrown a1 d os
    have ga2 := fun d os => cell_regrown a2 d os
    have gb0 := fun d os => cell_regrown b0 d os
    have gb1 := fun d os => cell_regrown b1 d os
    have gb2 := fun d os => cell_regrown b2 d os
    refine wp_region_made 15 [] [0, 1, 2, 3, 4, 5, 6, 7, 8, 9, 10, 11, 12, 13, 14] (by kernel_rfl) (by kernel_rfl) (by intro c a d v w h; cases d <;> exact h) ?_
    simp only [moved, picked, List.foldr_cons, List.foldr_nil, Option.elim_some, List.getElem?_toArray, List.getElem?_cons_zero, List.getElem?_cons_succ, List.drop_succ_cons, List.drop_zero]
    repeat (go_big_quiet_step ((first
      | (go_at_call 97; with_reducible exact (CI.out z0).again _ _)
      | (go_at_call 98; with_reducible exact (CV.out z0).again _ _)
      | (go_at_call 98; with_reducible exact (CX.out z0).again _ _))))
    refine wpQuiet_nil ?_
    intro u3 hu3
    have K2 := Lib.hid (K1.out.next hu3)
    clear hu3 K1 a0 a1 a2 a3 b0 b1 b2 la lb ga0 ga1 ga2 gb0 gb1 gb2
    have K3 := Lib.hid (K2.out.next (made_alloc' (Made.refl u3) (.cells #[.int .i64 s1, .int .i64 s2, .int .i64 s3] 3)))
    have HB := Lib.hid (heap_alloc_new u3 (.cells #[.int .i64 s1, .int .i64 s2, .int .i64 s3] 3))
    have c0 := fun k => cell_of_lit K3.out.fst k
    first | (have a3 : _ = some (Value.bool e) := c0 3) | (have a3 : _ = some (Value.bool true) := c0 3) | (have a3 : _ = some (Value.bool false) := c0 3)
    clear c0
    have la := heap_lt K3.out.fst
    go_wp2_with (go_at_call 96; refine (CO.out _ _ HB.out).mono ?_; rintro e w' ⟨rfl, rfl⟩)
    go_ret
    exact ⟨rfl, K3.out.made⟩
end
end
section
set_option maxRecDepth 100000
open Go.ChangeShapes Go.WideShapes Go.ChangeAt Go.RowKit Go.Sort BigFrame

def cmpE (a b : Ent) : Int := cmpK a.rank a.word a.upper a.ext b.rank b.word b.upper b.ext
def bZ (b : Bool) : Int := if b then 1 else 0
theorem cmp_neg (a b : Ent) : cmpE a b < 0 ↔ a.rank < b.rank ∨ (a.rank = b.rank ∧ (a.word < b.word ∨ (a.word = b.word ∧ (a.upper < b.upper ∨ (a.upper = b.upper ∧ bZ a.ext < bZ b.ext))))) := by
  unfold cmpE cmpK keysB orZ
  rcases sgn_ways a.rank b.rank with ⟨h1, s1⟩ | ⟨h1, s1⟩ | ⟨h1, s1⟩
  · rw [s1, decide_eq_false (show ¬ a.rank = b.rank by omega)]
    simp only [Bool.false_and, Bool.false_eq_true, if_false]
    simp [h1]
  · rw [s1, decide_eq_false (show ¬ a.rank = b.rank by omega)]
    simp only [Bool.false_and, Bool.false_eq_true, if_false]
    simp
    omega
  · rw [s1, decide_eq_true h1]
    rcases sgn_ways a.word b.word with ⟨h2, s2⟩ | ⟨h2, s2⟩ | ⟨h2, s2⟩
    · rw [s2, decide_eq_false (show ¬ a.word = b.word by omega)]
      simp only [Bool.false_and, Bool.and_false, Bool.false_eq_true, if_false]
      simp [h1, h2]
    · rw [s2, decide_eq_false (show ¬ a.word = b.word by omega)]
      simp only [Bool.false_and, Bool.and_false, Bool.false_eq_true, if_false]
      simp
      omega
    · rw [s2, decide_eq_true h2]
      rcases sgn_ways a.upper b.upper with ⟨h3, s3⟩ | ⟨h3, s3⟩ | ⟨h3, s3⟩
      · rw [s3, decide_eq_false (show ¬ a.upper = b.upper by omega)]
        simp only [Bool.false_and, Bool.and_false, Bool.false_eq_true, if_false]
        simp [h1, h2, h3]
      · rw [s3, decide_eq_false (show ¬ a.upper = b.upper by omega)]
        simp only [Bool.false_and, Bool.and_false, Bool.false_eq_true, if_false]
        simp
        omega
      · rw [s3, decide_eq_true h3, h1, h2, h3]
        unfold bZ
        cases a.ext <;> cases b.ext <;> simp
theorem le_cmp (a b : Ent) : leZ cmpE a b = true ↔ a.rank < b.rank ∨ (a.rank = b.rank ∧ (a.word < b.word ∨ (a.word = b.word ∧ (a.upper < b.upper ∨ (a.upper = b.upper ∧ bZ a.ext ≤ bZ b.ext))))) := by
  unfold leZ
  rw [Bool.not_eq_true', decide_eq_false_iff_not, cmp_neg]
  omega
theorem cmp_trans (a b c : Ent) (h1 : leZ cmpE a b = true) (h2 : leZ cmpE b c = true) : leZ cmpE a c = true := by
  rw [le_cmp] at *
  omega
theorem cmp_anti (a b : Ent) (h : cmpE a b < 0) : leZ cmpE a b = true := by
  rw [cmp_neg] at h
  rw [le_cmp]
  omega
/-- An instruction with its key at an address. -/
def entP (pc : Int) (x : In) : Ent := ⟨x, rankZ x.op, wordP x pc, upP x pc, x.ext⟩
theorem le_ent (pc : Int) (a b : In) : leZ cmpE (entP pc a) (entP pc b) = leB pc a b := by
  rw [Bool.eq_iff_iff, le_cmp, le_iff]
  exact Iff.rfl
theorem map_ent (pc : Int) (l : List In) : (l.map (entP pc)).map Ent.x = l := by
  rw [List.map_map]
  exact (List.map_congr_left (g := id) fun x _ => rfl).trans (List.map_id l)
/-- Whatever is sorted by the keys is the row. -/
theorem sorted_row {pc : Int} {l : List In} (hs : Said pc l) {r : List Ent} (hp : r.Perm (l.map (entP pc))) (h : r.Pairwise (fun a b => leZ cmpE a b = true)) : r = (rowP pc l).map (entP pc) := by
  have hk : ∀ e ∈ r, entP pc e.x = e := fun e he => by
    obtain ⟨x, _, rfl⟩ := List.mem_map.1 (hp.mem_iff.1 he)
    rfl
  have e1 : r = (r.map Ent.x).map (entP pc) := by
    rw [List.map_map]
    exact ((List.map_congr_left (g := id) fun e he => hk e he).trans (List.map_id r)).symm
  have hp2 : (r.map Ent.x).Perm l := by
    have := hp.map Ent.x
    rwa [map_ent] at this
  have hs2 : (r.map Ent.x).Pairwise (fun a b => leB pc a b = true) := by
    rw [e1, List.pairwise_map] at h
    exact h.imp fun hab => by rw [← le_ent]; exact hab
  rw [e1, row_one hs hp2 hs2]
/-! Keyed instructions in memory. -/
structure Ents (w : World) (ao : Option Addr) (cap : Nat) (l : List Ent) : Prop where
  room : l.length ≤ cap
  max : cap ≤ maxLen
  bare : ao = none → l = [] ∧ cap = 0
  cell : ∀ t (h : t < l.length), ∃ b o, ao = some ⟨b, o, none⟩ ∧ ∀ r, r < 15 → w.cell? ⟨b, o + t * 15 + r, none⟩ = (l[t].cells)[r]?
theorem ents_made {w w' : World} {ao : Option Addr} {cap : Nat} {l : List Ent} (h : Ents w ao cap l) (hm : Made w w') : Ents w' ao cap l :=
  ⟨h.room, h.max, h.bare, fun t ht => by
    obtain ⟨b, o, e, hcell⟩ := h.cell t ht
    refine ⟨b, o, e, fun r hr => ?_⟩
    have h1 := hcell r hr
    have h2 : r < (l[t].cells).length := hr
    rw [List.getElem?_eq_getElem h2] at h1 ⊢
    exact (World.cell?_of_block (hm.block b (World.block_lt_of_cell? w _ h1))).trans h1⟩
theorem ents_cells {w : World} {ao : Option Addr} {cap : Nat} {l : List Ent} (h : Ents w ao cap l) {t : Nat} (ht : t < l.length) (e : Ent) (he : l[t] = e) : ∃ b o, ao = some ⟨b, o, none⟩ ∧
    w.cell? ⟨b, o + t * 15, none⟩ = some (.int .u8 e.x.op) ∧ w.cell? ⟨b, o + t * 15 + 1, none⟩ = some (.int .u8 e.x.d) ∧ w.cell? ⟨b, o + t * 15 + 2, none⟩ = some (.int .u8 e.x.s) ∧ w.cell? ⟨b, o + t * 15 + 3, none⟩ = some (.int .u8 e.x.t) ∧
    w.cell? ⟨b, o + t * 15 + 4, none⟩ = some (.int .u8 e.x.n) ∧ w.cell? ⟨b, o + t * 15 + 5, none⟩ = some (.int .u8 e.x.pred) ∧ w.cell? ⟨b, o + t * 15 + 6, none⟩ = some (.int .u8 e.x.mode) ∧ w.cell? ⟨b, o + t * 15 + 7, none⟩ = some (.bool e.x.new) ∧
    w.cell? ⟨b, o + t * 15 + 8, none⟩ = some (.bool e.x.ext) ∧ w.cell? ⟨b, o + t * 15 + 9, none⟩ = some (.int .u16 e.x.count) ∧ w.cell? ⟨b, o + t * 15 + 10, none⟩ = some (.int .i64 e.x.imm) ∧
    w.cell? ⟨b, o + t * 15 + 11, none⟩ = some (.int .i64 e.rank) ∧ w.cell? ⟨b, o + t * 15 + 12, none⟩ = some (.int .u32 e.word) ∧ w.cell? ⟨b, o + t * 15 + 13, none⟩ = some (.int .u32 e.upper) ∧ w.cell? ⟨b, o + t * 15 + 14, none⟩ = some (.bool e.ext) := by
  subst he
  obtain ⟨b, o, e, hc⟩ := h.cell t ht
  exact ⟨b, o, e, hc 0 (by omega), hc 1 (by omega), hc 2 (by omega), hc 3 (by omega), hc 4 (by omega), hc 5 (by omega), hc 6 (by omega), hc 7 (by omega), hc 8 (by omega), hc 9 (by omega), hc 10 (by omega), hc 11 (by omega), hc 12 (by omega), hc 13 (by omega), hc 14 (by omega)⟩
theorem owns_ents {w : World} {B : Nat} {v : Value} {n : Nat} {l : List Ent} (h : w.ownsRow B 93 15 v n (flatE l)) : l.length = n ∧ ∃ so cap, v = .slice so n cap ∧ Ents w so cap l := by
  have hl : l.length = n := by have := h.1; rw [flatE_len] at this; omega
  refine ⟨hl, ?_⟩
  rcases h.2 with ⟨rfl, rfl⟩ | ⟨g, cap, cur, rfl, _, hg, hn, hm, _⟩
  · obtain rfl := List.eq_nil_of_length_eq_zero hl
    exact ⟨none, 0, rfl, Nat.le_refl _, Nat.zero_le _, fun _ => ⟨rfl, rfl⟩, fun t ht => absurd ht (Nat.not_lt_zero t)⟩
  · refine ⟨_, cap, rfl, by omega, hm, fun h => by simp at h, fun t ht => ⟨g, 0, rfl, fun r hr => ?_⟩⟩
    rw [Nat.zero_add]
    exact (h.cellAt (t * 15 + r) (by omega)).trans (flatE_at l t r ht hr)
theorem cell_oneE (e : Ent) : ∀ u ∈ e.cells, u.oneCell' = true := by
  intro u hu
  simp only [Ent.cells, List.mem_cons, List.not_mem_nil, or_false] at hu
  rcases hu with rfl | rfl | rfl | rfl | rfl | rfl | rfl | rfl | rfl | rfl | rfl | rfl | rfl | rfl | rfl <;> rfl
theorem flatE_one (l : List Ent) : ∀ u ∈ flatE l, u.oneCell' = true := by
  intro u hu
  obtain ⟨x, _, h⟩ := List.mem_flatMap.1 hu
  exact cell_oneE x u h
theorem flatE_app (a b : List Ent) : flatE (a ++ b) = flatE a ++ flatE b := List.flatMap_append
abbrev zeroE : Ent := ⟨inZero, 0, 0, 0, false⟩
theorem ent_row : (Tryz.prog.info? 93).map (fun i => (i.zero, i.size, i.bytes)) = some (some (Ent.val zeroE), 15, 48) := by kernel_rfl
theorem made_flat {cs : List Value} {n s : Nat} (hs : cs.length = s) (F : List Value) (hF : F.length = n * s) (hat : ∀ t r, t < n → r < s → F[t * s + r]? = cs[r]?) : (madeCells cs.toArray (n * s)).toList = F := by
  refine List.ext_getElem (by rw [Array.length_toList, size_madeCells, hF]) fun j h1 h2 => ?_
  have hj : j < n * s := by rw [← hF]; exact h2
  have hs0 : 0 < s := by
    rcases Nat.eq_zero_or_pos s with h | h
    · subst h; simp at hj
    · exact h
  have hr : j % s < s := Nat.mod_lt _ hs0
  have e := hat (j / s) (j % s) (Nat.div_lt_of_lt_mul (by rwa [Nat.mul_comm] at hj)) hr
  rw [Nat.div_add_mod' j s, List.getElem?_eq_getElem h2, List.getElem?_eq_getElem (by omega)] at e
  rw [Option.some.inj e]
  simp [madeCells, hs, hr]
theorem made_ents (n : Nat) : (madeCells (Ent.val zeroE).cells (n * 15)).toList = flatE (List.replicate n zeroE) :=
  made_flat (cs := zeroE.cells) (s := 15) rfl _ (by rw [flatE_len, List.length_replicate]) fun t r ht hr => by
    rw [flatE_at _ t r (by simpa using ht) hr, List.getElem_replicate]
theorem made_insts (n : Nat) : (madeCells (In.val inZero).cells (n * 11)).toList = flatI (List.replicate n inZero) :=
  made_flat (cs := inZero.cells) (s := 11) rfl _ (by rw [flatI_len, List.length_replicate]) fun t r ht hr => by
    rw [flatI_at _ t r (by simpa using ht) hr, List.getElem_replicate]
/-- What lies in memory, as the cells that an append asks for. -/
theorem ents_olds {w : World} {ao : Option Addr} {cap : Nat} {l : List Ent} (h : Ents w ao cap l) : ∀ ad, ao = some ad → ∀ j u, (flatE l)[j]? = some u → w.cell? (ad.add j) = some u := by
  intro ad had j u hu
  have hj : j < l.length * 15 := by
    have := (List.getElem?_eq_some_iff.1 hu).1
    rwa [flatE_len] at this
  obtain ⟨b, o, e, hc⟩ := h.cell (j / 15) (by omega)
  rw [had] at e
  obtain rfl := Option.some.inj e
  rw [add_plain, show o + j = o + j / 15 * 15 + j % 15 by omega, hc (j % 15) (by omega), ← flatE_at l (j / 15) (j % 15) (by omega) (by omega), show j / 15 * 15 + j % 15 = j by omega]
  exact hu
/-- A part of keyed instructions in memory. -/
theorem ents_part {w : World} {b o cap : Nat} {l : List Ent} (h : Ents w (some ⟨b, o, none⟩) cap l) {p q : Nat} (hpq : p ≤ q) (hq : q ≤ l.length) : Ents w (some ⟨b, o + p * 15, none⟩) (cap - p) ((l.take q).drop p) := by
  have hr := h.room
  refine ⟨by rw [List.length_drop, List.length_take]; omega, Nat.le_trans (Nat.sub_le _ _) h.max, fun h => by simp at h, fun t ht => ?_⟩
  rw [List.length_drop, List.length_take] at ht
  obtain ⟨b', o', e, hc⟩ := h.cell (p + t) (by omega)
  obtain ⟨rfl, rfl⟩ : b = b' ∧ o = o' := by simpa using e
  refine ⟨b, _, rfl, fun r hr => ?_⟩
  rw [show o + p * 15 + t * 15 + r = o + (p + t) * 15 + r by omega, hc r hr, List.getElem_drop, List.getElem_take]
/-! The words of a row, without their parse bits. -/
def oneE (e : Ent) : List Int := if e.ext then [wordZ 0 e.upper 0, e.word] else [e.word]
def bareE (l : List Ent) : List Int := l.flatMap oneE
theorem bareE_ent (pc : Int) (l : List In) : bareE (l.map (entP pc)) = bareW pc l := by
  unfold bareE bareW
  rw [List.flatMap_map]
  rfl
theorem bareE_next (l : List Ent) {k : Nat} (h : k < l.length) (e : Ent) (he : l[k] = e) : bareE (l.take (k + 1)) = bareE (l.take k) ++ oneE e := by
  unfold bareE
  rw [List.take_succ_eq_append_getElem h, List.flatMap_append, he]
  simp
theorem bareE_le : ∀ l : List Ent, (bareE l).length ≤ 2 * l.length
  | [] => by simp [bareE]
  | x :: l => by
    have e : bareE (x :: l) = oneE x ++ bareE l := rfl
    have h2 := bareE_le l
    have h1 : (oneE x).length ≤ 2 := by unfold oneE; split <;> simp
    rw [e, List.length_append, List.length_cons]
    omega
end
section
set_option maxRecDepth 100000
open Go.ChangeShapes Go.WideShapes Go.ChangeAt Go.RowKit Go.Sort BigFrame

/-- A keyed instruction in a block of its own. -/
abbrev EntIn (w : World) (b : Nat) (e : Ent) : Prop := w.heap[b]? = some (.cells e.cells.toArray 93 (0, 0))
theorem entIn_cells {w : World} {b : Nat} {e : Ent} (h : EntIn w b e) : w.cell? ⟨b, 0, none⟩ = some (.int .u8 e.x.op) ∧ w.cell? ⟨b, 1, none⟩ = some (.int .u8 e.x.d) ∧ w.cell? ⟨b, 2, none⟩ = some (.int .u8 e.x.s) ∧ w.cell? ⟨b, 3, none⟩ = some (.int .u8 e.x.t) ∧ w.cell? ⟨b, 4, none⟩ = some (.int .u8 e.x.n) ∧ w.cell? ⟨b, 5, none⟩ = some (.int .u8 e.x.pred) ∧ w.cell? ⟨b, 6, none⟩ = some (.int .u8 e.x.mode) ∧ w.cell? ⟨b, 7, none⟩ = some (.bool e.x.new) ∧ w.cell? ⟨b, 8, none⟩ = some (.bool e.x.ext) ∧ w.cell? ⟨b, 9, none⟩ = some (.int .u16 e.x.count) ∧ w.cell? ⟨b, 10, none⟩ = some (.int .i64 e.x.imm) ∧ w.cell? ⟨b, 11, none⟩ = some (.int .i64 e.rank) ∧ w.cell? ⟨b, 12, none⟩ = some (.int .u32 e.word) ∧ w.cell? ⟨b, 13, none⟩ = some (.int .u32 e.upper) ∧ w.cell? ⟨b, 14, none⟩ = some (.bool e.ext) :=
  ⟨cell_of_lit h 0, cell_of_lit h 1, cell_of_lit h 2, cell_of_lit h 3, cell_of_lit h 4, cell_of_lit h 5, cell_of_lit h 6, cell_of_lit h 7, cell_of_lit h 8, cell_of_lit h 9, cell_of_lit h 10, cell_of_lit h 11, cell_of_lit h 12, cell_of_lit h 13, cell_of_lit h 14⟩
abbrev set15 (w : World) (b : Nat) (e : Ent) : World :=
  (((((((((((((((w.setCell ⟨b, 0, none⟩ (.int .u8 e.x.op)).setCell ⟨b, 1, none⟩ (.int .u8 e.x.d)).setCell ⟨b, 2, none⟩ (.int .u8 e.x.s)).setCell ⟨b, 3, none⟩ (.int .u8 e.x.t)).setCell ⟨b, 4, none⟩ (.int .u8 e.x.n)).setCell ⟨b, 5, none⟩ (.int .u8 e.x.pred)).setCell ⟨b, 6, none⟩ (.int .u8 e.x.mode)).setCell ⟨b, 7, none⟩ (.bool e.x.new)).setCell ⟨b, 8, none⟩ (.bool e.x.ext)).setCell ⟨b, 9, none⟩ (.int .u16 e.x.count)).setCell ⟨b, 10, none⟩ (.int .i64 e.x.imm)).setCell ⟨b, 11, none⟩ (.int .i64 e.rank)).setCell ⟨b, 12, none⟩ (.int .u32 e.word)).setCell ⟨b, 13, none⟩ (.int .u32 e.upper)).setCell ⟨b, 14, none⟩ (.bool e.ext))
theorem made_set15 {W w : World} {b : Nat} (hm : Made W w) (hb : W.heap.size ≤ b) (e : Ent) : Made W (set15 w b e) :=
  (Below.setCell (Below.setCell (Below.setCell (Below.setCell (Below.setCell (Below.setCell (Below.setCell (Below.setCell (Below.setCell (Below.setCell (Below.setCell (Below.setCell (Below.setCell (Below.setCell (Below.setCell hm (p := ⟨b, 0, none⟩) hb _) (p := ⟨b, 1, none⟩) hb _) (p := ⟨b, 2, none⟩) hb _) (p := ⟨b, 3, none⟩) hb _) (p := ⟨b, 4, none⟩) hb _) (p := ⟨b, 5, none⟩) hb _) (p := ⟨b, 6, none⟩) hb _) (p := ⟨b, 7, none⟩) hb _) (p := ⟨b, 8, none⟩) hb _) (p := ⟨b, 9, none⟩) hb _) (p := ⟨b, 10, none⟩) hb _) (p := ⟨b, 11, none⟩) hb _) (p := ⟨b, 12, none⟩) hb _) (p := ⟨b, 13, none⟩) hb _) (p := ⟨b, 14, none⟩) hb _)
/-- The box of an instruction, and the result's. -/
structure CodeAt (W : World) (B : Nat) (x : In) (e : Ent) (w : World) : Prop where
  made : Made W w
  low : W.heap.size ≤ B
  in_ : InAt w B x
  res : EntIn w (B + 1) e
theorem CodeAt.next {W w w' : World} {B : Nat} {x : In} {e : Ent} (h : CodeAt W B x e w) (hm : Made w w') : CodeAt W B x e w' := ⟨Made.trans h.made hm, h.low, hm.heap h.in_, hm.heap h.res⟩
theorem code_start {W w : World} (hm : Made W w) (x : In) : CodeAt W w.heap.size x zeroE ((w.alloc (.cells x.cells.toArray 40)).alloc (.cells zeroE.cells.toArray 93)) := by
  have m1 := hm.alloc hm.size (.cells x.cells.toArray 40)
  have b1 : InAt (w.alloc (.cells x.cells.toArray 40)) w.heap.size x := heap_alloc_new w _
  exact ⟨m1.alloc m1.size _, hm.size, (Below.heap_alloc _ _ _ (heap_lt b1)).trans b1, heap_at (by simp)⟩
/-- .. and the block of the table's row. -/
structure CodeRow (W : World) (B R : Nat) (x : In) (e : Ent) (cs : List Value) (w : World) : Prop where
  made : Made W w
  low : W.heap.size ≤ B
  in_ : InAt w B x
  res : EntIn w (B + 1) e
  row : w.heap[R]? = some (.cells cs.toArray 122 (0, 0))
theorem CodeRow.next {W w w' : World} {B R : Nat} {x : In} {e : Ent} {cs : List Value} (h : CodeRow W B R x e cs w) (hm : Made w w') : CodeRow W B R x e cs w' := ⟨Made.trans h.made hm, h.low, hm.heap h.in_, hm.heap h.res, hm.heap h.row⟩
theorem codeRow_of {W w : World} {B : Nat} {x : In} {e : Ent} (h : CodeAt W B x e w) (cs : List Value) : CodeRow W B w.heap.size x e cs (w.alloc (.cells cs.toArray 122)) :=
  let k := h.next ((Made.refl w).alloc (Nat.le_refl _) (.cells cs.toArray 122))
  ⟨k.made, k.low, k.in_, k.res, heap_alloc_new w _⟩
/-- What code returns of one that has no word: none. -/
def codedE (pc : Int) (x : In) : Ent := if sayB x pc = true then entP pc x else zeroE
theorem place_rank : ∀ op, op < 32 → 1 ≤ op → 1 ≤ classZ (op : Nat) ∧ classZ (op : Nat) ≤ 6 ∧ placeZ (classZ (op : Nat)) = rankZ (op : Nat) := by decide +kernel
theorem place_of {x : In} {pc : Int} (h : sayB x pc = true) : 1 ≤ classZ (opN x.op) ∧ classZ (opN x.op) ≤ 6 ∧ placeZ (classZ (opN x.op)) = rankZ x.op := by
  have hr : rightB x = true := by
    unfold sayB at h
    rw [Bool.and_eq_true] at h
    exact h.1
  have h2 := right_range hr
  have e : opN x.op = (x.op.toNat : Int) := by
    have h3 : isOp x.op = true := by unfold isOp; simp; omega
    unfold opN
    rw [h3, if_pos rfl]
    omega
  rw [e, show rankZ x.op = rankZ (x.op.toNat : Int) by rw [Int.toNat_of_nonneg (by omega)]]
  exact place_rank x.op.toNat (by omega) (by omega)
section
attribute [local irreducible] World.cell?
set_option maxRecDepth 100000 in
set_option maxHeartbeats 16000000 in
theorem pcode_any (W : World) (hN : Names W) (hP : Pieces W) (x : In) (hx : x.small) (pc : Int) : Makes Tryz.prog W 61 #[x.val, .int .u32 pc] (.tuple #[(codedE pc x).val, .bool (sayB x pc)]) := by
  intro w hm
  have K0 := Lib.hid (code_start hm x)
  have HE := Lib.hid (fun u (hu : Made W u) => encWord_any u (hN.made hu) (hP.made hu) x hx pc u (Made.refl u))
  have HOF := Lib.hid (fun u (hu : Made W u) => of_any u (hN.made hu) x.op hx.op0 u (Made.refl u))
  have hpl := fun h : sayB x pc = true => place_of h
  have hv : (sayB x pc = false ∧ codedE pc x = zeroE) ∨ (sayB x pc = true ∧ codedE pc x = ⟨x, rankZ x.op, wordP x pc, upP x pc, x.ext⟩) := by
    unfold codedE
    cases sayB x pc with
    | false => exact .inl ⟨rfl, rfl⟩
    | true => exact .inr ⟨rfl, rfl⟩
  have HPL := Lib.hid hpl
  clear hm hpl hx
  generalize codedE pc x = ce at *
  generalize sayB x pc = sy at *
  generalize wordP x pc = wd at *
  generalize upP x pc = up at *
  have HV := Lib.hid hv
  clear hv
  go_enter Tryz.func61, Tryz.ntmps61
  obtain ⟨i0, i1, i2, i3, i4, i5, i6, i7, i8, i9, i10⟩ := in_cells K0.out.in_
  have li := heap_lt K0.out.in_
  go_wp2_with (fail)
  refine (HE.out _ K0.out.made).mono ?_
  rintro e w1 ⟨rfl, h1⟩
  have K1 := Lib.hid (K0.out.next h1)
  clear h1 i0 i1 i2 i3 i4 i5 i6 i7 i8 i9 i10 li K0
  obtain ⟨i0, i1, i2, i3, i4, i5, i6, i7, i8, i9, i10⟩ := in_cells K1.out.in_
  have li := heap_lt K1.out.in_
  cases sy with
  | false =>
    obtain ⟨-, hce⟩ := HV.out.resolve_right (fun h => absurd h.1 (by simp))
    subst hce
    obtain ⟨a0, a1, a2, a3, a4, a5, a6, a7, a8, a9, a10, a11, a12, a13, a14⟩ := entIn_cells K1.out.res
    have fz := free_of_lit K1.out.res
    have hl := heap_lt K1.out.res
    go_wp2
    refine bodyPost_ret (v := .tuple #[zeroE.val, .bool false]) (by simp [results, Tryz.results61, go_sem, a0, a1, a2, a3, a4, a5, a6, a7, a8, a9, a10, a11, a12, a13, a14, inZero]) rfl ?_
    exact ⟨rfl, made_set15 K1.out.made (by have := K1.out.low; omega) zeroE⟩
  | true =>
    obtain ⟨-, hce⟩ := HV.out.resolve_left (fun h => absurd h.1 (by simp))
    subst hce
    obtain ⟨p1, p6, prk⟩ := HPL.out rfl
    go_wp2_with (fail)
    refine (HOF.out _ K1.out.made).mono ?_
    intro e w2 h
    obtain ⟨p, cap, fs, o, nm, c, s, -, -, -, hc, -, rfl, h2, -⟩ := isOf_any h
    rewrite [← hc] at p1 p6 prk
    have CR := Lib.hid (fun u => prank_any u c p1 p6)
    rewrite [prk] at CR
    have K2 := Lib.hid (codeRow_of (K1.out.next h2) [.int .u8 o, .string nm, .int .u8 c, .int .u8 s, .slice p fs.length cap])
    clear h h2 hc p1 p6 prk i0 i1 i2 i3 i4 i5 i6 i7 i8 i9 i10 li K1 HPL HV
    go_upto_region 5 with (fail)
    refine world_named (fun z => CodeRow W w.heap.size w2.heap.size x zeroE [.int .u8 o, .string nm, .int .u8 c, .int .u8 s, .slice p fs.length cap] z) K2.out ?_
    intro z hz
    have K3 := Lib.hid hz
    clear hz K2
    obtain ⟨i0, i1, i2, i3, i4, i5, i6, i7, i8, i9, i10⟩ := in_cells K3.out.in_
    have gi0 := fun d os => cell_regrown i0 d os
    have gi1 := fun d os => cell_regrown i1 d os
    have gi2 := fun d os => cell_regrown i2 d os
    have gi3 := fun d os => cell_regrown i3 d os
    have gi4 := fun d os => cell_regrown i4 d os
    have gi5 := fun d os => cell_regrown i5 d os
    have gi6 := fun d os => cell_regrown i6 d os
    have gi7 := fun d os => cell_regrown i7 d os
    have gi8 := fun d os => cell_regrown i8 d os
    have gi9 := fun d os => cell_regrown i9 d os
    have gi10 := fun d os => cell_regrown i10 d os
    have q2 : z.cell? ⟨w2.heap.size, 2, none⟩ = some (.int .u8 c) := cell_of_lit K3.out.row 2
    have gq2 := fun d os => cell_regrown q2 d os
    have li := heap_lt K3.out.in_
    have lq := heap_lt K3.out.row
    refine wp_region_made 10 [] [0, 1, 2, 3, 4, 5, 6, 7, 8, 9] (by kernel_rfl) (by kernel_rfl) (by intro c a d v w h; cases d <;> exact h) ?_
    simp only [moved, picked, List.foldr_cons, List.foldr_nil, Option.elim_some, List.getElem?_toArray, List.getElem?_cons_zero, List.getElem?_cons_succ, List.drop_succ_cons, List.drop_zero]
    repeat (go_big_quiet_step ((go_at_call 93; with_reducible exact (CR.out z).again _ _)))
    refine wpQuiet_nil ?_
    intro u3 hu3
    have K4 := Lib.hid (K3.out.next hu3)
    clear hu3 K3 q2 gq2 li lq i0 i1 i2 i3 i4 i5 i6 i7 i8 i9 i10 gi0 gi1 gi2 gi3 gi4 gi5 gi6 gi7 gi8 gi9 gi10
    obtain ⟨a0, a1, a2, a3, a4, a5, a6, a7, a8, a9, a10, a11, a12, a13, a14⟩ := entIn_cells K4.out.res
    have fz := free_of_lit K4.out.res
    have hl := heap_lt K4.out.res
    go_wp2
    refine bodyPost_ret (v := .tuple #[Ent.val ⟨x, rankZ x.op, wd, up, x.ext⟩, .bool true]) (by simp [results, Tryz.results61, go_sem, a0, a1, a2, a3, a4, a5, a6, a7, a8, a9, a10, a11, a12, a13, a14]) rfl ?_
    exact ⟨rfl, made_set15 K4.out.made (by have := K4.out.low; omega) ⟨x, rankZ x.op, wd, up, x.ext⟩⟩
set_option maxRecDepth 100000 in
set_option maxHeartbeats 4000000 in
/-- The function that is handed to the sort. -/
theorem pclosure_any (W : World) (a b : Ent) : Makes Tryz.prog W 63 #[a.val, b.val] (.int .i64 (cmpE a b)) := by
  intro w hm
  have m1 := hm.alloc hm.size (.cells a.cells.toArray 93)
  have m2 := m1.alloc m1.size (.cells b.cells.toArray 93)
  have b1 : EntIn (w.alloc (.cells a.cells.toArray 93)) w.heap.size a := heap_alloc_new w _
  have k1 : EntIn ((w.alloc (.cells a.cells.toArray 93)).alloc (.cells b.cells.toArray 93)) w.heap.size a := (Below.heap_alloc _ _ _ (heap_lt b1)).trans b1
  have k2 : EntIn ((w.alloc (.cells a.cells.toArray 93)).alloc (.cells b.cells.toArray 93)) (w.heap.size + 1) b := heap_at (by simp)
  have HM := Lib.hid m2
  have HC := Lib.hid (fun u => pcompare_any u a.rank a.word a.upper a.ext b.rank b.word b.upper b.ext u (Made.refl u))
  have l1 := heap_lt k1
  have l2 := heap_lt k2
  obtain ⟨a0, a1, a2, a3, a4, a5, a6, a7, a8, a9, a10, a11, a12, a13, a14⟩ := entIn_cells k1
  obtain ⟨b0, b1, b2, b3, b4, b5, b6, b7, b8, b9, b10, b11, b12, b13, b14⟩ := entIn_cells k2
  clear hm m1 m2 b1 k1 k2
  go_enter Tryz.func63, Tryz.ntmps63
  go_wp2_with (go_at_call 64; refine (HC.out _).mono ?_; rintro e w' ⟨rfl, h⟩)
  go_ret
  exact ⟨rfl, Made.trans HM.out h⟩
end
end
section
set_option maxRecDepth 100000
open Go.ChangeShapes Go.WideShapes Go.ChangeAt Go.RowKit Go.Sort BigFrame

/-- A row of keyed instructions of a call's own. -/
structure CatAt (W : World) (v : Value) (l : List Ent) (w : World) : Prop where
  made : Made W w
  row : w.ownsRow W.heap.size 93 15 v l.length (flatE l)
theorem CatAt.next {W w w' : World} {v : Value} {l : List Ent} (h : CatAt W v l w) (hm : Made w w') : CatAt W v l w' := ⟨Made.trans h.made hm, owns_made h.row hm⟩
theorem CatAt.grows {W w w1 : World} {v v1 : Value} {l l2 : List Ent} (h : CatAt W v l w) (own : w1.ownsRow W.heap.size 93 15 v1 (l.length + l2.length) (flatE l ++ flatE l2)) (gr : w.grownBy w1 v.ownBlock) : CatAt W v1 (l ++ l2) w1 := by
  refine ⟨Below.grown h.made gr h.made.size (fun t ht => (h.row.lt t ht).1), ?_⟩
  rw [flatE_app, List.length_append]
  exact own
/-- Slices of keyed instructions, in a block. -/
structure Lists (w : World) (b : Nat) (LL : List (List Ent)) : Prop where
  lt : b < w.heap.size
  cell : ∀ k (h : k < LL.length), ∃ p c, w.cell? ⟨b, k, none⟩ = some (.slice p (LL[k]).length c) ∧ Ents w p c LL[k]
theorem Lists.made {w w' : World} {b : Nat} {LL : List (List Ent)} (h : Lists w b LL) (hm : Made w w') : Lists w' b LL := ⟨Nat.lt_of_lt_of_le h.lt hm.size, fun k hk => by
  obtain ⟨p, c, h1, h2⟩ := h.cell k hk
  exact ⟨p, c, (World.cell?_of_block (hm.block b h.lt)).trans h1, ents_made h2 hm⟩⟩
theorem flat_next {LL : List (List Ent)} {k : Nat} (h : k < LL.length) (l : List Ent) (hl : LL[k] = l) : (LL.take (k + 1)).flatten = (LL.take k).flatten ++ l := by
  rw [List.take_succ_eq_append_getElem h, List.flatten_append, hl]
  simp
theorem flat_le (LL : List (List Ent)) (k : Nat) : (LL.take k).flatten.length ≤ LL.flatten.length := by
  have h : LL.flatten = (LL.take k).flatten ++ (LL.drop k).flatten := by rw [← List.flatten_append, List.take_append_drop]
  rw [h, List.length_append]
  omega
def GrowSays (w : World) (e : Ending) (w' : World) : Prop := ∃ v, e = .returned v ∧ CatAt w v [] w'
def CatSays (L : List Ent) (w : World) (e : Ending) (w' : World) : Prop := ∃ so c, e = .returned (.slice so L.length c) ∧ Ents w' so c L ∧ Made w w'
section
attribute [local irreducible] World.cell?
set_option maxRecDepth 100000 in
set_option maxHeartbeats 4000000 in
theorem grow_any (n : Nat) (hn : n ≤ 1000) (w : World) : Calls Tryz.prog 103 #[.slice none 0 0, .int .i64 n] w (GrowSays w) := by
  obtain ⟨i0, hi, hz0, hz1, hz2⟩ := info_parts ent_row
  by_cases h0 : n = 0
  · subst h0
    go_enter Tryz.func103, Tryz.ntmps103
    go_wp2
    go_ret
    exact ⟨_, rfl, Made.refl w, World.ownsRow_nil _ _ _ _⟩
  · have hrun := fun ty => Lib.run_append_nil_zeros w 55 3 ty 93 i0 (Ent.val zeroE) .i64 .i64 Tryz.underlying55 Tryz.underlying3 hi hz0 n (by omega) (by omega) (by omega) (by rw [hz2]; omega)
    have hge := grownCap_ge w n 0 93
    have hle := grownCap_le_maxLen w n 0 93 (by unfold maxLen; omega)
    have hg1 : decide ((n : Int) > 0) = true := decide_eq_true (by omega)
    have hg2 : decide ((n : Int) < 0) = false := decide_eq_false (by omega)
    generalize grownCap w n 0 93 = G at *
    have hsz : (Builtin.zeroCells (Ent.val zeroE).cells n ++ Builtin.zeroCells (Ent.val zeroE).cells (G - n)).size = G * 15 := by
      have e15 : (Ent.val zeroE).cells.size = 15 := rfl
      rw [Array.size_append, size_zeroCells, size_zeroCells, e15]
      omega
    generalize Builtin.zeroCells (Ent.val zeroE).cells n ++ Builtin.zeroCells (Ent.val zeroE).cells (G - n) = cur at *
    have hown := World.ownsRow_made (e := 93) (size := 15) (base := w.heap.size) w.drew cur G (Nat.le_refl _) hle hsz
    have HOWN := Lib.hid (show CatAt w (.slice (some ⟨w.heap.size, 0, none⟩) 0 G) [] (w.drew.alloc (.cells cur 93)) from ⟨(made_drew (Made.refl w)).alloc (Nat.le_refl _) _, hown⟩)
    clear hown hsz
    unfold maxLen at hle
    go_enter Tryz.func103, Tryz.ntmps103
    go_wp2_with (at_builtin; refine Lib.wpList_append_run _ rfl _ _ _ _ rfl _ _ rfl rfl _ _ (hrun _) ?_)
    go_ret
    exact ⟨_, rfl, HOWN.out⟩
set_option maxRecDepth 100000 in
set_option maxHeartbeats 8000000 in
theorem concat_any (LL : List (List Ent)) (b : Nat) (w : World) (hL : Lists w b LL) (hn : LL.length ≤ 1000) (ht : LL.flatten.length ≤ 1000) :
    Calls Tryz.prog 69 #[.slice (some ⟨b, 0, none⟩) LL.length LL.length] w (CatSays LL.flatten w) := by
  obtain ⟨i0, hi0, hz0, hz1, hz2⟩ := info_parts ent_row
  have HL := Lib.hid hL
  have HG := Lib.hid (fun n hn u => grow_any n hn u)
  obtain ⟨tot, htot⟩ : ∃ f : Nat → Nat, f = fun k => (LL.take k).flatten.length := ⟨_, rfl⟩
  have HT0 := Lib.hid (show tot 0 = 0 by rw [htot]; simp)
  have HTE := Lib.hid (show tot LL.length = LL.flatten.length by rw [htot]; simp)
  have HTN := Lib.hid (show ∀ k (h : k < LL.length) (l : List Ent), LL[k] = l → tot (k + 1) = tot k + l.length by
    intro k h l hl
    rw [htot]
    simp only []
    rw [flat_next h l hl, List.length_append])
  have HTL := Lib.hid (show ∀ k, tot k ≤ 1000 by
    intro k
    rw [htot]
    exact Nat.le_trans (flat_le LL k) ht)
  clear hL htot
  go_enter Tryz.func69, Tryz.ntmps69
  go_wp2_with (fail)
  go_loopw [3, 11] (fun sv iv wr => ∃ k : Nat, k ≤ LL.length ∧ iv = .int .i64 k ∧ sv = .int .i64 (tot k : Nat) ∧ w = wr) (fun _ iv _ => LL.length - (intOf iv).toNat)
  case atStart => exact ⟨0, by omega, rfl, by rw [HT0.out]; rfl, rfl⟩
  case round =>
    obtain ⟨k, hk, rfl, rfl, rfl⟩ := hrel
    by_cases hlt : k < LL.length
    · obtain ⟨l, hl⟩ : ∃ l, LL[k] = l := ⟨_, rfl⟩
      obtain ⟨p, c, hc, -⟩ := HL.out.cell k hlt
      rewrite [hl] at hc
      have lb := HL.out.lt
      have HE1 := Lib.hid (HTN.out k hlt l hl)
      have hb0 := HTL.out (k + 1)
      rewrite [HE1.out] at hb0
      clear hl
      have hb : decide (((tot k : Nat) : Int) + (l.length : Int) < 0) = false := decide_eq_false (by omega)
      go_wp2
      go_roundw
      case rel => exact ⟨k + 1, by omega, by go_num, by rw [HE1.out]; go_num, trivial⟩
      case measure => simp [intOf]; omega
    · obtain rfl : k = LL.length := by omega
      have hle := HTL.out LL.length
      go_wp2_with (fail)
      refine (HG.out _ hle _).mono ?_
      rintro e w1 ⟨v0, rfl, hK⟩
      have K0 := Lib.hid hK
      clear hK
      go_wp2_with (fail)
      go_loopw [6, 27] (fun nv iv wz => ∃ (k : Nat) (v : Value), k ≤ LL.length ∧ iv = .int .i64 k ∧ v = nv ∧ CatAt w v (LL.take k).flatten wz) (fun _ iv _ => LL.length - (intOf iv).toNat)
      case atStart => exact ⟨0, v0, by omega, rfl, rfl, by simpa using K0.out⟩
      case round =>
        obtain ⟨k, v, hk, rfl, rfl, hO⟩ := hrel
        have KV := Lib.hid hO
        clear hO K0
        by_cases hlt : k < LL.length
        · obtain ⟨l, hl⟩ : ∃ l, LL[k] = l := ⟨_, rfl⟩
          have HLW := HL.out.made KV.out.made
          obtain ⟨p, c, hc, hE⟩ := HLW.cell k hlt
          rewrite [hl] at hc hE
          have lb := HLW.lt
          have hfn := flat_next hlt l hl
          have hb2 : (LL.take k).flatten.length + l.length ≤ 1000 := by
            have h5 := flat_le LL (k + 1)
            rw [hfn, List.length_append] at h5
            omega
          have HFN := Lib.hid hfn
          have HE := Lib.hid hE
          have hnone := Lib.hid (show p = none → l.length = 0 ∧ c = 0 from fun h => ⟨by rw [(hE.bare h).1]; rfl, (hE.bare h).2⟩)
          have hol := Lib.hid (ents_olds hE)
          have hfl := flatE_len l
          have hsz := Lib.hid KV.out.made.size
          clear hl hfn hE HLW
          have hmx : (LL.take k).flatten.length + l.length ≤ maxLen := by unfold maxLen; omega
          have hby : ((LL.take k).flatten.length + l.length) * 48 ≤ 140737488355328 := by omega
          go_upto_region 14 with (at_builtin; refine wpList_append_each rfl (.tmp 31) (.tmp 32) 55 rfl w.heap.size 93 i0 (Ent.val zeroE) 15 48 Tryz.underlying55 hi0 hz0 hz1 hz2 rfl (by decide) v (LL.take k).flatten.length (flatE (LL.take k).flatten) rfl KV.out.row p l.length c (flatE l) rfl hnone.out hfl hol.out (flatE_one l) hmx hby hsz.out ?_; intro v7 w9 own1 gr1; have KG := Lib.hid (KV.out.grows own1 gr1); clear own1 gr1)
          have KN := Lib.hid (show CatAt w v7 (LL.take (k + 1)).flatten w9 by rw [HFN.out]; exact KG.out)
          go_wp2
          go_roundw
          case rel => exact ⟨k + 1, _, by omega, by go_num, rfl, KN.out⟩
          case measure => simp [intOf]; omega
        · obtain rfl : k = LL.length := by omega
          have KV1 := KV.out
          rewrite [List.take_length] at KV1
          obtain ⟨-, so, c, rfl, hE⟩ := owns_ents KV1.row
          have HE := Lib.hid hE
          have HM := Lib.hid KV1.made
          clear KV1 hE KV
          go_wp2
          go_ret
          exact ⟨_, _, rfl, HE.out, HM.out⟩
end
end
section
set_option maxRecDepth 100000
open Go.ChangeShapes Go.WideShapes Go.ChangeAt Go.RowKit Go.Sort BigFrame

theorem porder_many {pc : Int} {l : List In} (h : 4 < l.length) : orderB pc l = false := by
  unfold orderB
  rw [decide_eq_false (by omega), Bool.false_and]
theorem psay_next {pc : Int} {l : List In} {k : Nat} (h : k < l.length) (x : In) (hx : l[k] = x) : sayAll pc (l.take (k + 1)) = (sayAll pc (l.take k) && sayB x pc) := by
  unfold sayAll
  rw [List.take_succ_eq_append_getElem h, List.all_append, hx]
  simp
theorem psay_out {pc : Int} {l : List In} {k : Nat} (h : k < l.length) (x : In) (hx : l[k] = x) (hs : sayB x pc = false) : orderB pc l = false := by
  have : sayAll pc l = false := by
    unfold sayAll
    rw [List.all_eq_false]
    exact ⟨x, hx ▸ List.getElem_mem h, by simp [hs]⟩
  unfold orderB
  rw [this, Bool.and_false]
/-- The keyed ones while they are made. -/
def fillE (pc : Int) (l : List In) (k : Nat) : List Ent := (l.take k).map (entP pc) ++ List.replicate (l.length - k) zeroE
theorem fillE_len (pc : Int) (l : List In) {k : Nat} (h : k ≤ l.length) : (fillE pc l k).length = l.length := by
  unfold fillE
  rw [List.length_append, List.length_map, List.length_take, List.length_replicate]
  omega
theorem fillE_zero (pc : Int) (l : List In) : fillE pc l 0 = List.replicate l.length zeroE := by simp [fillE]
theorem fillE_all (pc : Int) (l : List In) : fillE pc l l.length = l.map (entP pc) := by simp [fillE]
theorem fillE_put (pc : Int) (l : List In) {k : Nat} (h : k < l.length) (x : In) (hx : l[k] = x) : (fillE pc l k).set k (entP pc x) = fillE pc l (k + 1) := by
  unfold fillE
  have e1 : ((l.take k).map (entP pc)).length = k := by rw [List.length_map, List.length_take]; omega
  rw [List.set_append_right _ _ (by omega), e1, Nat.sub_self, show l.length - k = (l.length - (k + 1)) + 1 by omega, List.replicate_succ, List.set_cons_zero, List.take_succ_eq_append_getElem h, List.map_append, List.append_assoc, hx]
  rfl
/-- What rowOf tells. -/
def RowSays (pc : Int) (l : List In) (w : World) (e : Ending) (w' : World) : Prop := Made w w' ∧ ((orderB pc l = false ∧ e = .returned (.tuple #[.slice none 0 0, .bool false])) ∨ (orderB pc l = true ∧ ∃ so c, e = .returned (.tuple #[.slice so l.length c, .bool true]) ∧ Ents w' so c ((rowP pc l).map (entP pc))))
theorem enters_pack : Enters 63 := enters_of Tryz.func63 (by kernel_rfl) (by kernel_rfl)
section
attribute [local irreducible] World.cell?
set_option maxRecDepth 100000 in
set_option maxHeartbeats 16000000 in
theorem prow_any (ao : Option Addr) (cap : Nat) (l : List In) (w : World) (hT : Tabs w) (hI : Insts w ao cap l) (hl : l.length ≤ 1000) (pc : Int) :
    Calls Tryz.prog 30 #[.slice ao l.length cap, .int .u32 pc] w (RowSays pc l w) := by
  by_cases h4 : 4 < l.length
  · have hb : decide ((l.length : Int) > 4) = true := decide_eq_true (by omega)
    have HO := Lib.hid (porder_many (pc := pc) h4)
    clear h4 hT hI
    go_enter Tryz.func30, Tryz.ntmps30
    go_wp2
    refine bodyPost_ret (v := .tuple #[.slice none 0 0, .bool false]) (by simp [results, Tryz.results30, go_sem]) rfl ?_
    exact ⟨Made.refl w, .inl ⟨HO.out, rfl⟩⟩
  · have hb : decide ((l.length : Int) > 4) = false := decide_eq_false (by omega)
    obtain ⟨i0, hi, hz0, hz1, hz2⟩ := info_parts ent_row
    have hzb : i0.bytes * l.length ≤ 281474976710656 := by rw [hz2]; omega
    have H := Lib.hid hI
    have HC := Lib.hid (fun (u : World) (hu : Made w u) (x : In) (hx : x.small) => pcode_any u (hT.made hu).names (hT.made hu).pieces x hx pc u (Made.refl u))
    clear hT hI
    go_enter Tryz.func30, Tryz.ntmps30
    go_upto_region 4 with (at_make; refine wpList_make_full _ rfl _ _ 55 rfl w.heap.size 93 i0 (Ent.val zeroE) 15 Tryz.underlying55 hi hz0 hz1 _ _ _ _ l.length rfl rfl rfl rfl hzb (by unfold maxLen; omega) (Nat.le_refl _) ?_; intro w1 hown hgr)
    rewrite [made_ents] at hown
    have K0 := Lib.hid (show SortAt w w.heap.size w.heap.size l.length (fillE pc l 0) w1 from ⟨⟨hgr.os, hgr.tape, hgr.output, hgr.size, fun k hk => hgr.block k hk (by simp)⟩, Nat.le_refl _, by rw [fillE_zero, List.length_replicate]; exact hown⟩)
    clear hown hgr hzb
    go_wp2_with (fail)
    go_loopw [19] (fun v wr => ∃ k : Nat, k ≤ l.length ∧ v = .int .i64 k ∧ sayAll pc (l.take k) = true ∧ SortAt w w.heap.size w.heap.size l.length (fillE pc l k) wr) (fun v _ => l.length - (intOf v).toNat)
    case atStart => exact ⟨0, by omega, rfl, by simp [sayAll], K0.out⟩
    case round =>
      obtain ⟨k, hk, rfl, hsay, hS⟩ := hrel
      have HS := Lib.hid hsay
      have K1 := Lib.hid hS
      clear hsay hS K0
      by_cases hlt : k < l.length
      · obtain ⟨x, hx⟩ : ∃ x, l[k] = x := ⟨_, rfl⟩
        have hsx := H.out.small x (hx ▸ List.getElem_mem hlt)
        have hsn := psay_next (pc := pc) hlt x hx
        have hso := fun h => psay_out (pc := pc) hlt x hx h
        have hce : sayB x pc = true → codedE pc x = entP pc x := fun h => by unfold codedE; rw [if_pos h]
        obtain ⟨b, o, rfl, c0, c1, c2, c3, c4, c5, c6, c7, c8, c9, c10⟩ := insts_cells (insts_made H.out K1.out.made) hlt x hx
        have m2 := Lib.hid (made_alloc' (Made.refl wr) (.cells x.cells.toArray 40))
        have K2 := Lib.hid (K1.out.next m2.out)
        have HG := Lib.hid (HC.out _ K2.out.made x hsx)
        have HP := Lib.hid (fillE_put pc l hlt x hx)
        generalize codedE pc x = ce at *
        generalize sayB x pc = sy at *
        have HSN := Lib.hid hsn
        have HSO := Lib.hid hso
        have HCE := Lib.hid hce
        clear hsn hso hx hce hsx
        go_wp2_with (fail)
        refine HG.out.mono ?_
        rintro e w3 ⟨rfl, h3⟩
        have K3 := Lib.hid (K2.out.next h3)
        clear h3 c0 c1 c2 c3 c4 c5 c6 c7 c8 c9 c10 K2 m2 HG
        cases sy with
        | false =>
          have HO := Lib.hid (HSO.out rfl)
          have m3 := Lib.hid (made_alloc' (Made.refl w3) (.cells ce.cells.toArray 93))
          have K4 := Lib.hid (K3.out.next m3.out)
          go_wp2
          refine bodyPost_ret (v := .tuple #[.slice none 0 0, .bool false]) (by simp [results, Tryz.results30, go_sem]) rfl ?_
          exact ⟨K4.out.made, .inl ⟨HO.out, rfl⟩⟩
        | true =>
          have HN := Lib.hid (show sayAll pc (l.take (k + 1)) = true by rw [HSN.out, HS.out]; rfl)
          have HE := Lib.hid (HCE.out rfl)
          have m3 := Lib.hid (made_alloc' (Made.refl w3) (.cells ce.cells.toArray 93))
          have EB := Lib.hid (And.intro (show EntIn (w3.alloc (.cells ce.cells.toArray 93)) w3.heap.size ce from heap_alloc_new w3 _) (K3.out.next m3.out))
          clear m3 K3
          go_upto_region 10 with (fail)
          refine world_named (fun u => EntIn u w3.heap.size ce ∧ SortAt w w.heap.size w.heap.size l.length (fillE pc l k) u) EB.out ?_
          rintro z ⟨hz1', hz2'⟩
          have KS := Lib.hid hz2'
          have fl := fillE_len pc l hk
          have hput := hz2'.put (t := k) (by rw [fl]; exact hlt) ce
          rewrite [HE.out, HP.out] at hput
          rewrite [← HE.out] at hput
          have KN := Lib.hid hput
          obtain ⟨a0, a1, a2, a3, a4, a5, a6, a7, a8, a9, a10, a11, a12, a13, a14⟩ := entIn_cells hz1'
          have hrow : z.ownsRow w.heap.size 93 15 (.slice (some ⟨w.heap.size, 0, none⟩) l.length l.length) l.length (flatE (fillE pc l k)) := by
            have h5 := hz2'.row
            rwa [fl] at h5
          obtain ⟨y, hy⟩ : ∃ y, (fillE pc l k)[k]'(by rw [fl]; exact hlt) = y := ⟨_, rfl⟩
          obtain ⟨d0, d1, d2, d3, d4, d5, d6, d7, d8, d9, d10, d11, d12, d13, d14⟩ := hz2'.cells (by rw [fl]; exact hlt) y hy
          have fr := hrow.frozenAt
          have lg := (hrow.lt w.heap.size rfl).2
          have la := heap_lt hz1'
          clear hz1' hz2' hput hrow fl hy EB KS HP HE
          go_wp2
          go_roundw
          case rel => exact ⟨k + 1, by omega, by go_num, HN.out, KN.out⟩
          case measure => simp [intOf]; omega
      · obtain rfl : k = l.length := by omega
        have hsa := HS.out
        rewrite [List.take_length] at hsa
        have HSD := Lib.hid (said_of H.out.small hsa)
        have HOR := Lib.hid (show orderB pc l = true by unfold orderB; rw [hsa, decide_eq_true (by omega)]; rfl)
        have K2 := Lib.hid (show SortAt w w.heap.size w.heap.size l.length (l.map (entP pc)) wr by rw [← fillE_all]; exact K1.out)
        have hml : (l.map (entP pc)).length = l.length := List.length_map _
        have HCM := Lib.hid (show CmpOf w 63 #[] cmpE (l.map (entP pc)) from fun x _ y _ u _ => by simpa using pclosure_any u x y)
        clear hsa HS K1
        by_cases h0 : l.length = 0
        · have HRW := Lib.hid (show l = [] from List.eq_nil_of_length_eq_zero h0)
          obtain rfl := HRW.out
          have HSN := Lib.hid (sort_none (some ⟨w.heap.size, 0, none⟩) 0 (.func (.func 63) #[] #[]) wr)
          have HM := Lib.hid K2.out.made
          have HE := Lib.hid (show Ents wr (some ⟨w.heap.size, 0, none⟩) 0 ((rowP pc []).map (entP pc)) from by
            have e : (rowP pc []).map (entP pc) = [] := by rw [List.eq_nil_of_length_eq_zero (row_len pc [])]; rfl
            rw [e]
            exact ⟨Nat.le_refl _, Nat.zero_le _, fun h => by simp at h, fun t ht => absurd ht (Nat.not_lt_zero t)⟩)
          clear h0 hml HCM K2 HSD HRW
          simp only [List.length_nil] at *
          go_wp2_with (fail)
          refine HSN.out.mono ?_
          rintro e z ⟨rfl, rfl⟩
          go_wp2
          refine bodyPost_ret (v := .tuple #[.slice (some ⟨w.heap.size, 0, none⟩) 0 0, .bool true]) (by simp [results, Tryz.results30, go_sem]) rfl ?_
          exact ⟨HM.out, .inr ⟨HOR.out, _, _, rfl, HE.out⟩⟩
        · have hsort := sort_any 63 #[] cmpE w w.heap.size w.heap.size l.length (l.map (entP pc)) wr K2.out (by omega) (by omega) enters_pack HCM.out cmp_trans cmp_anti
          rewrite [hml] at hsort
          have HSO := Lib.hid hsort
          clear hsort K2 HCM
          go_wp2_with (fail)
          refine HSO.out.mono ?_
          rintro e z ⟨rfl, r, hp, hs, hK⟩
          have hr := sorted_row HSD.out hp hs
          subst hr
          obtain ⟨hlr, so, c, hv, hE⟩ := owns_ents hK.row
          have hmr : ((rowP pc l).map (entP pc)).length = l.length := by rw [List.length_map, row_len]
          rewrite [hmr] at hv
          simp only [Value.slice.injEq] at hv
          obtain ⟨rfl, -, rfl⟩ := hv
          have HE := Lib.hid hE
          have HM := Lib.hid hK.made
          clear hp hs hK hlr hmr hE HSO HSD
          go_wp2
          refine bodyPost_ret (v := .tuple #[.slice (some ⟨w.heap.size, 0, none⟩) l.length l.length, .bool true]) (by simp [results, Tryz.results30, go_sem]) rfl ?_
          exact ⟨HM.out, .inr ⟨HOR.out, _, _, rfl, HE.out⟩⟩
/-- The instructions while they are taken out of their keyed ones. -/
def fillI (es : List Ent) (k : Nat) : List In := (es.take k).map Ent.x ++ List.replicate (es.length - k) inZero
theorem fillI_len (es : List Ent) {k : Nat} (h : k ≤ es.length) : (fillI es k).length = es.length := by
  unfold fillI
  rw [List.length_append, List.length_map, List.length_take, List.length_replicate]
  omega
theorem fillI_zero (es : List Ent) : fillI es 0 = List.replicate es.length inZero := by simp [fillI]
theorem fillI_all (es : List Ent) : fillI es es.length = es.map Ent.x := by simp [fillI]
theorem fillI_put (es : List Ent) {k : Nat} (h : k < es.length) (e : Ent) (he : es[k] = e) : (fillI es k).set k e.x = fillI es (k + 1) := by
  unfold fillI
  have e1 : ((es.take k).map Ent.x).length = k := by rw [List.length_map, List.length_take]; omega
  rw [List.set_append_right _ _ (by omega), e1, Nat.sub_self, show es.length - k = (es.length - (k + 1)) + 1 by omega, List.replicate_succ, List.set_cons_zero, List.take_succ_eq_append_getElem h, List.map_append, List.append_assoc, he]
  rfl
/-- A row of instructions of a call's own, in a block that is known. -/
structure RowTook (W : World) (g n : Nat) (l : List In) (w : World) : Prop where
  made : Made W w
  low : W.heap.size ≤ g
  row : w.ownsRow W.heap.size 40 11 (.slice (some ⟨g, 0, none⟩) n n) n (flatI l)
theorem RowTook.next {W w w' : World} {g n : Nat} {l : List In} (h : RowTook W g n l w) (hm : Made w w') : RowTook W g n l w' := ⟨Made.trans h.made hm, h.low, owns_made h.row hm⟩
theorem RowTook.put {W w : World} {g n : Nat} {l : List In} (h : RowTook W g n l w) {t : Nat} (ht : t < l.length) (x : In) : RowTook W g n (l.set t x) (put11 w g (t * 11) x) := ⟨put_made h.made h.low x, h.low, row_put h.row ht x⟩
theorem RowTook.len {W w : World} {g n : Nat} {l : List In} (h : RowTook W g n l w) : l.length = n := by
  have := h.row.1
  rw [flatI_len] at this
  omega
/-- What instsOf tells. -/
def InstsSay (es : List Ent) (w : World) (e : Ending) (w' : World) : Prop := ∃ so c, e = .returned (.slice so es.length c) ∧ Insts w' so c (es.map Ent.x) ∧ Made w w'
set_option maxRecDepth 100000 in
set_option maxHeartbeats 16000000 in
theorem pinstsOf_any (so : Option Addr) (cap : Nat) (es : List Ent) (w : World) (hI : Ents w so cap es) (hs : ∀ e ∈ es, e.x.small) (hl : es.length ≤ 1000) :
    Calls Tryz.prog 67 #[.slice so es.length cap] w (InstsSay es w) := by
  obtain ⟨i0, hi, hz0, hz1, hz2⟩ := info_parts inst_row
  have hzb : i0.bytes * es.length ≤ 281474976710656 := by rw [hz2]; omega
  have H := Lib.hid hI
  have HSM := Lib.hid hs
  clear hI hs
  go_enter Tryz.func67, Tryz.ntmps67
  go_upto_region 2 with (at_make; refine wpList_make_full _ rfl _ _ 27 rfl w.heap.size 40 i0 (In.val inZero) 11 Tryz.underlying27 hi hz0 hz1 _ _ _ _ es.length rfl rfl rfl rfl hzb (by unfold maxLen; omega) (Nat.le_refl _) ?_; intro w1 hown hgr)
  rewrite [made_insts] at hown
  have K0 := Lib.hid (show RowTook w w.heap.size es.length (fillI es 0) w1 from ⟨⟨hgr.os, hgr.tape, hgr.output, hgr.size, fun k hk => hgr.block k hk (by simp)⟩, Nat.le_refl _, by rw [fillI_zero]; exact hown⟩)
  clear hown hgr hzb
  go_wp2_with (fail)
  go_loopw [11] (fun v wr => ∃ k : Nat, k ≤ es.length ∧ v = .int .i64 k ∧ RowTook w w.heap.size es.length (fillI es k) wr) (fun v _ => es.length - (intOf v).toNat)
  case atStart => exact ⟨0, by omega, rfl, K0.out⟩
  case round =>
    obtain ⟨k, hk, rfl, hS⟩ := hrel
    have K1 := Lib.hid hS
    clear hS K0
    by_cases hlt : k < es.length
    · obtain ⟨x, hx⟩ : ∃ x, es[k] = x := ⟨_, rfl⟩
      obtain ⟨b, o, rfl, c0, c1, c2, c3, c4, c5, c6, c7, c8, c9, c10, c11, c12, c13, c14⟩ := ents_cells (ents_made H.out K1.out.made) hlt x hx
      have HP := Lib.hid (fillI_put es hlt x hx)
      have m3 := Lib.hid (made_alloc' (Made.refl wr) (.cells x.cells.toArray 93))
      have EB := Lib.hid (And.intro (show EntIn (wr.alloc (.cells x.cells.toArray 93)) wr.heap.size x from heap_alloc_new wr _) (K1.out.next m3.out))
      clear m3 K1 hx
      go_upto_region 5 with (fail)
      clear c0 c1 c2 c3 c4 c5 c6 c7 c8 c9 c10 c11 c12 c13 c14
      refine world_named (fun u => EntIn u wr.heap.size x ∧ RowTook w w.heap.size es.length (fillI es k) u) EB.out ?_
      rintro z ⟨hz1', hz2'⟩
      have fl := fillI_len es hk
      have hput := hz2'.put (t := k) (by rw [fl]; exact hlt) x.x
      rewrite [HP.out] at hput
      have KN := Lib.hid hput
      obtain ⟨a0, a1, a2, a3, a4, a5, a6, a7, a8, a9, a10, a11, a12, a13, a14⟩ := entIn_cells hz1'
      obtain ⟨y, hy⟩ : ∃ y, (fillI es k)[k]'(by rw [fl]; exact hlt) = y := ⟨_, rfl⟩
      obtain ⟨d0, d1, d2, d3, d4, d5, d6, d7, d8, d9, d10⟩ := rowI_cells hz2'.row (by rw [fl]; exact hlt) y hy
      have fr := hz2'.row.frozenAt
      have lg := (hz2'.row.lt w.heap.size rfl).2
      have la := heap_lt hz1'
      clear hz1' hz2' hput fl hy EB HP
      go_wp2
      go_roundw
      case rel => exact ⟨k + 1, by omega, by go_num, KN.out⟩
      case measure => simp [intOf]; omega
    · obtain rfl : k = es.length := by omega
      have K2 := K1.out
      rewrite [fillI_all] at K2
      have hsm : ∀ y ∈ es.map Ent.x, y.small := fun y hy => by
        obtain ⟨e, he, rfl⟩ := List.mem_map.1 hy
        exact HSM.out e he
      obtain ⟨-, so2, c2, hv, hI2⟩ := owns_insts K2.row hsm
      simp only [Value.slice.injEq] at hv
      obtain ⟨rfl, -, rfl⟩ := hv
      have HI2 := Lib.hid hI2
      have HM := Lib.hid K2.made
      clear K2 hsm hI2 K1
      go_wp2
      go_ret
      exact ⟨_, _, rfl, HI2.out, HM.out⟩
end
end
section
set_option maxRecDepth 100000
open Go.ChangeShapes Go.WideShapes Go.ChangeAt Go.RowKit Go.Sort BigFrame

section
attribute [local irreducible] World.cell?
set_option maxRecDepth 100000 in
set_option maxHeartbeats 8000000 in
theorem pparse_any (W : World) (ao : Option Addr) (m cap : Nat) (e0 e1 raw dup : Bool) (n k : Nat) (_hk : k < n) (_hn : n ≤ 1000) : Makes Tryz.prog W 35 #[pkV ao m cap e0 e1 raw dup, .int .i64 k, .int .i64 n] (.int .u8 (parseAt e0 e1 dup n k)) := by
  intro w hm
  have K0 := Lib.hid (box_start hm (boxL ao m cap e0 e1 raw dup))
  clear hm
  by_cases hlast : k + 1 = n
  · have HQ := Lib.hid (parse_last e0 e1 dup hlast)
    have gl : ((k : Int) == (n : Int) - 1) = true := beq_iff_eq.2 (by omega)
    cases dup
    all_goals
      go_enter Tryz.func35, Tryz.ntmps35
      obtain ⟨p0, p1, p2, p3, p4⟩ := box_cells K0.out
      have lp := heap_lt K0.out.at_
      go_wp2
      go_ret
      exact ⟨by rw [HQ.out]; rfl, K0.out.made⟩
  · have gl : ((k : Int) == (n : Int) - 1) = false := beq_eq_false_iff_ne.2 (by omega)
    have H2 := Lib.hid (fun a b c h => parse_two a b c hlast h)
    have H1 := Lib.hid (fun a b c h => parse_one a b c hlast h)
    rcases bit_ways e0 e1 k with ⟨g0, rfl, hb⟩ | ⟨g0, rfl, g1, hb⟩ | ⟨g0, g1, rfl, hb⟩ | ⟨g0, g1, rfl, hb⟩ | ⟨g0, g1, hb⟩
    all_goals
      have HB := Lib.hid hb
      clear hb
      go_enter Tryz.func35, Tryz.ntmps35
      obtain ⟨p0, p1, p2, p3, p4⟩ := box_cells K0.out
      have lp := heap_lt K0.out.at_
      go_wp2
      go_ret
      first
        | exact ⟨by rw [H2.out _ _ _ HB.out]; rfl, K0.out.made⟩
        | exact ⟨by rw [H1.out _ _ _ HB.out]; rfl, K0.out.made⟩
theorem ent_kept {w w1 : World} {b : Nat} {e : Ent} {v : Value} (h : EntIn w b e) (gr : w.grownBy w1 v.ownBlock) (hb : ∀ g, v.ownBlock = some g → g < b) : EntIn w1 b e :=
  (gr.block b (heap_lt h) (fun hc => by have := hb b hc.symm; omega)).trans h
/-- What singly tells. -/
def WordsSay (zs : List Int) (w : World) (e : Ending) (w' : World) : Prop := ∃ v, e = .returned v ∧ WordsAt w v zs w'
set_option maxRecDepth 100000 in
set_option maxHeartbeats 16000000 in
theorem psingly_any (so : Option Addr) (cap : Nat) (es : List Ent) (w : World) (hP : Pieces w) (hI : Ents w so cap es) (hu : ∀ e ∈ es, isU32 e.upper) (hl : es.length ≤ 1000) :
    Calls Tryz.prog 31 #[.slice so es.length cap] w (WordsSay (bareE es) w) := by
  obtain ⟨i0, hi0, hz0, hz1, hz2⟩ := info_parts word_row
  have H := Lib.hid hI
  have HU := Lib.hid hu
  have HW := Lib.hid (fun (u : World) (hm : Made w u) (p : Int) (hp : isU32 p) => word_made u (hP.made hm) 0 p 0 (by unfold isU8; omega) hp (by unfold isU8; omega) u (Made.refl u))
  clear hI hu hP
  go_enter Tryz.func31, Tryz.ntmps31
  go_wp2_with (fail)
  go_loopw [3, 8] (fun ov kk wk => ∃ (k : Nat) (v : Value), k ≤ es.length ∧ kk = .int .i64 k ∧ v = ov ∧ WordsAt w v (bareE (es.take k)) wk) (fun _ kk _ => es.length - (intOf kk).toNat)
  case atStart => exact ⟨0, _, by omega, rfl, rfl, by simpa [bareE] using words_nil (Made.refl w)⟩
  case round =>
    obtain ⟨k, v, hk, rfl, rfl, hO⟩ := hrel
    have KV := Lib.hid hO
    clear hO
    by_cases hkl : k < es.length
    · obtain ⟨x, hx⟩ : ∃ x, es[k] = x := ⟨_, rfl⟩
      have hux := HU.out x (hx ▸ List.getElem_mem hkl)
      obtain ⟨b, o, rfl, c0, c1, c2, c3, c4, c5, c6, c7, c8, c9, c10, c11, c12, c13, c14⟩ := ents_cells (ents_made H.out KV.out.made) hkl x hx
      have hbn := bareE_next es hkl x hx
      have hle := bareE_le (es.take k)
      have htl : (es.take k).length ≤ 1000 := by rw [List.length_take]; omega
      have hL8 : (bareE (es.take k)).length ≤ 2000 := by omega
      have hone : (x.ext = true ∧ bareE (es.take (k + 1)) = bareE (es.take k) ++ [wordZ 0 x.upper 0] ++ [x.word]) ∨ (x.ext = false ∧ bareE (es.take (k + 1)) = bareE (es.take k) ++ [x.word]) := by
        unfold oneE at hbn
        cases hxe : x.ext with
        | true => rw [hxe] at hbn; exact .inl ⟨rfl, by rw [hbn]; simp⟩
        | false => rw [hxe] at hbn; exact .inr ⟨rfl, by rw [hbn]; simp⟩
      have HON := Lib.hid hone
      have m3 := Lib.hid (made_alloc' (Made.refl wr) (.cells x.cells.toArray 93))
      have EB := Lib.hid (And.intro (show EntIn (wr.alloc (.cells x.cells.toArray 93)) wr.heap.size x from heap_alloc_new wr _) (And.intro (KV.out.next m3.out) (fun g hg => (KV.out.row.lt g hg).2)))
      clear hbn hle htl hone hx m3 KV
      generalize bareE (es.take k) = L at *
      go_upto_region 5 with (fail)
      clear c0 c1 c2 c3 c4 c5 c6 c7 c8 c9 c10 c11 c12 c13 c14
      refine world_named (fun u => EntIn u wr.heap.size x ∧ WordsAt w v L u ∧ ∀ g, v.ownBlock = some g → g < wr.heap.size) EB.out ?_
      rintro z ⟨hz1', hz2', hz3'⟩
      have EN := Lib.hid hz1'
      have KV := Lib.hid hz2'
      have HB := Lib.hid hz3'
      clear hz1' hz2' hz3' EB
      have cf := fun j => cell_of_lit EN.out j
      have d12 : z.cell? ⟨wr.heap.size, 12, none⟩ = some (.int .u32 x.word) := cf 12
      have d13 : z.cell? ⟨wr.heap.size, 13, none⟩ = some (.int .u32 x.upper) := cf 13
      have d14 : z.cell? ⟨wr.heap.size, 14, none⟩ = some (.bool x.ext) := cf 14
      have le_ := heap_lt EN.out
      clear cf
      rcases HON.out with ⟨hxe, hbk⟩ | ⟨hxe, hbk⟩
      · rewrite [hxe] at d14
        have HBK := Lib.hid hbk
        have HG := Lib.hid (HW.out z KV.out.made x.upper hux)
        clear hxe hbk HON hux
        go_wp2_with (fail)
        refine HG.out.mono ?_
        rintro e w4 ⟨rfl, h4⟩
        have EN4 := Lib.hid (Made.heap h4 EN.out)
        have KV4 := Lib.hid (KV.out.next h4)
        clear h4 d12 d13 d14 le_ EN KV HG
        generalize wordZ 0 x.upper 0 = ew at *
        have m2 : Made w4 (w4.alloc (.cells (wordsV [ew]).toArray 23)) := (Made.refl w4).alloc (Nat.le_refl _) _
        have KA := Lib.hid (KV4.out.next m2)
        have EA := Lib.hid (Made.heap m2 EN4.out)
        have hone2 := Lib.hid (one_word w4 ew)
        have hsz := Lib.hid KA.out.made.size
        have hmx : L.length + 1 ≤ maxLen := by unfold maxLen; omega
        have hby : (L.length + 1) * 4 ≤ 140737488355328 := by omega
        clear m2
        go_upto_region 7 with (at_builtin; refine wpList_append_each rfl (.tmp 15) (.tmp 20) 22 rfl w.heap.size 23 i0 (.int .u32 0) 1 4 Tryz.underlying22 hi0 hz0 hz1 hz2 rfl (by decide) v L.length (wordsV L) rfl KA.out.row (some ⟨w4.heap.size, 0, none⟩) 1 1 (wordsV [ew]) rfl (fun h => by simp at h) rfl hone2.out (words_one_cell _) hmx hby hsz.out ?_; intro v7 w9 own1 gr1; have KG := Lib.hid (And.intro (KA.out.grows own1 gr1) (ent_kept EA.out gr1 HB.out)); clear own1 gr1)
        clear hone2 hsz hmx hby KA KV4 EN4 EA HB
        have KV := Lib.hid KG.out.1
        have EN := Lib.hid KG.out.2
        clear KG
        have cf := fun j => cell_of_lit EN.out j
        have d12 : w9.cell? ⟨wr.heap.size, 12, none⟩ = some (.int .u32 x.word) := cf 12
        have le_ := heap_lt EN.out
        clear cf
        have hL9 : (L ++ [ew]).length ≤ 2001 := by rw [List.length_append, List.length_singleton]; omega
        have m2 : Made w9 (w9.alloc (.cells (wordsV [x.word]).toArray 23)) := (Made.refl w9).alloc (Nat.le_refl _) _
        have KA := Lib.hid (KV.out.next m2)
        have hone2 := Lib.hid (one_word w9 x.word)
        have hsz := Lib.hid KA.out.made.size
        have hmx : (L ++ [ew]).length + 1 ≤ maxLen := by unfold maxLen; omega
        have hby : ((L ++ [ew]).length + 1) * 4 ≤ 140737488355328 := by omega
        clear m2
        go_upto_region 8 with (at_builtin; refine wpList_append_each rfl (.tmp 22) (.tmp 26) 22 rfl w.heap.size 23 i0 (.int .u32 0) 1 4 Tryz.underlying22 hi0 hz0 hz1 hz2 rfl (by decide) v7 (L ++ [ew]).length (wordsV (L ++ [ew])) rfl KA.out.row (some ⟨w9.heap.size, 0, none⟩) 1 1 (wordsV [x.word]) rfl (fun h => by simp at h) rfl hone2.out (words_one_cell _) hmx hby hsz.out ?_; intro v8 w10 own1 gr1; have KG := Lib.hid (KA.out.grows own1 gr1); clear own1 gr1)
        clear hone2 hsz hmx hby KA
        have KN := Lib.hid (show WordsAt w v8 (bareE (es.take (k + 1))) w10 by rw [HBK.out]; exact KG.out)
        go_wp2
        go_roundw
        case rel => exact ⟨k + 1, _, by omega, by go_num, rfl, KN.out⟩
        case measure => simp [intOf]; omega
      · rewrite [hxe] at d14
        have HBK := Lib.hid hbk
        clear hxe hbk HON hux HB
        have m2 : Made z (z.alloc (.cells (wordsV [x.word]).toArray 23)) := (Made.refl z).alloc (Nat.le_refl _) _
        have KA := Lib.hid (KV.out.next m2)
        have hone2 := Lib.hid (one_word z x.word)
        have hsz := Lib.hid KA.out.made.size
        have hmx : L.length + 1 ≤ maxLen := by unfold maxLen; omega
        have hby : (L.length + 1) * 4 ≤ 140737488355328 := by omega
        clear m2
        go_upto_region 8 with (at_builtin; refine wpList_append_each rfl (.tmp 22) (.tmp 26) 22 rfl w.heap.size 23 i0 (.int .u32 0) 1 4 Tryz.underlying22 hi0 hz0 hz1 hz2 rfl (by decide) v L.length (wordsV L) rfl KA.out.row (some ⟨z.heap.size, 0, none⟩) 1 1 (wordsV [x.word]) rfl (fun h => by simp at h) rfl hone2.out (words_one_cell _) hmx hby hsz.out ?_; intro v8 w10 own1 gr1; have KG := Lib.hid (KA.out.grows own1 gr1); clear own1 gr1)
        clear hone2 hsz hmx hby KA
        have KN := Lib.hid (show WordsAt w v8 (bareE (es.take (k + 1))) w10 by rw [HBK.out]; exact KG.out)
        go_wp2
        go_roundw
        case rel => exact ⟨k + 1, _, by omega, by go_num, rfl, KN.out⟩
        case measure => simp [intOf]; omega
    · obtain rfl : k = es.length := by omega
      have KE := Lib.hid (show WordsAt w v (bareE es) wr by have h := KV.out; rwa [List.take_length] at h)
      clear KV
      go_wp2
      go_ret
      exact ⟨_, rfl, KE.out⟩
/-! Two chosen, and the others. -/
theorem entsP_cells {w : World} {so : Option Addr} {c : Nat} {pc : Int} {r : List In} (h : Ents w so c (r.map (entP pc))) {t : Nat} (ht : t < r.length) (x : In) (hx : r[t] = x) : ∃ b o, so = some ⟨b, o, none⟩ ∧
    w.cell? ⟨b, o + t * 15, none⟩ = some (.int .u8 x.op) ∧ w.cell? ⟨b, o + t * 15 + 1, none⟩ = some (.int .u8 x.d) ∧ w.cell? ⟨b, o + t * 15 + 2, none⟩ = some (.int .u8 x.s) ∧ w.cell? ⟨b, o + t * 15 + 3, none⟩ = some (.int .u8 x.t) ∧
    w.cell? ⟨b, o + t * 15 + 4, none⟩ = some (.int .u8 x.n) ∧ w.cell? ⟨b, o + t * 15 + 5, none⟩ = some (.int .u8 x.pred) ∧ w.cell? ⟨b, o + t * 15 + 6, none⟩ = some (.int .u8 x.mode) ∧ w.cell? ⟨b, o + t * 15 + 7, none⟩ = some (.bool x.new) ∧
    w.cell? ⟨b, o + t * 15 + 8, none⟩ = some (.bool x.ext) ∧ w.cell? ⟨b, o + t * 15 + 9, none⟩ = some (.int .u16 x.count) ∧ w.cell? ⟨b, o + t * 15 + 10, none⟩ = some (.int .i64 x.imm) := by
  obtain ⟨b, o, e, c0, c1, c2, c3, c4, c5, c6, c7, c8, c9, c10, -⟩ := ents_cells h (t := t) (by simpa using ht) (entP pc x) (by simp [hx])
  exact ⟨b, o, e, c0, c1, c2, c3, c4, c5, c6, c7, c8, c9, c10⟩
theorem rest_parts (l : List In) {i j : Nat} (hij : i < j) (hj : j < l.length) : restOf l i j = l.take i ++ ((l.take j).drop (i + 1) ++ l.drop (j + 1)) := by
  unfold restOf
  have e1 : (l.take j).length = j := by rw [List.length_take]; omega
  rw [List.eraseIdx_eq_take_drop_succ l j, List.eraseIdx_append_of_lt_length (by omega), List.eraseIdx_eq_take_drop_succ, List.take_take, show min i j = i by omega, List.append_assoc]
/-- The three parts of the row that are no duplex. -/
def partsL (pc : Int) (r : List In) (i j : Nat) : List (List Ent) := [(r.map (entP pc)).take i, ((r.map (entP pc)).take j).drop (i + 1), (r.map (entP pc)).drop (j + 1)]
theorem parts_flat (pc : Int) (r : List In) {i j : Nat} (hij : i < j) (hj : j < r.length) : (partsL pc r i j).flatten = (restOf r i j).map (entP pc) := by
  rw [rest_parts r hij hj]
  unfold partsL
  simp
theorem parts_len (pc : Int) (r : List In) {i j : Nat} (hij : i < j) (hj : j < r.length) : ((r.map (entP pc)).take i).length = i ∧ (((r.map (entP pc)).take j).drop (i + 1)).length = j - (i + 1) ∧ ((r.map (entP pc)).drop (j + 1)).length = r.length - (j + 1) := by
  simp
  omega
def PairSays (pc : Int) (r : List In) (w : World) (e : Ending) (w' : World) : Prop := ∃ (v : Value) (i j : Nat), e = .returned v ∧ IsChoice r i j true ∧ WordsAt w v (dupW pc r i j) w'
/-- What lies in a block behind the first of a slice's parts, and which address the walk takes. -/
theorem part_ents {u : World} {b o c : Nat} {L : List Ent} (h : Ents u (some ⟨b, o, none⟩) c L) {p q : Nat} (hpq : p ≤ q) (hq : q ≤ L.length) : Ents u (if c = p then some ⟨b, o, none⟩ else some ⟨b, o + p * 15, none⟩) (c - p) ((L.take q).drop p) := by
  by_cases hc : c = p
  · rw [if_pos hc]
    have hr := h.room
    have e : (L.take q).drop p = [] := List.drop_eq_nil_of_le (by rw [List.length_take]; omega)
    rw [e]
    exact ⟨Nat.zero_le _, Nat.le_trans (Nat.sub_le _ _) h.max, fun h => by simp at h, fun t ht => absurd ht (Nat.not_lt_zero t)⟩
  · rw [if_neg hc]
    exact ents_part h hpq hq
theorem parts_lists {u : World} {b o c i j g : Nat} {pc : Int} {r : List In} (h : Ents u (some ⟨b, o, none⟩) c (r.map (entP pc))) (hij : i < j) (hj : j < r.length) (hg : g < u.heap.size) (c0 : u.cell? ⟨g, 0, none⟩ = some (.slice (some ⟨b, o, none⟩) i c))
    (c1 : u.cell? ⟨g, 1, none⟩ = some (.slice (some ⟨b, o + (i + 1) * 15, none⟩) (j - (i + 1)) (c - (i + 1)))) (c2 : u.cell? ⟨g, 2, none⟩ = some (.slice (if c = j + 1 then some ⟨b, o, none⟩ else some ⟨b, o + (j + 1) * 15, none⟩) (r.length - (j + 1)) (c - (j + 1)))) : Lists u g (partsL pc r i j) := by
  obtain ⟨l1, l2, l3⟩ := parts_len pc r hij hj
  have hml : (r.map (entP pc)).length = r.length := List.length_map _
  have hroom := h.room
  have e1 := part_ents h (p := 0) (q := i) (by omega) (by omega)
  have e2 := part_ents h (p := i + 1) (q := j) (by omega) (by omega)
  have e3 := part_ents h (p := j + 1) (q := r.length) (by omega) (by omega)
  rw [if_neg (show ¬ c = 0 by omega), Nat.zero_mul, Nat.add_zero, List.drop_zero, Nat.sub_zero] at e1
  rw [if_neg (show ¬ c = i + 1 by omega)] at e2
  rw [show (r.map (entP pc)).take r.length = r.map (entP pc) by rw [← hml, List.take_length]] at e3
  refine ⟨hg, fun k hk => ?_⟩
  have hk3 : k < 3 := hk
  match k, hk3 with
  | 0, _ => exact ⟨_, _, c0.trans (by show some _ = some _; rw [show (partsL pc r i j)[0] = (r.map (entP pc)).take i from rfl, l1]), e1⟩
  | 1, _ => exact ⟨_, _, c1.trans (by show some _ = some _; rw [show (partsL pc r i j)[1] = ((r.map (entP pc)).take j).drop (i + 1) from rfl, l2]), e2⟩
  | 2, _ => exact ⟨_, _, c2.trans (by show some _ = some _; rw [show (partsL pc r i j)[2] = (r.map (entP pc)).drop (j + 1) from rfl, l3]), e3⟩
set_option maxRecDepth 100000 in
set_option maxHeartbeats 32000000 in
theorem ppaired_any (so : Option Addr) (c : Nat) (pc : Int) (r : List In) (w : World) (hT : Tabs w) (hI : Ents w so c (r.map (entP pc))) (hsd : Said pc r) (hany : anyP r = true) (hl : r.length ≤ 4) :
    Calls Tryz.prog 32 #[.slice so r.length c] w (PairSays pc r w) := by
  obtain ⟨i0, hi0, hz0, hz1, hz2⟩ := info_parts word_row
  have hml : (r.map (entP pc)).length = r.length := List.length_map _
  have hins := pinstsOf_any so c _ w hI (fun e he => by
    obtain ⟨x, hx, rfl⟩ := List.mem_map.1 he
    exact (hsd x hx).1) (by rw [hml]; omega)
  rewrite [hml] at hins
  have HIN := Lib.hid hins
  have HT := Lib.hid hT
  have HI := Lib.hid hI
  have HSD := Lib.hid hsd
  have HAN := Lib.hid hany
  clear hT hI hsd hany hins
  go_enter Tryz.func32, Tryz.ntmps32
  go_wp2_with (fail)
  refine HIN.out.mono ?_
  rintro e w1 ⟨so1, c1, rfl, hI1, h1⟩
  rewrite [hml]
  rewrite [map_ent] at hI1
  have M1 := Lib.hid h1
  have HC := Lib.hid (lchoose_any so1 c1 r w1 (HT.out.made h1) hI1 (by omega))
  clear h1 hI1 HIN hml
  go_wp2_with (fail)
  refine HC.out.mono ?_
  rintro e w2 ⟨i, j, ok, rfl, hch, h2⟩
  obtain rfl : ok = true := by rw [choice_any hch]; exact HAN.out
  obtain ⟨hij, hj, hoab, -⟩ := hch.some rfl
  have hi : i < r.length := by omega
  have M2 := Lib.hid (Made.trans M1.out h2)
  have HCH := Lib.hid hch
  obtain ⟨x0, hx0⟩ : ∃ x, r[i] = x := ⟨_, rfl⟩
  obtain ⟨y0, hy0⟩ : ∃ x, r[j] = x := ⟨_, rfl⟩
  have hgx : r.getD i inZero = x0 := by simp [List.getD, hi, hx0]
  have hgy : r.getD j inZero = y0 := by simp [List.getD, hj, hy0]
  have hpb : pairB x0 y0 = true := by
    unfold okAt at hoab
    rw [hgx, hgy, Bool.and_eq_true] at hoab
    exact hoab.1
  obtain ⟨pv, hpv⟩ : ∃ v, pairP x0 y0 = (v, true) := ⟨(pairP x0 y0).1, Prod.ext rfl hpb⟩
  have HDW := Lib.hid (show dupW pc r i j = bareW pc (restOf r i j) ++ [pv] by unfold dupW; rw [hgx, hgy, hpv])
  have hpr := pair_any w2 (HT.out.made M2.out) x0 y0 (HSD.out _ (hx0 ▸ List.getElem_mem hi)).1 (HSD.out _ (hy0 ▸ List.getElem_mem hj)).1
  rewrite [hpv] at hpr
  have HPR := Lib.hid hpr
  have E2 := Lib.hid (ents_made HI.out M2.out)
  obtain ⟨b, o, rfl, c0, c1, c2, c3, c4, c5, c6, c7, c8, c9, c10⟩ := entsP_cells E2.out hi x0 hx0
  obtain ⟨b', o', e', d0, d1, d2, d3, d4, d5, d6, d7, d8, d9, d10⟩ := entsP_cells E2.out hj y0 hy0
  obtain ⟨rfl, rfl⟩ : b = b' ∧ o = o' := by simpa using e'
  have lb := World.block_lt_of_cell? w2 _ c0
  have hroom := E2.out.room
  rewrite [List.length_map] at hroom
  have hmax := E2.out.max
  unfold maxLen at hmax
  clear h2 hch hoab hgx hgy hpb hpv hpr hx0 hy0 HAN HC e'
  have gc0 := fun d os => cell_regrown c0 d os
  have gd0 := fun d os => cell_regrown d0 d os
  have gc1 := fun d os => cell_regrown c1 d os
  have gd1 := fun d os => cell_regrown d1 d os
  have gc2 := fun d os => cell_regrown c2 d os
  have gd2 := fun d os => cell_regrown d2 d os
  have gc3 := fun d os => cell_regrown c3 d os
  have gd3 := fun d os => cell_regrown d3 d os
  have gc4 := fun d os => cell_regrown c4 d os
  have gd4 := fun d os => cell_regrown d4 d os
  have gc5 := fun d os => cell_regrown c5 d os
  have gd5 := fun d os => cell_regrown d5 d os
  have gc6 := fun d os => cell_regrown c6 d os
  have gd6 := fun d os => cell_regrown d6 d os
  have gc7 := fun d os => cell_regrown c7 d os
  have gd7 := fun d os => cell_regrown d7 d os
  have gc8 := fun d os => cell_regrown c8 d os
  have gd8 := fun d os => cell_regrown d8 d os
  have gc9 := fun d os => cell_regrown c9 d os
  have gd9 := fun d os => cell_regrown d9 d os
  have gc10 := fun d os => cell_regrown c10 d os
  have gd10 := fun d os => cell_regrown d10 d os
  have hi0' : (0 : Int) ≤ (i : Int) := by omega
  have hi1' : (i : Int) < (r.length : Int) := by omega
  have hj0' : (0 : Int) ≤ (j : Int) := by omega
  have hj1' : (j : Int) < (r.length : Int) := by omega
  go_upto_region 2 with (fail)
  refine wp_region_quiet_below (by kernel_rfl) (by kernel_rfl) ?_
  repeat (go_big_quiet_step ((go_at_call 68; with_reducible exact HPR.out.again _ _)))
  refine wpQuiet_nil ?_
  intro w3 hz
  have m3 := made_regrown hz
  have M3 := Lib.hid (Made.trans M2.out m3)
  have E3 := Lib.hid (ents_made E2.out m3)
  clear hz m3 lb HPR E2 gc0 c0 gd0 d0 gc1 c1 gd1 d1 gc2 c2 gd2 d2 gc3 c3 gd3 d3 gc4 c4 gd4 d4 gc5 c5 gd5 d5 gc6 c6 gd6 d6 gc7 c7 gd7 d7 gc8 c8 gd8 d8 gc9 c9 gd9 d9 gc10 c10 gd10 d10
  have hwi : IntKind.i64.wrap ((i : Int) + 1) = (i : Int) + 1 := by rw [IntKind.wrap_i64]; omega
  have hwj : IntKind.i64.wrap ((j : Int) + 1) = (j : Int) + 1 := by rw [IntKind.wrap_i64]; omega
  have hic : i ≤ c := by omega
  have hjc : j ≤ c := by omega
  have p0 : (0 : Int) ≤ (i : Int) + 1 := by omega
  have p1 : (i : Int) + 1 ≤ (j : Int) := by omega
  have p2 : ((i : Int) + 1).toNat = i + 1 := by omega
  have p3 : (0 : Int) ≤ (j : Int) + 1 := by omega
  have p4 : (j : Int) + 1 ≤ (r.length : Int) := by omega
  have p5 : ((j : Int) + 1).toNat = j + 1 := by omega
  obtain ⟨A, hA⟩ : ∃ A : Addr, (if c = j + 1 then (some ⟨b, o, none⟩ : Option Addr) else some ⟨b, o + (j + 1) * 15, none⟩) = some A := by split <;> exact ⟨_, rfl⟩
  go_upto_region 3 with (fail)
  refine wp_region_made 12 [] [0, 1, 2, 3, 4, 5, 6, 7, 8, 9, 10, 11] (by kernel_rfl) (by kernel_rfl) (by intro c a d v w h; cases d <;> exact h) ?_
  simp only [moved, picked, List.foldr_cons, List.foldr_nil, Option.elim_some, List.getElem?_toArray, List.getElem?_cons_zero, List.getElem?_cons_succ, List.drop_succ_cons, List.drop_zero]
  repeat (go_big_quiet_step (fail))
  refine wpQuiet_nil ?_
  intro w4 h4
  have M4 := Lib.hid (Made.trans M3.out h4)
  have hbk := heap_alloc_new w4 (.cells #[.slice (some ⟨b, o, none⟩) i c, .slice (some ⟨b, o + (i + 1) * 15, none⟩) (j - (i + 1)) (c - (i + 1)), .slice (some A) (r.length - (j + 1)) (c - (j + 1))] 55)
  have cf := fun k => cell_of_lit (cs := [.slice (some ⟨b, o, none⟩) i c, .slice (some ⟨b, o + (i + 1) * 15, none⟩) (j - (i + 1)) (c - (i + 1)), .slice (some A) (r.length - (j + 1)) (c - (j + 1))]) hbk k
  have hlists := parts_lists (ents_made E3.out (Made.trans h4 (made_alloc' (Made.refl w4) _))) hij hj (heap_lt hbk) (cf 0) (cf 1) (by rw [hA]; exact cf 2)
  have hflat := parts_flat pc r hij hj
  have hrl : (restOf r i j).length ≤ r.length := by
    have h5 := rest_len r i j r.length
    rwa [rest_whole] at h5
  have hcat := concat_any (partsL pc r i j) w4.heap.size _ hlists (by show 3 ≤ 1000; omega) (by rw [hflat, List.length_map]; omega)
  rewrite [hflat] at hcat
  have HCT := Lib.hid (show Calls Tryz.prog 69 #[.slice (some ⟨w4.heap.size, 0, none⟩) 3 3] _ (CatSays ((restOf r i j).map (entP pc)) _) from hcat)
  have M5 := Lib.hid (made_alloc' M4.out (.cells #[.slice (some ⟨b, o, none⟩) i c, .slice (some ⟨b, o + (i + 1) * 15, none⟩) (j - (i + 1)) (c - (i + 1)), .slice (some A) (r.length - (j + 1)) (c - (j + 1))] 55))
  clear h4 hlists hflat hcat hbk cf hA E3 M3 M4 hwi hwj hic hjc p0 p1 p2 p3 p4 p5 hroom hmax
  go_wp2_with (fail)
  refine HCT.out.mono ?_
  rintro e w6 ⟨so6, c6, rfl, hE6, h6⟩
  have M6 := Lib.hid (Made.trans M5.out h6)
  have hsi := psingly_any so6 c6 ((restOf r i j).map (entP pc)) w6 (HT.out.made M6.out).pieces hE6 (fun e he => by
    obtain ⟨x, hx, rfl⟩ := List.mem_map.1 he
    exact upP_u32 x pc) (by rw [List.length_map]; omega)
  rewrite [List.length_map, bareE_ent] at hsi
  have HSI := Lib.hid hsi
  have hbl := bareW_le pc (restOf r i j)
  have hL8 : (bareW pc (restOf r i j)).length ≤ 8 := by omega
  clear hsi hE6 h6 HCT M5 hbl
  go_wp2_with (fail)
  refine HSI.out.mono ?_
  rintro e w7 ⟨v, rfl, hW⟩
  have KV := Lib.hid (show WordsAt w v (bareW pc (restOf r i j)) w7 from ⟨Made.trans M6.out hW.made, owns_mono hW.row M6.out.size⟩)
  clear hW HSI M6 hrl
  generalize bareW pc (restOf r i j) = L at *
  have m2 : Made w7 (w7.alloc (.cells (wordsV [pv]).toArray 23)) := (Made.refl w7).alloc (Nat.le_refl _) _
  have KA := Lib.hid (KV.out.next m2)
  have hone2 := Lib.hid (one_word w7 pv)
  have hsz := Lib.hid KA.out.made.size
  have hmx : L.length + 1 ≤ maxLen := by unfold maxLen; omega
  have hby : (L.length + 1) * 4 ≤ 140737488355328 := by omega
  clear m2 KV
  go_wp2_with (at_builtin; refine wpList_append_each rfl (.tmp 45) (.tmp 47) 22 rfl w.heap.size 23 i0 (.int .u32 0) 1 4 Tryz.underlying22 hi0 hz0 hz1 hz2 rfl (by decide) v L.length (wordsV L) rfl KA.out.row (some ⟨w7.heap.size, 0, none⟩) 1 1 (wordsV [pv]) rfl (fun h => by simp at h) rfl hone2.out (words_one_cell _) hmx hby hsz.out ?_; intro v8 w10 own1 gr1; have KG := Lib.hid (KA.out.grows own1 gr1); clear own1 gr1)
  go_ret
  exact ⟨_, i, j, rfl, HCH.out, by rw [HDW.out]; exact KG.out⟩
end
end
section
set_option maxRecDepth 100000
open Go.ChangeShapes Go.WideShapes Go.ChangeAt Go.RowKit Go.Sort BigFrame

theorem thirty_put {z q : Int} (hz : isU32 z) : fromThirtyZ (thirtyZ z) q = putZ z 14 2 q := by
  rw [put_parse]
  unfold fromThirtyZ thirtyZ
  unfold isU32 at hz
  omega
theorem thirty_u32 (z : Int) : isU32 (thirtyZ z) := by
  unfold thirtyZ isU32
  omega
theorem worded_bad {pc : Int} {p : Pk} {w w' : World} {er : Int} (h : legalP p ≠ 0) (he : er = legalP p) (hm : Made w w') : Worded pc p w (.returned (.tuple #[.slice none 0 0, .int .i64 er])) w' :=
  ⟨none, 0, 0, er, [], rfl, rfl, ws_nil w', hm, fun _ => ⟨he, rfl⟩, fun h0 => absurd h0 h, fun h0 => absurd h0 h⟩
theorem worded_far {pc : Int} {p : Pk} {w w' : World} (h : legalP p = 0) (hs : sayAll pc p.insts = false) (hm : Made w w') : Worded pc p w (.returned (.tuple #[.slice none 0 0, .int .i64 6])) w' :=
  ⟨none, 0, 0, 6, [], rfl, rfl, ws_nil w', hm, fun h0 => absurd h h0, fun _ _ => ⟨rfl, rfl⟩, fun _ h0 => by rw [hs] at h0; cases h0⟩
theorem worded_ok {pc : Int} {p : Pk} {w w' : World} {so : Option Addr} {c : Nat} {zs : List Int} (h : legalP p = 0) (hs : sayAll pc p.insts = true) (hw : IsWords pc p zs) (hz : Ws w' so c zs) (hm : Made w w') {n : Nat} (hn : zs.length = n) : Worded pc p w (.returned (.tuple #[.slice so n c, .int .i64 0])) w' :=
  ⟨so, n, c, 0, zs, rfl, hn, hz, hm, fun h0 => absurd h h0, fun _ h0 => (by rw [hs] at h0; cases h0), fun _ _ => ⟨rfl, hw⟩⟩
theorem dup_u32 {pc : Int} {r : List In} {i j : Nat} (hs : Said pc r) (hc : IsChoice r i j true) : ∀ z ∈ dupW pc r i j, isU32 z := fun z hz => by
  obtain ⟨hij, hj, hoab, -⟩ := hc.some rfl
  unfold okAt at hoab
  rw [Bool.and_eq_true] at hoab
  unfold dupW at hz
  rcases List.mem_append.1 hz with h | h
  · exact (bareW_ok (fun x hx => hs x (List.mem_of_mem_eraseIdx (List.mem_of_mem_eraseIdx hx))) z h).u
  · obtain rfl : z = (pairP (r.getD i inZero) (r.getD j inZero)).1 := by simpa using h
    exact (paired _ _ _ (Prod.ext rfl hoab.1)).u32
section
attribute [local irreducible] World.cell?
set_option maxRecDepth 100000 in
set_option maxHeartbeats 32000000 in
theorem pwords_any (ao : Option Addr) (cap : Nat) (l : List In) (e0 e1 raw dup : Bool) (w : World) (hT : Tabs w) (hI : Insts w ao cap l) (hl : l.length ≤ 1000) (pc : Int) (_hp : isU32 pc) :
    Calls Tryz.prog 15 #[pkV ao l.length cap e0 e1 raw dup, .int .u32 pc] w (Worded pc ⟨l, e0, e1, raw, dup⟩ w) := by
  have K := Lib.hid (box_start (Made.refl w) (boxL ao l.length cap e0 e1 raw dup))
  have LK := Lib.hid (fun (u : World) (hu : Made w u) => lcheck_any ao cap l e0 e1 raw dup u (hT.made hu) (insts_made hI hu) hl)
  have RK := Lib.hid (fun (u : World) (hu : Made w u) => prow_any ao cap l u (hT.made hu) (insts_made hI hu) hl pc)
  have HT := Lib.hid (fun (u : World) (hu : Made w u) => hT.made hu)
  have HSM := Lib.hid hI.small
  have HLG := Lib.hid (fun h : legalP ⟨l, e0, e1, raw, dup⟩ = 0 => And.intro (legal_len h).1 (And.intro (order_legal (pc := pc) h) (fun hd : dup = true => show anyP l = true from by
    subst hd
    exact ((legal_iff _).1 h).placed)))
  obtain ⟨lv, hlv⟩ : ∃ v, v = legalP ⟨l, e0, e1, raw, dup⟩ := ⟨_, rfl⟩
  have HLV := Lib.hid hlv
  clear hT hI
  rewrite [← hlv] at LK
  clear hlv
  go_enter Tryz.func15, Tryz.ntmps15
  obtain ⟨p0, p1, p2, p3, p4⟩ := box_cells K.out
  have lp := heap_lt K.out.at_
  go_wp2_with (fail)
  refine (LK.out _ K.out.made).mono ?_
  rintro e w1 ⟨rfl, h1⟩
  have K1 := Lib.hid (K.out.next h1)
  clear h1 p0 p1 p2 p3 p4 lp K LK
  obtain ⟨p0, p1, p2, p3, p4⟩ := box_cells K1.out
  have lp := heap_lt K1.out.at_
  by_cases hz : lv = 0
  rotate_left
  · have hb : (lv != 0) = true := bne_iff_ne.2 hz
    have HZ := Lib.hid (show legalP ⟨l, e0, e1, raw, dup⟩ ≠ 0 from fun h => hz (HLV.out.trans h))
    clear hz
    go_wp2
    refine bodyPost_ret (v := .tuple #[.slice none 0 0, .int .i64 lv]) (by simp [results, Tryz.results15, go_sem]) rfl ?_
    exact worded_bad HZ.out HLV.out K1.out.made
  have HZ := Lib.hid (show legalP ⟨l, e0, e1, raw, dup⟩ = 0 from HLV.out.symm.trans hz)
  subst hz
  obtain ⟨hl4, hos, hdp⟩ := HLG.out HZ.out
  have HOS := Lib.hid hos
  have HDP := Lib.hid hdp
  clear hos hdp HLG
  go_wp2_with (fail)
  refine (RK.out _ K1.out.made).mono ?_
  rintro e w2 ⟨h2, ⟨ho, rfl⟩ | ⟨ho, so, c, rfl, hE⟩⟩
  · have HS := Lib.hid (HOS.out.symm.trans ho)
    have K2 := Lib.hid (K1.out.next h2)
    clear h2 ho p0 p1 p2 p3 p4 lp
    go_wp2
    refine bodyPost_ret (v := .tuple #[.slice none 0 0, .int .i64 6]) (by simp [results, Tryz.results15, go_sem]) rfl ?_
    exact worded_far HZ.out HS.out K2.out.made
  have HS := Lib.hid (HOS.out.symm.trans ho)
  have K2 := Lib.hid (K1.out.next h2)
  have HE := Lib.hid hE
  have hsd := said_of HSM.out HS.out
  have hrl : (rowP pc l).length = l.length := row_len pc l
  have HSR := Lib.hid (show Said pc (rowP pc l) from fun x hx => hsd x ((row_perm pc l).mem_iff.1 hx))
  have HAN := Lib.hid (show dup = true → anyP (rowP pc l) = true from fun h => (any_perm (row_perm pc l)).trans (HDP.out h))
  have HW := Lib.hid (show ∀ i j : Nat, (dup = true → IsChoice (rowP pc l) i j true) → (dup = false → i = 0 ∧ j = 0) → IsWords pc ⟨l, e0, e1, raw, dup⟩ (endsL e0 e1 dup (bareP pc ⟨l, e0, e1, raw, dup⟩ i j)) from fun i j h h' => ⟨i, j, h, h', rfl⟩)
  have HBP := Lib.hid (show ∀ i j : Nat, bareP pc ⟨l, e0, e1, raw, dup⟩ i j = if dup then dupW pc (rowP pc l) i j else bareW pc (rowP pc l) from fun i j => rfl)
  rewrite [← hrl]
  rewrite [← hrl] at hl4
  clear h2 ho hE hsd hrl HOS HDP HSM RK HLV p0 p1 p2 p3 p4 lp K1
  generalize rowP pc l = r at *
  obtain ⟨p0, p1, p2, p3, p4⟩ := box_cells K2.out
  have lp := heap_lt K2.out.at_
  cases dup
  case false =>
    have hml : (r.map (entP pc)).length = r.length := List.length_map _
    have hsi := psingly_any so c (r.map (entP pc)) w2 (HT.out w2 K2.out.made).pieces HE.out (fun e he => by
      obtain ⟨x, hx, rfl⟩ := List.mem_map.1 he
      exact upP_u32 x pc) (by rw [hml]; omega)
    rewrite [hml, bareE_ent] at hsi
    have HSI := Lib.hid hsi
    clear hsi hml
    go_wp2_with (fail)
    refine HSI.out.mono ?_
    rintro e w3 ⟨v, rfl, hW3⟩
    have K3 := Lib.hid (K2.out.next hW3.made)
    have KV := Lib.hid (show WordsAt w2 v (bareW pc r) w3 from hW3)
    have HWS := Lib.hid (show IsWords pc ⟨l, e0, e1, raw, false⟩ (endsL e0 e1 false (bareW pc r)) from by
      have h := HW.out 0 0 (fun h => by cases h) (fun _ => ⟨rfl, rfl⟩)
      rwa [HBP.out] at h)
    have HWU := Lib.hid (fun z hz => (bareW_ok HSR.out z hz).u)
    have HLN := Lib.hid (show (bareW pc r).length ≤ 16 by have := bareW_le pc r; omega)
    clear hW3 HW HBP HSI HAN HE HSR
    generalize bareW pc r = ws at *
    have hwl : ws.length ≤ 16 := HLN.out
    clear HLN
    obtain ⟨so2, c2, hv2, -⟩ := KV.out.ws
    subst hv2
    go_wp2_with (fail)
    go_loopw [34] (fun kk wk => ∃ k : Nat, k ≤ ws.length ∧ kk = .int .i64 k ∧ WordsAt w2 (.slice so2 ws.length c2) (endsTo e0 e1 false ws k) wk) (fun kk _ => ws.length - (intOf kk).toNat)
    case atStart => exact ⟨0, by omega, rfl, by rw [endsTo_none]; exact KV.out⟩
    case round =>
      clear p0 p1 p2 p3 p4 lp K3 KV
      obtain ⟨k, hk, rfl, hO⟩ := hrel
      have KR := Lib.hid hO
      have KB := Lib.hid (K2.out.next hO.made)
      clear hO
      by_cases hkl : k < ws.length
      · obtain ⟨g, rfl⟩ := words_some KR.out (by rw [endsTo_len]; omega)
        have ck := words_cell KR.out (k := k) (by rw [endsTo_len]; exact hkl)
        rewrite [endsTo_at e0 e1 false ws hkl] at ck
        have HZU := Lib.hid (HWU.out ws[k] (List.getElem_mem hkl))
        have HSET := Lib.hid (show ∀ u : World, WordsAt w2 (.slice (some ⟨g, 0, none⟩) ws.length c2) (endsTo e0 e1 false ws k) u → WordsAt w2 (.slice (some ⟨g, 0, none⟩) ws.length c2) (endsTo e0 e1 false ws (k + 1)) (u.setCell ⟨g, k, none⟩ (.int .u32 (putZ ws[k] 14 2 (parseAt e0 e1 false ws.length k)))) from fun u hu => by
          have h := hu.put k (putZ ws[k] 14 2 (parseAt e0 e1 false ws.length k))
          rwa [← endsTo_put e0 e1 false ws hkl] at h)
        have HQ := Lib.hid (parseAt_code e0 e1 false ws.length k)
        have HPA := Lib.hid (pparse_any wr ao l.length cap e0 e1 raw false ws.length k hkl (by omega))
        have HPI := Lib.hid (HT.out wr (Made.trans K2.out.made KR.out.made)).pieces
        have HTH := Lib.hid (thirty_made wr HPI.out ws[k] HZU.out)
        have HFT := Lib.hid (show Makes Tryz.prog wr 33 #[.int .u32 (thirtyZ ws[k]), .int .u8 (parseAt e0 e1 false ws.length k)] (.int .u32 (putZ ws[k] 14 2 (parseAt e0 e1 false ws.length k))) from by
          have h := fromThirty_made wr HPI.out (thirtyZ ws[k]) (parseAt e0 e1 false ws.length k) (thirty_u32 _) (by have := HQ.out; unfold isU8; omega)
          rwa [thirty_put HZU.out] at h)
        generalize parseAt e0 e1 false ws.length k = q at *
        generalize putZ ws[k] 14 2 q = pz at *
        generalize thirtyZ ws[k] = tz at *
        generalize ws[k] = z at *
        have lg0 := (KR.out.row.lt g rfl).2
        obtain ⟨p0, p1, p2, p3, p4⟩ := box_cells KB.out
        have lp := heap_lt KB.out.at_
        have gp0 := fun d os => cell_regrown p0 d os
        have gp1 := fun d os => cell_regrown p1 d os
        have gp2 := fun d os => cell_regrown p2 d os
        have gp3 := fun d os => cell_regrown p3 d os
        have gp4 := fun d os => cell_regrown p4 d os
        have ki0 : (0 : Int) ≤ (k : Int) := by omega
        have ki1 : (k : Int) < (ws.length : Int) := by omega
        go_upto_region 14 with (fail)
        refine wp_region_made 11 [] [0, 1, 2, 3, 4, 5, 6, 7, 8, 9, 10] (by kernel_rfl) (by kernel_rfl) (by intro c a d v w h; cases d <;> exact h) ?_
        simp only [moved, picked, List.foldr_cons, List.foldr_nil, Option.elim_some, List.getElem?_toArray, List.getElem?_cons_zero, List.getElem?_cons_succ, List.drop_succ_cons, List.drop_zero]
        repeat (go_big_quiet_step ((first
          | (go_at_call 34; with_reducible exact HTH.out.again _ _)
          | (go_at_call 35; with_reducible exact HPA.out.again _ _)
          | (go_at_call 33; with_reducible exact HFT.out.again _ _))))
        refine wpQuiet_nil ?_
        intro u hu
        have KR2 := Lib.hid (KR.out.next hu)
        have cz := (World.cell?_of_block (hu.block g lg0)).trans ck
        have fr := (words_row KR2.out).frozenAt
        have lg := (KR2.out.row.lt g rfl).2
        have KN := Lib.hid (HSET.out u KR2.out)
        clear hu p0 p1 p2 p3 p4 lp gp0 gp1 gp2 gp3 gp4 ck lg0 HTH HPA HFT HSET HQ
        go_wp2
        go_roundw
        case rel => exact ⟨k + 1, by omega, by go_num, KN.out⟩
        case measure => simp [intOf]; omega
      · obtain rfl : k = ws.length := by omega
        have hfin := KR.out
        rewrite [endsTo_all] at hfin
        obtain ⟨so3, c3, hv3, hws⟩ := hfin.ws
        rewrite [endsL_len] at hv3
        simp only [Value.slice.injEq] at hv3
        obtain ⟨rfl, -, rfl⟩ := hv3
        have HF := Lib.hid hws
        have HM := Lib.hid (Made.trans K2.out.made hfin.made)
        clear hfin hws
        go_wp2
        refine bodyPost_ret (v := .tuple #[.slice so2 ws.length c2, .int .i64 0]) (by simp [results, Tryz.results15, go_sem]) rfl ?_
        exact worded_ok HZ.out HS.out HWS.out HF.out HM.out (endsL_len _ _ _ _)
  case true =>
    have hpd := ppaired_any so c pc r w2 (HT.out w2 K2.out.made) HE.out HSR.out (HAN.out rfl) hl4
    have HPD := Lib.hid hpd
    clear hpd
    go_wp2_with (fail)
    refine HPD.out.mono ?_
    rintro e w3 ⟨v, i, j, rfl, hch, hW3⟩
    have K3 := Lib.hid (K2.out.next hW3.made)
    have KV := Lib.hid (show WordsAt w2 v (dupW pc r i j) w3 from hW3)
    have HWS := Lib.hid (show IsWords pc ⟨l, e0, e1, raw, true⟩ (endsL e0 e1 true (dupW pc r i j)) from by
      have h := HW.out i j (fun _ => hch) (fun h => by cases h)
      rwa [HBP.out] at h)
    have HWU := Lib.hid (dup_u32 HSR.out hch)
    have HLN := Lib.hid (show (dupW pc r i j).length ≤ 16 by
      unfold dupW
      rw [List.length_append, List.length_singleton]
      have h1 := bareW_le pc (restOf r i j)
      have h2 := rest_len r i j r.length
      rw [rest_whole] at h2
      omega)
    clear hW3 HW HBP HPD HAN HE HSR hch
    generalize dupW pc r i j = ws at *
    have hwl : ws.length ≤ 16 := HLN.out
    clear HLN
    obtain ⟨so2, c2, hv2, -⟩ := KV.out.ws
    subst hv2
    go_wp2_with (fail)
    go_loopw [34] (fun kk wk => ∃ k : Nat, k ≤ ws.length ∧ kk = .int .i64 k ∧ WordsAt w2 (.slice so2 ws.length c2) (endsTo e0 e1 true ws k) wk) (fun kk _ => ws.length - (intOf kk).toNat)
    case atStart => exact ⟨0, by omega, rfl, by rw [endsTo_none]; exact KV.out⟩
    case round =>
      clear p0 p1 p2 p3 p4 lp K3 KV
      obtain ⟨k, hk, rfl, hO⟩ := hrel
      have KR := Lib.hid hO
      have KB := Lib.hid (K2.out.next hO.made)
      clear hO
      by_cases hkl : k < ws.length
      · obtain ⟨g, rfl⟩ := words_some KR.out (by rw [endsTo_len]; omega)
        have ck := words_cell KR.out (k := k) (by rw [endsTo_len]; exact hkl)
        rewrite [endsTo_at e0 e1 true ws hkl] at ck
        have HZU := Lib.hid (HWU.out ws[k] (List.getElem_mem hkl))
        have HSET := Lib.hid (show ∀ u : World, WordsAt w2 (.slice (some ⟨g, 0, none⟩) ws.length c2) (endsTo e0 e1 true ws k) u → WordsAt w2 (.slice (some ⟨g, 0, none⟩) ws.length c2) (endsTo e0 e1 true ws (k + 1)) (u.setCell ⟨g, k, none⟩ (.int .u32 (putZ ws[k] 14 2 (parseAt e0 e1 true ws.length k)))) from fun u hu => by
          have h := hu.put k (putZ ws[k] 14 2 (parseAt e0 e1 true ws.length k))
          rwa [← endsTo_put e0 e1 true ws hkl] at h)
        have HQ := Lib.hid (parseAt_code e0 e1 true ws.length k)
        have HPA := Lib.hid (pparse_any wr ao l.length cap e0 e1 raw true ws.length k hkl (by omega))
        have HPI := Lib.hid (HT.out wr (Made.trans K2.out.made KR.out.made)).pieces
        have HTH := Lib.hid (thirty_made wr HPI.out ws[k] HZU.out)
        have HFT := Lib.hid (show Makes Tryz.prog wr 33 #[.int .u32 (thirtyZ ws[k]), .int .u8 (parseAt e0 e1 true ws.length k)] (.int .u32 (putZ ws[k] 14 2 (parseAt e0 e1 true ws.length k))) from by
          have h := fromThirty_made wr HPI.out (thirtyZ ws[k]) (parseAt e0 e1 true ws.length k) (thirty_u32 _) (by have := HQ.out; unfold isU8; omega)
          rwa [thirty_put HZU.out] at h)
        generalize parseAt e0 e1 true ws.length k = q at *
        generalize putZ ws[k] 14 2 q = pz at *
        generalize thirtyZ ws[k] = tz at *
        generalize ws[k] = z at *
        have lg0 := (KR.out.row.lt g rfl).2
        obtain ⟨p0, p1, p2, p3, p4⟩ := box_cells KB.out
        have lp := heap_lt KB.out.at_
        have gp0 := fun d os => cell_regrown p0 d os
        have gp1 := fun d os => cell_regrown p1 d os
        have gp2 := fun d os => cell_regrown p2 d os
        have gp3 := fun d os => cell_regrown p3 d os
        have gp4 := fun d os => cell_regrown p4 d os
        have ki0 : (0 : Int) ≤ (k : Int) := by omega
        have ki1 : (k : Int) < (ws.length : Int) := by omega
        go_upto_region 14 with (fail)
        refine wp_region_made 11 [] [0, 1, 2, 3, 4, 5, 6, 7, 8, 9, 10] (by kernel_rfl) (by kernel_rfl) (by intro c a d v w h; cases d <;> exact h) ?_
        simp only [moved, picked, List.foldr_cons, List.foldr_nil, Option.elim_some, List.getElem?_toArray, List.getElem?_cons_zero, List.getElem?_cons_succ, List.drop_succ_cons, List.drop_zero]
        repeat (go_big_quiet_step ((first
          | (go_at_call 34; with_reducible exact HTH.out.again _ _)
          | (go_at_call 35; with_reducible exact HPA.out.again _ _)
          | (go_at_call 33; with_reducible exact HFT.out.again _ _))))
        refine wpQuiet_nil ?_
        intro u hu
        have KR2 := Lib.hid (KR.out.next hu)
        have cz := (World.cell?_of_block (hu.block g lg0)).trans ck
        have fr := (words_row KR2.out).frozenAt
        have lg := (KR2.out.row.lt g rfl).2
        have KN := Lib.hid (HSET.out u KR2.out)
        clear hu p0 p1 p2 p3 p4 lp gp0 gp1 gp2 gp3 gp4 ck lg0 HTH HPA HFT HSET HQ
        go_wp2
        go_roundw
        case rel => exact ⟨k + 1, by omega, by go_num, KN.out⟩
        case measure => simp [intOf]; omega
      · obtain rfl : k = ws.length := by omega
        have hfin := KR.out
        rewrite [endsTo_all] at hfin
        obtain ⟨so3, c3, hv3, hws⟩ := hfin.ws
        rewrite [endsL_len] at hv3
        simp only [Value.slice.injEq] at hv3
        obtain ⟨rfl, -, rfl⟩ := hv3
        have HF := Lib.hid hws
        have HM := Lib.hid (Made.trans K2.out.made hfin.made)
        clear hfin hws
        go_wp2
        refine bodyPost_ret (v := .tuple #[.slice so2 ws.length c2, .int .i64 0]) (by simp [results, Tryz.results15, go_sem]) rfl ?_
        exact worded_ok HZ.out HS.out HWS.out HF.out HM.out (endsL_len _ _ _ _)
end
end
end Go.Proofs.YtanjmoiepmadhaaGreatDoor
