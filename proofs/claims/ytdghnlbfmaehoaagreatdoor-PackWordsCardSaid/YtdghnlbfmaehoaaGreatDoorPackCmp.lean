/- What Go's cmp.Compare of two ints and cmp.Or of three return, and slices.Index of six bytes; no condition but those named. -/
import Derived.Test.YtdghnlbfmaehoaaGreatDoorGBase
import Derived.Great.BuildSlice
namespace Go.Proofs.YtdghnlbfmaehoaaGreatDoor
open Go.ChangeShapes Go.WideShapes Go.ChangeAt Go.RowKit Go.Sort BigFrame

def sgnZ (a b : Int) : Int := if a < b then -1 else if b < a then 1 else 0
def orZ (a b c : Int) : Int := if a ≠ 0 then a else if b ≠ 0 then b else c
theorem sgn_ways (a b : Int) : (a < b ∧ sgnZ a b = -1) ∨ (b < a ∧ sgnZ a b = 1) ∨ (a = b ∧ sgnZ a b = 0) := by
  unfold sgnZ
  by_cases h1 : a < b
  · exact .inl ⟨h1, if_pos h1⟩
  · by_cases h2 : b < a
    · exact .inr (.inl ⟨h2, by rw [if_neg h1, if_pos h2]⟩)
    · exact .inr (.inr ⟨by omega, by rw [if_neg h1, if_neg h2]⟩)
theorem made_alloc' {W w : World} (h : Made W w) (o : Obj) : Made W (w.alloc o) := h.alloc h.size o
section
attribute [local irreducible] World.cell?
set_option maxRecDepth 100000 in
theorem cmpi_any (a b : Int) : Still Tryz.prog 75 #[.int .i64 a, .int .i64 b] (.int .i64 (sgnZ a b)) := by
  intro w
  have hs := sgn_ways a b
  generalize sgnZ a b = s at *
  rcases hs with ⟨h, rfl⟩ | ⟨h, rfl⟩ | ⟨h, rfl⟩
  case' inl => have g1 : decide (a < b) = true := decide_eq_true h
  case' inr.inl => have g1 : decide (a < b) = false := decide_eq_false (by omega); have g2 : decide (a > b) = true := decide_eq_true h
  case' inr.inr => have g1 : decide (a < b) = false := decide_eq_false (by omega); have g2 : decide (a > b) = false := decide_eq_false (by omega)
  all_goals
    clear h
    go_enter Tryz.func75, Tryz.ntmps75
    go_wp2
    go_ret
    exact ⟨rfl, rfl⟩
set_option maxRecDepth 100000 in
theorem cmpu_any (a b : Int) : Still Tryz.prog 76 #[.int .u32 a, .int .u32 b] (.int .i64 (sgnZ a b)) := by
  intro w
  have hs := sgn_ways a b
  generalize sgnZ a b = s at *
  rcases hs with ⟨h, rfl⟩ | ⟨h, rfl⟩ | ⟨h, rfl⟩
  case' inl => have g1 : decide (a < b) = true := decide_eq_true h
  case' inr.inl => have g1 : decide (a < b) = false := decide_eq_false (by omega); have g2 : decide (a > b) = true := decide_eq_true h
  case' inr.inr => have g1 : decide (a < b) = false := decide_eq_false (by omega); have g2 : decide (a > b) = false := decide_eq_false (by omega)
  all_goals
    clear h
    go_enter Tryz.func76, Tryz.ntmps76
    go_wp2
    go_ret
    exact ⟨rfl, rfl⟩
set_option maxRecDepth 100000 in
theorem or_any (b : Nat) (x y z : Int) (w : World) (hb : w.heap[b]? = some (.cells #[.int .i64 x, .int .i64 y, .int .i64 z] 3 (0, 0))) :
    Calls Tryz.prog 74 #[.slice (some ⟨b, 0, none⟩) 3 3] w fun e w' => e = .returned (.int .i64 (orZ x y z)) ∧ w = w' := by
  have c0 : w.cell? ⟨b, 0, none⟩ = some (.int .i64 x) := cell_of_lit (cs := [.int .i64 x, .int .i64 y, .int .i64 z]) hb 0
  have c1 : w.cell? ⟨b, 1, none⟩ = some (.int .i64 y) := cell_of_lit (cs := [.int .i64 x, .int .i64 y, .int .i64 z]) hb 1
  have c2 : w.cell? ⟨b, 2, none⟩ = some (.int .i64 z) := cell_of_lit (cs := [.int .i64 x, .int .i64 y, .int .i64 z]) hb 2
  have lb := heap_lt hb
  have hv : (x ≠ 0 ∧ orZ x y z = x) ∨ (x = 0 ∧ y ≠ 0 ∧ orZ x y z = y) ∨ (x = 0 ∧ y = 0 ∧ z ≠ 0 ∧ orZ x y z = z) ∨ (x = 0 ∧ y = 0 ∧ z = 0 ∧ orZ x y z = 0) := by
    unfold orZ
    by_cases h1 : x = 0
    · rw [if_neg (fun h => h h1)]
      by_cases h2 : y = 0
      · rw [if_neg (fun h => h h2)]
        by_cases h3 : z = 0
        · exact .inr (.inr (.inr ⟨h1, h2, h3, h3⟩))
        · exact .inr (.inr (.inl ⟨h1, h2, h3, rfl⟩))
      · rw [if_pos h2]
        exact .inr (.inl ⟨h1, h2, rfl⟩)
    · rw [if_pos h1]
      exact .inl ⟨h1, rfl⟩
  generalize orZ x y z = v at *
  clear hb
  rcases hv with ⟨h1, rfl⟩ | ⟨rfl, h2, rfl⟩ | ⟨rfl, rfl, h3, rfl⟩ | ⟨rfl, rfl, rfl, rfl⟩
  · have g1 : (v != 0) = true := bne_iff_ne.2 h1
    clear h1
    go_enter Tryz.func74, Tryz.ntmps74
    go_wp2_with (fail)
    refine wp_loop_rounds 1 ?_
    rewrite [rounds_succ]
    go_wp2
    go_ret
    exact ⟨rfl, rfl⟩
  · have g1 : (v != 0) = true := bne_iff_ne.2 h2
    clear h2
    go_enter Tryz.func74, Tryz.ntmps74
    go_wp2_with (fail)
    refine wp_loop_rounds 2 ?_
    rewrite [rounds_succ]
    go_wp2_with (fail)
    rewrite [rounds_succ]
    go_wp2
    go_ret
    exact ⟨rfl, rfl⟩
  · have g1 : (v != 0) = true := bne_iff_ne.2 h3
    clear h3
    go_enter Tryz.func74, Tryz.ntmps74
    go_wp2_with (fail)
    refine wp_loop_rounds 3 ?_
    rewrite [rounds_succ]
    go_wp2_with (fail)
    rewrite [rounds_succ]
    go_wp2_with (fail)
    rewrite [rounds_succ]
    go_wp2
    go_ret
    exact ⟨rfl, rfl⟩
  · go_enter Tryz.func74, Tryz.ntmps74
    go_wp2_with (fail)
    refine wp_loop_rounds 4 ?_
    rewrite [rounds_succ]
    go_wp2_with (fail)
    rewrite [rounds_succ]
    go_wp2_with (fail)
    rewrite [rounds_succ]
    go_wp2_with (fail)
    rewrite [rounds_succ]
    go_wp2
    go_ret
    exact ⟨rfl, rfl⟩
abbrev rankRow : List Value := [.int .u8 6, .int .u8 5, .int .u8 2, .int .u8 1, .int .u8 3, .int .u8 4]
def placeZ (c : Int) : Int := if c = 6 then 0 else if c = 5 then 1 else if c = 2 then 2 else if c = 1 then 3 else if c = 3 then 4 else 5
set_option maxRecDepth 100000 in
theorem idx6_any (b : Nat) (c : Int) (h1 : 1 ≤ c) (h6 : c ≤ 6) (w : World) (hb : w.heap[b]? = some (.cells rankRow.toArray 5 (0, 0))) :
    Calls Tryz.prog 106 #[.slice (some ⟨b, 0, none⟩) 6 6, .int .u8 c] w fun e w' => e = .returned (.int .i64 (placeZ c)) ∧ w = w' := by
  have c0 : w.cell? ⟨b, 0, none⟩ = some (.int .u8 6) := cell_of_lit (cs := rankRow) hb 0
  have c1 : w.cell? ⟨b, 1, none⟩ = some (.int .u8 5) := cell_of_lit (cs := rankRow) hb 1
  have c2 : w.cell? ⟨b, 2, none⟩ = some (.int .u8 2) := cell_of_lit (cs := rankRow) hb 2
  have c3 : w.cell? ⟨b, 3, none⟩ = some (.int .u8 1) := cell_of_lit (cs := rankRow) hb 3
  have c4 : w.cell? ⟨b, 4, none⟩ = some (.int .u8 3) := cell_of_lit (cs := rankRow) hb 4
  have c5 : w.cell? ⟨b, 5, none⟩ = some (.int .u8 4) := cell_of_lit (cs := rankRow) hb 5
  have lb := heap_lt hb
  clear hb
  have hc : c = 6 ∨ c = 5 ∨ c = 2 ∨ c = 1 ∨ c = 3 ∨ c = 4 := by omega
  clear h1 h6
  rcases hc with rfl | rfl | rfl | rfl | rfl | rfl
  · go_enter Tryz.func106, Tryz.ntmps106
    go_wp2_with (fail)
    refine wp_loop_rounds 1 ?_
    rewrite [rounds_succ]
    go_wp2
    go_ret
    exact ⟨rfl, rfl⟩
  · go_enter Tryz.func106, Tryz.ntmps106
    go_wp2_with (fail)
    refine wp_loop_rounds 2 ?_
    rewrite [rounds_succ]
    go_wp2_with (fail)
    rewrite [rounds_succ]
    go_wp2
    go_ret
    exact ⟨rfl, rfl⟩
  · go_enter Tryz.func106, Tryz.ntmps106
    go_wp2_with (fail)
    refine wp_loop_rounds 3 ?_
    rewrite [rounds_succ]
    go_wp2_with (fail)
    rewrite [rounds_succ]
    go_wp2_with (fail)
    rewrite [rounds_succ]
    go_wp2
    go_ret
    exact ⟨rfl, rfl⟩
  · go_enter Tryz.func106, Tryz.ntmps106
    go_wp2_with (fail)
    refine wp_loop_rounds 4 ?_
    rewrite [rounds_succ]
    go_wp2_with (fail)
    rewrite [rounds_succ]
    go_wp2_with (fail)
    rewrite [rounds_succ]
    go_wp2_with (fail)
    rewrite [rounds_succ]
    go_wp2
    go_ret
    exact ⟨rfl, rfl⟩
  · go_enter Tryz.func106, Tryz.ntmps106
    go_wp2_with (fail)
    refine wp_loop_rounds 5 ?_
    rewrite [rounds_succ]
    go_wp2_with (fail)
    rewrite [rounds_succ]
    go_wp2_with (fail)
    rewrite [rounds_succ]
    go_wp2_with (fail)
    rewrite [rounds_succ]
    go_wp2_with (fail)
    rewrite [rounds_succ]
    go_wp2
    go_ret
    exact ⟨rfl, rfl⟩
  · go_enter Tryz.func106, Tryz.ntmps106
    go_wp2_with (fail)
    refine wp_loop_rounds 6 ?_
    rewrite [rounds_succ]
    go_wp2_with (fail)
    rewrite [rounds_succ]
    go_wp2_with (fail)
    rewrite [rounds_succ]
    go_wp2_with (fail)
    rewrite [rounds_succ]
    go_wp2_with (fail)
    rewrite [rounds_succ]
    go_wp2_with (fail)
    rewrite [rounds_succ]
    go_wp2
    go_ret
    exact ⟨rfl, rfl⟩
set_option maxRecDepth 100000 in
theorem prank_any (W : World) (c : Int) (h1 : 1 ≤ c) (h6 : c ≤ 6) : Makes Tryz.prog W 71 #[.int .u8 c] (.int .i64 (placeZ c)) := by
  intro w hm
  have HM := Lib.hid (made_alloc' hm (.cells rankRow.toArray 5))
  have HB := Lib.hid (heap_alloc_new w (.cells rankRow.toArray 5))
  have HI := Lib.hid (fun u (hu : u.heap[w.heap.size]? = some (.cells rankRow.toArray 5 (0, 0))) => idx6_any w.heap.size c h1 h6 u hu)
  clear hm h1 h6
  go_enter Tryz.func71, Tryz.ntmps71
  go_wp2_with (go_at_call 106; refine (HI.out _ HB.out).mono ?_; rintro e w' ⟨rfl, rfl⟩)
  go_ret
  exact ⟨rfl, HM.out⟩
end
end Go.Proofs.YtdghnlbfmaehoaaGreatDoor
