/- What Go's slices.Sort and slices.Compact do to a slice of at most two bytes; no condition but that its cells are known. -/
import Derived.Test.YtkmnndiciihefaaDoorMem
import Derived.Deep.DrawnRows
import Derived.Deep.CutRange
import Derived.Lib.BitFns
import Derived.Lib.Walk
import Derived.Lib.SliceRun
import Derived.RegionTactic
import Derived.ChangeAlike
namespace Go.Proofs.YtkmnndiciihefaaDoor
open Go.ChangeShapes Go.WideShapes Go.ChangeAt Go.RowKit Go.Sort BigFrame

theorem isNaN_any (v : Int) : Still Tryd.prog 66 #[.int .u8 v] (.bool false) := by
  intro w
  go_enter Tryd.func66, Tryd.ntmps66
  go_wp2
  go_ret
  exact ⟨rfl, rfl⟩
theorem less_any (a b : Int) : Still Tryd.prog 54 #[.int .u8 a, .int .u8 b] (.bool (decide (a < b))) := by
  intro w
  go_enter Tryd.func54, Tryd.ntmps54
  go_wp2_with (go_at_call 66; refine (isNaN_any _ _).mono ?_; rintro e w' ⟨rfl, rfl⟩)
  go_ret
  exact ⟨rfl, rfl⟩
/-- What stands behind a sort of two bytes: they stand in order; of what was there when an older world stood nothing has turned. -/
structure Sorted2 (w : World) (b : Nat) (lo hi : Int) (w' : World) : Prop where
  c0 : w'.cell? ⟨b, 0, none⟩ = some (.int .u8 lo)
  c1 : w'.cell? ⟨b, 1, none⟩ = some (.int .u8 hi)
  fz : ∀ j, w'.frozen? ⟨b, j, none⟩ = false
  size : w'.heap.size = w.heap.size
  made : ∀ W : World, W.heap.size ≤ b → Made W w → Made W w'
theorem sorted_swap {w : World} {b : Nat} {x y : Int} (c0 : w.cell? ⟨b, 0, none⟩ = some (.int .u8 x)) (c1 : w.cell? ⟨b, 1, none⟩ = some (.int .u8 y)) (fz : ∀ j, w.frozen? ⟨b, j, none⟩ = false) (h : y < x) (m n : Nat) :
    Sorted2 w b (min x y) (max x y) ((((w.drewN m).setCell ⟨b, 1, none⟩ (.int .u8 x)).setCell ⟨b, 0, none⟩ (.int .u8 y)).drewN n) := by
  have m0 : min x y = y := by omega
  have m1 : max x y = x := by omega
  rw [m0, m1]
  refine ⟨?_, ?_, fun j => ?_, ?_, fun W hW hm => ?_⟩
  · rw [World.cell?_drewN]
    refine World.cell?_setCell_same _ _ _ (u := .int .u8 x) ?_
    rw [World.cell?_setCell_other _ _ _ _ (by simp), World.cell?_drewN]
    exact c0
  · rw [World.cell?_drewN, World.cell?_setCell_other _ _ _ _ (by simp)]
    exact World.cell?_setCell_same _ _ _ (u := .int .u8 y) (by rw [World.cell?_drewN]; exact c1)
  · rw [World.frozen?_drewN, World.frozen?_setCell, World.frozen?_setCell, World.frozen?_drewN]
    exact fz j
  · simp
  · exact below_drewN (((below_drewN hm m).setCell (p := ⟨b, 1, none⟩) hW _).setCell (p := ⟨b, 0, none⟩) hW _) n
theorem sorted_zero {w : World} {b : Nat} {x : Int} (c0 : w.cell? ⟨b, 0, none⟩ = some (.int .u8 x)) (c1 : w.cell? ⟨b, 1, none⟩ = some (.int .u8 x)) (fz : ∀ j, w.frozen? ⟨b, j, none⟩ = false) (m : Nat) :
    Sorted2 w b x 0 ((w.drewN m).setCell ⟨b, 1, none⟩ (.int .u8 0)) := by
  refine ⟨?_, ?_, fun j => ?_, by simp, fun W hW hm => (below_drewN hm m).setCell (p := ⟨b, 1, none⟩) hW _⟩
  · rw [World.cell?_setCell_other _ _ _ _ (by simp)]
    exact c0
  · exact World.cell?_setCell_same _ _ _ (u := .int .u8 x) (by rw [World.cell?_drewN]; exact c1)
  · rw [World.frozen?_setCell, World.frozen?_drewN]
    exact fz j
theorem insert_few (p : Option Addr) (n cap : Nat) (hn : n < 2) : Still Tryd.prog 48 #[.slice p n cap, .int .i64 0, .int .i64 n] (.tuple #[]) := by
  intro w
  go_enter Tryd.func48, Tryd.ntmps48
  go_wp2_with (fail)
  refine wp_loop_rounds 1 ?_
  rewrite [rounds_succ]
  go_wp2
  go_end0
  exact ⟨rfl, rfl⟩
theorem insert_two (b cap : Nat) (x y : Int) (w : World) (c0 : w.cell? ⟨b, 0, none⟩ = some (.int .u8 x)) (c1 : w.cell? ⟨b, 1, none⟩ = some (.int .u8 y)) (fz : ∀ j, w.frozen? ⟨b, j, none⟩ = false) :
    Calls Tryd.prog 48 #[.slice (some ⟨b, 0, none⟩) 2 cap, .int .i64 0, .int .i64 2] w fun e w' => e = .returned (.tuple #[]) ∧ Sorted2 w b (min x y) (max x y) w' := by
  have hl := World.block_lt_of_cell? w _ c0
  go_enter Tryd.func48, Tryd.ntmps48
  go_wp2_with (fail)
  refine wp_loop_rounds 2 ?_
  rewrite [rounds_succ]
  go_wp2_with (fail)
  refine wp_loop_rounds 2 ?_
  rewrite [rounds_succ]
  go_wp2_with (fail)
  go_quiet ((go_at_call 54; exact Calls.quiet_of_same ((less_any _ _).at _)))
  by_cases hyx : y < x
  · have d : decide (y < x) = true := decide_eq_true hyx
    go_wp2_with (fail)
    go_region
    all_goals
      go_wp2_with (fail)
      rewrite [rounds_succ]
      go_wp2_with (fail)
      go_quiet (fail)
      go_wp2_with (fail)
      rewrite [rounds_succ]
      go_wp2
      go_end0
      exact ⟨rfl, sorted_swap c0 c1 fz hyx _ _⟩
  · have d : decide (y < x) = false := decide_eq_false hyx
    have m0 : min x y = x := by omega
    have m1 : max x y = y := by omega
    have HM := Lib.hid (And.intro m0 m1)
    clear m0 m1
    go_wp2_with (fail)
    rewrite [rounds_succ]
    go_wp2
    go_end0
    exact ⟨rfl, by rw [HM.out.1]; exact c0, by rw [HM.out.2]; exact c1, fz, rfl, fun W hW hm => below_drewN hm _⟩

set_option maxHeartbeats 4000000 in
set_option maxRecDepth 100000 in
theorem len64_few (n : Int) (h0 : 0 ≤ n) (h1 : n ≤ 2) (w : World) : Calls Tryd.prog 58 #[.int .u64 n] w fun e w' => (∃ r : Int, e = .returned (.int .i64 r)) ∧ w = w' := by
  go_enter Tryd.func58, Tryd.ntmps58
  go_wp2
  go_ret
  exact ⟨⟨_, rfl⟩, rfl⟩
theorem len_few (n : Int) (h0 : 0 ≤ n) (h1 : n ≤ 2) (w : World) : Calls Tryd.prog 39 #[.int .u64 n] w fun e w' => (∃ r : Int, e = .returned (.int .i64 r)) ∧ w = w' := by
  go_enter Tryd.func39, Tryd.ntmps39
  go_wp2_with (go_at_call 58; refine (len64_few _ h0 h1 _).mono ?_; rintro e w' ⟨⟨r, rfl⟩, rfl⟩)
  go_ret
  exact ⟨⟨_, rfl⟩, rfl⟩
theorem pdq_few (p : Option Addr) (n cap : Nat) (r : Int) (hn : n < 2) : Still Tryd.prog 38 #[.slice p n cap, .int .i64 0, .int .i64 n, .int .i64 r] (.tuple #[]) := by
  intro w
  go_enter Tryd.func38, Tryd.ntmps38
  go_wp2_with (fail)
  refine wp_loop_rounds 1 ?_
  rewrite [rounds_succ]
  go_wp2_with (fail)
  refine (insert_few p n cap hn w).mono ?_
  rintro e w' ⟨rfl, rfl⟩
  go_wp2
  refine bodyPost_ret (results_none rfl _ _ _) rfl ?_
  exact ⟨rfl, rfl⟩
theorem pdq_two (b cap : Nat) (x y r : Int) (w : World) (c0 : w.cell? ⟨b, 0, none⟩ = some (.int .u8 x)) (c1 : w.cell? ⟨b, 1, none⟩ = some (.int .u8 y)) (fz : ∀ j, w.frozen? ⟨b, j, none⟩ = false) :
    Calls Tryd.prog 38 #[.slice (some ⟨b, 0, none⟩) 2 cap, .int .i64 0, .int .i64 2, .int .i64 r] w fun e w' => e = .returned (.tuple #[]) ∧ Sorted2 w b (min x y) (max x y) w' := by
  have H := Lib.hid (insert_two b cap x y w c0 c1 fz)
  clear c0 c1 fz
  go_enter Tryd.func38, Tryd.ntmps38
  go_wp2_with (fail)
  refine wp_loop_rounds 1 ?_
  rewrite [rounds_succ]
  go_wp2_with (fail)
  refine H.out.mono ?_
  rintro e w' ⟨rfl, h⟩
  have HS := Lib.hid h
  clear h
  go_wp2
  refine bodyPost_ret (results_none rfl _ _ _) rfl ?_
  exact ⟨rfl, HS.out⟩
theorem sort_few (p : Option Addr) (n cap : Nat) (hn : n < 2) : Still Tryd.prog 27 #[.slice p n cap] (.tuple #[]) := by
  intro w
  have hni : (n : Int) < 2 := by omega
  go_enter Tryd.func27, Tryd.ntmps27
  go_wp2_with (fail)
  refine (len_few n (by omega) (by omega) w).mono ?_
  rintro e w' ⟨⟨r, rfl⟩, rfl⟩
  go_wp2_with (fail)
  refine (pdq_few p n cap r hn w).mono ?_
  rintro e w' ⟨rfl, rfl⟩
  go_wp2
  go_end0
  exact ⟨rfl, rfl⟩
theorem sort_two (b cap : Nat) (x y : Int) (w : World) (c0 : w.cell? ⟨b, 0, none⟩ = some (.int .u8 x)) (c1 : w.cell? ⟨b, 1, none⟩ = some (.int .u8 y)) (fz : ∀ j, w.frozen? ⟨b, j, none⟩ = false) :
    Calls Tryd.prog 27 #[.slice (some ⟨b, 0, none⟩) 2 cap] w fun e w' => e = .returned (.tuple #[]) ∧ Sorted2 w b (min x y) (max x y) w' := by
  have H := Lib.hid (fun r => pdq_two b cap x y r w c0 c1 fz)
  clear c0 c1 fz
  go_enter Tryd.func27, Tryd.ntmps27
  go_wp2_with (fail)
  refine (len_few 2 (by omega) (by omega) w).mono ?_
  rintro e w' ⟨⟨r, rfl⟩, rfl⟩
  go_wp2_with (fail)
  refine (H.out r).mono ?_
  rintro e w' ⟨rfl, h⟩
  have HS := Lib.hid h
  clear h
  go_wp2
  go_end0
  exact ⟨rfl, HS.out⟩
theorem compact_few (p : Option Addr) (n cap : Nat) (hn : n < 2) : Still Tryd.prog 28 #[.slice p n cap] (.slice p n cap) := by
  intro w
  have hni : (n : Int) < 2 := by omega
  go_enter Tryd.func28, Tryd.ntmps28
  go_wp2
  go_ret
  exact ⟨rfl, rfl⟩
theorem compact_ne (b cap : Nat) (x y : Int) (w : World) (c0 : w.cell? ⟨b, 0, none⟩ = some (.int .u8 x)) (c1 : w.cell? ⟨b, 1, none⟩ = some (.int .u8 y)) (h : x ≠ y) :
    Calls Tryd.prog 28 #[.slice (some ⟨b, 0, none⟩) 2 cap] w fun e w' => e = .returned (.slice (some ⟨b, 0, none⟩) 2 cap) ∧ ∃ k, w' = w.drewN k := by
  have d : (y == x) = false := beq_eq_false_iff_ne.2 (Ne.symm h)
  clear h
  go_enter Tryd.func28, Tryd.ntmps28
  go_wp2_with (fail)
  refine wp_loop_rounds 2 ?_
  rewrite [rounds_succ]
  go_wp2_with (fail)
  go_quiet (fail)
  go_wp2_with (fail)
  rewrite [rounds_succ]
  go_wp2
  go_ret
  exact ⟨rfl, _, rfl⟩
theorem compact_eq (b cap : Nat) (hcap : 2 ≤ cap) (hmax : cap ≤ maxLen) (x : Int) (w : World) (c0 : w.cell? ⟨b, 0, none⟩ = some (.int .u8 x)) (c1 : w.cell? ⟨b, 1, none⟩ = some (.int .u8 x)) (fz : ∀ j, w.frozen? ⟨b, j, none⟩ = false) :
    Calls Tryd.prog 28 #[.slice (some ⟨b, 0, none⟩) 2 cap] w fun e w' => e = .returned (.slice (some ⟨b, 0, none⟩) 1 cap) ∧ Sorted2 w b x 0 w' := by
  unfold maxLen at hmax
  have k1 : (2 : Int) ≤ (cap : Int) := by omega
  have k2 : (cap : Int) ≤ 9223372036854775807 := by omega
  have k3 : ¬ (cap : Int) = 1 := by omega
  have k4 : ¬ cap = 1 := by omega
  go_enter Tryd.func28, Tryd.ntmps28
  go_wp2_with (fail)
  refine wp_loop_rounds 2 ?_
  rewrite [rounds_succ]
  go_wp2_with (fail)
  go_quiet (fail)
  go_wp2_with (fail)
  refine wp_loop_rounds 1 ?_
  rewrite [rounds_succ]
  have hcl : ∀ (ty : TypeId) (k : Nat), (Builtin.clear_ #[27] ty #[.slice (some ⟨b, 1, none⟩) 1 (cap - 1)]).run Tryd.prog (w.drewN k) = .ok (.tuple #[]) ((w.drewN k).setCell ⟨b, 1, none⟩ (.int .u8 0)) := fun ty k =>
    Lib.run_clear_slice (w.drewN k) 27 5 ty (.int .u8 0) Tryd.underlying27 (fun w => by kernel_rfl) rfl rfl b 1 1 (cap - 1) (by omega)
      (fun j hj => by obtain rfl : j = 0 := by omega
                      rw [World.cell?_drewN, c1]; rfl) (fun j hj => by rw [World.frozen?_drewN]; exact fz _)
  go_wp2
  go_ret
  exact ⟨rfl, sorted_zero c0 c1 fz _⟩
end Go.Proofs.YtkmnndiciihefaaDoor
