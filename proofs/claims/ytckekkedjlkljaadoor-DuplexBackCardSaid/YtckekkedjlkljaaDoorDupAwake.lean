/- awake of the laws of duplex returns true, in every world that holds the tables of names, of small instructions and of pieces. Written by wip/tools/gen_duplaws.py. -/
import Derived.Test.YtckekkedjlkljaaDoorDupLaws
namespace Go.Proofs.YtckekkedjlkljaaDoor
open Go.ChangeShapes Go.WideShapes Go.ChangeAt Go.RowKit Go.Sort BigFrame

section
attribute [local irreducible] World.cell?
set_option maxRecDepth 100000 in
set_option maxHeartbeats 4000000 in
theorem awake_any (W : World) (hT : Tabs W) : Makes Tryd.prog W 11 #[] (.bool true) := by
  intro w hm
  have K0 := Lib.hid (Held.start hm)
  have hop0 := fun w => (run_in_eql (litIn 8 0 0 0 0 0 0 false false 0 0) (litIn 8 0 0 0 0 0 0 false false 0 0) w).trans (by rw [decide_eq_true rfl])
  have hop1 := fun w => (run_in_eql (litIn 8 1 0 0 0 0 0 false false 0 0) (litIn 8 1 0 0 0 0 0 false false 0 0) w).trans (by rw [decide_eq_true rfl])
  clear hm
  go_enter Tryd.func11, Tryd.ntmps11
  go_wp2_with (fail)
  refine (movi_any w 0 w (Made.refl w)).mono ?_
  rintro e v1 ⟨rfl, hz⟩
  have K1 := Lib.hid (K0.out.next hz)
  clear hz
  go_wp2_with (fail)
  refine (movi_any v1 1 v1 (Made.refl v1)).mono ?_
  rintro e v2 ⟨rfl, hz⟩
  have K2 := Lib.hid (K1.out.next hz)
  clear hz
  go_wp2_with (fail)
  refine (pair_lit (litIn 8 0 0 0 0 0 0 false false 0 0) (litIn 8 1 0 0 0 0 0 false false 0 0) (by decide +kernel) (by decide +kernel) 285214720 true (by decide +kernel) v2 (hT.made K2.out.made) v2 (Made.refl v2)).mono ?_
  rintro e v3 ⟨rfl, hz⟩
  have K3 := Lib.hid (K2.out.next hz)
  clear hz
  go_wp2_with (fail)
  refine (split_lit 285214720 (by decide) (by decide) (litIn 8 1 0 0 0 0 0 false false 0 0) (litIn 8 0 0 0 0 0 0 false false 0 0) true (by decide +kernel) v3 (hT.made K3.out.made) v3 (Made.refl v3)).mono ?_
  rintro e v4 ⟨rfl, hz⟩
  have K4 := Lib.hid (K3.out.next hz)
  have G4 := Lib.hid (K4.out.push2 (litIn 8 1 0 0 0 0 0 false false 0 0) (litIn 8 0 0 0 0 0 0 false false 0 0))
  clear hz
  go_upto_region 3 with (fail)
  refine name_world (fun v => Held W [(v4.heap.size + 1, (litIn 8 0 0 0 0 0 0 false false 0 0)), (v4.heap.size, (litIn 8 1 0 0 0 0 0 false false 0 0))] v) G4.out ?_
  intro v5 hv
  have K5 := Lib.hid hv
  clear hv G4
  obtain ⟨g0, g1, g2, g3, g4, g5, g6, g7, g8, g9, g10⟩ := in_again (K5.out.one (b := v4.heap.size) (x := (litIn 8 1 0 0 0 0 0 false false 0 0)) (by simp))
  obtain ⟨q0, q1, q2, q3, q4, q5, q6, q7, q8, q9, q10⟩ := in_again (K5.out.one (b := v4.heap.size + 1) (x := (litIn 8 0 0 0 0 0 0 false false 0 0)) (by simp))
  have D0 := movi_any v5 0
  have D1 := movi_any v5 1
  have D2 := canon_lit 285214720 (by decide) (by decide) true (by decide +kernel) v5 (hT.made K5.out.made)
  refine wp_region_quiet_below (by kernel_rfl) (by kernel_rfl) ?_
  repeat (go_big_quiet_step ((first
    | (go_at_call 8; with_reducible exact D0.again _ _)
    | (go_at_call 8; with_reducible exact D1.again _ _)
    | (go_at_call 10; exact D2.again _ _))))
  refine wpQuiet_nil ?_
  intro v6 hw9
  have K6 := Lib.hid (K5.out.next (made_regrown hw9))
  clear hw9
  go_wp2
  go_ret
  exact ⟨rfl, K6.out.made⟩
end
end Go.Proofs.YtckekkedjlkljaaDoor
