/- DuplexKnown of the laws of duplex returns true, in every world that holds the tables of names, of small instructions and of pieces. Written by wip/tools/gen_duplaws.py. -/
import Derived.Test.YtckekkedjlkljaaDoorDupAwake
namespace Go.Proofs.YtckekkedjlkljaaDoor
open Go.ChangeShapes Go.WideShapes Go.ChangeAt Go.RowKit Go.Sort BigFrame

namespace duplexKnown
section
attribute [local irreducible] World.cell?
set_option maxRecDepth 100000 in
set_option maxHeartbeats 8000000 in
theorem walk (W : World) (hT : Tabs W) : Calls Tryd.prog 3 #[] W fun e w' => e = .returned (.bool true) ∧ Made W w' := by
  have K0 := Lib.hid ((Held.start (Made.refl W)).push2 (litIn 24 0 0 0 0 0 0 false false 0 0) (litIn 26 0 0 0 0 0 0 false false 0 0))
  have hop0 := fun w => (run_in_eql (litIn 8 0 0 0 0 0 0 false false 0 0) (litIn 8 0 0 0 0 0 0 false false 0 0) w).trans (by rw [decide_eq_true rfl])
  have hop1 := fun w => (run_in_eql (litIn 8 1 0 0 0 0 0 false false 0 0) (litIn 8 1 0 0 0 0 0 false false 0 0) w).trans (by rw [decide_eq_true rfl])
  go_enter Tryd.func3, Tryd.ntmps3
  go_upto_region 3 with (fail)
  refine name_world (fun v => Held W [(W.heap.size + 1, (litIn 26 0 0 0 0 0 0 false false 0 0)), (W.heap.size, (litIn 24 0 0 0 0 0 0 false false 0 0))] v) K0.out ?_
  intro v1 hv
  have K1 := Lib.hid hv
  clear hv K0
  go_wp2_with (fail)
  refine (movi_any v1 1 v1 (Made.refl v1)).mono ?_
  rintro e v2 ⟨rfl, hz⟩
  have K2 := Lib.hid (K1.out.next hz)
  clear hz K1
  go_wp2_with (fail)
  refine (movi_any v2 0 v2 (Made.refl v2)).mono ?_
  rintro e v3 ⟨rfl, hz⟩
  have K3 := Lib.hid (K2.out.next hz)
  clear hz K2
  go_wp2_with (fail)
  refine (pair_lit (litIn 8 1 0 0 0 0 0 false false 0 0) (litIn 8 0 0 0 0 0 0 false false 0 0) (by decide +kernel) (by decide +kernel) 285214720 true (by decide +kernel) v3 (hT.made K3.out.made) v3 (Made.refl v3)).mono ?_
  rintro e v4 ⟨rfl, hz⟩
  have K4 := Lib.hid (K3.out.next hz)
  clear hz K3
  go_upto_region 4 with (fail)
  obtain ⟨g0, g1, g2, g3, g4, g5, g6, g7, g8, g9, g10⟩ := in_again (K4.out.one (b := W.heap.size) (x := (litIn 24 0 0 0 0 0 0 false false 0 0)) (by simp))
  have D0 := movi_any v4 0
  have D1 := pair_lit (litIn 24 0 0 0 0 0 0 false false 0 0) (litIn 8 0 0 0 0 0 0 false false 0 0) (by decide +kernel) (by decide +kernel) 268447744 true (by decide +kernel) v4 (hT.made K4.out.made)
  refine wp_region_quiet_below (by kernel_rfl) (by kernel_rfl) ?_
  repeat (go_big_quiet_step ((first
    | (go_at_call 8; exact D0.again _ _)
    | (go_at_call 7; exact D1.again _ _))))
  refine wpQuiet_nil ?_
  intro v5 hw9
  have K5 := Lib.hid (K4.out.next (made_regrown hw9))
  clear hw9 g0 g1 g2 g3 g4 g5 g6 g7 g8 g9 g10 D0 D1 K4
  go_upto_region 5 with (fail)
  obtain ⟨g0, g1, g2, g3, g4, g5, g6, g7, g8, g9, g10⟩ := in_again (K5.out.one (b := W.heap.size) (x := (litIn 24 0 0 0 0 0 0 false false 0 0)) (by simp))
  have D0 := movi_any v5 0
  have D1 := pair_lit (litIn 8 0 0 0 0 0 0 false false 0 0) (litIn 24 0 0 0 0 0 0 false false 0 0) (by decide +kernel) (by decide +kernel) 268447744 true (by decide +kernel) v5 (hT.made K5.out.made)
  refine wp_region_quiet_below (by kernel_rfl) (by kernel_rfl) ?_
  repeat (go_big_quiet_step ((first
    | (go_at_call 8; exact D0.again _ _)
    | (go_at_call 7; exact D1.again _ _))))
  refine wpQuiet_nil ?_
  intro v6 hw9
  have K6 := Lib.hid (K5.out.next (made_regrown hw9))
  clear hw9 g0 g1 g2 g3 g4 g5 g6 g7 g8 g9 g10 D0 D1 K5
  obtain ⟨a0, a1, a2, a3, a4, a5, a6, a7, a8, a9, a10⟩ := in_cells (K6.out.one (b := W.heap.size) (x := (litIn 24 0 0 0 0 0 0 false false 0 0)) (by simp))
  have hla := heap_lt (K6.out.one (b := W.heap.size) (x := (litIn 24 0 0 0 0 0 0 false false 0 0)) (by simp))
  obtain ⟨b0, b1, b2, b3, b4, b5, b6, b7, b8, b9, b10⟩ := in_cells (K6.out.one (b := W.heap.size + 1) (x := (litIn 26 0 0 0 0 0 0 false false 0 0)) (by simp))
  have hlb := heap_lt (K6.out.one (b := W.heap.size + 1) (x := (litIn 26 0 0 0 0 0 0 false false 0 0)) (by simp))
  go_wp2_with (fail)
  refine (pair_lit (litIn 24 0 0 0 0 0 0 false false 0 0) (litIn 26 0 0 0 0 0 0 false false 0 0) (by decide +kernel) (by decide +kernel) 0 false (by decide +kernel) v6 (hT.made K6.out.made) v6 (Made.refl v6)).mono ?_
  rintro e v7 ⟨rfl, hz⟩
  have K7 := Lib.hid (K6.out.next hz)
  clear hz K6 a0 a1 a2 a3 a4 a5 a6 a7 a8 a9 a10 hla b0 b1 b2 b3 b4 b5 b6 b7 b8 b9 b10 hlb
  go_wp2_with (fail)
  refine (movi_any v7 8 v7 (Made.refl v7)).mono ?_
  rintro e v8 ⟨rfl, hz⟩
  have K8 := Lib.hid (K7.out.next hz)
  clear hz K7
  go_wp2_with (fail)
  refine (movi_any v8 0 v8 (Made.refl v8)).mono ?_
  rintro e v9 ⟨rfl, hz⟩
  have K9 := Lib.hid (K8.out.next hz)
  clear hz K8
  go_wp2_with (fail)
  refine (pair_lit (litIn 8 8 0 0 0 0 0 false false 0 0) (litIn 8 0 0 0 0 0 0 false false 0 0) (by decide +kernel) (by decide +kernel) 0 false (by decide +kernel) v9 (hT.made K9.out.made) v9 (Made.refl v9)).mono ?_
  rintro e v10 ⟨rfl, hz⟩
  have K10 := Lib.hid (K9.out.next hz)
  clear hz K9
  go_wp2_with (fail)
  refine (movi_any v10 0 v10 (Made.refl v10)).mono ?_
  rintro e v11 ⟨rfl, hz⟩
  have K11 := Lib.hid (K10.out.next hz)
  clear hz K10
  go_wp2_with (fail)
  refine (pair_lit (litIn 8 0 0 0 0 0 0 false false 0 0) (litIn 1 0 0 0 0 0 0 false false 0 0) (by decide +kernel) (by decide +kernel) 0 false (by decide +kernel) v11 (hT.made K11.out.made) v11 (Made.refl v11)).mono ?_
  rintro e v12 ⟨rfl, hz⟩
  have K12 := Lib.hid (K11.out.next hz)
  clear hz K11
  go_wp2_with (fail)
  refine (split_lit 268437632 (by decide) (by decide) (litIn 8 0 0 0 0 0 0 false false 0 0) (litIn 8 1 0 0 0 0 0 false false 0 0) true (by decide +kernel) v12 (hT.made K12.out.made) v12 (Made.refl v12)).mono ?_
  rintro e v13 ⟨rfl, hz⟩
  have K13 := Lib.hid (K12.out.next hz)
  clear hz K12
  have G13 := Lib.hid (K13.out.push2 (litIn 8 0 0 0 0 0 0 false false 0 0) (litIn 8 1 0 0 0 0 0 false false 0 0))
  go_upto_region 10 with (fail)
  refine name_world (fun v => Held W [(v13.heap.size + 1, (litIn 8 1 0 0 0 0 0 false false 0 0)), (v13.heap.size, (litIn 8 0 0 0 0 0 0 false false 0 0)), (W.heap.size + 1, (litIn 26 0 0 0 0 0 0 false false 0 0)), (W.heap.size, (litIn 24 0 0 0 0 0 0 false false 0 0))] v) G13.out ?_
  intro v14 hv
  have K14 := Lib.hid hv
  clear hv G13 K13
  go_wp2_with (fail)
  refine (split_lit 1610614784 (by decide) (by decide) inZero inZero false (by decide +kernel) v14 (hT.made K14.out.made) v14 (Made.refl v14)).mono ?_
  rintro e v15 ⟨rfl, hz⟩
  have K15 := Lib.hid (K14.out.next hz)
  clear hz K14
  have G15 := Lib.hid (K15.out.push2 inZero inZero)
  go_upto_region 11 with (fail)
  refine name_world (fun v => Held W [(v13.heap.size + 1, (litIn 8 1 0 0 0 0 0 false false 0 0)), (v13.heap.size, (litIn 8 0 0 0 0 0 0 false false 0 0)), (W.heap.size + 1, (litIn 26 0 0 0 0 0 0 false false 0 0)), (W.heap.size, (litIn 24 0 0 0 0 0 0 false false 0 0))] v) (G15.out.less (fun p hp => List.mem_cons_of_mem _ (List.mem_cons_of_mem _ hp))) ?_
  intro v16 hv
  have K16 := Lib.hid hv
  clear hv G15 K15
  go_wp2_with (fail)
  refine (split_lit 285231104 (by decide) (by decide) inZero inZero false (by decide +kernel) v16 (hT.made K16.out.made) v16 (Made.refl v16)).mono ?_
  rintro e v17 ⟨rfl, hz⟩
  have K17 := Lib.hid (K16.out.next hz)
  clear hz K16
  have G17 := Lib.hid (K17.out.push2 inZero inZero)
  go_upto_region 12 with (fail)
  refine name_world (fun v => Held W [(v13.heap.size + 1, (litIn 8 1 0 0 0 0 0 false false 0 0)), (v13.heap.size, (litIn 8 0 0 0 0 0 0 false false 0 0)), (W.heap.size + 1, (litIn 26 0 0 0 0 0 0 false false 0 0)), (W.heap.size, (litIn 24 0 0 0 0 0 0 false false 0 0))] v) (G17.out.less (fun p hp => List.mem_cons_of_mem _ (List.mem_cons_of_mem _ hp))) ?_
  intro v18 hv
  have K18 := Lib.hid hv
  clear hv G17 K17
  go_wp2_with (fail)
  refine (split_lit 0 (by decide) (by decide) inZero inZero false (by decide +kernel) v18 (hT.made K18.out.made) v18 (Made.refl v18)).mono ?_
  rintro e v19 ⟨rfl, hz⟩
  have K19 := Lib.hid (K18.out.next hz)
  clear hz K18
  have G19 := Lib.hid (K19.out.push2 inZero inZero)
  go_upto_region 13 with (fail)
  refine name_world (fun v => Held W [(v13.heap.size + 1, (litIn 8 1 0 0 0 0 0 false false 0 0)), (v13.heap.size, (litIn 8 0 0 0 0 0 0 false false 0 0)), (W.heap.size + 1, (litIn 26 0 0 0 0 0 0 false false 0 0)), (W.heap.size, (litIn 24 0 0 0 0 0 0 false false 0 0))] v) (G19.out.less (fun p hp => List.mem_cons_of_mem _ (List.mem_cons_of_mem _ hp))) ?_
  intro v20 hv
  have K20 := Lib.hid hv
  clear hv G19 K19
  go_wp2_with (fail)
  refine (movi_any v20 3 v20 (Made.refl v20)).mono ?_
  rintro e v21 ⟨rfl, hz⟩
  have K21 := Lib.hid (K20.out.next hz)
  clear hz K20
  go_wp2_with (fail)
  refine (movi_any v21 3 v21 (Made.refl v21)).mono ?_
  rintro e v22 ⟨rfl, hz⟩
  have K22 := Lib.hid (K21.out.next hz)
  clear hz K21
  go_wp2_with (fail)
  refine (pair_lit (litIn 8 3 0 0 0 0 0 false false 0 0) (litIn 8 3 0 0 0 0 0 false false 0 0) (by decide +kernel) (by decide +kernel) 318769536 true (by decide +kernel) v22 (hT.made K22.out.made) v22 (Made.refl v22)).mono ?_
  rintro e v23 ⟨rfl, hz⟩
  have K23 := Lib.hid (K22.out.next hz)
  clear hz K22
  go_upto_region 14 with (fail)
  obtain ⟨g0, g1, g2, g3, g4, g5, g6, g7, g8, g9, g10⟩ := in_again (K23.out.one (b := v13.heap.size) (x := (litIn 8 0 0 0 0 0 0 false false 0 0)) (by simp))
  obtain ⟨q0, q1, q2, q3, q4, q5, q6, q7, q8, q9, q10⟩ := in_again (K23.out.one (b := v13.heap.size + 1) (x := (litIn 8 1 0 0 0 0 0 false false 0 0)) (by simp))
  have D0 := movi_any v23 0
  have D1 := movi_any v23 1
  have D2 := canon_lit 268437632 (by decide) (by decide) false (by decide +kernel) v23 (hT.made K23.out.made)
  have D3 := canon_lit 0 (by decide) (by decide) false (by decide +kernel) v23 (hT.made K23.out.made)
  have D4 := canon_lit 268447744 (by decide) (by decide) true (by decide +kernel) v23 (hT.made K23.out.made)
  have D5 := canon_lit 318769536 (by decide) (by decide) true (by decide +kernel) v23 (hT.made K23.out.made)
  have D6 := awake_any v23 (hT.made K23.out.made)
  refine wp_region_quiet_below (by kernel_rfl) (by kernel_rfl) ?_
  dsimp only [List.append]
  repeat (go_big_quiet_step ((first
    | (go_at_call 8; with_reducible exact D0.again _ _)
    | (go_at_call 8; with_reducible exact D1.again _ _)
    | (go_at_call 10; with_reducible exact D2.again _ _)
    | (go_at_call 10; with_reducible exact D3.again _ _)
    | (go_at_call 10; with_reducible exact D4.again _ _)
    | (go_at_call 10; with_reducible exact D5.again _ _)
    | (go_at_call 11; with_reducible exact D6.again _ _))))
  refine wpQuiet_nil ?_
  intro z hw9
  have KZ := Lib.hid (K23.out.next (made_regrown hw9))
  clear hw9
  go_wp2
  go_ret
  exact ⟨rfl, KZ.out.made⟩
end
end duplexKnown
end Go.Proofs.YtckekkedjlkljaaDoor
