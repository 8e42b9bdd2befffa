/- The document's Right of inst, kind by kind (part C), for every instruction of the kind. -/
import Derived.Test.YtdghnlbfmaehoaaGreatDoorGRef
import Derived.Deep.CutBlock
import Derived.Deep.RegionHeld3
import Derived.Deep.DrawnRows
namespace Go.Proofs.YtdghnlbfmaehoaaGreatDoor
open Go.ChangeShapes Go.WideShapes Go.ChangeAt Go.RowKit Go.Sort BigFrame

namespace refRight
section
attribute [local irreducible] World.cell?
attribute [local go_sem ↓] Go.wp_at_zero Go.wp_at_succ
set_option maxRecDepth 100000 in
set_option maxHeartbeats 4000000 in
theorem right_10 (x : In) (hx : x.small) (hk : kindZ x.op = 10) (W : World) : Makes Tryz.prog W 98 #[x.val] (.bool (refK 10 x)) := by
  intro w hm
  have hd0 := hx.d0
  have hs0 := hx.s0
  have ht0 := hx.t0
  have hn0 := hx.n0
  have hc0 := hx.count0
  have hp0 := hx.pred0
  have hz := hm.size
  have HX := Lib.hid hx
  have HK := Lib.hid hk
  have T0 := Lib.hid (two_start hm x)
  clear hm hk hx
  go_enter Tryz.func98, Tryz.ntmps98
  go_upto_region 2 with (fail)
  go_cut [4] from 8 to 20 (fun v wc => v = .bool (regsB x) ∧ Two W w.heap.size x { inZero with op := x.op } wc)
  case first =>
    by_cases c1 : x.d < 32
    · by_cases c2 : x.s < 32
      · by_cases c3 : x.t < 32
        all_goals
          have H1 := Lib.hid c1
          have H2 := Lib.hid c2
          have H3 := Lib.hid c3
          go_wp2
          go_meet
          case rel => exact ⟨by first | (simp [regsB, H1.out, H2.out, H3.out]; done) | (simp [regsB]; omega), T0.out⟩
      · go_wp2
        go_meet
        case rel => exact ⟨by simp [regsB]; omega, T0.out⟩
    · go_wp2
      go_meet
      case rel => exact ⟨by simp [regsB]; omega, T0.out⟩
  case rest =>
    obtain ⟨rfl, hT⟩ := hcut
    generalize wc = u0 at *
    generalize hrg : regsB x = rg at *
    have RG := Lib.hid hrg
    have T1 := Lib.hid hT
    obtain ⟨a0, a1, a2, a3, a4, a5, a6, a7, a8, a9, a10⟩ := in_cells hT.in_
    have hl := heap_lt hT.in_
    have hkr := kind_ref x.op HX.out.op0 HX.out.op1 u0 u0 (Made.refl _)
    rewrite [HK.out] at hkr
    have KR := Lib.hid hkr
    clear hT hrg hkr T0
    go_wp2_with (fail)
    refine KR.out.mono ?_
    rintro e u1 ⟨rfl, h1⟩
    have T2 := Lib.hid (T1.out.next h1)
    clear h1 a0 a1 a2 a3 a4 a5 a6 a7 a8 a9 a10 hl
    go_upto_block 0 with (fail)
    go_cut [4] from 24 to 361 (fun v wd => v = .bool (rg && okK 10 x) ∧ Two W w.heap.size x (isK 10 x) wd)
    case first =>
      obtain ⟨a0, a1, a2, a3, a4, a5, a6, a7, a8, a9, a10⟩ := in_cells T2.out.in_
      obtain ⟨b0, b1, b2, b3, b4, b5, b6, b7, b8, b9, b10⟩ := in_cells T2.out.is_
      have hl := heap_lt T2.out.in_
      have hl1 := heap_lt T2.out.is_
      have fz := free_of_lit T2.out.is_
      go_upto_region 33 with (fail)
      go_region_held3 (fun w' => w'.cell? ⟨w.heap.size, 1, none⟩ = some (.int .u8 x.d) ∧ w'.cell? ⟨w.heap.size, 2, none⟩ = some (.int .u8 x.s) ∧ w'.cell? ⟨w.heap.size, 10, none⟩ = some (.int .i64 x.imm) ∧ w'.cell? ⟨w.heap.size, 8, none⟩ = some (.bool x.ext)) (go_keep) (fail)
      go_upto_region 34 with (fail)
      refine name_world (fun u => Two W w.heap.size x (isK 10 x) u) ((T2.out.next (Made.refl u1).drew).set [(1, .int .u8 x.d), (2, .int .u8 x.s), (10, .int .i64 x.imm), (8, .bool x.ext)] rfl) ?_
      intro u2 hT
      have T3 := Lib.hid hT
      clear hT a0 a1 a2 a3 a4 a5 a6 a7 a8 a9 a10 b0 b1 b2 b3 b4 b5 b6 b7 b8 b9 b10 hl hl1 fz
      obtain ⟨a0, a1, a2, a3, a4, a5, a6, a7, a8, a9, a10⟩ := in_cells T3.out.in_
      have hl := heap_lt T3.out.in_
      cases rg with
      | false =>
        go_quiet (fail)
        go_wp2
        go_meet
        case rel => exact ⟨rfl, T3.out.next (below_drewN (Made.refl u2) _)⟩
      | true =>
        have hcl := within_near x HX.out (scaleZ x.op) (scale_one x.op) u2
        generalize hv : withinB x 2048 (scaleZ x.op) = v at hcl
        have C1 := Lib.hid hv
        have L1 := Lib.hid hcl
        have S1 := Lib.hid (scale_ref x.op)
        clear hv hcl
        have g0 := fun d os => cell_regrown a0 d os
        have g1 := fun d os => cell_regrown a1 d os
        have g2 := fun d os => cell_regrown a2 d os
        have g3 := fun d os => cell_regrown a3 d os
        have g4 := fun d os => cell_regrown a4 d os
        have g5 := fun d os => cell_regrown a5 d os
        have g6 := fun d os => cell_regrown a6 d os
        have g7 := fun d os => cell_regrown a7 d os
        have g8 := fun d os => cell_regrown a8 d os
        have g9 := fun d os => cell_regrown a9 d os
        have g10 := fun d os => cell_regrown a10 d os
        refine wp_region_quiet_below (by kernel_rfl) (by kernel_rfl) ?_
        repeat (go_big_quiet_step ((first | (go_at_call 140; exact (S1.out.makes u2).again _ _) | (go_at_call 139; exact L1.out.again _ _))))
        refine wpQuiet_nil ?_
        intro u3 hw9
        have T4 := Lib.hid (T3.out.next (made_regrown hw9))
        cases v
        all_goals
          go_wp2
          go_meet
          case rel => exact ⟨by simp [okK, C1.out], T4.out⟩
    case rest =>
      obtain ⟨rfl, hT⟩ := hcut
      generalize wc = u9 at *
      have T9 := Lib.hid hT
      generalize hob : (rg && okK 10 x) = ob at *
      have OB := Lib.hid hob
      clear hT hob
      obtain ⟨a0, a1, a2, a3, a4, a5, a6, a7, a8, a9, a10⟩ := in_cells T9.out.in_
      obtain ⟨b0, b1, b2, b3, b4, b5, b6, b7, b8, b9, b10⟩ := in_cells T9.out.is_
      have hl := heap_lt T9.out.in_
      have hl1 := heap_lt T9.out.is_
      have hop := run_in_eql (isK 10 x) x
      generalize hdq : decide (isK 10 x = x) = dq at *
      have DQ := Lib.hid hdq
      clear hdq
      cases ob
      all_goals
        go_wp2
        go_ret
        exact ⟨ret_bool (by unfold refK; rw [RG.out, DQ.out, OB.out]; simp), T9.out.made⟩
set_option maxRecDepth 100000 in
set_option maxHeartbeats 4000000 in
theorem right_11 (x : In) (hx : x.small) (hk : kindZ x.op = 11) (W : World) : Makes Tryz.prog W 98 #[x.val] (.bool (refK 11 x)) := by
  intro w hm
  have hd0 := hx.d0
  have hs0 := hx.s0
  have ht0 := hx.t0
  have hn0 := hx.n0
  have hc0 := hx.count0
  have hp0 := hx.pred0
  have hz := hm.size
  have HX := Lib.hid hx
  have HK := Lib.hid hk
  have T0 := Lib.hid (two_start hm x)
  clear hm hk hx
  go_enter Tryz.func98, Tryz.ntmps98
  go_upto_region 2 with (fail)
  go_cut [4] from 8 to 20 (fun v wc => v = .bool (regsB x) ∧ Two W w.heap.size x { inZero with op := x.op } wc)
  case first =>
    by_cases c1 : x.d < 32
    · by_cases c2 : x.s < 32
      · by_cases c3 : x.t < 32
        all_goals
          have H1 := Lib.hid c1
          have H2 := Lib.hid c2
          have H3 := Lib.hid c3
          go_wp2
          go_meet
          case rel => exact ⟨by first | (simp [regsB, H1.out, H2.out, H3.out]; done) | (simp [regsB]; omega), T0.out⟩
      · go_wp2
        go_meet
        case rel => exact ⟨by simp [regsB]; omega, T0.out⟩
    · go_wp2
      go_meet
      case rel => exact ⟨by simp [regsB]; omega, T0.out⟩
  case rest =>
    obtain ⟨rfl, hT⟩ := hcut
    generalize wc = u0 at *
    generalize hrg : regsB x = rg at *
    have RG := Lib.hid hrg
    have T1 := Lib.hid hT
    obtain ⟨a0, a1, a2, a3, a4, a5, a6, a7, a8, a9, a10⟩ := in_cells hT.in_
    have hl := heap_lt hT.in_
    have hkr := kind_ref x.op HX.out.op0 HX.out.op1 u0 u0 (Made.refl _)
    rewrite [HK.out] at hkr
    have KR := Lib.hid hkr
    clear hT hrg hkr T0
    go_wp2_with (fail)
    refine KR.out.mono ?_
    rintro e u1 ⟨rfl, h1⟩
    have T2 := Lib.hid (T1.out.next h1)
    clear h1 a0 a1 a2 a3 a4 a5 a6 a7 a8 a9 a10 hl
    go_upto_block 0 with (fail)
    go_cut [4] from 24 to 361 (fun v wd => v = .bool (rg && okK 11 x) ∧ Two W w.heap.size x (isK 11 x) wd)
    case first =>
      obtain ⟨a0, a1, a2, a3, a4, a5, a6, a7, a8, a9, a10⟩ := in_cells T2.out.in_
      obtain ⟨b0, b1, b2, b3, b4, b5, b6, b7, b8, b9, b10⟩ := in_cells T2.out.is_
      have hl := heap_lt T2.out.in_
      have hl1 := heap_lt T2.out.is_
      have fz := free_of_lit T2.out.is_
      go_upto_region 36 with (fail)
      go_region_held3 (fun w' => w'.cell? ⟨w.heap.size, 2, none⟩ = some (.int .u8 x.s) ∧ w'.cell? ⟨w.heap.size, 3, none⟩ = some (.int .u8 x.t) ∧ w'.cell? ⟨w.heap.size, 7, none⟩ = some (.bool x.new) ∧ w'.cell? ⟨w.heap.size, 10, none⟩ = some (.int .i64 x.imm) ∧ w'.cell? ⟨w.heap.size, 8, none⟩ = some (.bool x.ext)) (go_keep) (fail)
      go_upto_region 37 with (fail)
      refine name_world (fun u => Two W w.heap.size x (isK 11 x) u) ((T2.out.next (Made.refl u1).drew).set [(2, .int .u8 x.s), (3, .int .u8 x.t), (7, .bool x.new), (10, .int .i64 x.imm), (8, .bool x.ext)] rfl) ?_
      intro u2 hT
      have T3 := Lib.hid hT
      clear hT a0 a1 a2 a3 a4 a5 a6 a7 a8 a9 a10 b0 b1 b2 b3 b4 b5 b6 b7 b8 b9 b10 hl hl1 fz
      obtain ⟨a0, a1, a2, a3, a4, a5, a6, a7, a8, a9, a10⟩ := in_cells T3.out.in_
      have hl := heap_lt T3.out.in_
      cases rg with
      | false =>
        go_quiet (fail)
        go_wp2
        go_meet
        case rel => exact ⟨rfl, T3.out.next (below_drewN (Made.refl u2) _)⟩
      | true =>
        have hcl := within_near x HX.out (scaleZ x.op) (scale_one x.op) u2
        generalize hv : withinB x 2048 (scaleZ x.op) = v at hcl
        have C1 := Lib.hid hv
        have L1 := Lib.hid hcl
        have S1 := Lib.hid (scale_ref x.op)
        clear hv hcl
        have g0 := fun d os => cell_regrown a0 d os
        have g1 := fun d os => cell_regrown a1 d os
        have g2 := fun d os => cell_regrown a2 d os
        have g3 := fun d os => cell_regrown a3 d os
        have g4 := fun d os => cell_regrown a4 d os
        have g5 := fun d os => cell_regrown a5 d os
        have g6 := fun d os => cell_regrown a6 d os
        have g7 := fun d os => cell_regrown a7 d os
        have g8 := fun d os => cell_regrown a8 d os
        have g9 := fun d os => cell_regrown a9 d os
        have g10 := fun d os => cell_regrown a10 d os
        refine wp_region_quiet_below (by kernel_rfl) (by kernel_rfl) ?_
        repeat (go_big_quiet_step ((first | (go_at_call 140; exact (S1.out.makes u2).again _ _) | (go_at_call 139; exact L1.out.again _ _))))
        refine wpQuiet_nil ?_
        intro u3 hw9
        have T4 := Lib.hid (T3.out.next (made_regrown hw9))
        cases v
        all_goals
          go_wp2
          go_meet
          case rel => exact ⟨by simp [okK, C1.out], T4.out⟩
    case rest =>
      obtain ⟨rfl, hT⟩ := hcut
      generalize wc = u9 at *
      have T9 := Lib.hid hT
      generalize hob : (rg && okK 11 x) = ob at *
      have OB := Lib.hid hob
      clear hT hob
      obtain ⟨a0, a1, a2, a3, a4, a5, a6, a7, a8, a9, a10⟩ := in_cells T9.out.in_
      obtain ⟨b0, b1, b2, b3, b4, b5, b6, b7, b8, b9, b10⟩ := in_cells T9.out.is_
      have hl := heap_lt T9.out.in_
      have hl1 := heap_lt T9.out.is_
      have hop := run_in_eql (isK 11 x) x
      generalize hdq : decide (isK 11 x = x) = dq at *
      have DQ := Lib.hid hdq
      clear hdq
      cases ob
      all_goals
        go_wp2
        go_ret
        exact ⟨ret_bool (by unfold refK; rw [RG.out, DQ.out, OB.out]; simp), T9.out.made⟩
set_option maxRecDepth 100000 in
set_option maxHeartbeats 4000000 in
theorem right_12 (x : In) (hx : x.small) (hk : kindZ x.op = 12) (W : World) : Makes Tryz.prog W 98 #[x.val] (.bool (refK 12 x)) := by
  intro w hm
  have hd0 := hx.d0
  have hs0 := hx.s0
  have ht0 := hx.t0
  have hn0 := hx.n0
  have hc0 := hx.count0
  have hp0 := hx.pred0
  have hz := hm.size
  have HX := Lib.hid hx
  have HK := Lib.hid hk
  have T0 := Lib.hid (two_start hm x)
  clear hm hk hx
  go_enter Tryz.func98, Tryz.ntmps98
  go_upto_region 2 with (fail)
  go_cut [4] from 8 to 20 (fun v wc => v = .bool (regsB x) ∧ Two W w.heap.size x { inZero with op := x.op } wc)
  case first =>
    by_cases c1 : x.d < 32
    · by_cases c2 : x.s < 32
      · by_cases c3 : x.t < 32
        all_goals
          have H1 := Lib.hid c1
          have H2 := Lib.hid c2
          have H3 := Lib.hid c3
          go_wp2
          go_meet
          case rel => exact ⟨by first | (simp [regsB, H1.out, H2.out, H3.out]; done) | (simp [regsB]; omega), T0.out⟩
      · go_wp2
        go_meet
        case rel => exact ⟨by simp [regsB]; omega, T0.out⟩
    · go_wp2
      go_meet
      case rel => exact ⟨by simp [regsB]; omega, T0.out⟩
  case rest =>
    obtain ⟨rfl, hT⟩ := hcut
    generalize wc = u0 at *
    generalize hrg : regsB x = rg at *
    have RG := Lib.hid hrg
    have T1 := Lib.hid hT
    obtain ⟨a0, a1, a2, a3, a4, a5, a6, a7, a8, a9, a10⟩ := in_cells hT.in_
    have hl := heap_lt hT.in_
    have hkr := kind_ref x.op HX.out.op0 HX.out.op1 u0 u0 (Made.refl _)
    rewrite [HK.out] at hkr
    have KR := Lib.hid hkr
    clear hT hrg hkr T0
    go_wp2_with (fail)
    refine KR.out.mono ?_
    rintro e u1 ⟨rfl, h1⟩
    have T2 := Lib.hid (T1.out.next h1)
    clear h1 a0 a1 a2 a3 a4 a5 a6 a7 a8 a9 a10 hl
    go_upto_block 0 with (fail)
    go_cut [4] from 24 to 361 (fun v wd => v = .bool (rg && okK 12 x) ∧ Two W w.heap.size x (isK 12 x) wd)
    case first =>
      obtain ⟨a0, a1, a2, a3, a4, a5, a6, a7, a8, a9, a10⟩ := in_cells T2.out.in_
      obtain ⟨b0, b1, b2, b3, b4, b5, b6, b7, b8, b9, b10⟩ := in_cells T2.out.is_
      have hl := heap_lt T2.out.in_
      have hl1 := heap_lt T2.out.is_
      have fz := free_of_lit T2.out.is_
      go_upto_region 39 with (fail)
      go_region_held3 (fun w' => w'.cell? ⟨w.heap.size, 6, none⟩ = some (.int .u8 x.mode) ∧ w'.cell? ⟨w.heap.size, 5, none⟩ = some (.int .u8 x.pred) ∧ w'.cell? ⟨w.heap.size, 10, none⟩ = some (.int .i64 x.imm) ∧ w'.cell? ⟨w.heap.size, 8, none⟩ = some (.bool x.ext)) (go_keep) (fail)
      go_upto_region 40 with (fail)
      refine name_world (fun u => Two W w.heap.size x (isK 12 x) u) ((T2.out.next (Made.refl u1).drew).set [(6, .int .u8 x.mode), (5, .int .u8 x.pred), (10, .int .i64 x.imm), (8, .bool x.ext)] rfl) ?_
      intro u2 hT
      have T3 := Lib.hid hT
      clear hT a0 a1 a2 a3 a4 a5 a6 a7 a8 a9 a10 b0 b1 b2 b3 b4 b5 b6 b7 b8 b9 b10 hl hl1 fz
      obtain ⟨a0, a1, a2, a3, a4, a5, a6, a7, a8, a9, a10⟩ := in_cells T3.out.in_
      have hl := heap_lt T3.out.in_
      cases rg with
      | false =>
        go_wp2
        go_meet
        case rel => exact ⟨rfl, T3.out⟩
      | true =>
        have hcl1 := cond_ref x HX.out u2 u2 (Made.refl _)
        generalize hv1 : condB x = v1 at hcl1
        have C1 := Lib.hid hv1
        have L1 := Lib.hid hcl1
        clear hv1 hcl1
        go_wp2_with (fail)
        refine L1.out.mono ?_
        rintro e u3 ⟨rfl, hq⟩
        have T4 := Lib.hid (T3.out.next hq)
        clear hq
        clear a0 a1 a2 a3 a4 a5 a6 a7 a8 a9 a10 hl
        obtain ⟨a0, a1, a2, a3, a4, a5, a6, a7, a8, a9, a10⟩ := in_cells T4.out.in_
        have hl := heap_lt T4.out.in_
        cases v1 with
        | false =>
          go_wp2
          go_meet
          case rel => exact ⟨by first | (simp [okK, C1.out]; done) | (simp [okK]; omega) | (simp [okK]; intros; omega), T4.out⟩
        | true =>
          have hcl2 := target_ref x.imm u3
          generalize hv2 : aimB x.imm = v2 at hcl2
          have C2 := Lib.hid hv2
          have L2 := Lib.hid hcl2
          clear hv2 hcl2
          go_wp2_with (fail)
          refine L2.out.mono ?_
          rintro e u4 ⟨rfl, hq⟩
          have T5 := Lib.hid (T4.out.next (show Made u3 u4 by rw [← hq]; exact Made.refl _))
          clear hq
          clear a0 a1 a2 a3 a4 a5 a6 a7 a8 a9 a10 hl
          obtain ⟨a0, a1, a2, a3, a4, a5, a6, a7, a8, a9, a10⟩ := in_cells T5.out.in_
          have hl := heap_lt T5.out.in_
          cases v2 with
          | false =>
            go_wp2
            go_meet
            case rel => exact ⟨by first | (simp [okK, C1.out, C2.out]; done) | (simp [okK]; omega) | (simp [okK]; intros; omega), T5.out⟩
          | true =>
            go_wp2
            go_meet
            case rel => exact ⟨by first | (simp [okK, C1.out, C2.out]; done) | (simp [okK]; omega) | (simp [okK]; intros; omega), T5.out⟩
    case rest =>
      obtain ⟨rfl, hT⟩ := hcut
      generalize wc = u9 at *
      have T9 := Lib.hid hT
      generalize hob : (rg && okK 12 x) = ob at *
      have OB := Lib.hid hob
      clear hT hob
      obtain ⟨a0, a1, a2, a3, a4, a5, a6, a7, a8, a9, a10⟩ := in_cells T9.out.in_
      obtain ⟨b0, b1, b2, b3, b4, b5, b6, b7, b8, b9, b10⟩ := in_cells T9.out.is_
      have hl := heap_lt T9.out.in_
      have hl1 := heap_lt T9.out.is_
      have hop := run_in_eql (isK 12 x) x
      generalize hdq : decide (isK 12 x = x) = dq at *
      have DQ := Lib.hid hdq
      clear hdq
      cases ob
      all_goals
        go_wp2
        go_ret
        exact ⟨ret_bool (by unfold refK; rw [RG.out, DQ.out, OB.out]; simp), T9.out.made⟩
set_option maxRecDepth 100000 in
set_option maxHeartbeats 4000000 in
theorem right_13 (x : In) (hx : x.small) (hk : kindZ x.op = 13) (W : World) : Makes Tryz.prog W 98 #[x.val] (.bool (refK 13 x)) := by
  intro w hm
  have hd0 := hx.d0
  have hs0 := hx.s0
  have ht0 := hx.t0
  have hn0 := hx.n0
  have hc0 := hx.count0
  have hp0 := hx.pred0
  have hz := hm.size
  have HX := Lib.hid hx
  have HK := Lib.hid hk
  have T0 := Lib.hid (two_start hm x)
  clear hm hk hx
  go_enter Tryz.func98, Tryz.ntmps98
  go_upto_region 2 with (fail)
  go_cut [4] from 8 to 20 (fun v wc => v = .bool (regsB x) ∧ Two W w.heap.size x { inZero with op := x.op } wc)
  case first =>
    by_cases c1 : x.d < 32
    · by_cases c2 : x.s < 32
      · by_cases c3 : x.t < 32
        all_goals
          have H1 := Lib.hid c1
          have H2 := Lib.hid c2
          have H3 := Lib.hid c3
          go_wp2
          go_meet
          case rel => exact ⟨by first | (simp [regsB, H1.out, H2.out, H3.out]; done) | (simp [regsB]; omega), T0.out⟩
      · go_wp2
        go_meet
        case rel => exact ⟨by simp [regsB]; omega, T0.out⟩
    · go_wp2
      go_meet
      case rel => exact ⟨by simp [regsB]; omega, T0.out⟩
  case rest =>
    obtain ⟨rfl, hT⟩ := hcut
    generalize wc = u0 at *
    generalize hrg : regsB x = rg at *
    have RG := Lib.hid hrg
    have T1 := Lib.hid hT
    obtain ⟨a0, a1, a2, a3, a4, a5, a6, a7, a8, a9, a10⟩ := in_cells hT.in_
    have hl := heap_lt hT.in_
    have hkr := kind_ref x.op HX.out.op0 HX.out.op1 u0 u0 (Made.refl _)
    rewrite [HK.out] at hkr
    have KR := Lib.hid hkr
    clear hT hrg hkr T0
    go_wp2_with (fail)
    refine KR.out.mono ?_
    rintro e u1 ⟨rfl, h1⟩
    have T2 := Lib.hid (T1.out.next h1)
    clear h1 a0 a1 a2 a3 a4 a5 a6 a7 a8 a9 a10 hl
    go_upto_block 0 with (fail)
    go_cut [4] from 24 to 361 (fun v wd => v = .bool (rg && okK 13 x) ∧ Two W w.heap.size x (isK 13 x) wd)
    case first =>
      obtain ⟨a0, a1, a2, a3, a4, a5, a6, a7, a8, a9, a10⟩ := in_cells T2.out.in_
      obtain ⟨b0, b1, b2, b3, b4, b5, b6, b7, b8, b9, b10⟩ := in_cells T2.out.is_
      have hl := heap_lt T2.out.in_
      have hl1 := heap_lt T2.out.is_
      have fz := free_of_lit T2.out.is_
      go_upto_region 42 with (fail)
      go_region_held3 (fun w' => w'.cell? ⟨w.heap.size, 6, none⟩ = some (.int .u8 x.mode) ∧ w'.cell? ⟨w.heap.size, 5, none⟩ = some (.int .u8 x.pred) ∧ w'.cell? ⟨w.heap.size, 2, none⟩ = some (.int .u8 x.s)) (go_keep) (fail)
      go_upto_region 43 with (fail)
      refine name_world (fun u => Two W w.heap.size x (isK 13 x) u) ((T2.out.next (Made.refl u1).drew).set [(6, .int .u8 x.mode), (5, .int .u8 x.pred), (2, .int .u8 x.s)] rfl) ?_
      intro u2 hT
      have T3 := Lib.hid hT
      clear hT a0 a1 a2 a3 a4 a5 a6 a7 a8 a9 a10 b0 b1 b2 b3 b4 b5 b6 b7 b8 b9 b10 hl hl1 fz
      obtain ⟨a0, a1, a2, a3, a4, a5, a6, a7, a8, a9, a10⟩ := in_cells T3.out.in_
      have hl := heap_lt T3.out.in_
      cases rg with
      | false =>
        go_wp2
        go_meet
        case rel => exact ⟨rfl, T3.out⟩
      | true =>
        have hcl1 := cond_ref x HX.out u2 u2 (Made.refl _)
        generalize hv1 : condB x = v1 at hcl1
        have C1 := Lib.hid hv1
        have L1 := Lib.hid hcl1
        clear hv1 hcl1
        go_wp2_with (fail)
        refine L1.out.mono ?_
        rintro e u3 ⟨rfl, hq⟩
        have T4 := Lib.hid (T3.out.next hq)
        clear hq
        clear a0 a1 a2 a3 a4 a5 a6 a7 a8 a9 a10 hl
        obtain ⟨a0, a1, a2, a3, a4, a5, a6, a7, a8, a9, a10⟩ := in_cells T4.out.in_
        have hl := heap_lt T4.out.in_
        cases v1 with
        | false =>
          go_wp2
          go_meet
          case rel => exact ⟨by first | (simp [okK, C1.out]; done) | (simp [okK]; omega) | (simp [okK]; intros; omega), T4.out⟩
        | true =>
          go_wp2
          go_meet
          case rel => exact ⟨by first | (simp [okK, C1.out]; done) | (simp [okK]; omega) | (simp [okK]; intros; omega), T4.out⟩
    case rest =>
      obtain ⟨rfl, hT⟩ := hcut
      generalize wc = u9 at *
      have T9 := Lib.hid hT
      generalize hob : (rg && okK 13 x) = ob at *
      have OB := Lib.hid hob
      clear hT hob
      obtain ⟨a0, a1, a2, a3, a4, a5, a6, a7, a8, a9, a10⟩ := in_cells T9.out.in_
      obtain ⟨b0, b1, b2, b3, b4, b5, b6, b7, b8, b9, b10⟩ := in_cells T9.out.is_
      have hl := heap_lt T9.out.in_
      have hl1 := heap_lt T9.out.is_
      have hop := run_in_eql (isK 13 x) x
      generalize hdq : decide (isK 13 x = x) = dq at *
      have DQ := Lib.hid hdq
      clear hdq
      cases ob
      all_goals
        go_wp2
        go_ret
        exact ⟨ret_bool (by unfold refK; rw [RG.out, DQ.out, OB.out]; simp), T9.out.made⟩
end
end refRight
end Go.Proofs.YtdghnlbfmaehoaaGreatDoor
