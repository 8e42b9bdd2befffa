/- The document's Right of inst, kind by kind (part E), for every instruction of the kind. -/
import Derived.Test.YtdghnlbfmaehoaaGreatDoorGRef
import Derived.Deep.CutBlock
import Derived.Deep.RegionHeld3
import Derived.Deep.DrawnRows
namespace Go.Proofs.YtdghnlbfmaehoaaGreatDoor
open Go.ChangeShapes Go.WideShapes Go.ChangeAt Go.RowKit Go.Sort BigFrame

namespace refRight
section
attribute [local irreducible] World.cell?
attribute [local go_sem ↓] Go.wp_at_zero Go.wp_at_succ
set_option maxRecDepth 100000 in
set_option maxHeartbeats 4000000 in
theorem right_16a (x : In) (hx : x.small) (hk : kindZ x.op = 16) (hn15 : x.n < 2) (W : World) : Makes Tryz.prog W 98 #[x.val] (.bool (refK 16 x)) := by
  intro w hm
  have hd0 := hx.d0
  have hs0 := hx.s0
  have ht0 := hx.t0
  have hn0 := hx.n0
  have hc0 := hx.count0
  have hp0 := hx.pred0
  have hz := hm.size
  have HX := Lib.hid hx
  have HK := Lib.hid hk
  have T0 := Lib.hid (two_start hm x)
  clear hm hk hx
  go_enter Tryz.func98, Tryz.ntmps98
  go_upto_region 2 with (fail)
  go_cut [4] from 8 to 20 (fun v wc => v = .bool (regsB x) ∧ Two W w.heap.size x { inZero with op := x.op } wc)
  case first =>
    by_cases c1 : x.d < 32
    · by_cases c2 : x.s < 32
      · by_cases c3 : x.t < 32
        all_goals
          have H1 := Lib.hid c1
          have H2 := Lib.hid c2
          have H3 := Lib.hid c3
          go_wp2
          go_meet
          case rel => exact ⟨by first | (simp [regsB, H1.out, H2.out, H3.out]; done) | (simp [regsB]; omega), T0.out⟩
      · go_wp2
        go_meet
        case rel => exact ⟨by simp [regsB]; omega, T0.out⟩
    · go_wp2
      go_meet
      case rel => exact ⟨by simp [regsB]; omega, T0.out⟩
  case rest =>
    obtain ⟨rfl, hT⟩ := hcut
    generalize wc = u0 at *
    generalize hrg : regsB x = rg at *
    have RG := Lib.hid hrg
    have T1 := Lib.hid hT
    obtain ⟨a0, a1, a2, a3, a4, a5, a6, a7, a8, a9, a10⟩ := in_cells hT.in_
    have hl := heap_lt hT.in_
    have hkr := kind_ref x.op HX.out.op0 HX.out.op1 u0 u0 (Made.refl _)
    rewrite [HK.out] at hkr
    have KR := Lib.hid hkr
    clear hT hrg hkr T0
    go_wp2_with (fail)
    refine KR.out.mono ?_
    rintro e u1 ⟨rfl, h1⟩
    have T2 := Lib.hid (T1.out.next h1)
    clear h1 a0 a1 a2 a3 a4 a5 a6 a7 a8 a9 a10 hl
    go_upto_block 0 with (fail)
    go_cut [4] from 24 to 361 (fun v wd => v = .bool (rg && okK 16 x) ∧ Two W w.heap.size x (isK 16 x) wd)
    case first =>
      obtain ⟨a0, a1, a2, a3, a4, a5, a6, a7, a8, a9, a10⟩ := in_cells T2.out.in_
      obtain ⟨b0, b1, b2, b3, b4, b5, b6, b7, b8, b9, b10⟩ := in_cells T2.out.is_
      have hl := heap_lt T2.out.in_
      have hl1 := heap_lt T2.out.is_
      have fz := free_of_lit T2.out.is_
      go_upto_region 51 with (fail)
      go_region_held3 (fun w' => w'.cell? ⟨w.heap.size, 4, none⟩ = some (.int .u8 x.n) ∧ w'.cell? ⟨w.heap.size, 10, none⟩ = some (.int .i64 x.imm) ∧ w'.cell? ⟨w.heap.size, 8, none⟩ = some (.bool x.ext) ∧ w'.cell? ⟨w.heap.size, 2, none⟩ = some (.int .u8 x.s)) (go_keep) (fail)
      go_upto_region 52 with (fail)
      refine name_world (fun u => Two W w.heap.size x (isK 16 x) u) ((T2.out.next (Made.refl u1).drew).set [(4, .int .u8 x.n), (10, .int .i64 x.imm), (8, .bool x.ext), (2, .int .u8 x.s)] rfl) ?_
      intro u2 hT
      have T3 := Lib.hid hT
      clear hT a0 a1 a2 a3 a4 a5 a6 a7 a8 a9 a10 b0 b1 b2 b3 b4 b5 b6 b7 b8 b9 b10 hl hl1 fz
      obtain ⟨a0, a1, a2, a3, a4, a5, a6, a7, a8, a9, a10⟩ := in_cells T3.out.in_
      have hl := heap_lt T3.out.in_
      cases rg with
      | false =>
        go_wp2
        go_meet
        case rel => exact ⟨rfl, T3.out⟩
      | true =>
        have c1 := hn15
        have C1 := Lib.hid c1
        have hcl2 := target_ref x.imm u2
        generalize hv2 : aimB x.imm = v2 at hcl2
        have C2 := Lib.hid hv2
        have L2 := Lib.hid hcl2
        clear hv2 hcl2
        go_wp2_with (fail)
        refine L2.out.mono ?_
        rintro e u3 ⟨rfl, hq⟩
        have T4 := Lib.hid (T3.out.next (show Made u2 u3 by rw [← hq]; exact Made.refl _))
        clear hq
        clear a0 a1 a2 a3 a4 a5 a6 a7 a8 a9 a10 hl
        obtain ⟨a0, a1, a2, a3, a4, a5, a6, a7, a8, a9, a10⟩ := in_cells T4.out.in_
        have hl := heap_lt T4.out.in_
        cases v2 with
        | false =>
          go_wp2
          go_meet
          case rel => exact ⟨by first | (simp [okK, C1.out, C2.out]; done) | (simp [okK]; omega) | (simp [okK]; intros; omega), T4.out⟩
        | true =>
          go_wp2
          go_meet
          case rel => exact ⟨by first | (simp [okK, C1.out, C2.out]; done) | (simp [okK]; omega) | (simp [okK]; intros; omega), T4.out⟩
    case rest =>
      obtain ⟨rfl, hT⟩ := hcut
      generalize wc = u9 at *
      have T9 := Lib.hid hT
      generalize hob : (rg && okK 16 x) = ob at *
      have OB := Lib.hid hob
      clear hT hob
      obtain ⟨a0, a1, a2, a3, a4, a5, a6, a7, a8, a9, a10⟩ := in_cells T9.out.in_
      obtain ⟨b0, b1, b2, b3, b4, b5, b6, b7, b8, b9, b10⟩ := in_cells T9.out.is_
      have hl := heap_lt T9.out.in_
      have hl1 := heap_lt T9.out.is_
      have hop := run_in_eql (isK 16 x) x
      generalize hdq : decide (isK 16 x = x) = dq at *
      have DQ := Lib.hid hdq
      clear hdq
      cases ob
      all_goals
        go_wp2
        go_ret
        exact ⟨ret_bool (by unfold refK; rw [RG.out, DQ.out, OB.out]; simp), T9.out.made⟩
set_option maxRecDepth 100000 in
set_option maxHeartbeats 4000000 in
theorem right_16b (x : In) (hx : x.small) (hk : kindZ x.op = 16) (hn15 : ¬ x.n < 2) (W : World) : Makes Tryz.prog W 98 #[x.val] (.bool (refK 16 x)) := by
  intro w hm
  have hd0 := hx.d0
  have hs0 := hx.s0
  have ht0 := hx.t0
  have hn0 := hx.n0
  have hc0 := hx.count0
  have hp0 := hx.pred0
  have hz := hm.size
  have HX := Lib.hid hx
  have HK := Lib.hid hk
  have T0 := Lib.hid (two_start hm x)
  clear hm hk hx
  go_enter Tryz.func98, Tryz.ntmps98
  go_upto_region 2 with (fail)
  go_cut [4] from 8 to 20 (fun v wc => v = .bool (regsB x) ∧ Two W w.heap.size x { inZero with op := x.op } wc)
  case first =>
    by_cases c1 : x.d < 32
    · by_cases c2 : x.s < 32
      · by_cases c3 : x.t < 32
        all_goals
          have H1 := Lib.hid c1
          have H2 := Lib.hid c2
          have H3 := Lib.hid c3
          go_wp2
          go_meet
          case rel => exact ⟨by first | (simp [regsB, H1.out, H2.out, H3.out]; done) | (simp [regsB]; omega), T0.out⟩
      · go_wp2
        go_meet
        case rel => exact ⟨by simp [regsB]; omega, T0.out⟩
    · go_wp2
      go_meet
      case rel => exact ⟨by simp [regsB]; omega, T0.out⟩
  case rest =>
    obtain ⟨rfl, hT⟩ := hcut
    generalize wc = u0 at *
    generalize hrg : regsB x = rg at *
    have RG := Lib.hid hrg
    have T1 := Lib.hid hT
    obtain ⟨a0, a1, a2, a3, a4, a5, a6, a7, a8, a9, a10⟩ := in_cells hT.in_
    have hl := heap_lt hT.in_
    have hkr := kind_ref x.op HX.out.op0 HX.out.op1 u0 u0 (Made.refl _)
    rewrite [HK.out] at hkr
    have KR := Lib.hid hkr
    clear hT hrg hkr T0
    go_wp2_with (fail)
    refine KR.out.mono ?_
    rintro e u1 ⟨rfl, h1⟩
    have T2 := Lib.hid (T1.out.next h1)
    clear h1 a0 a1 a2 a3 a4 a5 a6 a7 a8 a9 a10 hl
    go_upto_block 0 with (fail)
    go_cut [4] from 24 to 361 (fun v wd => v = .bool (rg && okK 16 x) ∧ Two W w.heap.size x (isK 16 x) wd)
    case first =>
      obtain ⟨a0, a1, a2, a3, a4, a5, a6, a7, a8, a9, a10⟩ := in_cells T2.out.in_
      obtain ⟨b0, b1, b2, b3, b4, b5, b6, b7, b8, b9, b10⟩ := in_cells T2.out.is_
      have hl := heap_lt T2.out.in_
      have hl1 := heap_lt T2.out.is_
      have fz := free_of_lit T2.out.is_
      go_upto_region 51 with (fail)
      go_region_held3 (fun w' => w'.cell? ⟨w.heap.size, 4, none⟩ = some (.int .u8 x.n) ∧ w'.cell? ⟨w.heap.size, 10, none⟩ = some (.int .i64 x.imm) ∧ w'.cell? ⟨w.heap.size, 8, none⟩ = some (.bool x.ext) ∧ w'.cell? ⟨w.heap.size, 2, none⟩ = some (.int .u8 x.s)) (go_keep) (fail)
      go_upto_region 52 with (fail)
      refine name_world (fun u => Two W w.heap.size x (isK 16 x) u) ((T2.out.next (Made.refl u1).drew).set [(4, .int .u8 x.n), (10, .int .i64 x.imm), (8, .bool x.ext), (2, .int .u8 x.s)] rfl) ?_
      intro u2 hT
      have T3 := Lib.hid hT
      clear hT a0 a1 a2 a3 a4 a5 a6 a7 a8 a9 a10 b0 b1 b2 b3 b4 b5 b6 b7 b8 b9 b10 hl hl1 fz
      obtain ⟨a0, a1, a2, a3, a4, a5, a6, a7, a8, a9, a10⟩ := in_cells T3.out.in_
      have hl := heap_lt T3.out.in_
      cases rg with
      | false =>
        go_wp2
        go_meet
        case rel => exact ⟨rfl, T3.out⟩
      | true =>
        have c1 := hn15
        go_wp2
        go_meet
        case rel => exact ⟨by first | (simp [okK]; omega) | (simp [okK]; intros; omega), T3.out⟩
    case rest =>
      obtain ⟨rfl, hT⟩ := hcut
      generalize wc = u9 at *
      have T9 := Lib.hid hT
      generalize hob : (rg && okK 16 x) = ob at *
      have OB := Lib.hid hob
      clear hT hob
      obtain ⟨a0, a1, a2, a3, a4, a5, a6, a7, a8, a9, a10⟩ := in_cells T9.out.in_
      obtain ⟨b0, b1, b2, b3, b4, b5, b6, b7, b8, b9, b10⟩ := in_cells T9.out.is_
      have hl := heap_lt T9.out.in_
      have hl1 := heap_lt T9.out.is_
      have hop := run_in_eql (isK 16 x) x
      generalize hdq : decide (isK 16 x = x) = dq at *
      have DQ := Lib.hid hdq
      clear hdq
      cases ob
      all_goals
        go_wp2
        go_ret
        exact ⟨ret_bool (by unfold refK; rw [RG.out, DQ.out, OB.out]; simp), T9.out.made⟩
theorem right_16 (x : In) (hx : x.small) (hk : kindZ x.op = 16) (W : World) : Makes Tryz.prog W 98 #[x.val] (.bool (refK 16 x)) := by
  by_cases h : x.n < 2
  · exact right_16a x hx hk h W
  · exact right_16b x hx hk h W
set_option maxRecDepth 100000 in
set_option maxHeartbeats 4000000 in
theorem right_17 (x : In) (hx : x.small) (hk : kindZ x.op = 17) (W : World) : Makes Tryz.prog W 98 #[x.val] (.bool (refK 17 x)) := by
  intro w hm
  have hd0 := hx.d0
  have hs0 := hx.s0
  have ht0 := hx.t0
  have hn0 := hx.n0
  have hc0 := hx.count0
  have hp0 := hx.pred0
  have hz := hm.size
  have HX := Lib.hid hx
  have HK := Lib.hid hk
  have T0 := Lib.hid (two_start hm x)
  clear hm hk hx
  go_enter Tryz.func98, Tryz.ntmps98
  go_upto_region 2 with (fail)
  go_cut [4] from 8 to 20 (fun v wc => v = .bool (regsB x) ∧ Two W w.heap.size x { inZero with op := x.op } wc)
  case first =>
    by_cases c1 : x.d < 32
    · by_cases c2 : x.s < 32
      · by_cases c3 : x.t < 32
        all_goals
          have H1 := Lib.hid c1
          have H2 := Lib.hid c2
          have H3 := Lib.hid c3
          go_wp2
          go_meet
          case rel => exact ⟨by first | (simp [regsB, H1.out, H2.out, H3.out]; done) | (simp [regsB]; omega), T0.out⟩
      · go_wp2
        go_meet
        case rel => exact ⟨by simp [regsB]; omega, T0.out⟩
    · go_wp2
      go_meet
      case rel => exact ⟨by simp [regsB]; omega, T0.out⟩
  case rest =>
    obtain ⟨rfl, hT⟩ := hcut
    generalize wc = u0 at *
    generalize hrg : regsB x = rg at *
    have RG := Lib.hid hrg
    have T1 := Lib.hid hT
    obtain ⟨a0, a1, a2, a3, a4, a5, a6, a7, a8, a9, a10⟩ := in_cells hT.in_
    have hl := heap_lt hT.in_
    have hkr := kind_ref x.op HX.out.op0 HX.out.op1 u0 u0 (Made.refl _)
    rewrite [HK.out] at hkr
    have KR := Lib.hid hkr
    clear hT hrg hkr T0
    go_wp2_with (fail)
    refine KR.out.mono ?_
    rintro e u1 ⟨rfl, h1⟩
    have T2 := Lib.hid (T1.out.next h1)
    clear h1 a0 a1 a2 a3 a4 a5 a6 a7 a8 a9 a10 hl
    go_upto_block 0 with (fail)
    go_cut [4] from 24 to 361 (fun v wd => v = .bool (rg && okK 17 x) ∧ Two W w.heap.size x (isK 17 x) wd)
    case first =>
      obtain ⟨a0, a1, a2, a3, a4, a5, a6, a7, a8, a9, a10⟩ := in_cells T2.out.in_
      obtain ⟨b0, b1, b2, b3, b4, b5, b6, b7, b8, b9, b10⟩ := in_cells T2.out.is_
      have hl := heap_lt T2.out.in_
      have hl1 := heap_lt T2.out.is_
      have fz := free_of_lit T2.out.is_
      go_wp2
      go_meet
      case rel => exact ⟨by simp [okK], T2.out⟩
    case rest =>
      obtain ⟨rfl, hT⟩ := hcut
      generalize wc = u9 at *
      have T9 := Lib.hid hT
      generalize hob : (rg && okK 17 x) = ob at *
      have OB := Lib.hid hob
      clear hT hob
      obtain ⟨a0, a1, a2, a3, a4, a5, a6, a7, a8, a9, a10⟩ := in_cells T9.out.in_
      obtain ⟨b0, b1, b2, b3, b4, b5, b6, b7, b8, b9, b10⟩ := in_cells T9.out.is_
      have hl := heap_lt T9.out.in_
      have hl1 := heap_lt T9.out.is_
      have hop := run_in_eql (isK 17 x) x
      generalize hdq : decide (isK 17 x = x) = dq at *
      have DQ := Lib.hid hdq
      clear hdq
      cases ob
      all_goals
        go_wp2
        go_ret
        exact ⟨ret_bool (by unfold refK; rw [RG.out, DQ.out, OB.out]; simp), T9.out.made⟩
end
end refRight
end Go.Proofs.YtdghnlbfmaehoaaGreatDoor
