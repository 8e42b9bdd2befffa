/- What Right, Writes, WritesPred, ReadsPred and Target of the document's answer for inst return, for every instruction: what the program's own return; no condition but that each part lies in its Go type. · What Writes, WritesPred, ReadsPred and Target of the document's answer for inst return, for every instruction: what the program's own return; no condition but that each part lies in its Go type. -/
import Derived.Test.YtdghnlbfmaehoaaGreatDoorInstRRA
import Derived.Test.YtdghnlbfmaehoaaGreatDoorInstRRB
import Derived.Test.YtdghnlbfmaehoaaGreatDoorInstRRC
import Derived.Test.YtdghnlbfmaehoaaGreatDoorInstRRD
import Derived.Test.YtdghnlbfmaehoaaGreatDoorInstRRE
import Derived.Test.YtdghnlbfmaehoaaGreatDoorGFns
import Derived.Deep.CutBlock
import Derived.Deep.CutRange
import Derived.Test.YtdghnlbfmaehoaaGreatDoorGInst
namespace Go.Proofs.YtdghnlbfmaehoaaGreatDoor
section
open Go.ChangeShapes Go.WideShapes Go.ChangeAt Go.RowKit Go.Sort BigFrame

namespace refRight
section
attribute [local irreducible] World.cell?
set_option maxRecDepth 100000 in
set_option maxHeartbeats 4000000 in
theorem right_0 (x : In) (hx : x.small) (hk : kindZ x.op = 0) (W : World) : Makes Tryz.prog W 98 #[x.val] (.bool false) := by
  intro w hm
  have hd0 := hx.d0
  have hs0 := hx.s0
  have ht0 := hx.t0
  have hz := hm.size
  have HX := Lib.hid hx
  have HK := Lib.hid hk
  have T0 := Lib.hid (two_start hm x)
  clear hm hk hx
  go_enter Tryz.func98, Tryz.ntmps98
  go_upto_region 2 with (fail)
  go_cut [4] from 8 to 20 (fun v wc => v = .bool (regsB x) ∧ Two W w.heap.size x { inZero with op := x.op } wc)
  case first =>
    by_cases c1 : x.d < 32
    · by_cases c2 : x.s < 32
      · by_cases c3 : x.t < 32
        all_goals
          have H1 := Lib.hid c1
          have H2 := Lib.hid c2
          have H3 := Lib.hid c3
          go_wp2
          go_meet
          case rel => exact ⟨by first | (simp [regsB, H1.out, H2.out, H3.out]; done) | (simp [regsB]; omega), T0.out⟩
      · go_wp2
        go_meet
        case rel => exact ⟨by simp [regsB]; omega, T0.out⟩
    · go_wp2
      go_meet
      case rel => exact ⟨by simp [regsB]; omega, T0.out⟩
  case rest =>
    obtain ⟨rfl, hT⟩ := hcut
    generalize wc = u0 at *
    have T1 := Lib.hid hT
    obtain ⟨a0, a1, a2, a3, a4, a5, a6, a7, a8, a9, a10⟩ := in_cells hT.in_
    have hl := heap_lt hT.in_
    have hkr := kind_ref x.op HX.out.op0 HX.out.op1 u0 u0 (Made.refl _)
    rewrite [HK.out] at hkr
    have KR := Lib.hid hkr
    clear hT hkr T0
    go_wp2_with (fail)
    refine KR.out.mono ?_
    rintro e u1 ⟨rfl, h1⟩
    have T2 := Lib.hid (T1.out.next h1)
    clear h1
    go_wp2
    go_ret
    exact ⟨rfl, T2.out.made⟩
end
end refRight
theorem kind_some (op : Int) : kindZ op = 0 ∨ (1 ≤ op ∧ op ≤ 31 ∧ 1 ≤ kindZ op ∧ kindZ op ≤ 17) := by
  by_cases h : op < 1 ∨ 31 < op
  · exact .inl (kind_none op h)
  · have := kind_range (op := op) (by omega) (by omega)
    exact .inr ⟨by omega, by omega, this.1, this.2⟩
theorem rright_any (x : In) (hx : x.small) (W : World) : Makes Tryz.prog W 98 #[x.val] (.bool (rightB x)) := by
  rcases kind_some x.op with h | ⟨_, _, h0, h1⟩
  · have e : rightB x = false := by rw [right_ref x hx, refB, h]; rfl
    rw [e]
    exact refRight.right_0 x hx h W
  · have e : rightB x = refK (kindZ x.op).toNat x := right_as hx (by omega)
    rw [e]
    have hc : kindZ x.op = 1 ∨ kindZ x.op = 2 ∨ kindZ x.op = 3 ∨ kindZ x.op = 4 ∨ kindZ x.op = 5 ∨ kindZ x.op = 6 ∨ kindZ x.op = 7 ∨ kindZ x.op = 8 ∨ kindZ x.op = 9 ∨ kindZ x.op = 10 ∨ kindZ x.op = 11 ∨ kindZ x.op = 12 ∨ kindZ x.op = 13 ∨ kindZ x.op = 14 ∨ kindZ x.op = 15 ∨ kindZ x.op = 16 ∨ kindZ x.op = 17 := by omega
    rcases hc with h | h | h | h | h | h | h | h | h | h | h | h | h | h | h | h | h
    all_goals rw [h]
    · exact refRight.right_1 x hx h W
    · exact refRight.right_2 x hx h W
    · exact refRight.right_3 x hx h W
    · exact refRight.right_4 x hx h W
    · exact refRight.right_5 x hx h W
    · exact refRight.right_6 x hx h W
    · exact refRight.right_7 x hx h W
    · exact refRight.right_8 x hx h W
    · exact refRight.right_9 x hx h W
    · exact refRight.right_10 x hx h W
    · exact refRight.right_11 x hx h W
    · exact refRight.right_12 x hx h W
    · exact refRight.right_13 x hx h W
    · exact refRight.right_14 x hx h W
    · exact refRight.right_15 x hx h W
    · exact refRight.right_16 x hx h W
    · exact refRight.right_17 x hx h W
end
section
open Go.ChangeShapes Go.WideShapes Go.ChangeAt Go.RowKit Go.Sort BigFrame

section
attribute [local irreducible] World.cell?
end
end
end Go.Proofs.YtdghnlbfmaehoaaGreatDoor
