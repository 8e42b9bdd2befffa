/- What Class of package inst returns, for every instruction, in every world that has grown out of one that holds the table of names. -/
import Derived.Test.YtdaildmoodfocaaDoorIsaUse
import Derived.Test.YtdaildmoodfocaaDoorInstIn
namespace Go.Proofs.YtdaildmoodfocaaDoor
open Go.ChangeShapes Go.WideShapes Go.ChangeAt Go.RowKit Go.Sort BigFrame

theorem class_any (W : World) (hN : Names W) (x : In) (hx : x.small) : Makes Tryd.prog W 17 #[x.val] (.int .u8 (classZ (opN x.op))) := by
  intro w hm
  have hz := hm.size
  have hop0 := hx.op0
  have HM := Lib.hid (hm.alloc hz (.cells x.cells.toArray 24))
  clear hx hm
  go_enter Tryd.func17, Tryd.ntmps17
  go_wp2_with (fail)
  refine (of_any _ (hN.made HM.out) x.op hop0 _ (Made.refl _)).mono ?_
  intro e w1 h
  obtain ⟨p, cap, fs, o, nm, c, s, -, -, -, hc, -, rfl, h1, -⟩ := isOf_any h
  have M1 := Lib.hid (Made.trans HM.out h1)
  have HC := Lib.hid hc
  clear h h1 hc
  go_wp2
  go_ret
  exact ⟨by rw [← HC.out]; rfl, M1.out.alloc M1.out.size _⟩
end Go.Proofs.YtdaildmoodfocaaDoor
