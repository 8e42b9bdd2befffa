/- What Right, Class, Cond, Writes, WritesPred, ReadsPred and Target of package inst return, for every instruction, in every world that has grown out of one that holds the table of names. -/
import Derived.Test.YtlegoaecmkflhaaDoorInstRow
namespace Go.Proofs.YtlegoaecmkflhaaDoor
open Go.ChangeShapes Go.WideShapes Go.ChangeAt Go.RowKit Go.Sort BigFrame

def writesP (x : In) : Int × Bool := if rightB x then (if x.op = 29 then (31, true) else if hasB (fieldsZ x.op) 3 then (x.d, true) else (0, false)) else (0, false)
def wpredP (x : In) : Int × Bool := if rightB x && hasB (fieldsZ x.op) 4 then (x.d, true) else (0, false)
def rpredP (x : In) : Int × Bool × Bool :=
  if rightB x && hasB (fieldsZ x.op) 2 && !(hasB (fieldsZ x.op) 1 && x.mode == 0) then (x.pred, x.mode == 3 || x.mode == 4, true) else (0, false, false)
def targetP (x : In) : Int × Bool := if rightB x && hasB (fieldsZ x.op) 10 then (x.imm % 4294967296, true) else (0, false)
theorem right_any (W : World) (hN : Names W) (x : In) (hx : x.small) : Makes Tryd.prog W 12 #[x.val] (.bool (rightB x)) := by
  intro w hm
  have hz := hm.size
  have HM := Lib.hid (hm.alloc hz (.cells x.cells.toArray 26))
  have HV := Lib.hid (validRow_any _ (hN.made HM.out) x hx _ (Made.refl _))
  clear hx hm
  go_enter Tryd.func12, Tryd.ntmps12
  go_wp2_with (fail)
  refine HV.out.mono ?_
  rintro e w1 ⟨o, nm, c, s, p, n, cap, fs, rfl, h1, -, -⟩
  have M1 := Lib.hid (Made.trans HM.out h1)
  clear h1
  go_wp2
  go_ret
  exact ⟨rfl, M1.out.alloc M1.out.size _⟩
end Go.Proofs.YtlegoaecmkflhaaDoor
