/- What Right, Class, Cond, Writes, WritesPred, ReadsPred and Target of package inst return, for every instruction, in every world that has grown out of one that holds the table of names. -/
import Derived.Test.YtjeemiabddblhaaDoorInstRow
namespace Go.Proofs.YtjeemiabddblhaaDoor
open Go.ChangeShapes Go.WideShapes Go.ChangeAt Go.RowKit Go.Sort BigFrame

def writesP (x : In) : Int × Bool := if rightB x then (if x.op = 29 then (31, true) else if hasB (fieldsZ x.op) 3 then (x.d, true) else (0, false)) else (0, false)
def wpredP (x : In) : Int × Bool := if rightB x && hasB (fieldsZ x.op) 4 then (x.d, true) else (0, false)
def rpredP (x : In) : Int × Bool × Bool :=
  if rightB x && hasB (fieldsZ x.op) 2 && !(hasB (fieldsZ x.op) 1 && x.mode == 0) then (x.pred, x.mode == 3 || x.mode == 4, true) else (0, false, false)
def targetP (x : In) : Int × Bool := if rightB x && hasB (fieldsZ x.op) 10 then (x.imm % 4294967296, true) else (0, false)
theorem right_any (W : World) (hN : Names W) (x : In) (hx : x.small) : Makes Tryd.prog W 13 #[x.val] (.bool (rightB x)) := by
  intro w hm
  have hz := hm.size
  have HM := Lib.hid (hm.alloc hz (.cells x.cells.toArray 24))
  have HV := Lib.hid (validRow_any _ (hN.made HM.out) x hx _ (Made.refl _))
  clear hx hm
  go_enter Tryd.func13, Tryd.ntmps13
  go_wp2_with (fail)
  refine HV.out.mono ?_
  rintro e w1 ⟨o, nm, c, s, p, n, cap, fs, rfl, h1, -, -⟩
  have M1 := Lib.hid (Made.trans HM.out h1)
  clear h1
  go_wp2
  go_ret
  exact ⟨rfl, M1.out.alloc M1.out.size _⟩
theorem target_any (W : World) (hN : Names W) (x : In) (hx : x.small) : Makes Tryd.prog W 15 #[x.val] (.tuple #[.int .u32 (targetP x).1, .bool (targetP x).2]) := by
  intro w hm
  have hz := hm.size
  have HM := Lib.hid (hm.alloc hz (.cells x.cells.toArray 24))
  have HV := Lib.hid (validRow_any _ (hN.made HM.out) x hx _ (Made.refl _))
  have hi0 := hx.imm0
  have hi1 := hx.imm1
  clear hx hm
  go_enter Tryd.func15, Tryd.ntmps15
  go_wp2_with (fail)
  refine HV.out.mono ?_
  rintro e w1 ⟨o, nm, c, s, p, n, cap, fs, rfl, h1, hh, hfs⟩
  have hin : InAt w1 w.heap.size x := h1.heap (heap_alloc_new w _)
  obtain ⟨a0, a1, a2, a3, a4, a5, a6, a7, a8, a9, a10⟩ := in_cells hin
  have hl0 := heap_lt hin
  have HIN := Lib.hid hin
  have M1 := Lib.hid (Made.trans HM.out h1)
  have hz1 := M1.out.size
  have HH := Lib.hid hh
  have HFS := Lib.hid hfs
  clear h1 hin hh hfs
  generalize hrb : rightB x = rb at *
  have HRB := Lib.hid hrb
  clear hrb
  cases rb with
  | false =>
    have hw : targetP x = (0, false) := by unfold targetP; rw [HRB.out]; rfl
    have HW := Lib.hid hw
    clear hw
    go_wp2
    go_ret2
    exact ⟨by rw [HW.out]; rfl, M1.out.alloc hz1 _⟩
  | true =>
    have hw : targetP x = if hasB fs 10 then (x.imm % 4294967296, true) else (0, false) := by unfold targetP; rw [HRB.out, ← HFS.out rfl]; rfl
    have HW := Lib.hid hw
    clear hw
    go_wp2_with (fail)
    refine (has_any o c s 10 nm p n cap fs _ (HH.out.made ((Made.refl w1).alloc (Nat.le_refl _) _))).mono ?_
    rintro e w2 ⟨rfl, h2⟩
    obtain ⟨b0, b1, b2, b3, b4, b5, b6, b7, b8, b9, b10⟩ := in_cells (keep HIN.out h2)
    have hl2 := lt_next hl0 h2
    have M2 := Lib.hid (Made.trans (M1.out.alloc hz1 _) h2)
    generalize hhb : hasB fs 10 = hb at *
    clear h2 hhb
    cases hb with
    | false =>
      go_wp2
      go_ret2
      exact ⟨by rw [HW.out]; rfl, M2.out⟩
    | true =>
      go_wp2
      go_ret2
      exact ⟨by rw [HW.out]; rfl, M2.out⟩
end Go.Proofs.YtjeemiabddblhaaDoor
