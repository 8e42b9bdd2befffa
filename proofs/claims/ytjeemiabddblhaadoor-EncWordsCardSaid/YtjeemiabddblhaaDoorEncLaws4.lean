/- EncWords of the laws of enc returns true, for every instruction and address, in every world that holds the tables of names and of pieces. -/
import Derived.Test.YtjeemiabddblhaaDoorEncLaws
import Derived.Test.YtjeemiabddblhaaDoorEncRefW
namespace Go.Proofs.YtjeemiabddblhaaDoor
open Go.ChangeShapes Go.WideShapes Go.ChangeAt Go.RowKit Go.Sort BigFrame

namespace encWords
theorem u32_wf {n : Int} (h : (Lit.int .u32 n).wf = true) : isU32 n := by
  simp only [Lit.wf, Bool.and_eq_true, decide_eq_true_eq] at h
  have h1 : IntKind.u32.min = 0 := rfl
  have h2 : IntKind.u32.max = 4294967295 := rfl
  exact ⟨by omega, by omega⟩
section
attribute [local irreducible] World.cell?
set_option maxRecDepth 100000 in
set_option maxHeartbeats 4000000 in
theorem walk (W : World) (hT : Tables W) (x : In) (pc : Int) (hx : x.small) (hp : isU32 pc) :
    Calls Tryd.prog 3 #[x.val, .int .u32 pc] W fun e w' => e = .returned (.bool true) ∧ Made W w' := by
  have K0 := Lib.hid (show Own W W.heap.size x (W.alloc (.cells x.cells.toArray 24)) from ⟨(Made.refl W).alloc (Nat.le_refl _) _, heap_alloc_new W _⟩)
  have C1 := Lib.hid (fun v (hv : Tables v) => encWord_any v hv.1 hv.2 x hx pc)
  have C2 := Lib.hid (fun v => refWord6_any v x hx pc hp)
  have C9 := Lib.hid (fun v (hv : Tables v) => awake_any v hv)
  clear hx hp
  generalize wordP x pc = wv at *
  generalize upP x pc = uv at *
  generalize sayB x pc = sy at *
  go_enter Tryd.func3, Tryd.ntmps3
  go_wp2_with (fail)
  refine (C1.out _ (hT.made K0.out.made) _ (Made.refl _)).mono ?_
  rintro e z1 ⟨rfl, h1⟩
  have K1 := Lib.hid (K0.out.next h1)
  clear h1
  obtain ⟨a0, a1, a2, a3, a4, a5, a6, a7, a8, a9, a10⟩ := in_cells K1.out.in_
  have hl := heap_lt K1.out.in_
  go_wp2_with (fail)
  refine (C2.out _ _ (Made.refl _)).mono ?_
  rintro e z2 ⟨rfl, h2⟩
  have K2 := Lib.hid (K1.out.next h2)
  clear h2 a0 a1 a2 a3 a4 a5 a6 a7 a8 a9 a10 hl
  go_wp2_with (fail)
  refine (C9.out _ (hT.made K2.out.made) _ (Made.refl _)).mono ?_
  rintro e z9 ⟨rfl, h9⟩
  have K9 := Lib.hid (K2.out.next h9)
  clear h9
  go_wp2
  go_ret
  exact ⟨by simp, K9.out.made⟩
end
theorem walkA (W : World) (hT : Tables W) (a0 : In) (a1 : Int) (w0 : a0.small) (w1 : (Lit.int .u32 a1).wf = true) :
    Calls Tryd.prog 3 #[a0.val, .int .u32 a1] W fun e w' => e = .returned (.bool true) ∧ Made W w' :=
  walk W hT a0 a1 w0 (u32_wf w1)
end encWords
end Go.Proofs.YtjeemiabddblhaaDoor
