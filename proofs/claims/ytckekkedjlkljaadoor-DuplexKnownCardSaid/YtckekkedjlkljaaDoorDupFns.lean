/- What isStore, join and halves of package duplex return, for every argument, in every world that has grown out of one that holds the tables they read. -/
import Derived.Test.YtckekkedjlkljaaDoorDupMath
import Derived.Test.YtckekkedjlkljaaDoorSubInst
import Derived.Test.YtckekkedjlkljaaDoorInstClass
import Derived.Test.YtckekkedjlkljaaDoorBitsMade
namespace Go.Proofs.YtckekkedjlkljaaDoor
open Go.ChangeShapes Go.WideShapes Go.ChangeAt Go.RowKit Go.Sort BigFrame

/-- The three tables of a row. -/
structure Tabs (W : World) : Prop where
  names : Names W
  rows : SRows W
  pieces : Pieces W
theorem Tabs.made {W w : World} (h : Tabs W) (hm : Made W w) : Tabs w := ⟨h.names.made hm, h.rows.made hm, h.pieces.made hm⟩
section
attribute [local irreducible] World.cell?
set_option maxHeartbeats 1000000 in
theorem isStore_any (W : World) (hN : Names W) (x : In) (hx : x.small) : Makes Tryd.prog W 17 #[x.val] (.bool (storeB x)) := by
  intro w hm
  have hz := hm.size
  have K0 := Lib.hid (show Own W w.heap.size x (w.alloc (.cells x.cells.toArray 24)) from ⟨hm.alloc hz _, heap_alloc_new w _⟩)
  have HC := Lib.hid (fun v (hv : Names v) => class_any v hv x hx v (Made.refl v))
  unfold storeB
  generalize classZ (opN x.op) = c at *
  clear hx hm
  go_enter Tryd.func17, Tryd.ntmps17
  go_upto_region 1 with (fail)
  refine name_world (fun v => Own W w.heap.size x v) K0.out ?_
  intro v hv
  have KV := Lib.hid hv
  obtain ⟨a0, a1, a2, a3, a4, a5, a6, a7, a8, a9, a10⟩ := in_cells hv.in_
  have hl := heap_lt hv.in_
  clear hv K0
  go_wp2_with (fail)
  refine (HC.out v (hN.made KV.out.made)).mono ?_
  rintro e w1 ⟨rfl, h1⟩
  have K1 := Lib.hid (KV.out.next h1)
  clear h1
  go_wp2
  go_ret
  exact ⟨rfl, K1.out.made⟩
theorem join_any (W : World) (hP : Pieces W) (u l : Int) (u0 : 0 ≤ u) (u1 : u < 32768) (l0 : 0 ≤ l) (l1 : l < 32768) : Makes Tryd.prog W 18 #[.int .u16 u, .int .u16 l] (.int .u32 (dupZ u l)) := by
  intro w hm
  have hu : isU32 u := ⟨u0, by omega⟩
  have hl : isU32 l := ⟨l0, by omega⟩
  have HP := Lib.hid (put_any l 15 15 u hl hu ⟨by decide, by decide⟩)
  have hp := putZ_u32 l 15 15 u hl hu
  have HF := Lib.hid (fun v (hv : Pieces v) => fromThirty_made v hv (putZ l 15 15 u) 0 hp ⟨by decide, by decide⟩ v (Made.refl v))
  have hd : dupZ u l = fromThirtyZ (putZ l 15 15 u) 0 := rfl
  obtain ⟨p0, p1⟩ := hp
  rewrite [hd]
  generalize fromThirtyZ (putZ l 15 15 u) 0 = r at *
  generalize putZ l 15 15 u = p at *
  have H0 := Lib.hid hm
  clear hd hm hu hl
  go_enter Tryd.func18, Tryd.ntmps18
  go_wp2_with (fail)
  refine (HP.out w).mono ?_
  rintro e w1 ⟨rfl, rfl⟩
  go_wp2_with (fail)
  refine (HF.out w (hP.made H0.out)).mono ?_
  rintro e w2 ⟨rfl, h2⟩
  have H2 := Lib.hid (Made.trans H0.out h2)
  clear h2
  go_wp2
  go_ret
  exact ⟨rfl, H2.out⟩
theorem halves_any (W : World) (hP : Pieces W) (x : Int) (hx : isU32 x) : Makes Tryd.prog W 19 #[.int .u32 x] (.tuple #[.int .u16 (highZ x), .int .u16 (lowZ x)]) := by
  intro w hm
  have ht : isU32 (thirtyZ x) := by
    obtain ⟨x0, x1⟩ := hx
    unfold isU32 thirtyZ
    refine ⟨?_, ?_⟩ <;> omega
  have HT := Lib.hid (fun v (hv : Pieces v) => thirty_made v hv x hx v (Made.refl v))
  obtain ⟨a0, a1⟩ := highZ_range x
  obtain ⟨b0, b1⟩ := lowZ_range x
  unfold highZ lowZ at *
  have H1 := Lib.hid (get_any (thirtyZ x) 15 15 ht ⟨by decide, by decide⟩)
  have H2 := Lib.hid (get_any (thirtyZ x) 0 15 ht ⟨by decide, by decide⟩)
  generalize getZ (thirtyZ x) 15 15 = a at *
  generalize getZ (thirtyZ x) 0 15 = b at *
  obtain ⟨t0, t1⟩ := ht
  generalize thirtyZ x = t at *
  have H0 := Lib.hid hm
  clear hm hx
  go_enter Tryd.func19, Tryd.ntmps19
  go_wp2_with (fail)
  refine (HT.out w (hP.made H0.out)).mono ?_
  rintro e w1 ⟨rfl, h1⟩
  have M1 := Lib.hid (Made.trans H0.out h1)
  clear h1
  go_wp2_with (fail)
  refine (H1.out w1).mono ?_
  rintro e w2 ⟨rfl, k1, rfl⟩
  go_wp2_with (fail)
  refine (H2.out _).mono ?_
  rintro e w2 ⟨rfl, k2, rfl⟩
  go_wp2
  go_ret2
  exact ⟨rfl, below_drewN M1.out _⟩
end
end Go.Proofs.YtckekkedjlkljaaDoor
