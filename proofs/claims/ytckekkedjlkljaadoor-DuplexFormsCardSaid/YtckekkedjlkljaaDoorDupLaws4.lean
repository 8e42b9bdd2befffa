/- DuplexForms of the laws of duplex returns true, for every word, in every world that holds the three tables. -/
import Derived.Test.YtckekkedjlkljaaDoorDupAwake
namespace Go.Proofs.YtckekkedjlkljaaDoor
open Go.ChangeShapes Go.WideShapes Go.ChangeAt Go.RowKit Go.Sort BigFrame

namespace duplexForms
section
attribute [local irreducible] World.cell?
set_option maxRecDepth 100000 in
set_option maxHeartbeats 8000000 in
theorem walk (W : World) (hT : Tabs W) (c : Int) (hc : isU32 c) :
    Calls Tryd.prog 6 #[.int .u32 c] W fun e w' => e = .returned (.bool true) ∧ Made W w' := by
  have K0 := Lib.hid (Held.start (Made.refl W))
  have CS := Lib.hid (fun v (hv : Tabs v) => split_any v hv c hc v (Made.refl v))
  have CC := Lib.hid (fun v (hv : Tabs v) => canon_any v hv c hc v (Made.refl v))
  have hs := split_smalls c
  have hn := split_none c
  have hp := fun x y => pair_split c hc x y
  generalize splitP c = R at *
  obtain ⟨x, y, o⟩ := R
  obtain ⟨c0, c1⟩ := hc
  cases o with
  | false =>
    obtain ⟨hz, hk⟩ := hn rfl
    obtain ⟨rfl, hz2⟩ := Prod.mk.inj hz
    obtain ⟨rfl, -⟩ := Prod.mk.inj hz2
    generalize canonB c = k at *
    subst hk
    have hop := fun w => (run_in_eql inZero inZero w).trans (by rw [decide_eq_true rfl])
    clear hs hn hp hz hz2
    go_enter Tryd.func6, Tryd.ntmps6
    go_wp2_with (fail)
    refine (CS.out W (hT.made K0.out.made)).mono ?_
    rintro e z1 ⟨rfl, hz⟩
    have G1 := Lib.hid ((K0.out.next hz).push2 inZero inZero)
    clear hz 
    go_upto_region 2 with (fail)
    refine name_world (fun v => Held W [(z1.heap.size + 1, inZero), (z1.heap.size, inZero)] v) G1.out ?_
    intro v1 hv
    have K1 := Lib.hid hv
    clear hv G1
    go_wp2_with (fail)
    refine (CC.out v1 (hT.made K1.out.made)).mono ?_
    rintro e v2 ⟨rfl, hz⟩
    have K2 := Lib.hid (K1.out.next hz)
    clear hz 
    obtain ⟨a0, a1, a2, a3, a4, a5, a6, a7, a8, a9, a10⟩ := in_cells (K2.out.one (b := z1.heap.size + 1) (x := inZero) (by simp))
    have hla := heap_lt (K2.out.one (b := z1.heap.size + 1) (x := inZero) (by simp))
    obtain ⟨b0, b1, b2, b3, b4, b5, b6, b7, b8, b9, b10⟩ := in_cells (K2.out.one (b := z1.heap.size) (x := inZero) (by simp))
    have hlb := heap_lt (K2.out.one (b := z1.heap.size) (x := inZero) (by simp))
    go_wp2_with (fail)
    refine (awake_any v2 (hT.made K2.out.made) v2 (Made.refl _)).mono ?_
    rintro e v3 ⟨rfl, hz⟩
    have K3 := Lib.hid (K2.out.next hz)
    clear hz a0 a1 a2 a3 a4 a5 a6 a7 a8 a9 a10 hla b0 b1 b2 b3 b4 b5 b6 b7 b8 b9 b10 hlb
    go_wp2
    go_ret
    exact ⟨rfl, K3.out.made⟩
  | true =>
    obtain ⟨v, hv, hcv, huv, h⟩ := hp x y rfl
    have hq := fun u (hu : Tabs u) => pair_any u hu x y hs.1 hs.2 u (Made.refl u)
    have hd := fun u (hu : Tabs u) => canon_any u hu v huv u (Made.refl u)
    have he := fun u (hu : Tabs u) => split_any u hu v huv u (Made.refl u)
    rewrite [hv] at hq
    rewrite [hcv] at hd
    have CP := Lib.hid hq
    have DC := Lib.hid hd
    have hopx := fun w => (run_in_eql x x w).trans (by rw [decide_eq_true rfl])
    have hopy := fun w => (run_in_eql y y w).trans (by rw [decide_eq_true rfl])
    obtain ⟨v0, v1⟩ := huv
    generalize canonB c = k at *
    clear hs hn hp hv hcv hq hd
    rcases h with ⟨rfl, rfl, hs⟩ | ⟨rfl, hne, hs⟩
    · rewrite [hs] at he
      clear hs
      have DS := Lib.hid he
      clear he
      go_enter Tryd.func6, Tryd.ntmps6
      go_wp2_with (fail)
      refine (CS.out W (hT.made K0.out.made)).mono ?_
      rintro e z1 ⟨rfl, hz⟩
      have G1 := Lib.hid ((K0.out.next hz).push2 x y)
      clear hz 
      go_upto_region 2 with (fail)
      refine name_world (fun v => Held W [(z1.heap.size + 1, y), (z1.heap.size, x)] v) G1.out ?_
      intro u1 hv
      have K1 := Lib.hid hv
      clear hv G1
      obtain ⟨a0, a1, a2, a3, a4, a5, a6, a7, a8, a9, a10⟩ := in_cells (K1.out.one (b := z1.heap.size + 1) (x := y) (by simp))
      have hla := heap_lt (K1.out.one (b := z1.heap.size + 1) (x := y) (by simp))
      obtain ⟨b0, b1, b2, b3, b4, b5, b6, b7, b8, b9, b10⟩ := in_cells (K1.out.one (b := z1.heap.size) (x := x) (by simp))
      have hlb := heap_lt (K1.out.one (b := z1.heap.size) (x := x) (by simp))
      go_wp2_with (fail)
      refine (CP.out u1 (hT.made K1.out.made)).mono ?_
      rintro e u2 ⟨rfl, hz⟩
      have K2 := Lib.hid (K1.out.next hz)
      clear hz a0 a1 a2 a3 a4 a5 a6 a7 a8 a9 a10 hla b0 b1 b2 b3 b4 b5 b6 b7 b8 b9 b10 hlb
      go_wp2_with (fail)
      refine (DS.out u2 (hT.made K2.out.made)).mono ?_
      rintro e z3 ⟨rfl, hz⟩
      have G3 := Lib.hid ((K2.out.next hz).push2 x y)
      clear hz 
      go_upto_region 6 with (fail)
      refine name_world (fun v => Held W [(z3.heap.size + 1, y), (z3.heap.size, x), (z1.heap.size + 1, y), (z1.heap.size, x)] v) G3.out ?_
      intro u3 hv
      have K3 := Lib.hid hv
      clear hv G3
      go_wp2_with (fail)
      refine (CC.out u3 (hT.made K3.out.made)).mono ?_
      rintro e u4 ⟨rfl, hz⟩
      have K4 := Lib.hid (K3.out.next hz)
      clear hz 
      go_wp2_with (fail)
      refine (DC.out u4 (hT.made K4.out.made)).mono ?_
      rintro e u5 ⟨rfl, hz⟩
      have K5 := Lib.hid (K4.out.next hz)
      clear hz 
      obtain ⟨a0, a1, a2, a3, a4, a5, a6, a7, a8, a9, a10⟩ := in_cells (K5.out.one (b := z3.heap.size + 1) (x := y) (by simp))
      have hla := heap_lt (K5.out.one (b := z3.heap.size + 1) (x := y) (by simp))
      obtain ⟨b0, b1, b2, b3, b4, b5, b6, b7, b8, b9, b10⟩ := in_cells (K5.out.one (b := z3.heap.size) (x := x) (by simp))
      have hlb := heap_lt (K5.out.one (b := z3.heap.size) (x := x) (by simp))
      obtain ⟨c0, c1, c2, c3, c4, c5, c6, c7, c8, c9, c10⟩ := in_cells (K5.out.one (b := z1.heap.size + 1) (x := y) (by simp))
      have hlc := heap_lt (K5.out.one (b := z1.heap.size + 1) (x := y) (by simp))
      obtain ⟨d0, d1, d2, d3, d4, d5, d6, d7, d8, d9, d10⟩ := in_cells (K5.out.one (b := z1.heap.size) (x := x) (by simp))
      have hld := heap_lt (K5.out.one (b := z1.heap.size) (x := x) (by simp))
      go_wp2_with (fail)
      refine (awake_any u5 (hT.made K5.out.made) u5 (Made.refl _)).mono ?_
      rintro e u6 ⟨rfl, hz⟩
      have K6 := Lib.hid (K5.out.next hz)
      clear hz a0 a1 a2 a3 a4 a5 a6 a7 a8 a9 a10 hla b0 b1 b2 b3 b4 b5 b6 b7 b8 b9 b10 hlb c0 c1 c2 c3 c4 c5 c6 c7 c8 c9 c10 hlc d0 d1 d2 d3 d4 d5 d6 d7 d8 d9 d10 hld
      go_wp2
      go_ret
      exact ⟨rfl, K6.out.made⟩
    · rewrite [hs] at he
      have hn : (v == c) = false := beq_eq_false_iff_ne.2 hne
      clear hs hne
      have DS := Lib.hid he
      clear he
      go_enter Tryd.func6, Tryd.ntmps6
      go_wp2_with (fail)
      refine (CS.out W (hT.made K0.out.made)).mono ?_
      rintro e z1 ⟨rfl, hz⟩
      have G1 := Lib.hid ((K0.out.next hz).push2 x y)
      clear hz 
      go_upto_region 2 with (fail)
      refine name_world (fun v => Held W [(z1.heap.size + 1, y), (z1.heap.size, x)] v) G1.out ?_
      intro u1 hv
      have K1 := Lib.hid hv
      clear hv G1
      obtain ⟨a0, a1, a2, a3, a4, a5, a6, a7, a8, a9, a10⟩ := in_cells (K1.out.one (b := z1.heap.size + 1) (x := y) (by simp))
      have hla := heap_lt (K1.out.one (b := z1.heap.size + 1) (x := y) (by simp))
      obtain ⟨b0, b1, b2, b3, b4, b5, b6, b7, b8, b9, b10⟩ := in_cells (K1.out.one (b := z1.heap.size) (x := x) (by simp))
      have hlb := heap_lt (K1.out.one (b := z1.heap.size) (x := x) (by simp))
      go_wp2_with (fail)
      refine (CP.out u1 (hT.made K1.out.made)).mono ?_
      rintro e u2 ⟨rfl, hz⟩
      have K2 := Lib.hid (K1.out.next hz)
      clear hz a0 a1 a2 a3 a4 a5 a6 a7 a8 a9 a10 hla b0 b1 b2 b3 b4 b5 b6 b7 b8 b9 b10 hlb
      go_wp2_with (fail)
      refine (DS.out u2 (hT.made K2.out.made)).mono ?_
      rintro e z3 ⟨rfl, hz⟩
      have G3 := Lib.hid ((K2.out.next hz).push2 y x)
      clear hz 
      go_upto_region 6 with (fail)
      refine name_world (fun v => Held W [(z3.heap.size + 1, x), (z3.heap.size, y), (z1.heap.size + 1, y), (z1.heap.size, x)] v) G3.out ?_
      intro u3 hv
      have K3 := Lib.hid hv
      clear hv G3
      go_wp2_with (fail)
      refine (CC.out u3 (hT.made K3.out.made)).mono ?_
      rintro e u4 ⟨rfl, hz⟩
      have K4 := Lib.hid (K3.out.next hz)
      clear hz 
      go_wp2_with (fail)
      refine (DC.out u4 (hT.made K4.out.made)).mono ?_
      rintro e u5 ⟨rfl, hz⟩
      have K5 := Lib.hid (K4.out.next hz)
      clear hz 
      obtain ⟨a0, a1, a2, a3, a4, a5, a6, a7, a8, a9, a10⟩ := in_cells (K5.out.one (b := z3.heap.size + 1) (x := x) (by simp))
      have hla := heap_lt (K5.out.one (b := z3.heap.size + 1) (x := x) (by simp))
      obtain ⟨b0, b1, b2, b3, b4, b5, b6, b7, b8, b9, b10⟩ := in_cells (K5.out.one (b := z3.heap.size) (x := y) (by simp))
      have hlb := heap_lt (K5.out.one (b := z3.heap.size) (x := y) (by simp))
      obtain ⟨c0, c1, c2, c3, c4, c5, c6, c7, c8, c9, c10⟩ := in_cells (K5.out.one (b := z1.heap.size + 1) (x := y) (by simp))
      have hlc := heap_lt (K5.out.one (b := z1.heap.size + 1) (x := y) (by simp))
      obtain ⟨d0, d1, d2, d3, d4, d5, d6, d7, d8, d9, d10⟩ := in_cells (K5.out.one (b := z1.heap.size) (x := x) (by simp))
      have hld := heap_lt (K5.out.one (b := z1.heap.size) (x := x) (by simp))
      go_wp2_with (fail)
      refine (awake_any u5 (hT.made K5.out.made) u5 (Made.refl _)).mono ?_
      rintro e u6 ⟨rfl, hz⟩
      have K6 := Lib.hid (K5.out.next hz)
      clear hz a0 a1 a2 a3 a4 a5 a6 a7 a8 a9 a10 hla b0 b1 b2 b3 b4 b5 b6 b7 b8 b9 b10 hlb c0 c1 c2 c3 c4 c5 c6 c7 c8 c9 c10 hlc d0 d1 d2 d3 d4 d5 d6 d7 d8 d9 d10 hld
      go_wp2
      go_ret
      exact ⟨rfl, K6.out.made⟩
theorem walkA (W : World) (hT : Tabs W) (a0 : Int) (w0 : (Lit.int .u32 a0).wf = true) :
    Calls Tryd.prog 6 #[.int .u32 a0] W fun e w' => e = .returned (.bool true) ∧ Made W w' :=
  walk W hT a0 (u32_of_wf w0)
end
end duplexForms
end Go.Proofs.YtckekkedjlkljaaDoor
