/- DuplexTells of the laws of duplex returns true, for every word and every two instructions, in every world that holds the three tables. -/
import Derived.Test.YtckekkedjlkljaaDoorDupAwake
import Derived.Test.YtckekkedjlkljaaDoorDupRef2
import Derived.Test.YtckekkedjlkljaaDoorInstOpen
namespace Go.Proofs.YtckekkedjlkljaaDoor
open Go.ChangeShapes Go.WideShapes Go.ChangeAt Go.RowKit Go.Sort BigFrame

namespace duplexTells
section
attribute [local irreducible] World.cell?
set_option maxRecDepth 100000 in
set_option maxHeartbeats 8000000 in
theorem walk (W : World) (hT : Tabs W) (c : Int) (a b : In) (hc : isU32 c) (ha : a.small) (hb : b.small) :
    Calls Tryd.prog 4 #[.int .u32 c, a.val, b.val] W fun e w' => e = .returned (.bool true) ∧ Made W w' := by
  have K0 := Lib.hid ((Held.start (Made.refl W)).push2 a b)
  have CS := Lib.hid (fun v (hv : Tabs v) => split_any v hv c hc v (Made.refl v))
  have DS := Lib.hid (fun v => split8_any v c hc v (Made.refl v))
  have CP := Lib.hid (fun v (hv : Tabs v) => pair_any v hv a b ha hb v (Made.refl v))
  have DP := Lib.hid (fun v => pair8_any v a b ha hb v (Made.refl v))
  have CC := Lib.hid (fun v (hv : Tabs v) => canon_any v hv c hc v (Made.refl v))
  have DC := Lib.hid (fun v => canon8_any v c hc v (Made.refl v))
  generalize splitP c = R at *
  obtain ⟨x, y, o⟩ := R
  generalize pairP a b = Q at *
  obtain ⟨p, q⟩ := Q
  generalize canonB c = k at *
  have hop1 := fun w => (run_in_eql x x w).trans (by rw [decide_eq_true rfl])
  have hop2 := fun w => (run_in_eql y y w).trans (by rw [decide_eq_true rfl])
  have ho1 : (o == o) = true := by simp
  have ho2 : (q == q) = true := by simp
  have ho3 : (k == k) = true := by simp
  clear ha hb hc
  go_enter Tryd.func4, Tryd.ntmps4
  go_upto_region 1 with (fail)
  refine name_world (fun v => Held W [(W.heap.size + 1, b), (W.heap.size, a)] v) K0.out ?_
  intro v1 hv
  have K1 := Lib.hid hv
  clear hv K0
  go_wp2_with (fail)
  refine (CS.out v1 (hT.made K1.out.made)).mono ?_
  rintro e z1 ⟨rfl, hz⟩
  have G1 := Lib.hid ((K1.out.next hz).push2 x y)
  clear hz 
  go_upto_region 2 with (fail)
  refine name_world (fun v => Held W [(z1.heap.size + 1, y), (z1.heap.size, x), (W.heap.size + 1, b), (W.heap.size, a)] v) G1.out ?_
  intro v2 hv
  have K2 := Lib.hid hv
  clear hv G1
  go_wp2_with (fail)
  refine (DS.out v2).mono ?_
  rintro e z2 ⟨rfl, hz⟩
  have G2 := Lib.hid ((K2.out.next hz).push2 x y)
  clear hz 
  go_upto_region 3 with (fail)
  refine name_world (fun v => Held W [(z2.heap.size + 1, y), (z2.heap.size, x), (z1.heap.size + 1, y), (z1.heap.size, x), (W.heap.size + 1, b), (W.heap.size, a)] v) G2.out ?_
  intro v3 hv
  have K3 := Lib.hid hv
  clear hv G2
  obtain ⟨a0, a1, a2, a3, a4, a5, a6, a7, a8, a9, a10⟩ := in_cells (K3.out.one (b := W.heap.size + 1) (x := b) (by simp))
  have hla := heap_lt (K3.out.one (b := W.heap.size + 1) (x := b) (by simp))
  obtain ⟨b0, b1, b2, b3, b4, b5, b6, b7, b8, b9, b10⟩ := in_cells (K3.out.one (b := W.heap.size) (x := a) (by simp))
  have hlb := heap_lt (K3.out.one (b := W.heap.size) (x := a) (by simp))
  go_wp2_with (fail)
  refine (CP.out v3 (hT.made K3.out.made)).mono ?_
  rintro e v4 ⟨rfl, hz⟩
  have K4 := Lib.hid (K3.out.next hz)
  clear hz a0 a1 a2 a3 a4 a5 a6 a7 a8 a9 a10 hla b0 b1 b2 b3 b4 b5 b6 b7 b8 b9 b10 hlb
  obtain ⟨a0, a1, a2, a3, a4, a5, a6, a7, a8, a9, a10⟩ := in_cells (K4.out.one (b := W.heap.size + 1) (x := b) (by simp))
  have hla := heap_lt (K4.out.one (b := W.heap.size + 1) (x := b) (by simp))
  obtain ⟨b0, b1, b2, b3, b4, b5, b6, b7, b8, b9, b10⟩ := in_cells (K4.out.one (b := W.heap.size) (x := a) (by simp))
  have hlb := heap_lt (K4.out.one (b := W.heap.size) (x := a) (by simp))
  go_wp2_with (fail)
  refine (DP.out v4).mono ?_
  rintro e v5 ⟨rfl, hz⟩
  have K5 := Lib.hid (K4.out.next hz)
  clear hz a0 a1 a2 a3 a4 a5 a6 a7 a8 a9 a10 hla b0 b1 b2 b3 b4 b5 b6 b7 b8 b9 b10 hlb
  obtain ⟨a0, a1, a2, a3, a4, a5, a6, a7, a8, a9, a10⟩ := in_cells (K5.out.one (b := z2.heap.size + 1) (x := y) (by simp))
  have hla := heap_lt (K5.out.one (b := z2.heap.size + 1) (x := y) (by simp))
  obtain ⟨b0, b1, b2, b3, b4, b5, b6, b7, b8, b9, b10⟩ := in_cells (K5.out.one (b := z2.heap.size) (x := x) (by simp))
  have hlb := heap_lt (K5.out.one (b := z2.heap.size) (x := x) (by simp))
  obtain ⟨c0, c1, c2, c3, c4, c5, c6, c7, c8, c9, c10⟩ := in_cells (K5.out.one (b := z1.heap.size + 1) (x := y) (by simp))
  have hlc := heap_lt (K5.out.one (b := z1.heap.size + 1) (x := y) (by simp))
  obtain ⟨d0, d1, d2, d3, d4, d5, d6, d7, d8, d9, d10⟩ := in_cells (K5.out.one (b := z1.heap.size) (x := x) (by simp))
  have hld := heap_lt (K5.out.one (b := z1.heap.size) (x := x) (by simp))
  go_wp2_with (fail)
  refine (CC.out v5 (hT.made K5.out.made)).mono ?_
  rintro e v6 ⟨rfl, hz⟩
  have K6 := Lib.hid (K5.out.next hz)
  clear hz a0 a1 a2 a3 a4 a5 a6 a7 a8 a9 a10 hla b0 b1 b2 b3 b4 b5 b6 b7 b8 b9 b10 hlb c0 c1 c2 c3 c4 c5 c6 c7 c8 c9 c10 hlc d0 d1 d2 d3 d4 d5 d6 d7 d8 d9 d10 hld
  go_wp2_with (fail)
  refine (DC.out v6).mono ?_
  rintro e v7 ⟨rfl, hz⟩
  have K7 := Lib.hid (K6.out.next hz)
  clear hz 
  go_wp2_with (fail)
  refine (awake_any v7 (hT.made K7.out.made) v7 (Made.refl _)).mono ?_
  rintro e v8 ⟨rfl, hz⟩
  have K8 := Lib.hid (K7.out.next hz)
  clear hz 
  go_wp2
  go_ret
  exact ⟨rfl, K8.out.made⟩
theorem walkA (W : World) (hT : Tabs W) (a0 : Int) (a1 a2 : In) (w0 : (Lit.int .u32 a0).wf = true) (w1 : a1.small) (w2 : a2.small) :
    Calls Tryd.prog 4 #[.int .u32 a0, a1.val, a2.val] W fun e w' => e = .returned (.bool true) ∧ Made W w' :=
  walk W hT a0 a1 a2 (u32_of_wf w0) w1 w2
end
end duplexTells
end Go.Proofs.YtckekkedjlkljaaDoor
