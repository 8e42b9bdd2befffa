/- What Split and Canonical of the document's answer for duplexes return, for every word, in every world. Written by wip/tools/gen_dupref2.py. -/
import Derived.Test.YtanjmoiepmadhaaGreatDoorGSubRef
namespace Go.Proofs.YtanjmoiepmadhaaGreatDoor
open Go.ChangeShapes Go.WideShapes Go.ChangeAt Go.RowKit Go.Sort BigFrame

section
attribute [local irreducible] World.cell?
set_option maxRecDepth 100000 in
set_option maxHeartbeats 8000000 in
theorem split8_any (W : World) (c : Int) (hc : isU32 c) : Makes Tryz.prog W 23 #[.int .u32 c] (.tuple #[(splitP c).1.val, (splitP c).2.1.val, .bool (splitP c).2.2]) := by
  intro w hm
  have hz := hm.size
  have K0 := Lib.hid ((Held.start hm).push2 inZero inZero)
  have CH := Lib.hid (fun v => halves8_any c hc v)
  have hh := highZ_range c
  have hl := lowZ_range c
  have hx7 := fun v => refInst7_any v (highZ c) hh.1 (by omega) v (Made.refl v)
  have hy7 := fun v => refInst7_any v (lowZ c) hl.1 (by omega) v (Made.refl v)
  rewrite [← inst_doc (highZ c) hh.1 (by omega)] at hx7
  rewrite [← inst_doc (lowZ c) hl.1 (by omega)] at hy7
  have CX := Lib.hid hx7
  have CY := Lib.hid hy7
  have hxs := subInst_small (highZ c) hh.1 (by omega)
  obtain ⟨R, hR⟩ : ∃ R, R = splitP c := ⟨_, rfl⟩
  rewrite [← hR]
  unfold splitP at hR
  clear hx7 hy7
  generalize subInst (highZ c) = xo at *
  obtain ⟨x, ox⟩ := xo
  generalize subInst (lowZ c) = yo at *
  obtain ⟨y, oy⟩ := yo
  simp only [] at hR hxs
  have SX := Lib.hid (fun v => store8_any v x hxs v (Made.refl v))
  generalize storeB x = sx at *
  generalize parseZ c = p at *
  have HS := Lib.hid hR
  clear hR hxs hm hc
  generalize highZ c = hi at *
  generalize lowZ c = lo at *
  go_enter Tryz.func23, Tryz.ntmps23
  go_upto_region 1 with (fail)
  refine name_world (fun v => Held W [(w.heap.size + 1, inZero), (w.heap.size, inZero)] v) K0.out ?_
  intro v hv
  have K1 := Lib.hid hv
  clear hv K0
  go_wp2_with (fail)
  refine (CH.out v).mono ?_
  rintro e z1 ⟨rfl, rfl⟩
  go_wp2_with (fail)
  refine (CX.out v).mono ?_
  rintro e z2 ⟨rfl, hz2⟩
  have K2 := Lib.hid ((K1.out.next hz2).push x)
  have hne1 := heap_lt ((K1.out.next hz2).one (b := w.heap.size + 1) (x := inZero) (by simp))
  clear hz2
  go_upto_region 3 with (fail)
  refine name_world (fun v => Held W [(z2.heap.size, x), (w.heap.size + 1, inZero), (w.heap.size, inZero)] v) K2.out ?_
  intro v3 hv
  have K3 := Lib.hid hv
  clear hv K2
  go_wp2_with (fail)
  refine (CY.out v3).mono ?_
  rintro e z4 ⟨rfl, hz4⟩
  have K4 := Lib.hid ((K3.out.next hz4).push y)
  have hne2 := heap_lt ((K3.out.next hz4).one (b := z2.heap.size) (x := x) (by simp))
  clear hz4
  go_upto_region 4 with (fail)
  refine name_world (fun v => Held W [(z4.heap.size, y), (z2.heap.size, x), (w.heap.size + 1, inZero), (w.heap.size, inZero)] v) K4.out ?_
  intro v5 hv
  have K6 := Lib.hid hv
  clear hv K4
  by_cases hp : p = 0
  rotate_left
  · have hp1 : (p != 0) = true := by simpa using hp
    have hp2 : (p == 0) = false := by simpa using hp
    obtain ⟨a0, a1, a2, a3, a4, a5, a6, a7, a8, a9, a10⟩ := in_cells (K6.out.one (b := w.heap.size) (x := inZero) (by simp))
    have fa := free_of_lit (K6.out.one (b := w.heap.size) (x := inZero) (by simp))
    have hla := heap_lt (K6.out.one (b := w.heap.size) (x := inZero) (by simp))
    obtain ⟨b0, b1, b2, b3, b4, b5, b6, b7, b8, b9, b10⟩ := in_cells (K6.out.one (b := w.heap.size + 1) (x := inZero) (by simp))
    have fb := free_of_lit (K6.out.one (b := w.heap.size + 1) (x := inZero) (by simp))
    have hlb := heap_lt (K6.out.one (b := w.heap.size + 1) (x := inZero) (by simp))
    have e1 : R = (inZero, inZero, false) := by rw [HS.out, hp2]; rfl
    have E1 := Lib.hid e1
    obtain rfl := E1.out
    clear e1
    go_wp2
    refine bodyPost_ret (v := .tuple #[inZero.val, inZero.val, .bool false]) (by simp [results, Tryz.results23, go_sem, a0, a1, a2, a3, a4, a5, a6, a7, a8, a9, a10, b0, b1, b2, b3, b4, b5, b6, b7, b8, b9, b10, inZero]) rfl ?_
    exact ⟨rfl, made_set11b (made_set11b K6.out.made hz _ _ _ _ _ _ _ _ _ _ _) (by omega) _ _ _ _ _ _ _ _ _ _ _⟩
  obtain rfl := hp
  cases ox with
  | false =>
    obtain ⟨a0, a1, a2, a3, a4, a5, a6, a7, a8, a9, a10⟩ := in_cells (K6.out.one (b := w.heap.size) (x := inZero) (by simp))
    have fa := free_of_lit (K6.out.one (b := w.heap.size) (x := inZero) (by simp))
    have hla := heap_lt (K6.out.one (b := w.heap.size) (x := inZero) (by simp))
    obtain ⟨b0, b1, b2, b3, b4, b5, b6, b7, b8, b9, b10⟩ := in_cells (K6.out.one (b := w.heap.size + 1) (x := inZero) (by simp))
    have fb := free_of_lit (K6.out.one (b := w.heap.size + 1) (x := inZero) (by simp))
    have hlb := heap_lt (K6.out.one (b := w.heap.size + 1) (x := inZero) (by simp))
    have e1 : R = (inZero, inZero, false) := HS.out
    have E1 := Lib.hid e1
    obtain rfl := E1.out
    clear e1
    go_wp2
    refine bodyPost_ret (v := .tuple #[inZero.val, inZero.val, .bool false]) (by simp [results, Tryz.results23, go_sem, a0, a1, a2, a3, a4, a5, a6, a7, a8, a9, a10, b0, b1, b2, b3, b4, b5, b6, b7, b8, b9, b10, inZero]) rfl ?_
    exact ⟨rfl, made_set11b (made_set11b K6.out.made hz _ _ _ _ _ _ _ _ _ _ _) (by omega) _ _ _ _ _ _ _ _ _ _ _⟩
  | true =>
    cases oy with
    | false =>
      obtain ⟨a0, a1, a2, a3, a4, a5, a6, a7, a8, a9, a10⟩ := in_cells (K6.out.one (b := w.heap.size) (x := inZero) (by simp))
      have fa := free_of_lit (K6.out.one (b := w.heap.size) (x := inZero) (by simp))
      have hla := heap_lt (K6.out.one (b := w.heap.size) (x := inZero) (by simp))
      obtain ⟨b0, b1, b2, b3, b4, b5, b6, b7, b8, b9, b10⟩ := in_cells (K6.out.one (b := w.heap.size + 1) (x := inZero) (by simp))
      have fb := free_of_lit (K6.out.one (b := w.heap.size + 1) (x := inZero) (by simp))
      have hlb := heap_lt (K6.out.one (b := w.heap.size + 1) (x := inZero) (by simp))
      have e1 : R = (inZero, inZero, false) := HS.out
      have E1 := Lib.hid e1
      obtain rfl := E1.out
      clear e1
      go_wp2
      refine bodyPost_ret (v := .tuple #[inZero.val, inZero.val, .bool false]) (by simp [results, Tryz.results23, go_sem, a0, a1, a2, a3, a4, a5, a6, a7, a8, a9, a10, b0, b1, b2, b3, b4, b5, b6, b7, b8, b9, b10, inZero]) rfl ?_
      exact ⟨rfl, made_set11b (made_set11b K6.out.made hz _ _ _ _ _ _ _ _ _ _ _) (by omega) _ _ _ _ _ _ _ _ _ _ _⟩
    | true =>
      obtain ⟨c0, c1, c2, c3, c4, c5, c6, c7, c8, c9, c10⟩ := in_cells (K6.out.one (b := z2.heap.size) (x := x) (by simp))
      have fc := free_of_lit (K6.out.one (b := z2.heap.size) (x := x) (by simp))
      have hlc := heap_lt (K6.out.one (b := z2.heap.size) (x := x) (by simp))
      go_wp2_with (fail)
      refine (SX.out v5).mono ?_
      rintro e v7 ⟨rfl, hz7⟩
      have K7 := Lib.hid (K6.out.next hz7)
      clear hz7 c0 c1 c2 c3 c4 c5 c6 c7 c8 c9 c10 fc hlc
      cases sx with
      | true =>
        obtain ⟨a0, a1, a2, a3, a4, a5, a6, a7, a8, a9, a10⟩ := in_cells (K7.out.one (b := w.heap.size) (x := inZero) (by simp))
        have fa := free_of_lit (K7.out.one (b := w.heap.size) (x := inZero) (by simp))
        have hla := heap_lt (K7.out.one (b := w.heap.size) (x := inZero) (by simp))
        obtain ⟨b0, b1, b2, b3, b4, b5, b6, b7, b8, b9, b10⟩ := in_cells (K7.out.one (b := w.heap.size + 1) (x := inZero) (by simp))
        have fb := free_of_lit (K7.out.one (b := w.heap.size + 1) (x := inZero) (by simp))
        have hlb := heap_lt (K7.out.one (b := w.heap.size + 1) (x := inZero) (by simp))
        have e1 : R = (inZero, inZero, false) := HS.out
        have E1 := Lib.hid e1
        obtain rfl := E1.out
        clear e1
        go_wp2
        refine bodyPost_ret (v := .tuple #[inZero.val, inZero.val, .bool false]) (by simp [results, Tryz.results23, go_sem, a0, a1, a2, a3, a4, a5, a6, a7, a8, a9, a10, b0, b1, b2, b3, b4, b5, b6, b7, b8, b9, b10, inZero]) rfl ?_
        exact ⟨rfl, made_set11b (made_set11b K7.out.made hz _ _ _ _ _ _ _ _ _ _ _) (by omega) _ _ _ _ _ _ _ _ _ _ _⟩
      | false =>
        obtain ⟨a0, a1, a2, a3, a4, a5, a6, a7, a8, a9, a10⟩ := in_cells (K7.out.one (b := w.heap.size) (x := inZero) (by simp))
        have fa := free_of_lit (K7.out.one (b := w.heap.size) (x := inZero) (by simp))
        have hla := heap_lt (K7.out.one (b := w.heap.size) (x := inZero) (by simp))
        obtain ⟨b0, b1, b2, b3, b4, b5, b6, b7, b8, b9, b10⟩ := in_cells (K7.out.one (b := w.heap.size + 1) (x := inZero) (by simp))
        have fb := free_of_lit (K7.out.one (b := w.heap.size + 1) (x := inZero) (by simp))
        have hlb := heap_lt (K7.out.one (b := w.heap.size + 1) (x := inZero) (by simp))
        obtain ⟨c0, c1, c2, c3, c4, c5, c6, c7, c8, c9, c10⟩ := in_cells (K7.out.one (b := z2.heap.size) (x := x) (by simp))
        have fc := free_of_lit (K7.out.one (b := z2.heap.size) (x := x) (by simp))
        have hlc := heap_lt (K7.out.one (b := z2.heap.size) (x := x) (by simp))
        obtain ⟨d0, d1, d2, d3, d4, d5, d6, d7, d8, d9, d10⟩ := in_cells (K7.out.one (b := z4.heap.size) (x := y) (by simp))
        have fd := free_of_lit (K7.out.one (b := z4.heap.size) (x := y) (by simp))
        have hld := heap_lt (K7.out.one (b := z4.heap.size) (x := y) (by simp))
        have e1 : R = (x, y, true) := HS.out
        have E1 := Lib.hid e1
        obtain rfl := E1.out
        clear e1
        go_upto_region 6 with (fail)
        go_region
        go_wp2
        refine bodyPost_ret (v := .tuple #[x.val, y.val, .bool true]) (by simp [results, Tryz.results23, go_sem, a0, a1, a2, a3, a4, a5, a6, a7, a8, a9, a10, b0, b1, b2, b3, b4, b5, b6, b7, b8, b9, b10]) rfl ?_
        exact ⟨rfl, below_drew (made_set11b (made_set11b K7.out.made hz _ _ _ _ _ _ _ _ _ _ _) (by omega) _ _ _ _ _ _ _ _ _ _ _)⟩
end
end Go.Proofs.YtanjmoiepmadhaaGreatDoor
