/- What Split and Canonical of package duplex return, for every word, in every world that has grown out of one that holds the tables. -/
import Derived.Test.YtanjmoiepmadhaaGreatDoorGDup
namespace Go.Proofs.YtanjmoiepmadhaaGreatDoor
open Go.ChangeShapes Go.WideShapes Go.ChangeAt Go.RowKit Go.Sort BigFrame

section
attribute [local irreducible] World.cell?
set_option maxRecDepth 100000 in
set_option maxHeartbeats 8000000 in
theorem split_any (W : World) (hT : Tabs W) (c : Int) (hc : isU32 c) : Makes Tryz.prog W 73 #[.int .u32 c] (.tuple #[(splitP c).1.val, (splitP c).2.1.val, .bool (splitP c).2.2]) := by
  intro w hm
  have hz := hm.size
  have K0 := Lib.hid ((Held.start hm).push2 inZero inZero)
  have CP := Lib.hid (fun v (hv : Pieces v) => parts_made v hv c hc v (Made.refl v))
  have CH := Lib.hid (fun v (hv : Pieces v) => halves_any v hv c hc v (Made.refl v))
  have hh := highZ_range c
  have hl := lowZ_range c
  have CX := Lib.hid (fun v (hv : SRows v) => subInst_any v hv (highZ c) hh.1 (by omega) v (Made.refl v))
  have CY := Lib.hid (fun v (hv : SRows v) => subInst_any v hv (lowZ c) hl.1 (by omega) v (Made.refl v))
  have hxs := subInst_small (highZ c) hh.1 (by omega)
  obtain ⟨R, hR⟩ : ∃ R, R = splitP c := ⟨_, rfl⟩
  rewrite [← hR]
  unfold splitP at hR
  generalize subInst (highZ c) = xo at *
  obtain ⟨x, ox⟩ := xo
  generalize subInst (lowZ c) = yo at *
  obtain ⟨y, oy⟩ := yo
  simp only [] at hR hxs
  have SX := Lib.hid (fun v (hv : Names v) => isStore_any v hv x hxs v (Made.refl v))
  generalize storeB x = sx at *
  generalize parseZ c = p at *
  have HS := Lib.hid hR
  clear hR hxs hm hc
  generalize highZ c = hi at *
  generalize lowZ c = lo at *
  generalize codeZ c = cd at *
  generalize payZ c = pay at *
  have hne : ∀ p ∈ [(w.heap.size + 1, inZero)], p.1 ≠ w.heap.size := by simp
  go_enter Tryz.func73, Tryz.ntmps73
  go_upto_region 1 with (fail)
  refine name_world (fun v => Held W [(w.heap.size + 1, inZero), (w.heap.size, inZero)] v) K0.out ?_
  intro v hv
  have KV := Lib.hid hv
  clear hv K0
  go_wp2_with (fail)
  refine (CP.out v (hT.pieces.made KV.out.made)).mono ?_
  rintro e z1 ⟨rfl, hz1⟩
  have K1 := Lib.hid (KV.out.next hz1)
  clear hz1
  go_wp2_with (fail)
  refine (CH.out z1 (hT.pieces.made K1.out.made)).mono ?_
  rintro e z2 ⟨rfl, hz2⟩
  have K2 := Lib.hid (K1.out.next hz2)
  clear hz2
  go_wp2_with (fail)
  refine (CX.out z2 (hT.rows.made K2.out.made)).mono ?_
  rintro e z3 ⟨rfl, hz3⟩
  have K3 := Lib.hid (K2.out.next hz3)
  clear hz3
  obtain ⟨a0, a1, a2, a3, a4, a5, a6, a7, a8, a9, a10⟩ := in_cells (K3.out.one (b := w.heap.size) (x := inZero) (by simp))
  have fz := free_of_lit (K3.out.one (b := w.heap.size) (x := inZero) (by simp))
  have hl1 := heap_lt (K3.out.one (b := w.heap.size) (x := inZero) (by simp))
  go_upto_region 4 with (fail)
  refine name_world (fun v => Held W [(w.heap.size, x), (w.heap.size + 1, inZero)] v) ((K3.out.less (l' := [(w.heap.size, inZero), (w.heap.size + 1, inZero)]) (by simp)).put (took_all (x := inZero) x (K3.out.one (by simp))) hz (by simp)) ?_
  intro v4 hv
  have K4 := Lib.hid hv
  clear hv a0 a1 a2 a3 a4 a5 a6 a7 a8 a9 a10 fz hl1
  go_wp2_with (fail)
  refine (CY.out v4 (hT.rows.made K4.out.made)).mono ?_
  rintro e z5 ⟨rfl, hz5⟩
  have K5 := Lib.hid (K4.out.next hz5)
  clear hz5
  obtain ⟨a0, a1, a2, a3, a4, a5, a6, a7, a8, a9, a10⟩ := in_cells (K5.out.one (b := w.heap.size + 1) (x := inZero) (by simp))
  have fz := free_of_lit (K5.out.one (b := w.heap.size + 1) (x := inZero) (by simp))
  have hl1 := heap_lt (K5.out.one (b := w.heap.size + 1) (x := inZero) (by simp))
  go_upto_region 5 with (fail)
  refine name_world (fun v => Held W [(w.heap.size + 1, y), (w.heap.size, x)] v) ((K5.out.less (l' := [(w.heap.size + 1, inZero), (w.heap.size, x)]) (by simp)).put (took_all (x := inZero) y (K5.out.one (by simp))) (by omega) (by simp)) ?_
  intro v6 hv
  have K6 := Lib.hid hv
  clear hv a0 a1 a2 a3 a4 a5 a6 a7 a8 a9 a10 fz hl1
  by_cases hp : p = 0
  rotate_left
  · have hp1 : (p != 0) = true := by simpa using hp
    have hp2 : (p == 0) = false := by simpa using hp
    obtain ⟨a0, a1, a2, a3, a4, a5, a6, a7, a8, a9, a10⟩ := in_cells (K6.out.one (b := w.heap.size) (x := x) (by simp))
    obtain ⟨b0, b1, b2, b3, b4, b5, b6, b7, b8, b9, b10⟩ := in_cells (K6.out.one (b := w.heap.size + 1) (x := y) (by simp))
    have fa := free_of_lit (K6.out.one (b := w.heap.size) (x := x) (by simp))
    have fb := free_of_lit (K6.out.one (b := w.heap.size + 1) (x := y) (by simp))
    have hla := heap_lt (K6.out.one (b := w.heap.size) (x := x) (by simp))
    have hlb := heap_lt (K6.out.one (b := w.heap.size + 1) (x := y) (by simp))
    have e1 : R = (inZero, inZero, false) := by rw [HS.out, hp2]; rfl
    have E1 := Lib.hid e1
    obtain rfl := E1.out
    clear e1
    go_wp2
    refine bodyPost_ret (v := .tuple #[inZero.val, inZero.val, .bool false]) (by simp [results, Tryz.results73, go_sem, a0, a1, a2, a3, a4, a5, a6, a7, a8, a9, a10, b0, b1, b2, b3, b4, b5, b6, b7, b8, b9, b10, inZero]) rfl ?_
    exact ⟨rfl, made_set11b (made_set11b K6.out.made hz _ _ _ _ _ _ _ _ _ _ _) (by omega) _ _ _ _ _ _ _ _ _ _ _⟩
  obtain rfl := hp
  cases ox with
  | false =>
    obtain ⟨a0, a1, a2, a3, a4, a5, a6, a7, a8, a9, a10⟩ := in_cells (K6.out.one (b := w.heap.size) (x := x) (by simp))
    obtain ⟨b0, b1, b2, b3, b4, b5, b6, b7, b8, b9, b10⟩ := in_cells (K6.out.one (b := w.heap.size + 1) (x := y) (by simp))
    have fa := free_of_lit (K6.out.one (b := w.heap.size) (x := x) (by simp))
    have fb := free_of_lit (K6.out.one (b := w.heap.size + 1) (x := y) (by simp))
    have hla := heap_lt (K6.out.one (b := w.heap.size) (x := x) (by simp))
    have hlb := heap_lt (K6.out.one (b := w.heap.size + 1) (x := y) (by simp))
    have e1 : R = (inZero, inZero, false) := HS.out
    have E1 := Lib.hid e1
    obtain rfl := E1.out
    clear e1
    go_wp2
    refine bodyPost_ret (v := .tuple #[inZero.val, inZero.val, .bool false]) (by simp [results, Tryz.results73, go_sem, a0, a1, a2, a3, a4, a5, a6, a7, a8, a9, a10, b0, b1, b2, b3, b4, b5, b6, b7, b8, b9, b10, inZero]) rfl ?_
    exact ⟨rfl, made_set11b (made_set11b K6.out.made hz _ _ _ _ _ _ _ _ _ _ _) (by omega) _ _ _ _ _ _ _ _ _ _ _⟩
  | true =>
    cases oy with
    | false =>
      obtain ⟨a0, a1, a2, a3, a4, a5, a6, a7, a8, a9, a10⟩ := in_cells (K6.out.one (b := w.heap.size) (x := x) (by simp))
      obtain ⟨b0, b1, b2, b3, b4, b5, b6, b7, b8, b9, b10⟩ := in_cells (K6.out.one (b := w.heap.size + 1) (x := y) (by simp))
      have fa := free_of_lit (K6.out.one (b := w.heap.size) (x := x) (by simp))
      have fb := free_of_lit (K6.out.one (b := w.heap.size + 1) (x := y) (by simp))
      have hla := heap_lt (K6.out.one (b := w.heap.size) (x := x) (by simp))
      have hlb := heap_lt (K6.out.one (b := w.heap.size + 1) (x := y) (by simp))
      have e1 : R = (inZero, inZero, false) := HS.out
      have E1 := Lib.hid e1
      obtain rfl := E1.out
      clear e1
      go_wp2
      refine bodyPost_ret (v := .tuple #[inZero.val, inZero.val, .bool false]) (by simp [results, Tryz.results73, go_sem, a0, a1, a2, a3, a4, a5, a6, a7, a8, a9, a10, b0, b1, b2, b3, b4, b5, b6, b7, b8, b9, b10, inZero]) rfl ?_
      exact ⟨rfl, made_set11b (made_set11b K6.out.made hz _ _ _ _ _ _ _ _ _ _ _) (by omega) _ _ _ _ _ _ _ _ _ _ _⟩
    | true =>
      obtain ⟨a0, a1, a2, a3, a4, a5, a6, a7, a8, a9, a10⟩ := in_cells (K6.out.one (b := w.heap.size) (x := x) (by simp))
      obtain ⟨b0, b1, b2, b3, b4, b5, b6, b7, b8, b9, b10⟩ := in_cells (K6.out.one (b := w.heap.size + 1) (x := y) (by simp))
      have fa := free_of_lit (K6.out.one (b := w.heap.size) (x := x) (by simp))
      have fb := free_of_lit (K6.out.one (b := w.heap.size + 1) (x := y) (by simp))
      have hla := heap_lt (K6.out.one (b := w.heap.size) (x := x) (by simp))
      have hlb := heap_lt (K6.out.one (b := w.heap.size + 1) (x := y) (by simp))
      go_wp2_with (fail)
      refine (SX.out v6 (hT.names.made K6.out.made)).mono ?_
      rintro e v7 ⟨rfl, hz7⟩
      have K7 := Lib.hid (K6.out.next hz7)
      clear hz7 a0 a1 a2 a3 a4 a5 a6 a7 a8 a9 a10 b0 b1 b2 b3 b4 b5 b6 b7 b8 b9 b10 fa fb hla hlb
      cases sx with
      | true =>
        obtain ⟨a0, a1, a2, a3, a4, a5, a6, a7, a8, a9, a10⟩ := in_cells (K7.out.one (b := w.heap.size) (x := x) (by simp))
        obtain ⟨b0, b1, b2, b3, b4, b5, b6, b7, b8, b9, b10⟩ := in_cells (K7.out.one (b := w.heap.size + 1) (x := y) (by simp))
        have fa := free_of_lit (K7.out.one (b := w.heap.size) (x := x) (by simp))
        have fb := free_of_lit (K7.out.one (b := w.heap.size + 1) (x := y) (by simp))
        have hla := heap_lt (K7.out.one (b := w.heap.size) (x := x) (by simp))
        have hlb := heap_lt (K7.out.one (b := w.heap.size + 1) (x := y) (by simp))
        have e1 : R = (inZero, inZero, false) := HS.out
        have E1 := Lib.hid e1
        obtain rfl := E1.out
        clear e1
        go_wp2
        refine bodyPost_ret (v := .tuple #[inZero.val, inZero.val, .bool false]) (by simp [results, Tryz.results73, go_sem, a0, a1, a2, a3, a4, a5, a6, a7, a8, a9, a10, b0, b1, b2, b3, b4, b5, b6, b7, b8, b9, b10, inZero]) rfl ?_
        exact ⟨rfl, made_set11b (made_set11b K7.out.made hz _ _ _ _ _ _ _ _ _ _ _) (by omega) _ _ _ _ _ _ _ _ _ _ _⟩
      | false =>
        obtain ⟨a0, a1, a2, a3, a4, a5, a6, a7, a8, a9, a10⟩ := in_cells (K7.out.one (b := w.heap.size) (x := x) (by simp))
        obtain ⟨b0, b1, b2, b3, b4, b5, b6, b7, b8, b9, b10⟩ := in_cells (K7.out.one (b := w.heap.size + 1) (x := y) (by simp))
        have fa := free_of_lit (K7.out.one (b := w.heap.size) (x := x) (by simp))
        have fb := free_of_lit (K7.out.one (b := w.heap.size + 1) (x := y) (by simp))
        have hla := heap_lt (K7.out.one (b := w.heap.size) (x := x) (by simp))
        have hlb := heap_lt (K7.out.one (b := w.heap.size + 1) (x := y) (by simp))
        have e1 : R = (x, y, true) := HS.out
        have E1 := Lib.hid e1
        obtain rfl := E1.out
        clear e1
        go_upto_region 7 with (fail)
        go_region
        go_wp2
        refine bodyPost_ret (v := .tuple #[x.val, y.val, .bool true]) (by simp [results, Tryz.results73, go_sem, a0, a1, a2, a3, a4, a5, a6, a7, a8, a9, a10, b0, b1, b2, b3, b4, b5, b6, b7, b8, b9, b10]) rfl ?_
        exact ⟨rfl, below_drew (made_set11b (made_set11b K7.out.made hz _ _ _ _ _ _ _ _ _ _ _) (by omega) _ _ _ _ _ _ _ _ _ _ _)⟩
end
end Go.Proofs.YtanjmoiepmadhaaGreatDoor
