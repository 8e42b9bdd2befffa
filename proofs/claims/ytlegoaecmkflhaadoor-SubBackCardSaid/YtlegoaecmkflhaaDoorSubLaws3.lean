/- SubBack of the laws of sub returns true, for every number and instruction, in every world that holds the tables of names and of small instructions. -/
import Derived.Test.YtlegoaecmkflhaaDoorSubLaws2
import Derived.Test.YtlegoaecmkflhaaDoorInstFns
namespace Go.Proofs.YtlegoaecmkflhaaDoor
open Go.ChangeShapes Go.WideShapes Go.ChangeAt Go.RowKit Go.Sort BigFrame

namespace subBack
section
attribute [local irreducible] World.cell?
set_option maxRecDepth 100000 in
set_option maxHeartbeats 8000000 in
theorem walk (W : World) (hT : Tables W) (s : Int) (x : In) (h0 : 0 ≤ s) (h1 : s < 65536) (hx : x.small) :
    Calls Tryd.prog 5 #[.int .u16 s, x.val] W fun e w' => e = .returned (.bool true) ∧ Made W w' := by
  have hN := hT.1
  have hR := hT.2
  have K0 := Lib.hid (show Own W W.heap.size x (W.alloc (.cells x.cells.toArray 26)) from ⟨(Made.refl W).alloc (Nat.le_refl _) _, heap_alloc_new W _⟩)
  have C1 := Lib.hid (fun v (hv : SRows v) => subInst_any v hv s h0 h1 v (Made.refl v))
  have C3 := Lib.hid (fun v (hv : SRows v) => subOf_any v hv x hx v (Made.refl v))
  have C5 := Lib.hid (fun v (hv : SRows v) => awake_any v hv v (Made.refl v))
  obtain ⟨c0, c1⟩ := subOf_u16 x
  have hs := fun h => says s h0 h1 (subInst s).1 (Prod.ext rfl h)
  have ho := fun h => of_says s h0 h1 (subInst s).1 (Prod.ext rfl h)
  have hn := subInst_none s
  generalize subInst s = yo at *
  obtain ⟨y, ok⟩ := yo
  have hn2 := of_none x
  have hi2 := fun c (h : subOf x = (c, true)) => (inst_of c x h).2.2
  generalize subOf x = co at *
  obtain ⟨c, oc⟩ := co
  simp only [] at c0 c1 hs ho hn hn2
  have HN := Lib.hid (show oc = false → c = 0 from fun h => (Prod.mk.inj (hn2 h)).1)
  have HS := Lib.hid (show oc = true → subInst c = (x, true) from fun h => hi2 c (by rw [h]))
  have hop := fun w => (run_in_eql x x w).trans (by rw [decide_eq_true rfl])
  clear hx hn2 hi2
  go_enter Tryd.func5, Tryd.ntmps5
  go_upto_region 1 with (fail)
  refine name_world (fun v => Own W W.heap.size x v) K0.out ?_
  intro v hv
  have KV := Lib.hid hv
  clear hv K0
  go_wp2_with (fail)
  refine (C1.out v (hR.made KV.out.made)).mono ?_
  rintro e z1 ⟨rfl, hz⟩
  have K1 := Lib.hid (show TwoIn W W.heap.size z1.heap.size x y (z1.alloc (.cells y.cells.toArray 26)) from
    have h2 := (Made.refl z1).alloc (Nat.le_refl _) (.cells y.cells.toArray 26)
    ⟨Made.trans KV.out.made (Made.trans hz h2), Made.heap h2 (Made.heap hz KV.out.in_), heap_alloc_new z1 _⟩)
  clear hz
  go_upto_region 2 with (fail)
  refine name_world (fun v => TwoIn W W.heap.size z1.heap.size x y v) K1.out ?_
  intro v1 hv
  have KV1 := Lib.hid hv
  obtain ⟨a0, a1, a2, a3, a4, a5, a6, a7, a8, a9, a10⟩ := in_cells hv.in_
  obtain ⟨b0, b1, b2, b3, b4, b5, b6, b7, b8, b9, b10⟩ := in_cells hv.out_
  have hl := heap_lt hv.in_
  have hl2 := heap_lt hv.out_
  clear hv K1
  cases ok with
  | false =>
    obtain rfl : y = inZero := (Prod.mk.inj (hn rfl)).1
    have hneq := fun w => (run_in_neql inZero inZero w).trans (by rw [decide_eq_true rfl])
    clear hs ho hn
    go_wp2_with (fail)
    refine (C3.out v1 (hR.made KV1.out.made)).mono ?_
    rintro e z3 ⟨rfl, hz⟩
    have K3 := Lib.hid (KV1.out.next hz)
    clear hz a0 a1 a2 a3 a4 a5 a6 a7 a8 a9 a10 hl
    cases oc with
    | false =>
      obtain rfl : c = 0 := HN.out rfl
      go_wp2_with (fail)
      refine (C5.out z3 (hR.made K3.out.made)).mono ?_
      rintro e z5 ⟨rfl, hz⟩
      have K5 := Lib.hid (K3.out.next hz)
      clear hz
      go_wp2
      go_ret
      exact ⟨rfl, K5.out.made⟩
    | true =>
      have hxx := HS.out rfl
      have C4 := Lib.hid (fun v (hv : SRows v) => subInst_any v hv c c0 c1 v (Made.refl v))
      rewrite [hxx] at C4
      clear hxx
      go_wp2_with (fail)
      refine (C4.out z3 (hR.made K3.out.made)).mono ?_
      rintro e z4 ⟨rfl, hz⟩
      have K4 := Lib.hid (show Three W W.heap.size z1.heap.size z4.heap.size x inZero x (z4.alloc (.cells x.cells.toArray 26)) from
        have h2 := (Made.refl z4).alloc (Nat.le_refl _) (.cells x.cells.toArray 26)
        ⟨Made.trans K3.out.made (Made.trans hz h2), Made.heap h2 (Made.heap hz K3.out.in_), Made.heap h2 (Made.heap hz K3.out.out_), heap_alloc_new z4 _⟩)
      clear hz
      go_upto_region 12 with (fail)
      refine name_world (fun v => Three W W.heap.size z1.heap.size z4.heap.size x inZero x v) K4.out ?_
      intro v3 hv
      have KV3 := Lib.hid hv
      obtain ⟨a0, a1, a2, a3, a4, a5, a6, a7, a8, a9, a10⟩ := in_cells hv.fst
      obtain ⟨b0, b1, b2, b3, b4, b5, b6, b7, b8, b9, b10⟩ := in_cells hv.thd
      have hl := heap_lt hv.fst
      have hl2 := heap_lt hv.thd
      clear hv K4
      go_wp2_with (fail)
      refine (C5.out v3 (hR.made KV3.out.made)).mono ?_
      rintro e z5 ⟨rfl, hz⟩
      have K5 := Lib.hid (KV3.out.next hz)
      clear hz
      go_wp2
      go_ret
      exact ⟨rfl, K5.out.made⟩
  | true =>
    have hsy := hs rfl
    have C2 := fun v (hv : SRows v) => subOf_any v hv y hsy.small v (Made.refl v)
    rewrite [ho rfl] at C2
    have D2 := Lib.hid C2
    have C6 := fun v (hv : Names v) => right_any v hv y hsy.small v (Made.refl v)
    rewrite [hsy.right] at C6
    have D6 := Lib.hid C6
    have HSY := Lib.hid hsy
    clear hs ho hn hsy C2 C6
    go_wp2_with (fail)
    refine (D2.out v1 (hR.made KV1.out.made)).mono ?_
    rintro e z2 ⟨rfl, hz⟩
    have K2 := Lib.hid (KV1.out.next hz)
    clear hz a0 a1 a2 a3 a4 a5 a6 a7 a8 a9 a10 b0 b1 b2 b3 b4 b5 b6 b7 b8 b9 b10 hl hl2
    obtain ⟨b0, b1, b2, b3, b4, b5, b6, b7, b8, b9, b10⟩ := in_cells K2.out.out_
    have hl2 := heap_lt K2.out.out_
    go_wp2_with (fail)
    refine (D6.out z2 (hN.made K2.out.made)).mono ?_
    rintro e z6 ⟨rfl, hz⟩
    have K6 := Lib.hid (K2.out.next hz)
    clear hz b0 b1 b2 b3 b4 b5 b6 b7 b8 b9 b10 hl2
    obtain ⟨b0, b1, b2, b3, b4, b5, b6, b7, b8, b9, b10⟩ := in_cells K6.out.out_
    have hl2 := heap_lt K6.out.out_
    obtain ⟨a0, a1, a2, a3, a4, a5, a6, a7, a8, a9, a10⟩ := in_cells K6.out.in_
    have hl := heap_lt K6.out.in_
    have hm0 := HSY.out.mode
    have hw0 := HSY.out.new
    have he0 := HSY.out.ext
    have hle := HSY.out.le
    have h15 : s / 32768 = 0 := by omega
    go_wp2_with (fail)
    refine (C3.out z6 (hR.made K6.out.made)).mono ?_
    rintro e z3 ⟨rfl, hz⟩
    have K3 := Lib.hid (K6.out.next hz)
    clear hz a0 a1 a2 a3 a4 a5 a6 a7 a8 a9 a10 hl
    cases oc with
    | false =>
      obtain rfl : c = 0 := HN.out rfl
      go_wp2_with (fail)
      refine (C5.out z3 (hR.made K3.out.made)).mono ?_
      rintro e z5 ⟨rfl, hz⟩
      have K5 := Lib.hid (K3.out.next hz)
      clear hz
      go_wp2
      go_ret
      exact ⟨rfl, K5.out.made⟩
    | true =>
      have hxx := HS.out rfl
      have C4 := Lib.hid (fun v (hv : SRows v) => subInst_any v hv c c0 c1 v (Made.refl v))
      rewrite [hxx] at C4
      clear hxx
      go_wp2_with (fail)
      refine (C4.out z3 (hR.made K3.out.made)).mono ?_
      rintro e z4 ⟨rfl, hz⟩
      have K4 := Lib.hid (show Three W W.heap.size z1.heap.size z4.heap.size x y x (z4.alloc (.cells x.cells.toArray 26)) from
        have h2 := (Made.refl z4).alloc (Nat.le_refl _) (.cells x.cells.toArray 26)
        ⟨Made.trans K3.out.made (Made.trans hz h2), Made.heap h2 (Made.heap hz K3.out.in_), Made.heap h2 (Made.heap hz K3.out.out_), heap_alloc_new z4 _⟩)
      clear hz
      go_upto_region 12 with (fail)
      refine name_world (fun v => Three W W.heap.size z1.heap.size z4.heap.size x y x v) K4.out ?_
      intro v3 hv
      have KV3 := Lib.hid hv
      obtain ⟨a0, a1, a2, a3, a4, a5, a6, a7, a8, a9, a10⟩ := in_cells hv.fst
      obtain ⟨b0, b1, b2, b3, b4, b5, b6, b7, b8, b9, b10⟩ := in_cells hv.thd
      have hl := heap_lt hv.fst
      have hl2 := heap_lt hv.thd
      clear hv K4
      go_wp2_with (fail)
      refine (C5.out v3 (hR.made KV3.out.made)).mono ?_
      rintro e z5 ⟨rfl, hz⟩
      have K5 := Lib.hid (KV3.out.next hz)
      clear hz
      go_wp2
      go_ret
      exact ⟨rfl, K5.out.made⟩
theorem walkA (W : World) (hT : Tables W) (a0 : Int) (a1 : In) (w0 : (Lit.int .u16 a0).wf = true) (w1 : a1.small) :
    Calls Tryd.prog 5 #[.int .u16 a0, a1.val] W fun e w' => e = .returned (.bool true) ∧ Made W w' :=
  walk W hT a0 a1 (u16_of_wf w0).1 (u16_of_wf w0).2 w1
end
end subBack
end Go.Proofs.YtlegoaecmkflhaaDoor
