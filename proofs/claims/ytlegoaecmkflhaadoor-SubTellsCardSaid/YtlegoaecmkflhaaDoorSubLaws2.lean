/- SubTells of the laws of sub returns true, for every number and instruction, in every world that holds the table of small instructions. -/
import Derived.Test.YtlegoaecmkflhaaDoorSubLaws
import Derived.Test.YtlegoaecmkflhaaDoorSubRefO
import Derived.Test.YtlegoaecmkflhaaDoorInstOpen
namespace Go.Proofs.YtlegoaecmkflhaaDoor
open Go.ChangeShapes Go.WideShapes Go.ChangeAt Go.RowKit Go.Sort BigFrame

/-- Three instructions. -/
structure Three (W : World) (A B C : Nat) (x y z : In) (w : World) : Prop where
  made : Made W w
  fst : InAt w A x
  snd : InAt w B y
  thd : InAt w C z
theorem Three.next {W w w' : World} {A B C : Nat} {x y z : In} (h : Three W A B C x y z w) (hm : Made w w') : Three W A B C x y z w' := ⟨Made.trans h.made hm, Made.heap hm h.fst, Made.heap hm h.snd, Made.heap hm h.thd⟩
theorem subOf_u16 (x : In) : 0 ≤ (subOf x).1 ∧ (subOf x).1 < 65536 := by
  cases h : (subOf x).2 with
  | false => rw [of_none x h]; decide
  | true =>
    have := inst_of (subOf x).1 x (Prod.ext rfl h)
    exact ⟨this.1, this.2.1⟩
theorem u16_of_wf {n : Int} (h : (Lit.int .u16 n).wf = true) : 0 ≤ n ∧ n < 65536 := by
  have := u16_wf h
  omega
namespace subTells
section
attribute [local irreducible] World.cell?
set_option maxRecDepth 100000 in
set_option maxHeartbeats 8000000 in
theorem walk (W : World) (hR : SRows W) (s : Int) (x : In) (h0 : 0 ≤ s) (h1 : s < 65536) (hx : x.small) :
    Calls Tryd.prog 4 #[.int .u16 s, x.val] W fun e w' => e = .returned (.bool true) ∧ Made W w' := by
  have K0 := Lib.hid (show Own W W.heap.size x (W.alloc (.cells x.cells.toArray 26)) from ⟨(Made.refl W).alloc (Nat.le_refl _) _, heap_alloc_new W _⟩)
  have C1 := Lib.hid (fun v (hv : SRows v) => subInst_any v hv s h0 h1 v (Made.refl v))
  have hd := fun v => refInst7_any v s h0 h1 v (Made.refl v)
  rewrite [← inst_doc s h0 h1] at hd
  have C2 := Lib.hid hd
  clear hd
  have C3 := Lib.hid (fun v (hv : SRows v) => subOf_any v hv x hx v (Made.refl v))
  have C4 := Lib.hid (fun v => refOf7_any v x v (Made.refl v))
  have C5 := Lib.hid (fun v (hv : SRows v) => awake_any v hv v (Made.refl v))
  obtain ⟨c0, c1⟩ := subOf_u16 x
  generalize subInst s = yo at *
  obtain ⟨y, ok⟩ := yo
  generalize subOf x = co at *
  obtain ⟨c, oc⟩ := co
  simp only [] at c0 c1
  have hop := fun w => (run_in_eql y y w).trans (by rw [decide_eq_true rfl])
  clear hx
  go_enter Tryd.func4, Tryd.ntmps4
  go_upto_region 1 with (fail)
  refine name_world (fun v => Own W W.heap.size x v) K0.out ?_
  intro v hv
  have KV := Lib.hid hv
  clear hv K0
  go_wp2_with (fail)
  refine (C1.out v (hR.made KV.out.made)).mono ?_
  rintro e z1 ⟨rfl, hz⟩
  have K1 := Lib.hid (show TwoIn W W.heap.size z1.heap.size x y (z1.alloc (.cells y.cells.toArray 26)) from
    have h2 := (Made.refl z1).alloc (Nat.le_refl _) (.cells y.cells.toArray 26)
    ⟨Made.trans KV.out.made (Made.trans hz h2), Made.heap h2 (Made.heap hz KV.out.in_), heap_alloc_new z1 _⟩)
  clear hz
  go_upto_region 2 with (fail)
  refine name_world (fun v => TwoIn W W.heap.size z1.heap.size x y v) K1.out ?_
  intro v1 hv
  have KV1 := Lib.hid hv
  clear hv K1
  go_wp2_with (fail)
  refine (C2.out v1).mono ?_
  rintro e z2 ⟨rfl, hz⟩
  have K2 := Lib.hid (show Three W W.heap.size z1.heap.size z2.heap.size x y y (z2.alloc (.cells y.cells.toArray 26)) from
    have h2 := (Made.refl z2).alloc (Nat.le_refl _) (.cells y.cells.toArray 26)
    ⟨Made.trans KV1.out.made (Made.trans hz h2), Made.heap h2 (Made.heap hz KV1.out.in_), Made.heap h2 (Made.heap hz KV1.out.out_), heap_alloc_new z2 _⟩)
  clear hz
  go_upto_region 3 with (fail)
  refine name_world (fun v => Three W W.heap.size z1.heap.size z2.heap.size x y y v) K2.out ?_
  intro v2 hv
  have KV2 := Lib.hid hv
  obtain ⟨a0, a1, a2, a3, a4, a5, a6, a7, a8, a9, a10⟩ := in_cells hv.fst
  have hl := heap_lt hv.fst
  clear hv K2
  go_wp2_with (fail)
  refine (C3.out v2 (hR.made KV2.out.made)).mono ?_
  rintro e z3 ⟨rfl, hz⟩
  have K3 := Lib.hid (KV2.out.next hz)
  clear hz a0 a1 a2 a3 a4 a5 a6 a7 a8 a9 a10 hl
  obtain ⟨a0, a1, a2, a3, a4, a5, a6, a7, a8, a9, a10⟩ := in_cells K3.out.fst
  have hl := heap_lt K3.out.fst
  go_wp2_with (fail)
  refine (C4.out z3).mono ?_
  rintro e z4 ⟨rfl, hz⟩
  have K4 := Lib.hid (K3.out.next hz)
  clear hz a0 a1 a2 a3 a4 a5 a6 a7 a8 a9 a10 hl
  obtain ⟨a0, a1, a2, a3, a4, a5, a6, a7, a8, a9, a10⟩ := in_cells K4.out.snd
  obtain ⟨b0, b1, b2, b3, b4, b5, b6, b7, b8, b9, b10⟩ := in_cells K4.out.thd
  have hl := heap_lt K4.out.snd
  have hl2 := heap_lt K4.out.thd
  have ho1 : (ok == ok) = true := by simp
  have ho2 : (oc == oc) = true := by simp
  go_wp2_with (fail)
  refine (C5.out z4 (hR.made K4.out.made)).mono ?_
  rintro e z5 ⟨rfl, hz⟩
  have K5 := Lib.hid (K4.out.next hz)
  clear hz
  go_wp2
  go_ret
  exact ⟨rfl, K5.out.made⟩
theorem walkA (W : World) (hR : SRows W) (a0 : Int) (a1 : In) (w0 : (Lit.int .u16 a0).wf = true) (w1 : a1.small) :
    Calls Tryd.prog 4 #[.int .u16 a0, a1.val] W fun e w' => e = .returned (.bool true) ∧ Made W w' :=
  walk W hR a0 a1 (u16_of_wf w0).1 (u16_of_wf w0).2 w1
end
end subTells
end Go.Proofs.YtlegoaecmkflhaaDoor
