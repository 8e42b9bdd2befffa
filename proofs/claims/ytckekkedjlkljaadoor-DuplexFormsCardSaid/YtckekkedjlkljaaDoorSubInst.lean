/- What Inst and Of of package sub return, for every number and instruction, in every world that has grown out of one that holds the table of small instructions. -/
import Derived.Test.YtckekkedjlkljaaDoorSubWrite
import Derived.Test.YtckekkedjlkljaaDoorSubRead
import Derived.Test.YtckekkedjlkljaaDoorInstEq
namespace Go.Proofs.YtckekkedjlkljaaDoor
open Go.ChangeShapes Go.WideShapes Go.ChangeAt Go.RowKit Go.Sort BigFrame

/-- The result's block and the row's. -/
structure ResRow (W : World) (b c : Nat) (r : SRow) (w : World) : Prop where
  made : Made W w
  res : InAt w b inZero
  row : SRowAt w c r
theorem ResRow.next {W w w' : World} {b c : Nat} {r : SRow} (h : ResRow W b c r w) (hm : Made w w') : ResRow W b c r w' := ⟨Made.trans h.made hm, Made.heap hm h.res, Made.heap hm h.row⟩
/-- The result's block and the instruction's. -/
structure ResIn (W : World) (b c : Nat) (y : In) (w : World) : Prop where
  made : Made W w
  res : InAt w b inZero
  in_ : InAt w c y
theorem ResIn.next {W w w' : World} {b c : Nat} {y : In} (h : ResIn W b c y w) (hm : Made w w') : ResIn W b c y w' := ⟨Made.trans h.made hm, Made.heap hm h.res, Made.heap hm h.in_⟩
theorem rStep_low (wd p m : Int) (y : In) (h : -20 ≤ p ∧ p ≤ 20) : -24 ≤ (rStep wd (p, y) m).1 ∧ (rStep wd (p, y) m).1 ≤ 20 := by
  unfold rStep
  split <;> simp only [] <;> omega
theorem readZ_low (r : SRow) (wd : Int) (h : r.ok) : isI (readZ r wd).2 := by
  have h1 : 7 ≤ (rStep wd (11, opIn r.op) r.m1).1 ∧ (rStep wd (11, opIn r.op) r.m1).1 ≤ 11 := by
    unfold rStep; split <;> simp only [] <;> omega
  have h2 : (readZ r wd).2 = (rStep wd (rStep wd (11, opIn r.op) r.m1) r.m2).1 - r.n := rfl
  have h3 : -24 ≤ (rStep wd (rStep wd (11, opIn r.op) r.m1) r.m2).1 ∧ (rStep wd (rStep wd (11, opIn r.op) r.m1) r.m2).1 ≤ 20 := rStep_low wd (rStep wd (11, opIn r.op) r.m1).1 r.m2 (rStep wd (11, opIn r.op) r.m1).2 (by omega)
  have h4 := h.n
  rw [h2]
  exact ⟨by omega, by omega⟩
section
attribute [local irreducible] World.cell?
set_option maxRecDepth 100000 in
set_option maxHeartbeats 4000000 in
theorem subInst_any (W : World) (hR : SRows W) (s : Int) (h0 : 0 ≤ s) (h1 : s < 65536) : Makes Tryd.prog W 20 #[.int .u16 s] (.tuple #[(subInst s).1.val, .bool (subInst s).2]) := by
  intro w hm
  have hz := hm.size
  have hu : isU32 s := ⟨h0, by omega⟩
  have hget := Lib.hid (get_any s 11 5 hu ⟨by decide, by decide⟩)
  have hres : InAt (w.alloc (.cells inZero.cells.toArray 24)) w.heap.size inZero := heap_alloc_new w _
  have M0 := Lib.hid (And.intro (hm.alloc hz (.cells inZero.cells.toArray 24)) hres)
  obtain ⟨R, hRR⟩ : ∃ R, R = subInst s := ⟨_, rfl⟩
  rewrite [← hRR]
  unfold subInst at hRR
  have hok := byCode_ok (getZ s 11 5) srows srows_ok
  have hrow := Lib.hid (fun v (hv : SRows v) => rowOfCode_any v hv (getZ s 11 5) v (Made.refl v))
  generalize getZ s 11 5 = c at *
  generalize hb : byCode c srows = rb at *
  obtain ⟨r, ok⟩ := rb
  have HRR := Lib.hid hRR
  have HOK := Lib.hid hok
  clear hRR hok hb hres hm
  go_enter Tryd.func20, Tryd.ntmps20
  go_wp2_with (fail)
  refine (hget.out _).mono ?_
  rintro e z ⟨rfl, nd, hz1⟩
  have KZ := Lib.hid (And.intro (hz1 ▸ below_drewN M0.out.1 nd : Made W z) (Made.heap (hz1 ▸ below_drewN (Made.refl _) nd) M0.out.2))
  clear hz1 M0
  go_wp2_with (fail)
  refine (hrow.out z (hR.made KZ.out.1)).mono ?_
  rintro e z1 ⟨rfl, hz1⟩
  have KR : ResRow W w.heap.size z1.heap.size r (z1.alloc (.cells r.cells.toArray 54)) := by
    have h2 := (Made.refl z1).alloc (Nat.le_refl _) (.cells r.cells.toArray 54)
    exact ⟨Made.trans KZ.out.1 (Made.trans hz1 h2), Made.heap h2 (Made.heap hz1 KZ.out.2), heap_alloc_new z1 _⟩
  have K1 := Lib.hid KR
  clear hz1 KR KZ
  go_upto_region 3 with (fail)
  refine name_world (fun v => ResRow W w.heap.size z1.heap.size r v) K1.out ?_
  intro v hv
  have KV := Lib.hid hv
  obtain ⟨q0, q1, q2, q3, q4, q5, q6⟩ := srow_cells hv.row
  obtain ⟨a0, a1, a2, a3, a4, a5, a6, a7, a8, a9, a10⟩ := in_cells hv.res
  have fz := free_of_lit hv.res
  have hl := heap_lt hv.res
  have hl2 := heap_lt hv.row
  clear hv K1
  cases ok with
  | false =>
    have e1 : R = (inZero, false) := HRR.out
    have E1 := Lib.hid e1
    obtain rfl := E1.out
    clear e1
    go_wp2
    refine bodyPost_ret (v := .tuple #[inZero.val, .bool false]) (by simp [results, Tryd.results20, go_sem, a0, a1, a2, a3, a4, a5, a6, a7, a8, a9, a10, inZero]) rfl ?_
    exact ⟨rfl, made_set11b KV.out.made hz _ _ _ _ _ _ _ _ _ _ _⟩
  | true =>
    have e1 : R = if getZ s 0 (readZ r s).2 = 0 then ((readZ r s).1, true) else (inZero, false) := HRR.out
    have hrd := Lib.hid (read_any v r HOK.out s hu v (Made.refl v))
    have hlo := readZ_low r s HOK.out
    generalize readZ r s = yl at *
    obtain ⟨y, low⟩ := yl
    have hg2 := Lib.hid (get_any s 0 low hu hlo)
    simp only [] at e1
    generalize getZ s 0 low = g at *
    have E1 := Lib.hid e1
    clear e1
    go_wp2_with (fail)
    refine hrd.out.mono ?_
    rintro e z2 ⟨rfl, hz2⟩
    have KI : ResIn W w.heap.size z2.heap.size y (z2.alloc (.cells y.cells.toArray 24)) := by
      have h2 := (Made.refl z2).alloc (Nat.le_refl _) (.cells y.cells.toArray 24)
      exact ⟨Made.trans KV.out.made (Made.trans hz2 h2), Made.heap h2 (Made.heap hz2 KV.out.res), heap_alloc_new z2 _⟩
    have K2 := Lib.hid KI
    clear KI hz2 q0 q1 q2 q3 q4 q5 q6 a0 a1 a2 a3 a4 a5 a6 a7 a8 a9 a10 fz hl hl2
    go_upto_region 6 with (fail)
    refine name_world (fun v => ResIn W w.heap.size z2.heap.size y v) K2.out ?_
    intro v2 hv
    have KV2 := Lib.hid hv
    clear hv K2
    go_wp2_with (fail)
    refine (hg2.out _).mono ?_
    rintro e z3 ⟨rfl, nd3, hz3⟩
    have K3 := Lib.hid (KV2.out.next (hz3 ▸ below_drewN (Made.refl v2) nd3))
    clear hz3
    obtain ⟨b0, b1, b2, b3, b4, b5, b6, b7, b8, b9, b10⟩ := in_cells K3.out.in_
    obtain ⟨a0, a1, a2, a3, a4, a5, a6, a7, a8, a9, a10⟩ := in_cells K3.out.res
    have fz := free_of_lit K3.out.res
    have hl := heap_lt K3.out.res
    have hl2 := heap_lt K3.out.in_
    by_cases hg0 : g = 0
    · have e2 : R = (y, true) := by rw [E1.out, if_pos hg0]
      have E2 := Lib.hid e2
      have hn : (g != 0) = false := by simpa using hg0
      obtain rfl := E2.out
      clear e2 hg0
      go_wp2
      refine bodyPost_ret (v := .tuple #[y.val, .bool true]) (by simp [results, Tryd.results20, go_sem, a0, a1, a2, a3, a4, a5, a6, a7, a8, a9, a10]) rfl ?_
      exact ⟨rfl, made_set11b K3.out.made hz _ _ _ _ _ _ _ _ _ _ _⟩
    · have e2 : R = (inZero, false) := by rw [E1.out, if_neg hg0]
      have E2 := Lib.hid e2
      have hn : (g != 0) = true := by simpa using hg0
      obtain rfl := E2.out
      clear e2 hg0
      go_wp2
      refine bodyPost_ret (v := .tuple #[inZero.val, .bool false]) (by simp [results, Tryd.results20, go_sem, a0, a1, a2, a3, a4, a5, a6, a7, a8, a9, a10, inZero]) rfl ?_
      exact ⟨rfl, made_set11b K3.out.made hz _ _ _ _ _ _ _ _ _ _ _⟩
end
set_option maxHeartbeats 1000000 in
theorem run_in_neql (y z : In) (w : World) : (binOp .neq 24 y.val z.val).run Tryd.prog w = .ok (.bool (!decide (y = z))) w := by
  obtain ⟨y0, y1, y2, y3, y4, y5, y6, y7, y8, y9, y10⟩ := y
  obtain ⟨z0, z1, z2, z3, z4, z5, z6, z7, z8, z9, z10⟩ := z
  by_cases h0 : y0 = z0
  rotate_left
  · simp [go_sem, h0]
  subst h0
  by_cases h1 : y1 = z1
  rotate_left
  · simp [go_sem, h1]
  subst h1
  by_cases h2 : y2 = z2
  rotate_left
  · simp [go_sem, h2]
  subst h2
  by_cases h3 : y3 = z3
  rotate_left
  · simp [go_sem, h3]
  subst h3
  by_cases h4 : y4 = z4
  rotate_left
  · simp [go_sem, h4]
  subst h4
  by_cases h5 : y5 = z5
  rotate_left
  · simp [go_sem, h5]
  subst h5
  by_cases h6 : y6 = z6
  rotate_left
  · simp [go_sem, h6]
  subst h6
  by_cases h7 : y7 = z7
  rotate_left
  · simp [go_sem, h7]
  subst h7
  by_cases h8 : y8 = z8
  rotate_left
  · simp [go_sem, h8]
  subst h8
  by_cases h9 : y9 = z9
  rotate_left
  · simp [go_sem, h9]
  subst h9
  by_cases h10 : y10 = z10
  rotate_left
  · simp [go_sem, h10]
  subst h10
  simp [go_sem]
/-- The row's block and the instruction's. -/
structure RowIn (W : World) (b c : Nat) (x : In) (r : SRow) (w : World) : Prop where
  made : Made W w
  in_ : InAt w b x
  row : SRowAt w c r
theorem RowIn.next {W w w' : World} {b c : Nat} {x : In} {r : SRow} (h : RowIn W b c x r w) (hm : Made w w') : RowIn W b c x r w' := ⟨Made.trans h.made hm, Made.heap hm h.in_, Made.heap hm h.row⟩
/-- Two instructions. -/
structure TwoIn (W : World) (b c : Nat) (x y : In) (w : World) : Prop where
  made : Made W w
  in_ : InAt w b x
  out_ : InAt w c y
theorem TwoIn.next {W w w' : World} {b c : Nat} {x y : In} (h : TwoIn W b c x y w) (hm : Made w w') : TwoIn W b c x y w' := ⟨Made.trans h.made hm, Made.heap hm h.in_, Made.heap hm h.out_⟩
section
attribute [local irreducible] World.cell?
set_option maxRecDepth 100000 in
set_option maxHeartbeats 4000000 in
theorem subOf_any (W : World) (hR : SRows W) (x : In) (hx : x.small) : Makes Tryd.prog W 15 #[x.val] (.tuple #[.int .u16 (subOf x).1, .bool (subOf x).2]) := by
  intro w hm
  have hz := hm.size
  have hin : InAt (w.alloc (.cells x.cells.toArray 24)) w.heap.size x := heap_alloc_new w _
  have K0 := Lib.hid (And.intro (hm.alloc hz (.cells x.cells.toArray 24)) hin)
  obtain ⟨R, hRR⟩ : ∃ R, R = subOf x := ⟨_, rfl⟩
  rewrite [← hRR]
  unfold subOf at hRR
  have hok := byOp_ok x.op srows srows_ok
  have hrow := Lib.hid (fun v (hv : SRows v) => rowOfOp_any v hv x.op v (Made.refl v))
  generalize byOp x.op srows = rb at *
  obtain ⟨r, ok⟩ := rb
  have HX := Lib.hid hx
  have HRR := Lib.hid hRR
  have HOK := Lib.hid hok
  clear hRR hok hm hin hx
  go_enter Tryd.func15, Tryd.ntmps15
  go_upto_region 1 with (fail)
  refine name_world (fun v => Made W v ∧ InAt v w.heap.size x) K0.out ?_
  rintro v ⟨hv, hi⟩
  have KV := Lib.hid (And.intro hv hi)
  obtain ⟨a0, a1, a2, a3, a4, a5, a6, a7, a8, a9, a10⟩ := in_cells hi
  have hl := heap_lt hi
  clear hv hi K0
  go_wp2_with (fail)
  refine (hrow.out v (hR.made KV.out.1)).mono ?_
  rintro e z1 ⟨rfl, hz1⟩
  have K1 := Lib.hid (show RowIn W w.heap.size z1.heap.size x r (z1.alloc (.cells r.cells.toArray 54)) from
    have h2 := (Made.refl z1).alloc (Nat.le_refl _) (.cells r.cells.toArray 54)
    ⟨Made.trans KV.out.1 (Made.trans hz1 h2), Made.heap h2 (Made.heap hz1 KV.out.2), heap_alloc_new z1 _⟩)
  clear hz1 a0 a1 a2 a3 a4 a5 a6 a7 a8 a9 a10 hl
  go_upto_region 2 with (fail)
  refine name_world (fun v => RowIn W w.heap.size z1.heap.size x r v) K1.out ?_
  intro v1 hv
  have KV1 := Lib.hid hv
  obtain ⟨q0, q1, q2, q3, q4, q5, q6⟩ := srow_cells hv.row
  obtain ⟨a0, a1, a2, a3, a4, a5, a6, a7, a8, a9, a10⟩ := in_cells hv.in_
  have hl := heap_lt hv.in_
  have hl2 := heap_lt hv.row
  clear hv K1 KV
  cases ok with
  | false =>
    have e1 : R = (0, false) := HRR.out
    have E1 := Lib.hid e1
    obtain rfl := E1.out
    clear e1
    go_wp2
    go_ret2
    exact ⟨rfl, KV1.out.made⟩
  | true =>
    have e1 : R = if (subInst (writeZ r x)).1 = x then (writeZ r x, true) else (0, false) := HRR.out
    have hwr := Lib.hid (write_any v1 r HOK.out x HX.out v1 (Made.refl v1))
    have hwb := writeZ_u16 r x
    generalize writeZ r x = s at *
    have hins := Lib.hid (fun v (hv : SRows v) => subInst_any v hv s hwb.1 hwb.2 v (Made.refl v))
    generalize subInst s = yo at *
    obtain ⟨y, o⟩ := yo
    have E1 := Lib.hid e1
    clear e1
    go_wp2_with (fail)
    refine hwr.out.mono ?_
    rintro e z2 ⟨rfl, hz2⟩
    have K2 := Lib.hid (KV1.out.next hz2)
    clear hz2 q0 q1 q2 q3 q4 q5 q6 a0 a1 a2 a3 a4 a5 a6 a7 a8 a9 a10 hl hl2
    go_wp2_with (fail)
    refine (hins.out z2 (hR.made K2.out.made)).mono ?_
    rintro e z3 ⟨rfl, hz3⟩
    have K3 := Lib.hid (show TwoIn W w.heap.size z3.heap.size x y (z3.alloc (.cells y.cells.toArray 24)) from
      have h2 := (Made.refl z3).alloc (Nat.le_refl _) (.cells y.cells.toArray 24)
      ⟨Made.trans K2.out.made (Made.trans hz3 h2), Made.heap h2 (Made.heap hz3 K2.out.in_), heap_alloc_new z3 _⟩)
    clear hz3
    go_upto_region 6 with (fail)
    refine name_world (fun v => TwoIn W w.heap.size z3.heap.size x y v) K3.out ?_
    intro v3 hv
    have KV3 := Lib.hid hv
    obtain ⟨a0, a1, a2, a3, a4, a5, a6, a7, a8, a9, a10⟩ := in_cells hv.in_
    obtain ⟨b0, b1, b2, b3, b4, b5, b6, b7, b8, b9, b10⟩ := in_cells hv.out_
    have hl := heap_lt hv.in_
    have hl2 := heap_lt hv.out_
    have hop := fun w => run_in_neql y x w
    clear hv K3
    by_cases hyx : y = x
    · have e2 : R = (s, true) := by rw [E1.out, if_pos hyx]
      have E2 := Lib.hid e2
      have hd : decide (y = x) = true := decide_eq_true hyx
      obtain rfl := E2.out
      clear e2 hyx
      go_wp2
      go_ret2
      exact ⟨rfl, KV3.out.made⟩
    · have e2 : R = (0, false) := by rw [E1.out, if_neg hyx]
      have E2 := Lib.hid e2
      have hd : decide (y = x) = false := decide_eq_false hyx
      obtain rfl := E2.out
      clear e2 hyx
      go_wp2
      go_ret2
      exact ⟨rfl, KV3.out.made⟩
end
end Go.Proofs.YtckekkedjlkljaaDoor
