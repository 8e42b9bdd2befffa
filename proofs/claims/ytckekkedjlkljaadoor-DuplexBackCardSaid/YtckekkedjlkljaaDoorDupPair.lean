/- What Pair of package duplex returns, for every two instructions, in every world that has grown out of one that holds the tables. -/
import Derived.Test.YtckekkedjlkljaaDoorDupFns
import Derived.Test.YtckekkedjlkljaaDoorDupHeld
namespace Go.Proofs.YtckekkedjlkljaaDoor
open Go.ChangeShapes Go.WideShapes Go.ChangeAt Go.RowKit Go.Sort BigFrame

section
attribute [local irreducible] World.cell?
set_option maxRecDepth 100000 in
set_option maxHeartbeats 4000000 in
theorem pair_any (W : World) (hT : Tabs W) (a b : In) (ha : a.small) (hb : b.small) : Makes Tryd.prog W 7 #[a.val, b.val] (.tuple #[.int .u32 (pairP a b).1, .bool (pairP a b).2]) := by
  intro w hm
  have K0 := Lib.hid ((Held.start hm).push2 a b)
  have CA := Lib.hid (fun v (hv : SRows v) => subOf_any v hv a ha v (Made.refl v))
  have CB := Lib.hid (fun v (hv : SRows v) => subOf_any v hv b hb v (Made.refl v))
  have SA := Lib.hid (fun v (hv : Names v) => isStore_any v hv a ha)
  have SB := Lib.hid (fun v (hv : Names v) => isStore_any v hv b hb)
  obtain ⟨s0, s1⟩ := subOf_0 a
  obtain ⟨t0, t1⟩ := subOf_0 b
  obtain ⟨R, hR⟩ : ∃ R, R = pairP a b := ⟨_, rfl⟩
  rewrite [← hR]
  unfold pairP at hR
  generalize subOf a = ca at *
  obtain ⟨s, oa⟩ := ca
  generalize subOf b = cb at *
  obtain ⟨t, ob⟩ := cb
  generalize storeB a = sa at *
  generalize storeB b = sb at *
  simp only [] at hR
  have HS := Lib.hid hR
  have JA := Lib.hid (fun v (hv : Pieces v) => join_any v hv s t s0 s1 t0 t1 v (Made.refl v))
  have JB := Lib.hid (fun v (hv : Pieces v) => join_any v hv t s t0 t1 s0 s1 v (Made.refl v))
  generalize dupZ s t = ja at *
  generalize dupZ t s = jb at *
  simp only [] at s0 s1 t0 t1
  clear ha hb hm hR
  go_enter Tryd.func7, Tryd.ntmps7
  go_upto_region 1 with (fail)
  refine name_world (fun v => Held W [(w.heap.size + 1, b), (w.heap.size, a)] v) K0.out ?_
  intro v hv
  have KV := Lib.hid hv
  obtain ⟨a0, a1, a2, a3, a4, a5, a6, a7, a8, a9, a10⟩ := in_cells (hv.one (b := w.heap.size) (x := a) (by simp))
  have hl := heap_lt (hv.one (b := w.heap.size) (x := a) (by simp))
  clear hv K0
  go_wp2_with (fail)
  refine (CA.out v (hT.rows.made KV.out.made)).mono ?_
  rintro e z1 ⟨rfl, hz⟩
  have K1 := Lib.hid (KV.out.next hz)
  clear hz a0 a1 a2 a3 a4 a5 a6 a7 a8 a9 a10 hl
  obtain ⟨a0, a1, a2, a3, a4, a5, a6, a7, a8, a9, a10⟩ := in_cells (K1.out.one (b := w.heap.size + 1) (x := b) (by simp))
  have hl := heap_lt (K1.out.one (b := w.heap.size + 1) (x := b) (by simp))
  go_wp2_with (fail)
  refine (CB.out z1 (hT.rows.made K1.out.made)).mono ?_
  rintro e z2 ⟨rfl, hz⟩
  have K2 := Lib.hid (K1.out.next hz)
  clear hz a0 a1 a2 a3 a4 a5 a6 a7 a8 a9 a10 hl
  go_upto_region 3 with (fail)
  obtain ⟨g0, g1, g2, g3, g4, g5, g6, g7, g8, g9, g10⟩ := in_again (K2.out.one (b := w.heap.size) (x := a) (by simp))
  obtain ⟨q0, q1, q2, q3, q4, q5, q6, q7, q8, q9, q10⟩ := in_again (K2.out.one (b := w.heap.size + 1) (x := b) (by simp))
  have DA := SA.out z2 (hT.names.made K2.out.made)
  have DB := SB.out z2 (hT.names.made K2.out.made)
  refine wp_region_quiet_below (by kernel_rfl) (by kernel_rfl) ?_
  repeat (go_big_quiet_step ((first
    | (go_at_call 17; with_reducible exact DA.again _ _)
    | (go_at_call 17; with_reducible exact DB.again _ _))))
  refine wpQuiet_nil ?_
  intro z3 hw9
  have K3 := Lib.hid (K2.out.next (made_regrown hw9))
  clear hw9 g0 g1 g2 g3 g4 g5 g6 g7 g8 g9 g10 q0 q1 q2 q3 q4 q5 q6 q7 q8 q9 q10 DA DB
  cases oa with
  | false =>
    have e1 : R = (0, false) := HS.out
    have E1 := Lib.hid e1
    obtain rfl := E1.out
    clear e1
    go_wp2
    go_ret2
    exact ⟨rfl, K3.out.made⟩
  | true =>
    cases ob with
    | false =>
      have e1 : R = (0, false) := HS.out
      have E1 := Lib.hid e1
      obtain rfl := E1.out
      clear e1
      go_wp2
      go_ret2
      exact ⟨rfl, K3.out.made⟩
    | true =>
      cases sa with
      | true =>
        cases sb with
        | true =>
          have e1 : R = (0, false) := HS.out
          have E1 := Lib.hid e1
          obtain rfl := E1.out
          clear e1
          go_wp2
          go_ret2
          exact ⟨rfl, K3.out.made⟩
        | false =>
          have e1 : R = (jb, true) := HS.out
          have E1 := Lib.hid e1
          obtain rfl := E1.out
          clear e1
          go_wp2_with (fail)
          refine (JB.out z3 (hT.pieces.made K3.out.made)).mono ?_
          rintro e z4 ⟨rfl, hz⟩
          have K4 := Lib.hid (K3.out.next hz)
          clear hz
          go_wp2
          go_ret2
          exact ⟨rfl, K4.out.made⟩
      | false =>
        cases sb with
        | true =>
          have e1 : R = (ja, true) := HS.out
          have E1 := Lib.hid e1
          obtain rfl := E1.out
          clear e1
          go_wp2_with (fail)
          refine (JA.out z3 (hT.pieces.made K3.out.made)).mono ?_
          rintro e z4 ⟨rfl, hz⟩
          have K4 := Lib.hid (K3.out.next hz)
          clear hz
          go_wp2
          go_ret2
          exact ⟨rfl, K4.out.made⟩
        | false =>
          by_cases hlt : s < t
          · have hd : decide (s < t) = true := decide_eq_true hlt
            have e1 : R = (jb, true) := by rw [HS.out, hd]; rfl
            have E1 := Lib.hid e1
            obtain rfl := E1.out
            clear e1 hlt
            go_wp2_with (fail)
            refine (JB.out z3 (hT.pieces.made K3.out.made)).mono ?_
            rintro e z4 ⟨rfl, hz⟩
            have K4 := Lib.hid (K3.out.next hz)
            clear hz
            go_wp2
            go_ret2
            exact ⟨rfl, K4.out.made⟩
          · have hd : decide (s < t) = false := decide_eq_false hlt
            have e1 : R = (ja, true) := by rw [HS.out, hd]; rfl
            have E1 := Lib.hid e1
            obtain rfl := E1.out
            clear e1 hlt
            go_wp2_with (fail)
            refine (JA.out z3 (hT.pieces.made K3.out.made)).mono ?_
            rintro e z4 ⟨rfl, hz⟩
            have K4 := Lib.hid (K3.out.next hz)
            clear hz
            go_wp2
            go_ret2
            exact ⟨rfl, K4.out.made⟩
end
end Go.Proofs.YtckekkedjlkljaaDoor
