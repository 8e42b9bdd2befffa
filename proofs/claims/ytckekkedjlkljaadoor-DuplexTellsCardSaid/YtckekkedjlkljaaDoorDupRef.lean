/- What halves, store, join and Pair of the document's answer for duplexes return, for every argument, in every world. Written by wip/tools/gen_dupref.py. -/
import Derived.Test.YtckekkedjlkljaaDoorDupMath
import Derived.Test.YtckekkedjlkljaaDoorDupHeld
import Derived.Test.YtckekkedjlkljaaDoorSubRefO
namespace Go.Proofs.YtckekkedjlkljaaDoor
open Go.ChangeShapes Go.WideShapes Go.ChangeAt Go.RowKit Go.Sort BigFrame

theorem ret3 {a b c a' b' c' : Int} (ha : a = a') (hb : b = b') (hc : c = c') : Ending.returned (.tuple #[.int .i64 a, .int .i64 b, .int .i64 c]) = Ending.returned (.tuple #[.int .i64 a', .int .i64 b', .int .i64 c']) := by
  subst ha; subst hb; subst hc; rfl
theorem halves8_any (c : Int) (hc : isU32 c) : Still Tryd.prog 21 #[.int .u32 c] (.tuple #[.int .i64 (highZ c), .int .i64 (lowZ c), .int .i64 (parseZ c)]) := by
  intro w
  obtain ⟨c0, c1⟩ := hc
  have hA : highZ c = (c / 65536 * 16384 + c % 65536 % 16384) / 32768 := by rw [high_eq]; unfold thirtyZ; omega
  have hB : lowZ c = (c / 65536 * 16384 + c % 65536 % 16384) % 32768 := by rw [low_eq]; unfold thirtyZ; omega
  have hC : parseZ c = c % 65536 / 16384 := by unfold parseZ; omega
  have HA := Lib.hid (And.intro hA (And.intro hB hC))
  clear hA hB hC
  go_enter Tryd.func21, Tryd.ntmps21
  go_wp2
  go_ret3
  refine ⟨ret3 ?_ ?_ ?_, rfl⟩
  · rw [HA.out.1]; omega
  · rw [HA.out.2.1]; omega
  · rw [HA.out.2.2]
theorem join8_any (u l : Int) (u0 : 0 ≤ u) (u1 : u < 32768) (l0 : 0 ≤ l) (l1 : l < 32768) : Still Tryd.prog 25 #[.int .i64 u, .int .i64 l] (.int .u32 (dupZ u l)) := by
  intro w
  have hd : dupZ u l = (u * 32768 + l) / 16384 * 65536 + (u * 32768 + l) % 16384 := by
    unfold dupZ
    rw [p15]
    unfold fromThirtyZ
    omega
  have HD := Lib.hid hd
  clear hd
  go_enter Tryd.func25, Tryd.ntmps25
  go_wp2
  go_ret
  exact ⟨ret_int (by rw [HD.out]), rfl⟩
section
attribute [local irreducible] World.cell?
set_option maxHeartbeats 1000000 in
theorem store8_any (W : World) (x : In) (hx : x.small) : Makes Tryd.prog W 23 #[x.val] (.bool (storeB x)) := by
  intro w hm
  have hz := hm.size
  have K0 := Lib.hid (show Own W w.heap.size x (w.alloc (.cells x.cells.toArray 24)) from ⟨hm.alloc hz _, heap_alloc_new w _⟩)
  rewrite [storeB_doc x hx]
  clear hx hm
  go_enter Tryd.func23, Tryd.ntmps23
  go_upto_region 1 with (fail)
  refine name_world (fun v => Own W w.heap.size x v) K0.out ?_
  intro v hv
  have KV := Lib.hid hv
  obtain ⟨a0, -⟩ := in_cells hv.in_
  have hl := heap_lt hv.in_
  clear hv K0

  cases h1 : decide (24 ≤ x.op) with
  | false =>
    have H1 := Lib.hid h1
    go_wp2
    go_ret
    exact ⟨ret_bool (by rw [H1.out]; rfl), KV.out.made⟩
  | true =>
    have H1 := Lib.hid h1
    go_wp2
    go_ret
    exact ⟨ret_bool (by rw [H1.out]; rfl), KV.out.made⟩
set_option maxRecDepth 100000 in
set_option maxHeartbeats 4000000 in
theorem pair8_any (W : World) (a b : In) (ha : a.small) (hb : b.small) : Makes Tryd.prog W 13 #[a.val, b.val] (.tuple #[.int .u32 (pairP a b).1, .bool (pairP a b).2]) := by
  intro w hm
  have K0 := Lib.hid ((Held.start hm).push2 a b)
  have CA := Lib.hid (fun v => refOf7_any v a v (Made.refl v))
  have CB := Lib.hid (fun v => refOf7_any v b v (Made.refl v))
  have SA := Lib.hid (fun v => store8_any v a ha v (Made.refl v))
  have SB := Lib.hid (fun v => store8_any v b hb v (Made.refl v))
  obtain ⟨s0, s1⟩ := subOf_0 a
  obtain ⟨t0, t1⟩ := subOf_0 b
  obtain ⟨R, hR⟩ : ∃ R, R = pairP a b := ⟨_, rfl⟩
  rewrite [← hR]
  unfold pairP at hR
  generalize subOf a = ca at *
  obtain ⟨s, oa⟩ := ca
  generalize subOf b = cb at *
  obtain ⟨t, ob⟩ := cb
  generalize storeB a = sa at *
  generalize storeB b = sb at *
  simp only [] at hR
  have HS := Lib.hid hR
  have JA := Lib.hid (fun v => join8_any s t s0 s1 t0 t1 v)
  have JB := Lib.hid (fun v => join8_any t s t0 t1 s0 s1 v)
  generalize dupZ s t = ja at *
  generalize dupZ t s = jb at *
  simp only [] at s0 s1 t0 t1
  clear ha hb hm hR
  go_enter Tryd.func13, Tryd.ntmps13
  go_upto_region 1 with (fail)
  refine name_world (fun v => Held W [(w.heap.size + 1, b), (w.heap.size, a)] v) K0.out ?_
  intro v hv
  have KV := Lib.hid hv
  clear hv K0
  obtain ⟨a0, a1, a2, a3, a4, a5, a6, a7, a8, a9, a10⟩ := in_cells (KV.out.one (b := w.heap.size) (x := a) (by simp))
  have hl := heap_lt (KV.out.one (b := w.heap.size) (x := a) (by simp))
  go_wp2_with (fail)
  refine (CA.out v).mono ?_
  rintro e z1 ⟨rfl, hz⟩
  have K1 := Lib.hid (KV.out.next hz)
  clear hz a0 a1 a2 a3 a4 a5 a6 a7 a8 a9 a10 hl
  obtain ⟨a0, a1, a2, a3, a4, a5, a6, a7, a8, a9, a10⟩ := in_cells (K1.out.one (b := w.heap.size + 1) (x := b) (by simp))
  have hl := heap_lt (K1.out.one (b := w.heap.size + 1) (x := b) (by simp))
  go_wp2_with (fail)
  refine (CB.out z1).mono ?_
  rintro e z2 ⟨rfl, hz⟩
  have K2 := Lib.hid (K1.out.next hz)
  clear hz a0 a1 a2 a3 a4 a5 a6 a7 a8 a9 a10 hl
  cases oa with
  | false =>
    have e1 : R = (0, false) := HS.out
    have E1 := Lib.hid e1
    obtain rfl := E1.out
    clear e1
    go_wp2
    go_ret2
    exact ⟨rfl, K2.out.made⟩
  | true =>
    cases ob with
    | false =>
      have e1 : R = (0, false) := HS.out
      have E1 := Lib.hid e1
      obtain rfl := E1.out
      clear e1
      go_wp2
      go_ret2
      exact ⟨rfl, K2.out.made⟩
    | true =>
      obtain ⟨a0, a1, a2, a3, a4, a5, a6, a7, a8, a9, a10⟩ := in_cells (K2.out.one (b := w.heap.size) (x := a) (by simp))
      have hl := heap_lt (K2.out.one (b := w.heap.size) (x := a) (by simp))
      go_wp2_with (fail)
      refine (SA.out z2).mono ?_
      rintro e z3 ⟨rfl, hz⟩
      have K3 := Lib.hid (K2.out.next hz)
      clear hz a0 a1 a2 a3 a4 a5 a6 a7 a8 a9 a10 hl
      cases sa with
      | true =>
        obtain ⟨a0, a1, a2, a3, a4, a5, a6, a7, a8, a9, a10⟩ := in_cells (K3.out.one (b := w.heap.size + 1) (x := b) (by simp))
        have hl := heap_lt (K3.out.one (b := w.heap.size + 1) (x := b) (by simp))
        go_wp2_with (fail)
        refine (SB.out z3).mono ?_
        rintro e z4 ⟨rfl, hz⟩
        have K4 := Lib.hid (K3.out.next hz)
        clear hz a0 a1 a2 a3 a4 a5 a6 a7 a8 a9 a10 hl
        cases sb with
        | true =>
          have e1 : R = (0, false) := HS.out
          have E1 := Lib.hid e1
          obtain rfl := E1.out
          clear e1
          go_wp2
          go_ret2
          exact ⟨rfl, K4.out.made⟩
        | false =>
          have e1 : R = (jb, true) := HS.out
          have E1 := Lib.hid e1
          obtain rfl := E1.out
          clear e1
          obtain ⟨a0, a1, a2, a3, a4, a5, a6, a7, a8, a9, a10⟩ := in_cells (K4.out.one (b := w.heap.size) (x := a) (by simp))
          have hl := heap_lt (K4.out.one (b := w.heap.size) (x := a) (by simp))
          go_wp2_with (fail)
          refine (SA.out z4).mono ?_
          rintro e z5 ⟨rfl, hz⟩
          have K5 := Lib.hid (K4.out.next hz)
          clear hz a0 a1 a2 a3 a4 a5 a6 a7 a8 a9 a10 hl
          go_wp2_with (fail)
          refine (JB.out z5).mono ?_
          rintro e z6 ⟨rfl, rfl⟩
          go_wp2
          go_ret2
          exact ⟨rfl, K5.out.made⟩
      | false =>
        obtain ⟨a0, a1, a2, a3, a4, a5, a6, a7, a8, a9, a10⟩ := in_cells (K3.out.one (b := w.heap.size) (x := a) (by simp))
        have hl := heap_lt (K3.out.one (b := w.heap.size) (x := a) (by simp))
        go_wp2_with (fail)
        refine (SA.out z3).mono ?_
        rintro e z4 ⟨rfl, hz⟩
        have K4 := Lib.hid (K3.out.next hz)
        clear hz a0 a1 a2 a3 a4 a5 a6 a7 a8 a9 a10 hl
        obtain ⟨a0, a1, a2, a3, a4, a5, a6, a7, a8, a9, a10⟩ := in_cells (K4.out.one (b := w.heap.size + 1) (x := b) (by simp))
        have hl := heap_lt (K4.out.one (b := w.heap.size + 1) (x := b) (by simp))
        go_wp2_with (fail)
        refine (SB.out z4).mono ?_
        rintro e z5 ⟨rfl, hz⟩
        have K5 := Lib.hid (K4.out.next hz)
        clear hz a0 a1 a2 a3 a4 a5 a6 a7 a8 a9 a10 hl
        cases sb with
        | true =>
          have e1 : R = (ja, true) := HS.out
          have E1 := Lib.hid e1
          obtain rfl := E1.out
          clear e1
          go_wp2_with (fail)
          refine (JA.out z5).mono ?_
          rintro e z6 ⟨rfl, rfl⟩
          go_wp2
          go_ret2
          exact ⟨rfl, K5.out.made⟩
        | false =>
          by_cases hlt : s < t
          · have hd : decide (s < t) = true := decide_eq_true hlt
            have hd2 : decide (t ≤ s) = false := decide_eq_false (by omega)
            have e1 : R = (jb, true) := by rw [HS.out, hd]; rfl
            have E1 := Lib.hid e1
            obtain rfl := E1.out
            clear e1
            clear hlt
            go_wp2_with (fail)
            refine (JB.out z5).mono ?_
            rintro e z6 ⟨rfl, rfl⟩
            go_wp2
            go_ret2
            exact ⟨rfl, K5.out.made⟩
          · have hd : decide (s < t) = false := decide_eq_false hlt
            have hd2 : decide (t ≤ s) = true := decide_eq_true (by omega)
            have e1 : R = (ja, true) := by rw [HS.out, hd]; rfl
            have E1 := Lib.hid e1
            obtain rfl := E1.out
            clear e1
            clear hlt
            go_wp2_with (fail)
            refine (JA.out z5).mono ?_
            rintro e z6 ⟨rfl, rfl⟩
            go_wp2
            go_ret2
            exact ⟨rfl, K5.out.made⟩
end
end Go.Proofs.YtckekkedjlkljaaDoor
