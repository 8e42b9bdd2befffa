/- What power, Get and put of the document's answer return, for every instruction and kind of field. Written by wip/tools/gen_encpieces.py. -/
import Derived.Test.YtjeemiabddblhaaDoorEncInst
import Derived.Test.YtjeemiabddblhaaDoorExtRef
namespace Go.Proofs.YtjeemiabddblhaaDoor
open Go.ChangeShapes Go.WideShapes Go.ChangeAt Go.RowKit Go.Sort BigFrame

/-- The letter of a kind of field. -/
def letterZ (k : Int) : Int := if k = 1 then 109 else if k = 2 then 112 else if k = 3 then 100 else if k = 4 then 113 else if k = 5 then 115 else if k = 6 then 116 else if k = 7 then 110 else if k = 8 then 119 else if k = 9 then 118 else if k = 10 then 118 else if k = 11 then 99 else 0
theorem power_any (n : Int) (h0 : 0 ≤ n) (h1 : n ≤ 32) : Still Tryd.prog 29 #[.int .i64 n] (.int .i64 (2 ^ n.toNat)) := by
  intro w
  obtain ⟨N, rfl⟩ := Int.eq_ofNat_of_zero_le h0
  rw [Int.toNat_natCast]
  go_enter Tryd.func29, Tryd.ntmps29
  go_wp2
  go_loop [3, 4] (fun x i => ∃ (j : Nat) (X : Int), j ≤ N ∧ i = .int .i64 j ∧ x = .int .i64 X ∧ X = 2 ^ j) (fun _ i => N - (intOf i).toNat)
  case atStart => exact ⟨0, 1, by omega, rfl, rfl, rfl⟩
  case round =>
    obtain ⟨j, X, hj, rfl, rfl, hX⟩ := hrel
    have hX2 : 1 ≤ X ∧ X ≤ 4294967296 := by rw [hX]; exact pow_le_of j (by omega)
    obtain ⟨hX3, hX4⟩ := hX2
    by_cases hl : j < N
    · have e1 : (2 : Int) ^ (j + 1) = 2 * X := by rw [Int.pow_succ, hX]; omega
      have E1 := Lib.hid e1
      clear e1 hX
      go_wp2
      go_round
      case rel => exact ⟨j + 1, 2 * X, by omega, by go_num, by go_num, E1.out.symm⟩
      case measure => simp [intOf] <;> omega
    · obtain rfl : j = N := by omega
      have HX := Lib.hid hX
      clear hX
      go_wp2
      go_ret
      exact ⟨ret_int HX.out, rfl⟩
section
attribute [local irreducible] World.cell?
set_option maxHeartbeats 4000000 in
theorem refGet6_any (W : World) (x : In) (hx : x.small) (k : Int) (h0 : 1 ≤ k) (h1 : k ≤ 11) : Makes Tryd.prog W 28 #[x.val, .int .u8 (letterZ k)] (.int .u32 (numZ x k)) := by
  intro w hm
  have hz := hm.size
  have M := Lib.hid (hm.alloc hz (.cells x.cells.toArray 24))
  have mode0 := hx.mode0
  have mode1 := hx.mode1
  have pred0 := hx.pred0
  have pred1 := hx.pred1
  have d0 := hx.d0
  have d1 := hx.d1
  have s0 := hx.s0
  have s1 := hx.s1
  have t0 := hx.t0
  have t1 := hx.t1
  have n0 := hx.n0
  have n1 := hx.n1
  have count0 := hx.count0
  have count1 := hx.count1
  clear hx hm
  obtain ⟨xo, xd, xs, xt, xn, xp, xm, xw, xe, xc, xi⟩ := x
  have hc : k = 1 ∨ k = 2 ∨ k = 3 ∨ k = 4 ∨ k = 5 ∨ k = 6 ∨ k = 7 ∨ k = 8 ∨ k = 9 ∨ k = 10 ∨ k = 11 := by omega
  clear h0 h1
  rcases hc with rfl | rfl | rfl | rfl | rfl | rfl | rfl | rfl | rfl | rfl | rfl
  case inl =>
    rewrite [show letterZ 1 = 109 from rfl]
    go_enter Tryd.func28, Tryd.ntmps28
    go_wp2
    go_ret
    refine ⟨ret_int ?_, M.out⟩
    exact Int.emod_eq_of_lt (by omega) (by omega)
  case inr.inl =>
    rewrite [show letterZ 2 = 112 from rfl]
    go_enter Tryd.func28, Tryd.ntmps28
    go_wp2
    go_ret
    refine ⟨ret_int ?_, M.out⟩
    exact Int.emod_eq_of_lt (by omega) (by omega)
  case inr.inr.inl =>
    rewrite [show letterZ 3 = 100 from rfl]
    go_enter Tryd.func28, Tryd.ntmps28
    go_wp2
    go_ret
    refine ⟨ret_int ?_, M.out⟩
    exact Int.emod_eq_of_lt (by omega) (by omega)
  case inr.inr.inr.inl =>
    rewrite [show letterZ 4 = 113 from rfl]
    go_enter Tryd.func28, Tryd.ntmps28
    go_wp2
    go_ret
    refine ⟨ret_int ?_, M.out⟩
    exact Int.emod_eq_of_lt (by omega) (by omega)
  case inr.inr.inr.inr.inl =>
    rewrite [show letterZ 5 = 115 from rfl]
    go_enter Tryd.func28, Tryd.ntmps28
    go_wp2
    go_ret
    refine ⟨ret_int ?_, M.out⟩
    exact Int.emod_eq_of_lt (by omega) (by omega)
  case inr.inr.inr.inr.inr.inl =>
    rewrite [show letterZ 6 = 116 from rfl]
    go_enter Tryd.func28, Tryd.ntmps28
    go_wp2
    go_ret
    refine ⟨ret_int ?_, M.out⟩
    exact Int.emod_eq_of_lt (by omega) (by omega)
  case inr.inr.inr.inr.inr.inr.inl =>
    rewrite [show letterZ 7 = 110 from rfl]
    go_enter Tryd.func28, Tryd.ntmps28
    go_wp2
    go_ret
    refine ⟨ret_int ?_, M.out⟩
    exact Int.emod_eq_of_lt (by omega) (by omega)
  case inr.inr.inr.inr.inr.inr.inr.inl =>
    cases xw
    all_goals
      rewrite [show letterZ 8 = 119 from rfl]
      go_enter Tryd.func28, Tryd.ntmps28
      go_wp2
      go_ret
      exact ⟨rfl, M.out⟩
  case inr.inr.inr.inr.inr.inr.inr.inr.inl =>
    rewrite [show letterZ 9 = 118 from rfl]
    go_enter Tryd.func28, Tryd.ntmps28
    go_wp2
    go_ret
    exact ⟨rfl, M.out⟩
  case inr.inr.inr.inr.inr.inr.inr.inr.inr.inl =>
    rewrite [show letterZ 10 = 118 from rfl]
    go_enter Tryd.func28, Tryd.ntmps28
    go_wp2
    go_ret
    exact ⟨rfl, M.out⟩
  case inr.inr.inr.inr.inr.inr.inr.inr.inr.inr =>
    rewrite [show letterZ 11 = 99 from rfl]
    go_enter Tryd.func28, Tryd.ntmps28
    go_wp2
    go_ret
    refine ⟨ret_int ?_, M.out⟩
    exact Int.emod_eq_of_lt (by omega) (by omega)
set_option maxHeartbeats 4000000 in
theorem refPut6_any (W : World) (x : In) (k v : Int) (h0 : 1 ≤ k) (h1 : k ≤ 11) : Makes Tryd.prog W 34 #[x.val, .int .u8 (letterZ k), .int .u32 v] (setZ x k v).val := by
  intro w hm
  have hz := hm.size
  have K0 := Lib.hid (show Own W w.heap.size x (w.alloc (.cells x.cells.toArray 24)) from ⟨hm.alloc hz _, heap_alloc_new w _⟩)
  have J0 := Lib.hid (show InstAt W (w.heap.size + 1) w.heap.size x ((w.alloc (.cells x.cells.toArray 24)).alloc (.cells inZero.cells.toArray 24)) from ⟨⟨K0.out.made.alloc K0.out.made.size _, heap_at (by simp)⟩, Made.heap ((Made.refl _).alloc (Nat.le_refl _) _) K0.out.in_⟩)
  clear hm
  obtain ⟨L, hL⟩ : ∃ L, L = letterZ k := ⟨_, rfl⟩
  rewrite [← hL]
  have HL := Lib.hid hL
  clear hL
  go_enter Tryd.func34, Tryd.ntmps34
  go_upto_region 1 with (fail)
  refine name_world (fun u => InstAt W (w.heap.size + 1) w.heap.size x u) J0.out ?_
  intro u hu
  have KU := Lib.hid hu
  obtain ⟨a0, a1, a2, a3, a4, a5, a6, a7, a8, a9, a10⟩ := in_cells hu.in_
  obtain ⟨q0, q1, q2, q3, q4, q5, q6, q7, q8, q9, q10⟩ := in_cells hu.own.in_
  have fz := free_of_lit hu.in_
  have fq := free_of_lit hu.own.in_
  have hl := heap_lt hu.in_
  have hlq := heap_lt hu.own.in_
  clear hu J0 K0
  obtain ⟨xo, xd, xs, xt, xn, xp, xm, xw, xe, xc, xi⟩ := x
  have hc : k = 1 ∨ k = 2 ∨ k = 3 ∨ k = 4 ∨ k = 5 ∨ k = 6 ∨ k = 7 ∨ k = 8 ∨ k = 9 ∨ k = 10 ∨ k = 11 := by omega
  clear h0 h1
  rcases hc with rfl | rfl | rfl | rfl | rfl | rfl | rfl | rfl | rfl | rfl | rfl
  case inl =>
    obtain rfl : L = 109 := HL.out
    go_wp2
    refine bodyPost_ret (v := .agg #[.int .u8 xo, .int .u8 xd, .int .u8 xs, .int .u8 xt, .int .u8 xn, .int .u8 xp, .int .u8 (v % 256), .bool xw, .bool xe, .int .u16 xc, .int .i64 xi]) (by simp [results, Tryd.results34, go_sem, q0, q1, q2, q3, q4, q5, q6, q7, q8, q9, q10]) rfl ?_
    exact ⟨rfl, made_set11 (KU.out.own.made.setCell (p := ⟨w.heap.size, 6, none⟩) hz _) (by omega) _ _ _ _ _ _ _ _ _ _ _⟩
  case inr.inl =>
    obtain rfl : L = 112 := HL.out
    go_wp2
    refine bodyPost_ret (v := .agg #[.int .u8 xo, .int .u8 xd, .int .u8 xs, .int .u8 xt, .int .u8 xn, .int .u8 (v % 256), .int .u8 xm, .bool xw, .bool xe, .int .u16 xc, .int .i64 xi]) (by simp [results, Tryd.results34, go_sem, q0, q1, q2, q3, q4, q5, q6, q7, q8, q9, q10]) rfl ?_
    exact ⟨rfl, made_set11 (KU.out.own.made.setCell (p := ⟨w.heap.size, 5, none⟩) hz _) (by omega) _ _ _ _ _ _ _ _ _ _ _⟩
  case inr.inr.inl =>
    obtain rfl : L = 100 := HL.out
    go_wp2
    refine bodyPost_ret (v := .agg #[.int .u8 xo, .int .u8 (v % 256), .int .u8 xs, .int .u8 xt, .int .u8 xn, .int .u8 xp, .int .u8 xm, .bool xw, .bool xe, .int .u16 xc, .int .i64 xi]) (by simp [results, Tryd.results34, go_sem, q0, q1, q2, q3, q4, q5, q6, q7, q8, q9, q10]) rfl ?_
    exact ⟨rfl, made_set11 (KU.out.own.made.setCell (p := ⟨w.heap.size, 1, none⟩) hz _) (by omega) _ _ _ _ _ _ _ _ _ _ _⟩
  case inr.inr.inr.inl =>
    obtain rfl : L = 113 := HL.out
    go_wp2
    refine bodyPost_ret (v := .agg #[.int .u8 xo, .int .u8 (v % 256), .int .u8 xs, .int .u8 xt, .int .u8 xn, .int .u8 xp, .int .u8 xm, .bool xw, .bool xe, .int .u16 xc, .int .i64 xi]) (by simp [results, Tryd.results34, go_sem, q0, q1, q2, q3, q4, q5, q6, q7, q8, q9, q10]) rfl ?_
    exact ⟨rfl, made_set11 (KU.out.own.made.setCell (p := ⟨w.heap.size, 1, none⟩) hz _) (by omega) _ _ _ _ _ _ _ _ _ _ _⟩
  case inr.inr.inr.inr.inl =>
    obtain rfl : L = 115 := HL.out
    go_wp2
    refine bodyPost_ret (v := .agg #[.int .u8 xo, .int .u8 xd, .int .u8 (v % 256), .int .u8 xt, .int .u8 xn, .int .u8 xp, .int .u8 xm, .bool xw, .bool xe, .int .u16 xc, .int .i64 xi]) (by simp [results, Tryd.results34, go_sem, q0, q1, q2, q3, q4, q5, q6, q7, q8, q9, q10]) rfl ?_
    exact ⟨rfl, made_set11 (KU.out.own.made.setCell (p := ⟨w.heap.size, 2, none⟩) hz _) (by omega) _ _ _ _ _ _ _ _ _ _ _⟩
  case inr.inr.inr.inr.inr.inl =>
    obtain rfl : L = 116 := HL.out
    go_wp2
    refine bodyPost_ret (v := .agg #[.int .u8 xo, .int .u8 xd, .int .u8 xs, .int .u8 (v % 256), .int .u8 xn, .int .u8 xp, .int .u8 xm, .bool xw, .bool xe, .int .u16 xc, .int .i64 xi]) (by simp [results, Tryd.results34, go_sem, q0, q1, q2, q3, q4, q5, q6, q7, q8, q9, q10]) rfl ?_
    exact ⟨rfl, made_set11 (KU.out.own.made.setCell (p := ⟨w.heap.size, 3, none⟩) hz _) (by omega) _ _ _ _ _ _ _ _ _ _ _⟩
  case inr.inr.inr.inr.inr.inr.inl =>
    obtain rfl : L = 110 := HL.out
    go_wp2
    refine bodyPost_ret (v := .agg #[.int .u8 xo, .int .u8 xd, .int .u8 xs, .int .u8 xt, .int .u8 (v % 256), .int .u8 xp, .int .u8 xm, .bool xw, .bool xe, .int .u16 xc, .int .i64 xi]) (by simp [results, Tryd.results34, go_sem, q0, q1, q2, q3, q4, q5, q6, q7, q8, q9, q10]) rfl ?_
    exact ⟨rfl, made_set11 (KU.out.own.made.setCell (p := ⟨w.heap.size, 4, none⟩) hz _) (by omega) _ _ _ _ _ _ _ _ _ _ _⟩
  case inr.inr.inr.inr.inr.inr.inr.inl =>
    obtain rfl : L = 119 := HL.out
    go_wp2
    refine bodyPost_ret (v := .agg #[.int .u8 xo, .int .u8 xd, .int .u8 xs, .int .u8 xt, .int .u8 xn, .int .u8 xp, .int .u8 xm, .bool (v == 1), .bool xe, .int .u16 xc, .int .i64 xi]) (by simp [results, Tryd.results34, go_sem, q0, q1, q2, q3, q4, q5, q6, q7, q8, q9, q10]) rfl ?_
    exact ⟨rfl, made_set11 (KU.out.own.made.setCell (p := ⟨w.heap.size, 7, none⟩) hz _) (by omega) _ _ _ _ _ _ _ _ _ _ _⟩
  case inr.inr.inr.inr.inr.inr.inr.inr.inl =>
    obtain rfl : L = 118 := HL.out
    go_wp2
    refine bodyPost_ret (v := .agg #[.int .u8 xo, .int .u8 xd, .int .u8 xs, .int .u8 xt, .int .u8 xn, .int .u8 xp, .int .u8 xm, .bool xw, .bool xe, .int .u16 xc, .int .i64 xi]) (by simp [results, Tryd.results34, go_sem, q0, q1, q2, q3, q4, q5, q6, q7, q8, q9, q10]) rfl ?_
    exact ⟨rfl, made_set11 KU.out.own.made (by omega) _ _ _ _ _ _ _ _ _ _ _⟩
  case inr.inr.inr.inr.inr.inr.inr.inr.inr.inl =>
    obtain rfl : L = 118 := HL.out
    go_wp2
    refine bodyPost_ret (v := .agg #[.int .u8 xo, .int .u8 xd, .int .u8 xs, .int .u8 xt, .int .u8 xn, .int .u8 xp, .int .u8 xm, .bool xw, .bool xe, .int .u16 xc, .int .i64 xi]) (by simp [results, Tryd.results34, go_sem, q0, q1, q2, q3, q4, q5, q6, q7, q8, q9, q10]) rfl ?_
    exact ⟨rfl, made_set11 KU.out.own.made (by omega) _ _ _ _ _ _ _ _ _ _ _⟩
  case inr.inr.inr.inr.inr.inr.inr.inr.inr.inr =>
    obtain rfl : L = 99 := HL.out
    go_wp2
    refine bodyPost_ret (v := .agg #[.int .u8 xo, .int .u8 xd, .int .u8 xs, .int .u8 xt, .int .u8 xn, .int .u8 xp, .int .u8 xm, .bool xw, .bool xe, .int .u16 (IntKind.u16.wrap v), .int .i64 xi]) (by simp [results, Tryd.results34, go_sem, q0, q1, q2, q3, q4, q5, q6, q7, q8, q9, q10]) rfl ?_
    exact ⟨rfl, made_set11 (KU.out.own.made.setCell (p := ⟨w.heap.size, 9, none⟩) hz _) (by omega) _ _ _ _ _ _ _ _ _ _ _⟩
end
end Go.Proofs.YtjeemiabddblhaaDoor
