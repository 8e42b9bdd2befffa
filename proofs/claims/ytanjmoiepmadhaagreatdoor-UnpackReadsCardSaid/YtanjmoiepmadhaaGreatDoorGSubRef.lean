/- What reg, Inst and Of of the document's answer for small instructions return, for every number and instruction, in every world. · What Of of the document's answer for small instructions returns, for every instruction, in every world. · What halves, store, join and Pair of the document's answer for duplexes return, for every argument, in every world. Written by wip/tools/gen_dupref.py. -/
import Derived.Test.YtanjmoiepmadhaaGreatDoorGSub
import Derived.Test.YtanjmoiepmadhaaGreatDoorGDup
namespace Go.Proofs.YtanjmoiepmadhaaGreatDoor
section
set_option maxRecDepth 100000
open Go.ChangeShapes Go.WideShapes Go.ChangeAt Go.RowKit Go.Sort BigFrame

theorem reg7_any (v : Int) (h0 : 0 ≤ v) (h1 : v < 16) : Still Tryz.prog 74 #[.int .i64 v] (.int .u8 (wideZ v)) := by
  intro w
  by_cases h : v < 8
  · have e : wideZ v = v := if_pos h
    have E := Lib.hid e
    have hd : decide (7 < v) = false := decide_eq_false (by omega)
    clear e
    go_enter Tryz.func74, Tryz.ntmps74
    go_wp2
    go_ret
    exact ⟨ret_int (by rw [E.out]), rfl⟩
  · have e : wideZ v = v + 8 := if_neg h
    have E := Lib.hid e
    have hd : decide (7 < v) = true := decide_eq_true (by omega)
    clear e
    go_enter Tryz.func74, Tryz.ntmps74
    go_wp2
    go_ret
    exact ⟨ret_int (by rw [E.out]), rfl⟩
section
attribute [local irreducible] World.cell?
set_option maxRecDepth 100000 in
set_option maxHeartbeats 8000000 in
theorem refInst7_any (W : World) (s : Int) (h0 : 0 ≤ s) (h1 : s < 65536) : Makes Tryz.prog W 41 #[.int .i64 s] (.tuple #[(docInst s).1.val, .bool (docInst s).2]) := by
  intro w hm
  have hz := hm.size
  have hra := reg7_any (s / 128 % 16) (by omega) (by omega)
  have hrb := reg7_any (s / 8 % 16) (by omega) (by omega)
  obtain ⟨R, hR⟩ : ∃ R, R = docInst s := ⟨_, rfl⟩
  rewrite [← hR]
  unfold docInst at hR
  generalize hA : wideZ (s / 128 % 16) = A at *
  generalize hB : wideZ (s / 8 % 16) = B at *
  have HR := Lib.hid hR
  have HM := Lib.hid (And.intro (hm.alloc hz (.cells inZero.cells.toArray 40)) (show InAt (w.alloc (.cells inZero.cells.toArray 40)) w.heap.size inZero from heap_alloc_new w _))
  clear hR hm hA hB
  go_enter Tryz.func41, Tryz.ntmps41
  go_upto_region 1 with (fail)
  refine name_world (fun v => Made W v ∧ InAt v w.heap.size inZero) HM.out ?_
  rintro v ⟨hv, hi⟩
  have MV := Lib.hid hv
  obtain ⟨a0, a1, a2, a3, a4, a5, a6, a7, a8, a9, a10⟩ := in_cells hi
  have fz := free_of_lit hi
  have hl := heap_lt hi
  clear hv hi HM
  go_upto_region 6 with (fail)
  have hcase : s / 2048 = 1 ∨ s / 2048 = 2 ∨ s / 2048 = 3 ∨ s / 2048 = 4 ∨ s / 2048 = 5 ∨ s / 2048 = 6 ∨ s / 2048 = 7 ∨ s / 2048 = 8 ∨ s / 2048 = 9 ∨ (s / 2048 < 1 ∨ 9 < s / 2048) := by omega
  have hl8 : 0 ≤ s % 8 ∧ s % 8 < 8 := by omega
  have hv128 : 0 ≤ s % 128 ∧ s % 128 < 128 := by omega
  obtain ⟨l0, l1⟩ := hl8
  obtain ⟨v0, v1⟩ := hv128
  rcases hcase with hc | hc | hc | hc | hc | hc | hc | hc | hc | hc
  · skip
    have e1 : R = ((⟨8, A, 0, 0, 0, 0, 0, false, false, 0, s % 128⟩ : In), true) := by have h := HR.out; simp only [hc, reduceIte, Int.reduceEq] at h; exact h
    have E1 := Lib.hid e1
    obtain rfl := E1.out
    clear e1
    go_wp2_with (first | (go_at_call 74; with_reducible refine (hra _).mono ?_; rintro e z ⟨rfl, rfl⟩) | (go_at_call 74; with_reducible refine (hrb _).mono ?_; rintro e z ⟨rfl, rfl⟩))
    refine bodyPost_ret (v := .tuple #[In.val (⟨8, A, 0, 0, 0, 0, 0, false, false, 0, s % 128⟩ : In), .bool true]) (by simp [results, Tryz.results41, go_sem, a0, a1, a2, a3, a4, a5, a6, a7, a8, a9, a10]) rfl ?_
    exact ⟨rfl, made_set11b MV.out hz _ _ _ _ _ _ _ _ _ _ _⟩
  · by_cases h63 : 63 < s % 128
    · have hd : decide (63 < s % 128) = true := decide_eq_true h63
      have e1 : R = ((⟨7, A, A, 0, 0, 0, 0, false, false, 0, s % 128 - 128⟩ : In), true) := by have h := HR.out; simp only [hc, reduceIte, Int.reduceEq, if_pos h63] at h; exact h
      have E1 := Lib.hid e1
      obtain rfl := E1.out
      clear e1
      go_wp2_with (first | (go_at_call 74; with_reducible refine (hra _).mono ?_; rintro e z ⟨rfl, rfl⟩) | (go_at_call 74; with_reducible refine (hrb _).mono ?_; rintro e z ⟨rfl, rfl⟩))
      refine bodyPost_ret (v := .tuple #[In.val (⟨7, A, A, 0, 0, 0, 0, false, false, 0, s % 128 - 128⟩ : In), .bool true]) (by simp [results, Tryz.results41, go_sem, a0, a1, a2, a3, a4, a5, a6, a7, a8, a9, a10]) rfl ?_
      exact ⟨rfl, made_set11b MV.out hz _ _ _ _ _ _ _ _ _ _ _⟩
    · have hd : decide (63 < s % 128) = false := decide_eq_false h63
      have e1 : R = ((⟨7, A, A, 0, 0, 0, 0, false, false, 0, s % 128⟩ : In), true) := by have h := HR.out; simp only [hc, reduceIte, Int.reduceEq, if_neg h63] at h; exact h
      have E1 := Lib.hid e1
      obtain rfl := E1.out
      clear e1
      go_wp2_with (first | (go_at_call 74; with_reducible refine (hra _).mono ?_; rintro e z ⟨rfl, rfl⟩) | (go_at_call 74; with_reducible refine (hrb _).mono ?_; rintro e z ⟨rfl, rfl⟩))
      refine bodyPost_ret (v := .tuple #[In.val (⟨7, A, A, 0, 0, 0, 0, false, false, 0, s % 128⟩ : In), .bool true]) (by simp [results, Tryz.results41, go_sem, a0, a1, a2, a3, a4, a5, a6, a7, a8, a9, a10]) rfl ?_
      exact ⟨rfl, made_set11b MV.out hz _ _ _ _ _ _ _ _ _ _ _⟩
  · by_cases hl0 : s % 8 = 0
    · have hd : (s % 8 == 0) = true := beq_iff_eq.2 hl0
      have e1 : R = ((⟨9, A, B, 0, 0, 0, 0, false, false, 0, 0⟩ : In), true) := by have h := HR.out; simp only [hc, reduceIte, Int.reduceEq, if_pos hl0] at h; exact h
      have E1 := Lib.hid e1
      obtain rfl := E1.out
      clear e1
      clear hl0
      go_wp2_with (first | (go_at_call 74; with_reducible refine (hra _).mono ?_; rintro e z ⟨rfl, rfl⟩) | (go_at_call 74; with_reducible refine (hrb _).mono ?_; rintro e z ⟨rfl, rfl⟩))
      refine bodyPost_ret (v := .tuple #[In.val (⟨9, A, B, 0, 0, 0, 0, false, false, 0, 0⟩ : In), .bool true]) (by simp [results, Tryz.results41, go_sem, a0, a1, a2, a3, a4, a5, a6, a7, a8, a9, a10]) rfl ?_
      exact ⟨rfl, made_set11b MV.out hz _ _ _ _ _ _ _ _ _ _ _⟩
    · have hd : (s % 8 == 0) = false := beq_eq_false_iff_ne.2 hl0
      have e1 : R = (inZero, false) := by have h := HR.out; simp only [hc, reduceIte, Int.reduceEq, if_neg hl0] at h; exact h
      have E1 := Lib.hid e1
      obtain rfl := E1.out
      clear e1
      clear hl0
      go_wp2_with (first | (go_at_call 74; with_reducible refine (hra _).mono ?_; rintro e z ⟨rfl, rfl⟩) | (go_at_call 74; with_reducible refine (hrb _).mono ?_; rintro e z ⟨rfl, rfl⟩))
      refine bodyPost_ret (v := .tuple #[In.val inZero, .bool false]) (by simp [results, Tryz.results41, go_sem, a0, a1, a2, a3, a4, a5, a6, a7, a8, a9, a10, inZero]) rfl ?_
      exact ⟨rfl, made_set11b MV.out hz _ _ _ _ _ _ _ _ _ _ _⟩
  · by_cases hl0 : s % 8 = 0
    · have hd : (s % 8 == 0) = true := beq_iff_eq.2 hl0
      have e1 : R = ((⟨2, A, A, B, 0, 0, 0, false, false, 0, 0⟩ : In), true) := by have h := HR.out; simp only [hc, reduceIte, Int.reduceEq, if_pos hl0] at h; exact h
      have E1 := Lib.hid e1
      obtain rfl := E1.out
      clear e1
      clear hl0
      go_wp2_with (first | (go_at_call 74; with_reducible refine (hra _).mono ?_; rintro e z ⟨rfl, rfl⟩) | (go_at_call 74; with_reducible refine (hrb _).mono ?_; rintro e z ⟨rfl, rfl⟩))
      refine bodyPost_ret (v := .tuple #[In.val (⟨2, A, A, B, 0, 0, 0, false, false, 0, 0⟩ : In), .bool true]) (by simp [results, Tryz.results41, go_sem, a0, a1, a2, a3, a4, a5, a6, a7, a8, a9, a10]) rfl ?_
      exact ⟨rfl, made_set11b MV.out hz _ _ _ _ _ _ _ _ _ _ _⟩
    · have hd : (s % 8 == 0) = false := beq_eq_false_iff_ne.2 hl0
      have e1 : R = (inZero, false) := by have h := HR.out; simp only [hc, reduceIte, Int.reduceEq, if_neg hl0] at h; exact h
      have E1 := Lib.hid e1
      obtain rfl := E1.out
      clear e1
      clear hl0
      go_wp2_with (first | (go_at_call 74; with_reducible refine (hra _).mono ?_; rintro e z ⟨rfl, rfl⟩) | (go_at_call 74; with_reducible refine (hrb _).mono ?_; rintro e z ⟨rfl, rfl⟩))
      refine bodyPost_ret (v := .tuple #[In.val inZero, .bool false]) (by simp [results, Tryz.results41, go_sem, a0, a1, a2, a3, a4, a5, a6, a7, a8, a9, a10, inZero]) rfl ?_
      exact ⟨rfl, made_set11b MV.out hz _ _ _ _ _ _ _ _ _ _ _⟩
  · skip
    have e1 : R = ((⟨21, A, B, 0, 0, 0, 0, false, false, 0, 4 * (s % 8)⟩ : In), true) := by have h := HR.out; simp only [hc, reduceIte, Int.reduceEq] at h; exact h
    have E1 := Lib.hid e1
    obtain rfl := E1.out
    clear e1
    go_wp2_with (first | (go_at_call 74; with_reducible refine (hra _).mono ?_; rintro e z ⟨rfl, rfl⟩) | (go_at_call 74; with_reducible refine (hrb _).mono ?_; rintro e z ⟨rfl, rfl⟩))
    refine bodyPost_ret (v := .tuple #[In.val (⟨21, A, B, 0, 0, 0, 0, false, false, 0, 4 * (s % 8)⟩ : In), .bool true]) (by simp [results, Tryz.results41, go_sem, a0, a1, a2, a3, a4, a5, a6, a7, a8, a9, a10]) rfl ?_
    exact ⟨rfl, made_set11b MV.out hz _ _ _ _ _ _ _ _ _ _ _⟩
  · skip
    have e1 : R = ((⟨24, 0, A, B, 0, 0, 0, false, false, 0, 4 * (s % 8)⟩ : In), true) := by have h := HR.out; simp only [hc, reduceIte, Int.reduceEq] at h; exact h
    have E1 := Lib.hid e1
    obtain rfl := E1.out
    clear e1
    go_wp2_with (first | (go_at_call 74; with_reducible refine (hra _).mono ?_; rintro e z ⟨rfl, rfl⟩) | (go_at_call 74; with_reducible refine (hrb _).mono ?_; rintro e z ⟨rfl, rfl⟩))
    refine bodyPost_ret (v := .tuple #[In.val (⟨24, 0, A, B, 0, 0, 0, false, false, 0, 4 * (s % 8)⟩ : In), .bool true]) (by simp [results, Tryz.results41, go_sem, a0, a1, a2, a3, a4, a5, a6, a7, a8, a9, a10]) rfl ?_
    exact ⟨rfl, made_set11b MV.out hz _ _ _ _ _ _ _ _ _ _ _⟩
  · skip
    have e1 : R = ((⟨23, A, B, 0, 0, 0, 0, false, false, 0, s % 8⟩ : In), true) := by have h := HR.out; simp only [hc, reduceIte, Int.reduceEq] at h; exact h
    have E1 := Lib.hid e1
    obtain rfl := E1.out
    clear e1
    go_wp2_with (first | (go_at_call 74; with_reducible refine (hra _).mono ?_; rintro e z ⟨rfl, rfl⟩) | (go_at_call 74; with_reducible refine (hrb _).mono ?_; rintro e z ⟨rfl, rfl⟩))
    refine bodyPost_ret (v := .tuple #[In.val (⟨23, A, B, 0, 0, 0, 0, false, false, 0, s % 8⟩ : In), .bool true]) (by simp [results, Tryz.results41, go_sem, a0, a1, a2, a3, a4, a5, a6, a7, a8, a9, a10]) rfl ?_
    exact ⟨rfl, made_set11b MV.out hz _ _ _ _ _ _ _ _ _ _ _⟩
  · skip
    have e1 : R = ((⟨26, 0, A, B, 0, 0, 0, false, false, 0, s % 8⟩ : In), true) := by have h := HR.out; simp only [hc, reduceIte, Int.reduceEq] at h; exact h
    have E1 := Lib.hid e1
    obtain rfl := E1.out
    clear e1
    go_wp2_with (first | (go_at_call 74; with_reducible refine (hra _).mono ?_; rintro e z ⟨rfl, rfl⟩) | (go_at_call 74; with_reducible refine (hrb _).mono ?_; rintro e z ⟨rfl, rfl⟩))
    refine bodyPost_ret (v := .tuple #[In.val (⟨26, 0, A, B, 0, 0, 0, false, false, 0, s % 8⟩ : In), .bool true]) (by simp [results, Tryz.results41, go_sem, a0, a1, a2, a3, a4, a5, a6, a7, a8, a9, a10]) rfl ?_
    exact ⟨rfl, made_set11b MV.out hz _ _ _ _ _ _ _ _ _ _ _⟩
  · skip
    have e1 : R = ((⟨13, 0, A, 0, 0, 0, 0, false, false, 0, s % 128⟩ : In), true) := by have h := HR.out; simp only [hc, reduceIte, Int.reduceEq] at h; exact h
    have E1 := Lib.hid e1
    obtain rfl := E1.out
    clear e1
    go_wp2_with (first | (go_at_call 74; with_reducible refine (hra _).mono ?_; rintro e z ⟨rfl, rfl⟩) | (go_at_call 74; with_reducible refine (hrb _).mono ?_; rintro e z ⟨rfl, rfl⟩))
    refine bodyPost_ret (v := .tuple #[In.val (⟨13, 0, A, 0, 0, 0, 0, false, false, 0, s % 128⟩ : In), .bool true]) (by simp [results, Tryz.results41, go_sem, a0, a1, a2, a3, a4, a5, a6, a7, a8, a9, a10]) rfl ?_
    exact ⟨rfl, made_set11b MV.out hz _ _ _ _ _ _ _ _ _ _ _⟩
  · have n : ∀ k, 1 ≤ k → k ≤ 9 → ¬ s / 2048 = k := by omega
    have e1 : R = (inZero, false) := by
      have h := HR.out
      simp only [] at h
      iterate 9 (rw [if_neg (n _ (by decide) (by decide))] at h)
      exact h
    have E1 := Lib.hid e1
    obtain rfl := E1.out
    clear e1
    have n1 : (s / 2048 == 1) = false := beq_eq_false_iff_ne.2 (n 1 (by decide) (by decide))
    have n2 : (s / 2048 == 2) = false := beq_eq_false_iff_ne.2 (n 2 (by decide) (by decide))
    have n3 : (s / 2048 == 3) = false := beq_eq_false_iff_ne.2 (n 3 (by decide) (by decide))
    have n4 : (s / 2048 == 4) = false := beq_eq_false_iff_ne.2 (n 4 (by decide) (by decide))
    have n5 : (s / 2048 == 5) = false := beq_eq_false_iff_ne.2 (n 5 (by decide) (by decide))
    have n6 : (s / 2048 == 6) = false := beq_eq_false_iff_ne.2 (n 6 (by decide) (by decide))
    have n7 : (s / 2048 == 7) = false := beq_eq_false_iff_ne.2 (n 7 (by decide) (by decide))
    have n8 : (s / 2048 == 8) = false := beq_eq_false_iff_ne.2 (n 8 (by decide) (by decide))
    have n9 : (s / 2048 == 9) = false := beq_eq_false_iff_ne.2 (n 9 (by decide) (by decide))
    clear n hc
    go_wp2_with (first | (go_at_call 74; with_reducible refine (hra _).mono ?_; rintro e z ⟨rfl, rfl⟩) | (go_at_call 74; with_reducible refine (hrb _).mono ?_; rintro e z ⟨rfl, rfl⟩))
    refine bodyPost_ret (v := .tuple #[In.val inZero, .bool false]) (by simp [results, Tryz.results41, go_sem, a0, a1, a2, a3, a4, a5, a6, a7, a8, a9, a10, inZero]) rfl ?_
    exact ⟨rfl, made_set11b MV.out hz _ _ _ _ _ _ _ _ _ _ _⟩
end
end
section
set_option maxRecDepth 100000
open Go.ChangeShapes Go.WideShapes Go.ChangeAt Go.RowKit Go.Sort BigFrame

section
attribute [local irreducible] World.cell?
end
end
section
set_option maxRecDepth 100000
open Go.ChangeShapes Go.WideShapes Go.ChangeAt Go.RowKit Go.Sort BigFrame

theorem ret3 {a b c a' b' c' : Int} (ha : a = a') (hb : b = b') (hc : c = c') : Ending.returned (.tuple #[.int .i64 a, .int .i64 b, .int .i64 c]) = Ending.returned (.tuple #[.int .i64 a', .int .i64 b', .int .i64 c']) := by
  subst ha; subst hb; subst hc; rfl
theorem halves8_any (c : Int) (hc : isU32 c) : Still Tryz.prog 40 #[.int .u32 c] (.tuple #[.int .i64 (highZ c), .int .i64 (lowZ c), .int .i64 (parseZ c)]) := by
  intro w
  obtain ⟨c0, c1⟩ := hc
  have hA : highZ c = (c / 65536 * 16384 + c % 65536 % 16384) / 32768 := by rw [high_eq]; unfold thirtyZ; omega
  have hB : lowZ c = (c / 65536 * 16384 + c % 65536 % 16384) % 32768 := by rw [low_eq]; unfold thirtyZ; omega
  have hC : parseZ c = c % 65536 / 16384 := by unfold parseZ; omega
  have HA := Lib.hid (And.intro hA (And.intro hB hC))
  clear hA hB hC
  go_enter Tryz.func40, Tryz.ntmps40
  go_wp2
  go_ret3
  refine ⟨ret3 ?_ ?_ ?_, rfl⟩
  · rw [HA.out.1]; omega
  · rw [HA.out.2.1]; omega
  · rw [HA.out.2.2]
section
attribute [local irreducible] World.cell?
set_option maxRecDepth 100000 in
set_option maxHeartbeats 1000000 in
theorem store8_any (W : World) (x : In) (hx : x.small) : Makes Tryz.prog W 42 #[x.val] (.bool (storeB x)) := by
  intro w hm
  have hz := hm.size
  have K0 := Lib.hid (show Own W w.heap.size x (w.alloc (.cells x.cells.toArray 40)) from ⟨hm.alloc hz _, heap_alloc_new w _⟩)
  rewrite [storeB_doc x hx]
  clear hx hm
  go_enter Tryz.func42, Tryz.ntmps42
  go_upto_region 1 with (fail)
  refine name_world (fun v => Own W w.heap.size x v) K0.out ?_
  intro v hv
  have KV := Lib.hid hv
  obtain ⟨a0, -⟩ := in_cells hv.in_
  have hl := heap_lt hv.in_
  clear hv K0

  cases h1 : decide (24 ≤ x.op) with
  | false =>
    have H1 := Lib.hid h1
    go_wp2
    go_ret
    exact ⟨ret_bool (by rw [H1.out]; rfl), KV.out.made⟩
  | true =>
    have H1 := Lib.hid h1
    go_wp2
    go_ret
    exact ⟨ret_bool (by rw [H1.out]; rfl), KV.out.made⟩
end
end
end Go.Proofs.YtanjmoiepmadhaaGreatDoor
