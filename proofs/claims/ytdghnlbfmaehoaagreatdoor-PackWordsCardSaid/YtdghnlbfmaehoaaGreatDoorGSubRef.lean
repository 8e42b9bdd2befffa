/- What reg, Inst and Of of the document's answer for small instructions return, for every number and instruction, in every world. · What Of of the document's answer for small instructions returns, for every instruction, in every world. · What halves, store, join and Pair of the document's answer for duplexes return, for every argument, in every world. Written by wip/tools/gen_dupref.py. -/
import Derived.Test.YtdghnlbfmaehoaaGreatDoorGSub
import Derived.Test.YtdghnlbfmaehoaaGreatDoorGDup
namespace Go.Proofs.YtdghnlbfmaehoaaGreatDoor
section
set_option maxRecDepth 100000
open Go.ChangeShapes Go.WideShapes Go.ChangeAt Go.RowKit Go.Sort BigFrame

theorem reg7_any (v : Int) (h0 : 0 ≤ v) (h1 : v < 16) : Still Tryz.prog 143 #[.int .i64 v] (.int .u8 (wideZ v)) := by
  intro w
  by_cases h : v < 8
  · have e : wideZ v = v := if_pos h
    have E := Lib.hid e
    have hd : decide (7 < v) = false := decide_eq_false (by omega)
    clear e
    go_enter Tryz.func143, Tryz.ntmps143
    go_wp2
    go_ret
    exact ⟨ret_int (by rw [E.out]), rfl⟩
  · have e : wideZ v = v + 8 := if_neg h
    have E := Lib.hid e
    have hd : decide (7 < v) = true := decide_eq_true (by omega)
    clear e
    go_enter Tryz.func143, Tryz.ntmps143
    go_wp2
    go_ret
    exact ⟨ret_int (by rw [E.out]), rfl⟩
theorem ref_close {W w : World} {b : Nat} (h : Made W w) (hb : W.heap.size ≤ b) (v0 v1 v2 v3 v4 v5 v6 v7 v8 v9 v10 : Value) : Made W (set11b w b v0 v1 v2 v3 v4 v5 v6 v7 v8 v9 v10) := made_set11b h hb _ _ _ _ _ _ _ _ _ _ _
section
attribute [local irreducible] World.cell?
set_option maxRecDepth 100000 in
set_option maxHeartbeats 8000000 in
theorem refInst7_any (W : World) (s : Int) (h0 : 0 ≤ s) (h1 : s < 65536) : Makes Tryz.prog W 100 #[.int .i64 s] (.tuple #[(docInst s).1.val, .bool (docInst s).2]) := by
  intro w hm
  have hz := hm.size
  have hra := reg7_any (s / 128 % 16) (by omega) (by omega)
  have hrb := reg7_any (s / 8 % 16) (by omega) (by omega)
  obtain ⟨R, hR⟩ : ∃ R, R = docInst s := ⟨_, rfl⟩
  rewrite [← hR]
  unfold docInst at hR
  generalize hA : wideZ (s / 128 % 16) = A at *
  generalize hB : wideZ (s / 8 % 16) = B at *
  have HR := Lib.hid hR
  have HM := Lib.hid (And.intro (hm.alloc hz (.cells inZero.cells.toArray 42)) (show InAt (w.alloc (.cells inZero.cells.toArray 42)) w.heap.size inZero from heap_alloc_new w _))
  clear hR hm hA hB
  go_enter Tryz.func100, Tryz.ntmps100
  go_upto_region 1 with (fail)
  refine name_world (fun v => Made W v ∧ InAt v w.heap.size inZero) HM.out ?_
  rintro v ⟨hv, hi⟩
  have MV := Lib.hid hv
  obtain ⟨a0, a1, a2, a3, a4, a5, a6, a7, a8, a9, a10⟩ := in_cells hi
  have fz := free_of_lit hi
  have hl := heap_lt hi
  clear hv hi HM
  go_upto_region 6 with (fail)
  have hcase : s / 2048 = 1 ∨ s / 2048 = 2 ∨ s / 2048 = 3 ∨ s / 2048 = 4 ∨ s / 2048 = 5 ∨ s / 2048 = 6 ∨ s / 2048 = 7 ∨ s / 2048 = 8 ∨ s / 2048 = 9 ∨ (s / 2048 < 1 ∨ 9 < s / 2048) := by omega
  have hl8 : 0 ≤ s % 8 ∧ s % 8 < 8 := by omega
  have hv128 : 0 ≤ s % 128 ∧ s % 128 < 128 := by omega
  obtain ⟨l0, l1⟩ := hl8
  obtain ⟨v0, v1⟩ := hv128
  rcases hcase with hc | hc | hc | hc | hc | hc | hc | hc | hc | hc
  · skip
    have e1 : R = ((⟨8, A, 0, 0, 0, 0, 0, false, false, 0, s % 128⟩ : In), true) := by have h := HR.out; simp only [hc, reduceIte, Int.reduceEq] at h; exact h
    have E1 := Lib.hid e1
    obtain rfl := E1.out
    clear e1
    go_wp2_with (first | (go_at_call 143; with_reducible refine (hra _).mono ?_; rintro e z ⟨rfl, rfl⟩) | (go_at_call 143; with_reducible refine (hrb _).mono ?_; rintro e z ⟨rfl, rfl⟩))
    refine bodyPost_ret (v := .tuple #[In.val (⟨8, A, 0, 0, 0, 0, 0, false, false, 0, s % 128⟩ : In), .bool true]) (by simp [results, Tryz.results100, go_sem, a0, a1, a2, a3, a4, a5, a6, a7, a8, a9, a10]) rfl ?_
    exact ⟨rfl, made_set11b MV.out hz _ _ _ _ _ _ _ _ _ _ _⟩
  · by_cases h63 : 63 < s % 128
    · have hd : decide (63 < s % 128) = true := decide_eq_true h63
      have e1 : R = ((⟨7, A, A, 0, 0, 0, 0, false, false, 0, s % 128 - 128⟩ : In), true) := by have h := HR.out; simp only [hc, reduceIte, Int.reduceEq, if_pos h63] at h; exact h
      have E1 := Lib.hid e1
      obtain rfl := E1.out
      clear e1
      go_wp2_with (first | (go_at_call 143; with_reducible refine (hra _).mono ?_; rintro e z ⟨rfl, rfl⟩) | (go_at_call 143; with_reducible refine (hrb _).mono ?_; rintro e z ⟨rfl, rfl⟩))
      refine bodyPost_ret (v := .tuple #[In.val (⟨7, A, A, 0, 0, 0, 0, false, false, 0, s % 128 - 128⟩ : In), .bool true]) (by simp [results, Tryz.results100, go_sem, a0, a1, a2, a3, a4, a5, a6, a7, a8, a9, a10]) rfl ?_
      exact ⟨rfl, made_set11b MV.out hz _ _ _ _ _ _ _ _ _ _ _⟩
    · have hd : decide (63 < s % 128) = false := decide_eq_false h63
      have e1 : R = ((⟨7, A, A, 0, 0, 0, 0, false, false, 0, s % 128⟩ : In), true) := by have h := HR.out; simp only [hc, reduceIte, Int.reduceEq, if_neg h63] at h; exact h
      have E1 := Lib.hid e1
      obtain rfl := E1.out
      clear e1
      go_wp2_with (first | (go_at_call 143; with_reducible refine (hra _).mono ?_; rintro e z ⟨rfl, rfl⟩) | (go_at_call 143; with_reducible refine (hrb _).mono ?_; rintro e z ⟨rfl, rfl⟩))
      refine bodyPost_ret (v := .tuple #[In.val (⟨7, A, A, 0, 0, 0, 0, false, false, 0, s % 128⟩ : In), .bool true]) (by simp [results, Tryz.results100, go_sem, a0, a1, a2, a3, a4, a5, a6, a7, a8, a9, a10]) rfl ?_
      exact ⟨rfl, made_set11b MV.out hz _ _ _ _ _ _ _ _ _ _ _⟩
  · by_cases hl0 : s % 8 = 0
    · have hd : (s % 8 == 0) = true := beq_iff_eq.2 hl0
      have e1 : R = ((⟨9, A, B, 0, 0, 0, 0, false, false, 0, 0⟩ : In), true) := by have h := HR.out; simp only [hc, reduceIte, Int.reduceEq, if_pos hl0] at h; exact h
      have E1 := Lib.hid e1
      obtain rfl := E1.out
      clear e1
      clear hl0
      go_wp2_with (first | (go_at_call 143; with_reducible refine (hra _).mono ?_; rintro e z ⟨rfl, rfl⟩) | (go_at_call 143; with_reducible refine (hrb _).mono ?_; rintro e z ⟨rfl, rfl⟩))
      refine bodyPost_ret (v := .tuple #[In.val (⟨9, A, B, 0, 0, 0, 0, false, false, 0, 0⟩ : In), .bool true]) (by simp [results, Tryz.results100, go_sem, a0, a1, a2, a3, a4, a5, a6, a7, a8, a9, a10]) rfl ?_
      exact ⟨rfl, made_set11b MV.out hz _ _ _ _ _ _ _ _ _ _ _⟩
    · have hd : (s % 8 == 0) = false := beq_eq_false_iff_ne.2 hl0
      have e1 : R = (inZero, false) := by have h := HR.out; simp only [hc, reduceIte, Int.reduceEq, if_neg hl0] at h; exact h
      have E1 := Lib.hid e1
      obtain rfl := E1.out
      clear e1
      clear hl0
      go_wp2_with (first | (go_at_call 143; with_reducible refine (hra _).mono ?_; rintro e z ⟨rfl, rfl⟩) | (go_at_call 143; with_reducible refine (hrb _).mono ?_; rintro e z ⟨rfl, rfl⟩))
      refine bodyPost_ret (v := .tuple #[In.val inZero, .bool false]) (by simp [results, Tryz.results100, go_sem, a0, a1, a2, a3, a4, a5, a6, a7, a8, a9, a10, inZero]) rfl ?_
      exact ⟨rfl, made_set11b MV.out hz _ _ _ _ _ _ _ _ _ _ _⟩
  · by_cases hl0 : s % 8 = 0
    · have hd : (s % 8 == 0) = true := beq_iff_eq.2 hl0
      have e1 : R = ((⟨2, A, A, B, 0, 0, 0, false, false, 0, 0⟩ : In), true) := by have h := HR.out; simp only [hc, reduceIte, Int.reduceEq, if_pos hl0] at h; exact h
      have E1 := Lib.hid e1
      obtain rfl := E1.out
      clear e1
      clear hl0
      go_wp2_with (first | (go_at_call 143; with_reducible refine (hra _).mono ?_; rintro e z ⟨rfl, rfl⟩) | (go_at_call 143; with_reducible refine (hrb _).mono ?_; rintro e z ⟨rfl, rfl⟩))
      refine bodyPost_ret (v := .tuple #[In.val (⟨2, A, A, B, 0, 0, 0, false, false, 0, 0⟩ : In), .bool true]) (by simp [results, Tryz.results100, go_sem, a0, a1, a2, a3, a4, a5, a6, a7, a8, a9, a10]) rfl ?_
      exact ⟨rfl, made_set11b MV.out hz _ _ _ _ _ _ _ _ _ _ _⟩
    · have hd : (s % 8 == 0) = false := beq_eq_false_iff_ne.2 hl0
      have e1 : R = (inZero, false) := by have h := HR.out; simp only [hc, reduceIte, Int.reduceEq, if_neg hl0] at h; exact h
      have E1 := Lib.hid e1
      obtain rfl := E1.out
      clear e1
      clear hl0
      go_wp2_with (first | (go_at_call 143; with_reducible refine (hra _).mono ?_; rintro e z ⟨rfl, rfl⟩) | (go_at_call 143; with_reducible refine (hrb _).mono ?_; rintro e z ⟨rfl, rfl⟩))
      refine bodyPost_ret (v := .tuple #[In.val inZero, .bool false]) (by simp [results, Tryz.results100, go_sem, a0, a1, a2, a3, a4, a5, a6, a7, a8, a9, a10, inZero]) rfl ?_
      exact ⟨rfl, made_set11b MV.out hz _ _ _ _ _ _ _ _ _ _ _⟩
  · skip
    have e1 : R = ((⟨21, A, B, 0, 0, 0, 0, false, false, 0, 4 * (s % 8)⟩ : In), true) := by have h := HR.out; simp only [hc, reduceIte, Int.reduceEq] at h; exact h
    have E1 := Lib.hid e1
    obtain rfl := E1.out
    clear e1
    go_wp2_with (first | (go_at_call 143; with_reducible refine (hra _).mono ?_; rintro e z ⟨rfl, rfl⟩) | (go_at_call 143; with_reducible refine (hrb _).mono ?_; rintro e z ⟨rfl, rfl⟩))
    refine bodyPost_ret (v := .tuple #[In.val (⟨21, A, B, 0, 0, 0, 0, false, false, 0, 4 * (s % 8)⟩ : In), .bool true]) (by simp [results, Tryz.results100, go_sem, a0, a1, a2, a3, a4, a5, a6, a7, a8, a9, a10]) rfl ?_
    exact ⟨rfl, made_set11b MV.out hz _ _ _ _ _ _ _ _ _ _ _⟩
  · skip
    have e1 : R = ((⟨24, 0, A, B, 0, 0, 0, false, false, 0, 4 * (s % 8)⟩ : In), true) := by have h := HR.out; simp only [hc, reduceIte, Int.reduceEq] at h; exact h
    have E1 := Lib.hid e1
    obtain rfl := E1.out
    clear e1
    go_wp2_with (first | (go_at_call 143; with_reducible refine (hra _).mono ?_; rintro e z ⟨rfl, rfl⟩) | (go_at_call 143; with_reducible refine (hrb _).mono ?_; rintro e z ⟨rfl, rfl⟩))
    refine bodyPost_ret (v := .tuple #[In.val (⟨24, 0, A, B, 0, 0, 0, false, false, 0, 4 * (s % 8)⟩ : In), .bool true]) (by simp [results, Tryz.results100, go_sem, a0, a1, a2, a3, a4, a5, a6, a7, a8, a9, a10]) rfl ?_
    exact ⟨rfl, made_set11b MV.out hz _ _ _ _ _ _ _ _ _ _ _⟩
  · skip
    have e1 : R = ((⟨23, A, B, 0, 0, 0, 0, false, false, 0, s % 8⟩ : In), true) := by have h := HR.out; simp only [hc, reduceIte, Int.reduceEq] at h; exact h
    have E1 := Lib.hid e1
    obtain rfl := E1.out
    clear e1
    go_wp2_with (first | (go_at_call 143; with_reducible refine (hra _).mono ?_; rintro e z ⟨rfl, rfl⟩) | (go_at_call 143; with_reducible refine (hrb _).mono ?_; rintro e z ⟨rfl, rfl⟩))
    refine bodyPost_ret (v := .tuple #[In.val (⟨23, A, B, 0, 0, 0, 0, false, false, 0, s % 8⟩ : In), .bool true]) (by simp [results, Tryz.results100, go_sem, a0, a1, a2, a3, a4, a5, a6, a7, a8, a9, a10]) rfl ?_
    exact ⟨rfl, made_set11b MV.out hz _ _ _ _ _ _ _ _ _ _ _⟩
  · skip
    have e1 : R = ((⟨26, 0, A, B, 0, 0, 0, false, false, 0, s % 8⟩ : In), true) := by have h := HR.out; simp only [hc, reduceIte, Int.reduceEq] at h; exact h
    have E1 := Lib.hid e1
    obtain rfl := E1.out
    clear e1
    go_wp2_with (first | (go_at_call 143; with_reducible refine (hra _).mono ?_; rintro e z ⟨rfl, rfl⟩) | (go_at_call 143; with_reducible refine (hrb _).mono ?_; rintro e z ⟨rfl, rfl⟩))
    refine bodyPost_ret (v := .tuple #[In.val (⟨26, 0, A, B, 0, 0, 0, false, false, 0, s % 8⟩ : In), .bool true]) (by simp [results, Tryz.results100, go_sem, a0, a1, a2, a3, a4, a5, a6, a7, a8, a9, a10]) rfl ?_
    exact ⟨rfl, made_set11b MV.out hz _ _ _ _ _ _ _ _ _ _ _⟩
  · skip
    have e1 : R = ((⟨13, 0, A, 0, 0, 0, 0, false, false, 0, s % 128⟩ : In), true) := by have h := HR.out; simp only [hc, reduceIte, Int.reduceEq] at h; exact h
    have E1 := Lib.hid e1
    obtain rfl := E1.out
    clear e1
    go_wp2_with (first | (go_at_call 143; with_reducible refine (hra _).mono ?_; rintro e z ⟨rfl, rfl⟩) | (go_at_call 143; with_reducible refine (hrb _).mono ?_; rintro e z ⟨rfl, rfl⟩))
    refine bodyPost_ret (v := .tuple #[In.val (⟨13, 0, A, 0, 0, 0, 0, false, false, 0, s % 128⟩ : In), .bool true]) (by simp [results, Tryz.results100, go_sem, a0, a1, a2, a3, a4, a5, a6, a7, a8, a9, a10]) rfl ?_
    exact ⟨rfl, made_set11b MV.out hz _ _ _ _ _ _ _ _ _ _ _⟩
  · have n : ∀ k, 1 ≤ k → k ≤ 9 → ¬ s / 2048 = k := by omega
    have e1 : R = (inZero, false) := by
      have h := HR.out
      simp only [] at h
      iterate 9 (rw [if_neg (n _ (by decide) (by decide))] at h)
      exact h
    have E1 := Lib.hid e1
    obtain rfl := E1.out
    clear e1
    have n1 : (s / 2048 == 1) = false := beq_eq_false_iff_ne.2 (n 1 (by decide) (by decide))
    have n2 : (s / 2048 == 2) = false := beq_eq_false_iff_ne.2 (n 2 (by decide) (by decide))
    have n3 : (s / 2048 == 3) = false := beq_eq_false_iff_ne.2 (n 3 (by decide) (by decide))
    have n4 : (s / 2048 == 4) = false := beq_eq_false_iff_ne.2 (n 4 (by decide) (by decide))
    have n5 : (s / 2048 == 5) = false := beq_eq_false_iff_ne.2 (n 5 (by decide) (by decide))
    have n6 : (s / 2048 == 6) = false := beq_eq_false_iff_ne.2 (n 6 (by decide) (by decide))
    have n7 : (s / 2048 == 7) = false := beq_eq_false_iff_ne.2 (n 7 (by decide) (by decide))
    have n8 : (s / 2048 == 8) = false := beq_eq_false_iff_ne.2 (n 8 (by decide) (by decide))
    have n9 : (s / 2048 == 9) = false := beq_eq_false_iff_ne.2 (n 9 (by decide) (by decide))
    clear n hc
    go_wp2_with (first | (go_at_call 143; with_reducible refine (hra _).mono ?_; rintro e z ⟨rfl, rfl⟩) | (go_at_call 143; with_reducible refine (hrb _).mono ?_; rintro e z ⟨rfl, rfl⟩))
    refine bodyPost_ret (v := .tuple #[In.val inZero, .bool false]) (by simp [results, Tryz.results100, go_sem, a0, a1, a2, a3, a4, a5, a6, a7, a8, a9, a10, inZero]) rfl ?_
    exact ⟨rfl, made_set11b MV.out hz _ _ _ _ _ _ _ _ _ _ _⟩
end
end
section
set_option maxRecDepth 100000
open Go.ChangeShapes Go.WideShapes Go.ChangeAt Go.RowKit Go.Sort BigFrame

theorem found_of (x : In) (k : Nat) (hk : k < 32768) (h : docInst k = (x, true)) : subOf x = ((k : Int), true) :=
  of_says k (by omega) (by omega) x ((inst_doc k (by omega) (by omega)).trans h)
theorem none_of (x : In) (h : ∀ j : Nat, j < 32768 → docInst j ≠ (x, true)) : subOf x = (0, false) := by
  cases h2 : (subOf x).2 with
  | false => exact of_none x h2
  | true =>
    obtain ⟨s0, s1, hs⟩ := inst_of (subOf x).1 x (Prod.ext rfl h2)
    have hle := (says _ s0 s1 x hs).le
    obtain ⟨n, hn⟩ := Int.eq_ofNat_of_zero_le s0
    rw [hn] at hs hle s1
    exact absurd ((inst_doc n (by omega) (by omega)).symm.trans hs) (h n (by omega))
section
attribute [local irreducible] World.cell?
set_option maxRecDepth 100000 in
set_option maxHeartbeats 8000000 in
theorem refOf7_any (W : World) (x : In) : Makes Tryz.prog W 65 #[x.val] (.tuple #[.int .i64 (subOf x).1, .bool (subOf x).2]) := by
  intro w hm
  have hz := hm.size
  obtain ⟨R, hR⟩ : ∃ R, R = subOf x := ⟨_, rfl⟩
  rewrite [← hR]
  have HF := Lib.hid (fun k hk h => hR.trans (found_of x k hk h))
  have HN := Lib.hid (fun h => hR.trans (none_of x h))
  have HM := Lib.hid (show Own W w.heap.size x (w.alloc (.cells x.cells.toArray 42)) from ⟨hm.alloc hz _, heap_alloc_new w _⟩)
  clear hR hm
  go_enter Tryz.func65, Tryz.ntmps65
  go_upto_region 1 with (fail)
  refine name_world (fun v => Own W w.heap.size x v) HM.out ?_
  intro v hv
  have KV := Lib.hid hv
  clear hv HM
  go_wp2_with (fail)
  go_loopw [4] (fun i wr => ∃ k : Nat, k ≤ 32768 ∧ i = .int .i64 k ∧ (∀ j : Nat, j < k → docInst j ≠ (x, true)) ∧ Own W w.heap.size x wr) (fun i _ => 32768 - (intOf i).toNat)
  case atStart => exact ⟨0, by omega, rfl, fun j hj => absurd hj (Nat.not_lt_zero j), KV.out⟩
  case round =>
    obtain ⟨k, hk, rfl, hno, hwr⟩ := hrel
    have KR := Lib.hid hwr
    have HO := Lib.hid hno
    clear hwr hno
    by_cases hlt : k < 32768
    · have hin := Lib.hid (refInst7_any wr k (by omega) (by omega))
      generalize hy : docInst (k : Int) = yo at *
      obtain ⟨y, o⟩ := yo
      have HY := Lib.hid hy
      have HL := Lib.hid hlt
      have hd0 : decide ((k : Int) < 32768) = true := decide_eq_true (by omega)
      obtain ⟨B, hB, hB2⟩ : ∃ B : Int, (k : Int) < B ∧ B ≤ 1000000 := ⟨32768, by omega, by decide⟩
      clear hy hk hlt
      go_wp2_with (fail)
      refine (hin.out wr (Made.refl wr)).mono ?_
      rintro e z ⟨rfl, hz1⟩
      have K1 := Lib.hid (show TwoIn W w.heap.size z.heap.size x y (z.alloc (.cells y.cells.toArray 42)) from
        have h2 := (Made.refl z).alloc (Nat.le_refl _) (.cells y.cells.toArray 42)
        ⟨Made.trans KR.out.made (Made.trans hz1 h2), Made.heap h2 (Made.heap hz1 KR.out.in_), heap_alloc_new z _⟩)
      clear hz1
      go_upto_region 5 with (fail)
      refine name_world (fun v => TwoIn W w.heap.size z.heap.size x y v) K1.out ?_
      intro v3 hv
      have KV3 := Lib.hid hv
      obtain ⟨a0, a1, a2, a3, a4, a5, a6, a7, a8, a9, a10⟩ := in_cells hv.in_
      obtain ⟨b0, b1, b2, b3, b4, b5, b6, b7, b8, b9, b10⟩ := in_cells hv.out_
      have hl := heap_lt hv.in_
      have hl2 := heap_lt hv.out_
      have hop := fun w => run_in_eql y x w
      clear hv K1
      have hnext : (y, o) ≠ (x, true) → ∀ j : Nat, j < k + 1 → docInst j ≠ (x, true) := fun hne j hj => by
        rcases Nat.lt_or_ge j k with h | h
        · exact HO.out j h
        · obtain rfl : j = k := by omega
          rw [HY.out]; exact hne
      cases o with
      | false =>
        have HX := Lib.hid (hnext (fun h => by cases h))
        clear hnext
        go_wp2
        go_roundw
        case rel => exact ⟨k + 1, HL.out, by go_num, HX.out, ⟨KV3.out.made, KV3.out.in_⟩⟩
        case measure => have := HL.out; simp [intOf]; omega
      | true =>
        by_cases hyx : y = x
        · have hd : decide (y = x) = true := decide_eq_true hyx
          have e1 : R = ((k : Int), true) := HF.out k HL.out (by rw [HY.out, hyx])
          have E1 := Lib.hid e1
          obtain rfl := E1.out
          clear e1 hyx hnext
          go_wp2
          go_ret2
          exact ⟨rfl, KV3.out.made⟩
        · have hd : decide (y = x) = false := decide_eq_false hyx
          have HX := Lib.hid (hnext (fun h => hyx (Prod.mk.inj h).1))
          clear hyx hnext
          go_wp2
          go_roundw
          case rel => exact ⟨k + 1, HL.out, by go_num, HX.out, ⟨KV3.out.made, KV3.out.in_⟩⟩
          case measure => have := HL.out; simp [intOf]; omega
    · obtain rfl : k = 32768 := by omega
      have e1 : R = (0, false) := HN.out HO.out
      have E1 := Lib.hid e1
      obtain rfl := E1.out
      clear e1 hlt hk
      go_wp2
      go_ret2
      exact ⟨rfl, KR.out.made⟩
end
end
section
set_option maxRecDepth 100000
open Go.ChangeShapes Go.WideShapes Go.ChangeAt Go.RowKit Go.Sort BigFrame

theorem ret3 {a b c a' b' c' : Int} (ha : a = a') (hb : b = b') (hc : c = c') : Ending.returned (.tuple #[.int .i64 a, .int .i64 b, .int .i64 c]) = Ending.returned (.tuple #[.int .i64 a', .int .i64 b', .int .i64 c']) := by
  subst ha; subst hb; subst hc; rfl
theorem join8_any (u l : Int) (u0 : 0 ≤ u) (u1 : u < 32768) (l0 : 0 ≤ l) (l1 : l < 32768) : Still Tryz.prog 67 #[.int .i64 u, .int .i64 l] (.int .u32 (dupZ u l)) := by
  intro w
  have hd : dupZ u l = (u * 32768 + l) / 16384 * 65536 + (u * 32768 + l) % 16384 := by
    unfold dupZ
    rw [p15]
    unfold fromThirtyZ
    omega
  have HD := Lib.hid hd
  clear hd
  go_enter Tryz.func67, Tryz.ntmps67
  go_wp2
  go_ret
  exact ⟨ret_int (by rw [HD.out]), rfl⟩
section
attribute [local irreducible] World.cell?
set_option maxRecDepth 100000 in
set_option maxHeartbeats 1000000 in
theorem store8_any (W : World) (x : In) (hx : x.small) : Makes Tryz.prog W 66 #[x.val] (.bool (storeB x)) := by
  intro w hm
  have hz := hm.size
  have K0 := Lib.hid (show Own W w.heap.size x (w.alloc (.cells x.cells.toArray 42)) from ⟨hm.alloc hz _, heap_alloc_new w _⟩)
  rewrite [storeB_doc x hx]
  clear hx hm
  go_enter Tryz.func66, Tryz.ntmps66
  go_upto_region 1 with (fail)
  refine name_world (fun v => Own W w.heap.size x v) K0.out ?_
  intro v hv
  have KV := Lib.hid hv
  obtain ⟨a0, -⟩ := in_cells hv.in_
  have hl := heap_lt hv.in_
  clear hv K0

  cases h1 : decide (24 ≤ x.op) with
  | false =>
    have H1 := Lib.hid h1
    go_wp2
    go_ret
    exact ⟨ret_bool (by rw [H1.out]; rfl), KV.out.made⟩
  | true =>
    have H1 := Lib.hid h1
    go_wp2
    go_ret
    exact ⟨ret_bool (by rw [H1.out]; rfl), KV.out.made⟩
set_option maxRecDepth 100000 in
set_option maxHeartbeats 4000000 in
theorem pair8_any (W : World) (a b : In) (ha : a.small) (hb : b.small) : Makes Tryz.prog W 33 #[a.val, b.val] (.tuple #[.int .u32 (pairP a b).1, .bool (pairP a b).2]) := by
  intro w hm
  have K0 := Lib.hid ((Held.start hm).push2 a b)
  have CA := Lib.hid (fun v => refOf7_any v a v (Made.refl v))
  have CB := Lib.hid (fun v => refOf7_any v b v (Made.refl v))
  have SA := Lib.hid (fun v => store8_any v a ha v (Made.refl v))
  have SB := Lib.hid (fun v => store8_any v b hb v (Made.refl v))
  obtain ⟨s0, s1⟩ := subOf_0 a
  obtain ⟨t0, t1⟩ := subOf_0 b
  obtain ⟨R, hR⟩ : ∃ R, R = pairP a b := ⟨_, rfl⟩
  rewrite [← hR]
  unfold pairP at hR
  generalize subOf a = ca at *
  obtain ⟨s, oa⟩ := ca
  generalize subOf b = cb at *
  obtain ⟨t, ob⟩ := cb
  generalize storeB a = sa at *
  generalize storeB b = sb at *
  simp only [] at hR
  have HS := Lib.hid hR
  have JA := Lib.hid (fun v => join8_any s t s0 s1 t0 t1 v)
  have JB := Lib.hid (fun v => join8_any t s t0 t1 s0 s1 v)
  generalize dupZ s t = ja at *
  generalize dupZ t s = jb at *
  simp only [] at s0 s1 t0 t1
  clear ha hb hm hR
  go_enter Tryz.func33, Tryz.ntmps33
  go_upto_region 1 with (fail)
  refine name_world (fun v => Held W [(w.heap.size + 1, b), (w.heap.size, a)] v) K0.out ?_
  intro v hv
  have KV := Lib.hid hv
  clear hv K0
  obtain ⟨a0, a1, a2, a3, a4, a5, a6, a7, a8, a9, a10⟩ := in_cells (KV.out.one (b := w.heap.size) (x := a) (by simp))
  have hl := heap_lt (KV.out.one (b := w.heap.size) (x := a) (by simp))
  go_wp2_with (fail)
  refine (CA.out v).mono ?_
  rintro e z1 ⟨rfl, hz⟩
  have K1 := Lib.hid (KV.out.next hz)
  clear hz a0 a1 a2 a3 a4 a5 a6 a7 a8 a9 a10 hl
  obtain ⟨a0, a1, a2, a3, a4, a5, a6, a7, a8, a9, a10⟩ := in_cells (K1.out.one (b := w.heap.size + 1) (x := b) (by simp))
  have hl := heap_lt (K1.out.one (b := w.heap.size + 1) (x := b) (by simp))
  go_wp2_with (fail)
  refine (CB.out z1).mono ?_
  rintro e z2 ⟨rfl, hz⟩
  have K2 := Lib.hid (K1.out.next hz)
  clear hz a0 a1 a2 a3 a4 a5 a6 a7 a8 a9 a10 hl
  cases oa with
  | false =>
    have e1 : R = (0, false) := HS.out
    have E1 := Lib.hid e1
    obtain rfl := E1.out
    clear e1
    go_wp2
    go_ret2
    exact ⟨rfl, K2.out.made⟩
  | true =>
    cases ob with
    | false =>
      have e1 : R = (0, false) := HS.out
      have E1 := Lib.hid e1
      obtain rfl := E1.out
      clear e1
      go_wp2
      go_ret2
      exact ⟨rfl, K2.out.made⟩
    | true =>
      obtain ⟨a0, a1, a2, a3, a4, a5, a6, a7, a8, a9, a10⟩ := in_cells (K2.out.one (b := w.heap.size) (x := a) (by simp))
      have hl := heap_lt (K2.out.one (b := w.heap.size) (x := a) (by simp))
      go_wp2_with (fail)
      refine (SA.out z2).mono ?_
      rintro e z3 ⟨rfl, hz⟩
      have K3 := Lib.hid (K2.out.next hz)
      clear hz a0 a1 a2 a3 a4 a5 a6 a7 a8 a9 a10 hl
      cases sa with
      | true =>
        obtain ⟨a0, a1, a2, a3, a4, a5, a6, a7, a8, a9, a10⟩ := in_cells (K3.out.one (b := w.heap.size + 1) (x := b) (by simp))
        have hl := heap_lt (K3.out.one (b := w.heap.size + 1) (x := b) (by simp))
        go_wp2_with (fail)
        refine (SB.out z3).mono ?_
        rintro e z4 ⟨rfl, hz⟩
        have K4 := Lib.hid (K3.out.next hz)
        clear hz a0 a1 a2 a3 a4 a5 a6 a7 a8 a9 a10 hl
        cases sb with
        | true =>
          have e1 : R = (0, false) := HS.out
          have E1 := Lib.hid e1
          obtain rfl := E1.out
          clear e1
          go_wp2
          go_ret2
          exact ⟨rfl, K4.out.made⟩
        | false =>
          have e1 : R = (jb, true) := HS.out
          have E1 := Lib.hid e1
          obtain rfl := E1.out
          clear e1
          obtain ⟨a0, a1, a2, a3, a4, a5, a6, a7, a8, a9, a10⟩ := in_cells (K4.out.one (b := w.heap.size) (x := a) (by simp))
          have hl := heap_lt (K4.out.one (b := w.heap.size) (x := a) (by simp))
          go_wp2_with (fail)
          refine (SA.out z4).mono ?_
          rintro e z5 ⟨rfl, hz⟩
          have K5 := Lib.hid (K4.out.next hz)
          clear hz a0 a1 a2 a3 a4 a5 a6 a7 a8 a9 a10 hl
          go_wp2_with (fail)
          refine (JB.out z5).mono ?_
          rintro e z6 ⟨rfl, rfl⟩
          go_wp2
          go_ret2
          exact ⟨rfl, K5.out.made⟩
      | false =>
        obtain ⟨a0, a1, a2, a3, a4, a5, a6, a7, a8, a9, a10⟩ := in_cells (K3.out.one (b := w.heap.size) (x := a) (by simp))
        have hl := heap_lt (K3.out.one (b := w.heap.size) (x := a) (by simp))
        go_wp2_with (fail)
        refine (SA.out z3).mono ?_
        rintro e z4 ⟨rfl, hz⟩
        have K4 := Lib.hid (K3.out.next hz)
        clear hz a0 a1 a2 a3 a4 a5 a6 a7 a8 a9 a10 hl
        obtain ⟨a0, a1, a2, a3, a4, a5, a6, a7, a8, a9, a10⟩ := in_cells (K4.out.one (b := w.heap.size + 1) (x := b) (by simp))
        have hl := heap_lt (K4.out.one (b := w.heap.size + 1) (x := b) (by simp))
        go_wp2_with (fail)
        refine (SB.out z4).mono ?_
        rintro e z5 ⟨rfl, hz⟩
        have K5 := Lib.hid (K4.out.next hz)
        clear hz a0 a1 a2 a3 a4 a5 a6 a7 a8 a9 a10 hl
        cases sb with
        | true =>
          have e1 : R = (ja, true) := HS.out
          have E1 := Lib.hid e1
          obtain rfl := E1.out
          clear e1
          go_wp2_with (fail)
          refine (JA.out z5).mono ?_
          rintro e z6 ⟨rfl, rfl⟩
          go_wp2
          go_ret2
          exact ⟨rfl, K5.out.made⟩
        | false =>
          by_cases hlt : s < t
          · have hd : decide (s < t) = true := decide_eq_true hlt
            have hd2 : decide (t ≤ s) = false := decide_eq_false (by omega)
            have e1 : R = (jb, true) := by rw [HS.out, hd]; rfl
            have E1 := Lib.hid e1
            obtain rfl := E1.out
            clear e1
            clear hlt
            go_wp2_with (fail)
            refine (JB.out z5).mono ?_
            rintro e z6 ⟨rfl, rfl⟩
            go_wp2
            go_ret2
            exact ⟨rfl, K5.out.made⟩
          · have hd : decide (s < t) = false := decide_eq_false hlt
            have hd2 : decide (t ≤ s) = true := decide_eq_true (by omega)
            have e1 : R = (ja, true) := by rw [HS.out, hd]; rfl
            have E1 := Lib.hid e1
            obtain rfl := E1.out
            clear e1
            clear hlt
            go_wp2_with (fail)
            refine (JA.out z5).mono ?_
            rintro e z6 ⟨rfl, rfl⟩
            go_wp2
            go_ret2
            exact ⟨rfl, K5.out.made⟩
end
end
end Go.Proofs.YtdghnlbfmaehoaaGreatDoor
