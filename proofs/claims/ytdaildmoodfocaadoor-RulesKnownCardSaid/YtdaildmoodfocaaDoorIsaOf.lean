/- What rowOf, Of of package isa return, for every op, in every world that has grown out of one that holds the table of names. -/
import Derived.Test.YtdaildmoodfocaaDoorIsaRowA
import Derived.Test.YtdaildmoodfocaaDoorIsaRowB
import Derived.Test.YtdaildmoodfocaaDoorIsaRowC
import Derived.Test.YtdaildmoodfocaaDoorIsaRowD
namespace Go.Proofs.YtdaildmoodfocaaDoor
open Go.ChangeShapes Go.WideShapes Go.ChangeAt Go.RowKit Go.Sort

def opN (op : Int) : Int := if isOp op then op else 0
set_option maxRecDepth 100000 in
set_option maxHeartbeats 1000000 in
theorem rowOf_none (W : World) (op : Int) (h0 : op < 1 ∨ 31 < op) (w : World) (hm : Made W w) : Calls Tryd.prog 52 #[.int .u8 op] w (IsRowOf W 0) := by
  have hz := hm.size
  have n1 : (op == 1) = false := beq_eq_false_iff_ne.2 (by omega)
  have n2 : (op == 2) = false := beq_eq_false_iff_ne.2 (by omega)
  have n3 : (op == 3) = false := beq_eq_false_iff_ne.2 (by omega)
  have n4 : (op == 4) = false := beq_eq_false_iff_ne.2 (by omega)
  have n5 : (op == 5) = false := beq_eq_false_iff_ne.2 (by omega)
  have n6 : (op == 6) = false := beq_eq_false_iff_ne.2 (by omega)
  have n7 : (op == 7) = false := beq_eq_false_iff_ne.2 (by omega)
  have n8 : (op == 8) = false := beq_eq_false_iff_ne.2 (by omega)
  have n9 : (op == 9) = false := beq_eq_false_iff_ne.2 (by omega)
  have n10 : (op == 10) = false := beq_eq_false_iff_ne.2 (by omega)
  have n11 : (op == 11) = false := beq_eq_false_iff_ne.2 (by omega)
  have n12 : (op == 12) = false := beq_eq_false_iff_ne.2 (by omega)
  have n13 : (op == 13) = false := beq_eq_false_iff_ne.2 (by omega)
  have n14 : (op == 14) = false := beq_eq_false_iff_ne.2 (by omega)
  have n15 : (op == 15) = false := beq_eq_false_iff_ne.2 (by omega)
  have n16 : (op == 16) = false := beq_eq_false_iff_ne.2 (by omega)
  have n17 : (op == 17) = false := beq_eq_false_iff_ne.2 (by omega)
  have n18 : (op == 18) = false := beq_eq_false_iff_ne.2 (by omega)
  have n19 : (op == 19) = false := beq_eq_false_iff_ne.2 (by omega)
  have n20 : (op == 20) = false := beq_eq_false_iff_ne.2 (by omega)
  have n21 : (op == 21) = false := beq_eq_false_iff_ne.2 (by omega)
  have n22 : (op == 22) = false := beq_eq_false_iff_ne.2 (by omega)
  have n23 : (op == 23) = false := beq_eq_false_iff_ne.2 (by omega)
  have n24 : (op == 24) = false := beq_eq_false_iff_ne.2 (by omega)
  have n25 : (op == 25) = false := beq_eq_false_iff_ne.2 (by omega)
  have n26 : (op == 26) = false := beq_eq_false_iff_ne.2 (by omega)
  have n27 : (op == 27) = false := beq_eq_false_iff_ne.2 (by omega)
  have n28 : (op == 28) = false := beq_eq_false_iff_ne.2 (by omega)
  have n29 : (op == 29) = false := beq_eq_false_iff_ne.2 (by omega)
  have n30 : (op == 30) = false := beq_eq_false_iff_ne.2 (by omega)
  have n31 : (op == 31) = false := beq_eq_false_iff_ne.2 (by omega)
  clear h0
  go_enter Tryd.func52, Tryd.ntmps52
  go_wp2_with (fail)
  refine (plain_any _ _ _ _ (Made.refl _)).mono ?_
  rintro e w1 ⟨rfl, h1⟩
  go_wp2_with (fail)
  refine (plain_any _ _ _ _ h1).mono ?_
  rintro e w2 ⟨rfl, h2⟩
  go_wp2_with (fail)
  refine (plain_any _ _ _ _ h2).mono ?_
  rintro e w3 ⟨rfl, h3⟩
  go_wp2_with (fail)
  refine (plain_any _ _ _ _ h3).mono ?_
  rintro e w4 ⟨rfl, h4⟩
  clear h1 h2 h3
  have hz4 : w.heap.size < w4.heap.size := by have := h4.size; simp only [World.size_alloc] at this; omega
  have hW4 : Made W w4 := Made.trans (hm.alloc hz _) h4
  have hr4 : w4.heap[w.heap.size]? = some (.cells rowLit 56 (0, 0)) := h4.heap (heap_alloc_new w _)
  clear h4
  go_upto_region 2 with (fail)
  refine name_world (fun u => RowVars W w.heap.size w4.heap.size u) (rowVars_of hW4 hz4 hr4) ?_
  rintro u ⟨hM, hr, hD, hP, hS, hT, hzu⟩
  clear hW4 hr4
  have HM := Lib.hid hM
  have hn0u : w.heap.size < u.heap.size := by omega
  have c0 : u.cell? ⟨w.heap.size, 0, none⟩ = some (.int .u8 0) := cell_of_lit hr 0
  have c1 : u.cell? ⟨w.heap.size, 1, none⟩ = some (.string { data := #[] }) := cell_of_lit hr 1
  have c2 : u.cell? ⟨w.heap.size, 2, none⟩ = some (.int .u8 0) := cell_of_lit hr 2
  have c3 : u.cell? ⟨w.heap.size, 3, none⟩ = some (.int .u8 0) := cell_of_lit hr 3
  have c4 : u.cell? ⟨w.heap.size, 4, none⟩ = some (.slice none 0 0) := cell_of_lit hr 4
  have fz := free_of_lit hr
  have HO := Lib.hid (World.ownsRow_nil u u.heap.size 69 5)
  clear hr hD hP hS hT hM
  go_wp2
  refine bodyPost_ret (v := .agg #[.int .u8 0, .string { data := #[] }, .int .u8 0, .int .u8 0, .slice none 0 0]) (by simp [results, Tryd.results52, go_sem, c0, c1, c2, c3, c4]) rfl ?_
  exact ⟨_, _, _, rfl, row_close HM.out (Made.refl u) hz hn0u HO.out _ _ _ _ _⟩

theorem rowOf_any (W : World) (hN : Names W) (op : Int) (h0 : 0 ≤ op) (w : World) (hm : Made W w) : Calls Tryd.prog 52 #[.int .u8 op] w (IsRowOf W (opN op)) := by
  by_cases h : op < 1 ∨ 31 < op
  · have e : opN op = 0 := by unfold opN isOp; rw [if_neg (by simp; omega)]
    rw [e]
    exact rowOf_none W op h w hm
  · have e : opN op = op := by unfold opN isOp; rw [if_pos (by simp; omega)]
    rw [e]
    have hc : op = 1 ∨ op = 2 ∨ op = 3 ∨ op = 4 ∨ op = 5 ∨ op = 6 ∨ op = 7 ∨ op = 8 ∨ op = 9 ∨ op = 10 ∨ op = 11 ∨ op = 12 ∨ op = 13 ∨ op = 14 ∨ op = 15 ∨ op = 16 ∨ op = 17 ∨ op = 18 ∨ op = 19 ∨ op = 20 ∨ op = 21 ∨ op = 22 ∨ op = 23 ∨ op = 24 ∨ op = 25 ∨ op = 26 ∨ op = 27 ∨ op = 28 ∨ op = 29 ∨ op = 30 ∨ op = 31 := by omega
    rcases hc with rfl | rfl | rfl | rfl | rfl | rfl | rfl | rfl | rfl | rfl | rfl | rfl | rfl | rfl | rfl | rfl | rfl | rfl | rfl | rfl | rfl | rfl | rfl | rfl | rfl | rfl | rfl | rfl | rfl | rfl | rfl
    · exact rowOf_1 W hN w hm
    · exact rowOf_2 W hN w hm
    · exact rowOf_3 W hN w hm
    · exact rowOf_4 W hN w hm
    · exact rowOf_5 W hN w hm
    · exact rowOf_6 W hN w hm
    · exact rowOf_7 W hN w hm
    · exact rowOf_8 W hN w hm
    · exact rowOf_9 W hN w hm
    · exact rowOf_10 W hN w hm
    · exact rowOf_11 W hN w hm
    · exact rowOf_12 W hN w hm
    · exact rowOf_13 W hN w hm
    · exact rowOf_14 W hN w hm
    · exact rowOf_15 W hN w hm
    · exact rowOf_16 W hN w hm
    · exact rowOf_17 W hN w hm
    · exact rowOf_18 W hN w hm
    · exact rowOf_19 W hN w hm
    · exact rowOf_20 W hN w hm
    · exact rowOf_21 W hN w hm
    · exact rowOf_22 W hN w hm
    · exact rowOf_23 W hN w hm
    · exact rowOf_24 W hN w hm
    · exact rowOf_25 W hN w hm
    · exact rowOf_26 W hN w hm
    · exact rowOf_27 W hN w hm
    · exact rowOf_28 W hN w hm
    · exact rowOf_29 W hN w hm
    · exact rowOf_30 W hN w hm
    · exact rowOf_31 W hN w hm

theorem opN_ne (op : Int) : (opN op != 0) = isOp op := by
  unfold opN
  cases h : isOp op with
  | false => rfl
  | true =>
    simp only [isOp, Bool.and_eq_true, decide_eq_true_eq] at h
    rw [if_pos rfl, bne_iff_ne]
    omega
def IsOf (W : World) (op : Int) (e : Ending) (w' : World) : Prop := ∃ p n cap, e = .returned (.tuple #[.agg #[.int .u8 (opN op), .string (nameZ (opN op)), .int .u8 (classZ (opN op)), .int .u8 (slotsZ (classZ (opN op))), .slice p n cap], .bool (isOp op)]) ∧ Made W w' ∧
  w'.ownsRow W.heap.size 69 5 (.slice p n cap) (fieldsZ (opN op)).length (flatF (fieldsZ (opN op)))
section
attribute [local irreducible] World.cell?
set_option maxHeartbeats 1000000 in
theorem of_any (W : World) (hN : Names W) (op : Int) (h0 : 0 ≤ op) (w : World) (hm : Made W w) : Calls Tryd.prog 37 #[.int .u8 op] w (IsOf W op) := by
  have hz := hm.size
  go_enter Tryd.func37, Tryd.ntmps37
  go_wp2_with (fail)
  refine (rowOf_any _ (hN.made (hm.alloc hz _)) op h0 _ (Made.refl _)).mono ?_
  rintro e w1 ⟨p, n, cap, rfl, h1, ho⟩
  have hr1 := h1.heap (heap_alloc_new w _)
  have hzz : w.heap.size + 1 ≤ w1.heap.size := by have := h1.size; simp only [World.size_alloc] at this; omega
  have hlt : w.heap.size < w1.heap.size := by omega
  have HO := Lib.hid ho
  have H1 := Lib.hid h1
  have c0 : w1.cell? ⟨w.heap.size, 0, none⟩ = some (.int .u8 0) := cell_of_lit (cs := rowLit.toList) hr1 0
  have c1 : w1.cell? ⟨w.heap.size, 1, none⟩ = some (.string { data := #[] }) := cell_of_lit (cs := rowLit.toList) hr1 1
  have c2 : w1.cell? ⟨w.heap.size, 2, none⟩ = some (.int .u8 0) := cell_of_lit (cs := rowLit.toList) hr1 2
  have c3 : w1.cell? ⟨w.heap.size, 3, none⟩ = some (.int .u8 0) := cell_of_lit (cs := rowLit.toList) hr1 3
  have c4 : w1.cell? ⟨w.heap.size, 4, none⟩ = some (.slice none 0 0) := cell_of_lit (cs := rowLit.toList) hr1 4
  have fz := free_of_lit hr1
  clear hr1 ho h1
  go_wp2_with (fail)
  go_region
  go_wp2
  refine bodyPost_ret (v := .tuple #[.agg #[.int .u8 (opN op), .string (nameZ (opN op)), .int .u8 (classZ (opN op)), .int .u8 (slotsZ (classZ (opN op))), .slice p n cap], .bool (opN op != 0)]) (by simp [results, Tryd.results37, go_sem, c0, c1, c2, c3, c4, hlt]) rfl ?_
  rewrite [opN_ne]
  have K := row_close (hm.alloc hz _) H1.out hz (by simp) HO.out (.int .u8 (opN op)) (.string (nameZ (opN op))) (.int .u8 (classZ (opN op))) (.int .u8 (slotsZ (classZ (opN op)))) (.slice p n cap)
  exact ⟨p, n, cap, rfl, (K.1.alloc K.1.size _).drew, owns_made K.2 ((Made.refl _).alloc (Nat.le_refl _) _).drew⟩
end
end Go.Proofs.YtdaildmoodfocaaDoor
