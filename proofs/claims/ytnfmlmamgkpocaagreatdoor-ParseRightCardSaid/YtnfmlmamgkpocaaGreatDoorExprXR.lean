/- What isRight and Right of package expr return; no condition but that on the number of terms. -/
import Derived.Test.YtnfmlmamgkpocaaGreatDoorGExprXP
import Derived.Test.YtnfmlmamgkpocaaGreatDoorExprRefR
namespace Go.Proofs.YtnfmlmamgkpocaaGreatDoor
open Go.ChangeShapes Go.WideShapes Go.ChangeAt Go.RowKit Go.Sort BigFrame

section
set_option maxRecDepth 100000 in
set_option maxHeartbeats 1000000 in
theorem tm_eql (y z : Tm) (w : World) : (binOp .eql TE y.val z.val).run Tryz.prog w = .ok (.bool (decide (y = z))) w := by
  obtain ⟨y0, y1, y2, y3, y4⟩ := y
  obtain ⟨z0, z1, z2, z3, z4⟩ := z
  by_cases h0 : y0 = z0
  rotate_left
  · simp [go_sem, h0]
  subst h0
  by_cases h1 : y1 = z1
  rotate_left
  · simp [go_sem, h1]
  subst h1
  by_cases h2 : y2 = z2
  rotate_left
  · simp [go_sem, h2]
  subst h2
  by_cases h3 : y3 = z3
  rotate_left
  · simp [go_sem, h3]
  subst h3
  by_cases h4 : y4 = z4
  rotate_left
  · simp [go_sem, h4]
  subst h4
  simp [go_sem]
end
section
attribute [local irreducible] World.cell?
set_option maxRecDepth 100000 in
set_option maxHeartbeats 16000000 in
theorem isRight_any (W : World) (t : Tm) (i : Nat) : Makes Tryz.prog W 48 #[t.val, .int .i64 i] (.bool (okT t i)) := by
  intro w hm
  have HWAY := Lib.hid (ok_ways t i)
  obtain ⟨tk, tv, tn, ta, tb⟩ := t
  have HX := Lib.hid (show Made W (w.alloc (.cells (Tm.cells ⟨tk, tv, tn, ta, tb⟩).toArray TE)) ∧ (w.alloc (.cells (Tm.cells ⟨tk, tv, tn, ta, tb⟩).toArray TE)).heap[w.heap.size]? = some (.cells (Tm.cells ⟨tk, tv, tn, ta, tb⟩).toArray TE (0, 0)) from ⟨hm.alloc hm.size _, heap_alloc_new w _⟩)
  clear hm
  rcases HWAY.out with ⟨hkind, hE⟩ | ⟨hkind, hE⟩ | ⟨hkind, hE⟩ | ⟨hkind, hE⟩ | ⟨hkind, hE⟩
  · simp only [] at hkind hE
    have HE := Lib.hid hE
    have g1 : (tk == 1) = true := by rw [hkind]; rfl
    obtain ⟨dn, hdn⟩ : ∃ dn, decide (0 ≤ tv ∧ tv ≤ 1099511627776) = dn := ⟨_, rfl⟩
    have HN := Lib.hid (isNumber_any tv)
    rewrite [hdn] at HN HE
    have hop := fun w => tm_eql ⟨tk, tv, tn, ta, tb⟩ ⟨tk, tv, [], 0, 0⟩ w
    clear hkind hE HWAY hdn
    go_enter Tryz.func48, Tryz.ntmps48
    go_upto_region 1 with (fail)
    refine world_named (fun u => Made W u ∧ u.heap[w.heap.size]? = some (.cells (Tm.cells ⟨tk, tv, tn, ta, tb⟩).toArray TE (0, 0))) HX.out ?_
    rintro u ⟨hm, hb⟩
    have HM := Lib.hid hm
    have c0 : u.cell? ⟨w.heap.size, 0, none⟩ = some (.int .u8 tk) := cell_of_lit hb 0
    have c1 : u.cell? ⟨w.heap.size, 1, none⟩ = some (.int .i64 tv) := cell_of_lit hb 1
    have c2 : u.cell? ⟨w.heap.size, 2, none⟩ = some (.string (strOf tn)) := cell_of_lit hb 2
    have c3 : u.cell? ⟨w.heap.size, 3, none⟩ = some (.int .i64 ta) := cell_of_lit hb 3
    have c4 : u.cell? ⟨w.heap.size, 4, none⟩ = some (.int .i64 tb) := cell_of_lit hb 4
    clear hm hb HX
    cases dn with
    | false =>
      go_wp2_with ((go_at_call 71; with_reducible refine (HN.out _).mono ?_; rintro e w' ⟨rfl, rfl⟩))
      go_ret
      exact ⟨ret_bool (by rw [HE.out]; first | rfl | (rw [Bool.eq_iff_iff]; simp)), HM.out⟩
    | true =>
      go_wp2_with ((go_at_call 71; with_reducible refine (HN.out _).mono ?_; rintro e w' ⟨rfl, rfl⟩))
      go_ret
      exact ⟨ret_bool (by rw [HE.out]; first | rfl | (rw [Bool.eq_iff_iff]; simp)), HM.out⟩
  · simp only [] at hkind hE
    have HE := Lib.hid hE
    have g1 : (tk == 1) = false := by rw [hkind]; rfl
    have g2 : (tk == 2) = true := by rw [hkind]; rfl
    have hop := fun w => tm_eql ⟨tk, tv, tn, ta, tb⟩ ⟨tk, 0, tn, 0, 0⟩ w
    clear hkind hE HWAY
    go_enter Tryz.func48, Tryz.ntmps48
    go_upto_region 1 with (fail)
    refine world_named (fun u => Made W u ∧ u.heap[w.heap.size]? = some (.cells (Tm.cells ⟨tk, tv, tn, ta, tb⟩).toArray TE (0, 0))) HX.out ?_
    rintro u ⟨hm, hb⟩
    have HM := Lib.hid hm
    have c0 : u.cell? ⟨w.heap.size, 0, none⟩ = some (.int .u8 tk) := cell_of_lit hb 0
    have c1 : u.cell? ⟨w.heap.size, 1, none⟩ = some (.int .i64 tv) := cell_of_lit hb 1
    have c2 : u.cell? ⟨w.heap.size, 2, none⟩ = some (.string (strOf tn)) := cell_of_lit hb 2
    have c3 : u.cell? ⟨w.heap.size, 3, none⟩ = some (.int .i64 ta) := cell_of_lit hb 3
    have c4 : u.cell? ⟨w.heap.size, 4, none⟩ = some (.int .i64 tb) := cell_of_lit hb 4
    clear hm hb HX
    by_cases hn : tn = []
    · subst hn
      go_wp2_with (fail)
      go_ret
      exact ⟨ret_bool (by rw [HE.out]; rfl), HM.out⟩
    · have HNN := Lib.hid hn
      have gn : (tn == []) = false := beq_eq_false_iff_ne.2 hn
      go_wp2_with (fail)
      go_ret
      exact ⟨ret_bool (by rw [HE.out, decide_eq_true HNN.out, Bool.true_and]; first | rfl | (rw [Bool.eq_iff_iff]; simp)), HM.out⟩
  · simp only [] at hkind hE
    have HE := Lib.hid hE
    have g1 : (tk == 1) = false := beq_eq_false_iff_ne.2 (by omega)
    have g2 : (tk == 2) = false := beq_eq_false_iff_ne.2 (by omega)
    have HK := Lib.hid (show ((tk == 3) = true ∨ ((tk == 3) = false ∧ (tk == 4) = true)) ∨ ((tk == 3) = false ∧ (tk == 4) = false ∧ (tk == 5) = true) by
      rcases hkind with rfl | rfl | rfl <;> decide)
    obtain ⟨da, hda⟩ : ∃ da, decide (0 ≤ ta ∧ ta < (i : Int)) = da := ⟨_, rfl⟩
    obtain ⟨db, hdb⟩ : ∃ db, decide (0 ≤ tb ∧ tb < (i : Int)) = db := ⟨_, rfl⟩
    have HA := Lib.hid (isEarlier_any ta i)
    have HB := Lib.hid (isEarlier_any tb i)
    rewrite [hda] at HA HE
    rewrite [hdb] at HB HE
    have hop := fun w => tm_eql ⟨tk, tv, tn, ta, tb⟩ ⟨tk, 0, [], ta, tb⟩ w
    clear hkind hE HWAY hda hdb
    go_enter Tryz.func48, Tryz.ntmps48
    go_upto_region 1 with (fail)
    refine world_named (fun u => Made W u ∧ u.heap[w.heap.size]? = some (.cells (Tm.cells ⟨tk, tv, tn, ta, tb⟩).toArray TE (0, 0))) HX.out ?_
    rintro u ⟨hm, hb⟩
    have HM := Lib.hid hm
    have c0 : u.cell? ⟨w.heap.size, 0, none⟩ = some (.int .u8 tk) := cell_of_lit hb 0
    have c1 : u.cell? ⟨w.heap.size, 1, none⟩ = some (.int .i64 tv) := cell_of_lit hb 1
    have c2 : u.cell? ⟨w.heap.size, 2, none⟩ = some (.string (strOf tn)) := cell_of_lit hb 2
    have c3 : u.cell? ⟨w.heap.size, 3, none⟩ = some (.int .i64 ta) := cell_of_lit hb 3
    have c4 : u.cell? ⟨w.heap.size, 4, none⟩ = some (.int .i64 tb) := cell_of_lit hb 4
    clear hm hb HX
    rcases HK.out with (g3 | ⟨g3, g4⟩) | ⟨g3, g4, g5⟩
    all_goals
      clear HK
      cases da with
      | false =>
        go_wp2_with ((go_at_call 72; with_reducible refine (HA.out _).mono ?_; rintro e w' ⟨rfl, rfl⟩))
        go_ret
        exact ⟨ret_bool (by rw [HE.out]; first | rfl | (rw [Bool.eq_iff_iff]; simp)), HM.out⟩
      | true =>
        cases db with
        | false =>
          go_wp2_with ((go_at_call 72; with_reducible (first | refine (HA.out _).mono ?_ | refine (HB.out _).mono ?_); rintro e w' ⟨rfl, rfl⟩))
          go_ret
          exact ⟨ret_bool (by rw [HE.out]; first | rfl | (rw [Bool.eq_iff_iff]; simp)), HM.out⟩
        | true =>
          go_wp2_with ((go_at_call 72; with_reducible (first | refine (HA.out _).mono ?_ | refine (HB.out _).mono ?_); rintro e w' ⟨rfl, rfl⟩))
          go_ret
          exact ⟨ret_bool (by rw [HE.out]; first | rfl | (rw [Bool.eq_iff_iff]; simp)), HM.out⟩
  · simp only [] at hkind hE
    have HE := Lib.hid hE
    have g1 : (tk == 1) = false := by rw [hkind]; rfl
    have g2 : (tk == 2) = false := by rw [hkind]; rfl
    have g3 : (tk == 3) = false := by rw [hkind]; rfl
    have g4 : (tk == 4) = false := by rw [hkind]; rfl
    have g5 : (tk == 5) = false := by rw [hkind]; rfl
    have g6 : (tk == 6) = true := by rw [hkind]; rfl
    obtain ⟨da, hda⟩ : ∃ da, decide (0 ≤ ta ∧ ta < (i : Int)) = da := ⟨_, rfl⟩
    have HA := Lib.hid (isEarlier_any ta i)
    rewrite [hda] at HA HE
    have hop := fun w => tm_eql ⟨tk, tv, tn, ta, tb⟩ ⟨tk, 0, [], ta, 0⟩ w
    clear hkind hE HWAY hda
    go_enter Tryz.func48, Tryz.ntmps48
    go_upto_region 1 with (fail)
    refine world_named (fun u => Made W u ∧ u.heap[w.heap.size]? = some (.cells (Tm.cells ⟨tk, tv, tn, ta, tb⟩).toArray TE (0, 0))) HX.out ?_
    rintro u ⟨hm, hb⟩
    have HM := Lib.hid hm
    have c0 : u.cell? ⟨w.heap.size, 0, none⟩ = some (.int .u8 tk) := cell_of_lit hb 0
    have c1 : u.cell? ⟨w.heap.size, 1, none⟩ = some (.int .i64 tv) := cell_of_lit hb 1
    have c2 : u.cell? ⟨w.heap.size, 2, none⟩ = some (.string (strOf tn)) := cell_of_lit hb 2
    have c3 : u.cell? ⟨w.heap.size, 3, none⟩ = some (.int .i64 ta) := cell_of_lit hb 3
    have c4 : u.cell? ⟨w.heap.size, 4, none⟩ = some (.int .i64 tb) := cell_of_lit hb 4
    clear hm hb HX
    cases da with
    | false =>
      go_wp2_with ((go_at_call 72; with_reducible refine (HA.out _).mono ?_; rintro e w' ⟨rfl, rfl⟩))
      go_ret
      exact ⟨ret_bool (by rw [HE.out]; first | rfl | (rw [Bool.eq_iff_iff]; simp)), HM.out⟩
    | true =>
      go_wp2_with ((go_at_call 72; with_reducible refine (HA.out _).mono ?_; rintro e w' ⟨rfl, rfl⟩))
      go_ret
      exact ⟨ret_bool (by rw [HE.out]; first | rfl | (rw [Bool.eq_iff_iff]; simp)), HM.out⟩
  · simp only [] at hkind hE
    have HE := Lib.hid hE
    have g1 : (tk == 1) = false := beq_eq_false_iff_ne.2 (by omega)
    have g2 : (tk == 2) = false := beq_eq_false_iff_ne.2 (by omega)
    have g3 : (tk == 3) = false := beq_eq_false_iff_ne.2 (by omega)
    have g4 : (tk == 4) = false := beq_eq_false_iff_ne.2 (by omega)
    have g5 : (tk == 5) = false := beq_eq_false_iff_ne.2 (by omega)
    have g6 : (tk == 6) = false := beq_eq_false_iff_ne.2 (by omega)
    clear hkind hE HWAY
    go_enter Tryz.func48, Tryz.ntmps48
    go_upto_region 1 with (fail)
    refine world_named (fun u => Made W u ∧ u.heap[w.heap.size]? = some (.cells (Tm.cells ⟨tk, tv, tn, ta, tb⟩).toArray TE (0, 0))) HX.out ?_
    rintro u ⟨hm, hb⟩
    have HM := Lib.hid hm
    have c0 : u.cell? ⟨w.heap.size, 0, none⟩ = some (.int .u8 tk) := cell_of_lit hb 0
    have c1 : u.cell? ⟨w.heap.size, 1, none⟩ = some (.int .i64 tv) := cell_of_lit hb 1
    have c2 : u.cell? ⟨w.heap.size, 2, none⟩ = some (.string (strOf tn)) := cell_of_lit hb 2
    have c3 : u.cell? ⟨w.heap.size, 3, none⟩ = some (.int .i64 ta) := cell_of_lit hb 3
    have c4 : u.cell? ⟨w.heap.size, 4, none⟩ = some (.int .i64 tb) := cell_of_lit hb 4
    clear hm hb HX
    go_wp2
    go_ret
    exact ⟨ret_bool HE.out.symm, HM.out⟩
set_option maxRecDepth 100000 in
set_option maxHeartbeats 16000000 in
theorem xright_any (W : World) (ao : Option Addr) (cap : Nat) (e : List Tm) (hT : Tms W ao cap e) (hl : e.length ≤ 10000) : Makes Tryz.prog W 25 #[.slice ao e.length cap] (.bool (rightXB e)) := by
  intro w hm
  have HT := Lib.hid hT
  have HM := Lib.hid hm
  clear hT hm
  go_enter Tryz.func25, Tryz.ntmps25
  go_wp2_with (fail)
  go_loopw [7] (fun iv wr => ∃ k : Nat, k ≤ e.length ∧ iv = .int .i64 k ∧ okFrom k (e.drop k) = okFrom 0 e ∧ Made W wr) (fun iv _ => e.length - (intOf iv).toNat)
  case atStart => exact ⟨0, Nat.zero_le _, rfl, rfl, HM.out⟩
  case round =>
    clear HM
    obtain ⟨k, hk, rfl, hok, hmr⟩ := hrel
    have MR := Lib.hid hmr
    have HOK := Lib.hid hok
    clear hok hmr
    by_cases hlt : k < e.length
    rotate_left
    · obtain rfl : k = e.length := by omega
      have HR := Lib.hid (show rightXB e = decide (0 < e.length) by
        unfold rightXB
        rw [← HOK.out, List.drop_length, Bool.eq_iff_iff]
        simp only [okFrom, Bool.true_and, decide_eq_true_eq]
        exact List.length_pos_iff.symm)
      go_wp2
      rewrite [HR.out]
      go_ret
      exact ⟨ret_bool (by simp), MR.out⟩
    · obtain ⟨t, ht⟩ : ∃ t, e[k] = t := ⟨_, rfl⟩
      have HBAD := Lib.hid (show okT t k = false → rightXB e = false from fun h => by
        unfold rightXB
        rw [← HOK.out, List.drop_eq_getElem_cons hlt, ht]
        simp only [okFrom, h, Bool.false_and])
      have HGOOD := Lib.hid (show okT t k = true → okFrom (k + 1) (e.drop (k + 1)) = okFrom 0 e from fun h => by
        rw [← HOK.out, List.drop_eq_getElem_cons hlt, ht]
        simp only [okFrom, h, Bool.true_and])
      obtain ⟨b, o, rfl, c0, c1, c2, c3, c4⟩ := tms_cells (HT.out.made tm_len MR.out) hlt t ht
      have HIR := Lib.hid (isRight_any W t k)
      obtain ⟨dk, hdk⟩ : ∃ dk, okT t k = dk := ⟨_, rfl⟩
      rewrite [hdk] at HIR HBAD HGOOD
      have hki : (k : Int) < (e.length : Int) := by omega
      have hz := MR.out.size
      clear ht HOK hdk
      obtain ⟨tk, tv, tn, ta, tb⟩ := t
      have HX := Lib.hid (show Made W (wr.alloc (.cells (Tm.cells ⟨tk, tv, tn, ta, tb⟩).toArray TE)) ∧ (wr.alloc (.cells (Tm.cells ⟨tk, tv, tn, ta, tb⟩).toArray TE)).heap[wr.heap.size]? = some (.cells (Tm.cells ⟨tk, tv, tn, ta, tb⟩).toArray TE (0, 0)) from ⟨MR.out.alloc hz _, heap_alloc_new wr _⟩)
      go_upto_region 4 with (fail)
      refine world_named (fun u => Made W u ∧ u.heap[wr.heap.size]? = some (.cells (Tm.cells ⟨tk, tv, tn, ta, tb⟩).toArray TE (0, 0))) HX.out ?_
      rintro u ⟨hm, hb⟩
      have HM := Lib.hid hm
      clear c0 c1 c2 c3 c4
      have c0 : u.cell? ⟨wr.heap.size, 0, none⟩ = some (.int .u8 tk) := cell_of_lit hb 0
      have c1 : u.cell? ⟨wr.heap.size, 1, none⟩ = some (.int .i64 tv) := cell_of_lit hb 1
      have c2 : u.cell? ⟨wr.heap.size, 2, none⟩ = some (.string (strOf tn)) := cell_of_lit hb 2
      have c3 : u.cell? ⟨wr.heap.size, 3, none⟩ = some (.int .i64 ta) := cell_of_lit hb 3
      have c4 : u.cell? ⟨wr.heap.size, 4, none⟩ = some (.int .i64 tb) := cell_of_lit hb 4
      clear hm hb HX hz MR
      go_wp2_with (fail)
      refine (HIR.out u HM.out).mono ?_
      rintro x u2 ⟨rfl, h2⟩
      have M2 := Lib.hid h2
      clear h2 c0 c1 c2 c3 c4
      cases dk with
      | false =>
        go_wp2
        go_ret
        exact ⟨ret_bool (HBAD.out (by trivial)).symm, M2.out⟩
      | true =>
        go_wp2
        go_roundw
        case rel => exact ⟨k + 1, by omega, by go_num, HGOOD.out (by trivial), M2.out⟩
        case measure => simp [intOf]; omega
end
end Go.Proofs.YtnfmlmamgkpocaaGreatDoor
