/- What isRight and Right of package expr return; no condition but that on the number of terms. · slices.Backward of a row of terms: the iterator's contract; no condition but that on the number of terms. · A region that draws its order, inside a round of a loop over a function: walked by what is so of the operations that have come up, whatever their order; no condition. · The region of usedOf that marks two terms, in whatever order its operations come up; no condition. · What usedOf of package expr returns, of an expression; no condition but that on the number of terms. · What Names of package expr returns; no condition but those on the number of terms and their names' lengths. · What slices.Clone of terms and worth of package expr return; no condition but those named. · What Eval of package expr returns, with any function value; no condition but that on the number of terms. -/
import Derived.Test.YtebpimjbjjmpaaaGExprXP
import Derived.Test.YtebpimjbjjmpaaaExprRefR
import Derived.RangeFuncNested
import Derived.RangeFuncBound
import Derived.RangeFuncCalls
import Derived.RangeFuncLeaves
import Derived.RangeFuncBox
import Derived.Shelf.Abstract
import Derived.Shelf.RegionOpen
import Derived.WalkKit
import Derived.OwnWalkIn
import Derived.TacticsInMore
import Derived.LoopNIn
import Derived.LoopIn
import Derived.Test.YtebpimjbjjmpaaaGBase
import Derived.OrdersIn
import Derived.TacticsIn
import Derived.Test.YtebpimjbjjmpaaaExprRefU
import Derived.Sort.CutIn
import Derived.Test.YtebpimjbjjmpaaaExprNam
import Derived.Maps.OwnSet
import Derived.StringKeys
import Derived.Test.YtebpimjbjjmpaaaExprInt
import Derived.Test.YtebpimjbjjmpaaaExprAsk
import Derived.Test.YtebpimjbjjmpaaaExprRefA
import Derived.Lib.SliceRun
namespace Go.Proofs.Ytebpimjbjjmpaaa
section
open Go.ChangeShapes Go.WideShapes Go.ChangeAt Go.RowKit Go.Sort BigFrame

section
set_option maxRecDepth 100000 in
set_option maxHeartbeats 1000000 in
theorem tm_eql (y z : Tm) (w : World) : (binOp .eql TE y.val z.val).run Try.prog w = .ok (.bool (decide (y = z))) w := by
  obtain ⟨y0, y1, y2, y3, y4⟩ := y
  obtain ⟨z0, z1, z2, z3, z4⟩ := z
  by_cases h0 : y0 = z0
  rotate_left
  · simp [go_sem, h0]
  subst h0
  by_cases h1 : y1 = z1
  rotate_left
  · simp [go_sem, h1]
  subst h1
  by_cases h2 : y2 = z2
  rotate_left
  · simp [go_sem, h2]
  subst h2
  by_cases h3 : y3 = z3
  rotate_left
  · simp [go_sem, h3]
  subst h3
  by_cases h4 : y4 = z4
  rotate_left
  · simp [go_sem, h4]
  subst h4
  simp [go_sem]
end
section
attribute [local irreducible] World.cell?
set_option maxRecDepth 100000 in
set_option maxHeartbeats 16000000 in
theorem isRight_any (W : World) (t : Tm) (i : Nat) : Makes Try.prog W 39 #[t.val, .int .i64 i] (.bool (okT t i)) := by
  intro w hm
  have HWAY := Lib.hid (ok_ways t i)
  obtain ⟨tk, tv, tn, ta, tb⟩ := t
  have HX := Lib.hid (show Made W (w.alloc (.cells (Tm.cells ⟨tk, tv, tn, ta, tb⟩).toArray TE)) ∧ (w.alloc (.cells (Tm.cells ⟨tk, tv, tn, ta, tb⟩).toArray TE)).heap[w.heap.size]? = some (.cells (Tm.cells ⟨tk, tv, tn, ta, tb⟩).toArray TE (0, 0)) from ⟨hm.alloc hm.size _, heap_alloc_new w _⟩)
  clear hm
  rcases HWAY.out with ⟨hkind, hE⟩ | ⟨hkind, hE⟩ | ⟨hkind, hE⟩ | ⟨hkind, hE⟩ | ⟨hkind, hE⟩
  · simp only [] at hkind hE
    have HE := Lib.hid hE
    have g1 : (tk == 1) = true := by rw [hkind]; rfl
    obtain ⟨dn, hdn⟩ : ∃ dn, decide (0 ≤ tv ∧ tv ≤ 1099511627776) = dn := ⟨_, rfl⟩
    have HN := Lib.hid (isNumber_any tv)
    rewrite [hdn] at HN HE
    have hop := fun w => tm_eql ⟨tk, tv, tn, ta, tb⟩ ⟨tk, tv, [], 0, 0⟩ w
    clear hkind hE HWAY hdn
    go_enter Try.func39, Try.ntmps39
    go_upto_region 1 with (fail)
    refine world_named (fun u => Made W u ∧ u.heap[w.heap.size]? = some (.cells (Tm.cells ⟨tk, tv, tn, ta, tb⟩).toArray TE (0, 0))) HX.out ?_
    rintro u ⟨hm, hb⟩
    have HM := Lib.hid hm
    have c0 : u.cell? ⟨w.heap.size, 0, none⟩ = some (.int .u8 tk) := cell_of_lit hb 0
    have c1 : u.cell? ⟨w.heap.size, 1, none⟩ = some (.int .i64 tv) := cell_of_lit hb 1
    have c2 : u.cell? ⟨w.heap.size, 2, none⟩ = some (.string (strOf tn)) := cell_of_lit hb 2
    have c3 : u.cell? ⟨w.heap.size, 3, none⟩ = some (.int .i64 ta) := cell_of_lit hb 3
    have c4 : u.cell? ⟨w.heap.size, 4, none⟩ = some (.int .i64 tb) := cell_of_lit hb 4
    clear hm hb HX
    cases dn with
    | false =>
      go_wp2_with ((go_at_call 66; with_reducible refine (HN.out _).mono ?_; rintro e w' ⟨rfl, rfl⟩))
      go_ret
      exact ⟨ret_bool (by rw [HE.out]; first | rfl | (rw [Bool.eq_iff_iff]; simp)), HM.out⟩
    | true =>
      go_wp2_with ((go_at_call 66; with_reducible refine (HN.out _).mono ?_; rintro e w' ⟨rfl, rfl⟩))
      go_ret
      exact ⟨ret_bool (by rw [HE.out]; first | rfl | (rw [Bool.eq_iff_iff]; simp)), HM.out⟩
  · simp only [] at hkind hE
    have HE := Lib.hid hE
    have g1 : (tk == 1) = false := by rw [hkind]; rfl
    have g2 : (tk == 2) = true := by rw [hkind]; rfl
    have hop := fun w => tm_eql ⟨tk, tv, tn, ta, tb⟩ ⟨tk, 0, tn, 0, 0⟩ w
    clear hkind hE HWAY
    go_enter Try.func39, Try.ntmps39
    go_upto_region 1 with (fail)
    refine world_named (fun u => Made W u ∧ u.heap[w.heap.size]? = some (.cells (Tm.cells ⟨tk, tv, tn, ta, tb⟩).toArray TE (0, 0))) HX.out ?_
    rintro u ⟨hm, hb⟩
    have HM := Lib.hid hm
    have c0 : u.cell? ⟨w.heap.size, 0, none⟩ = some (.int .u8 tk) := cell_of_lit hb 0
    have c1 : u.cell? ⟨w.heap.size, 1, none⟩ = some (.int .i64 tv) := cell_of_lit hb 1
    have c2 : u.cell? ⟨w.heap.size, 2, none⟩ = some (.string (strOf tn)) := cell_of_lit hb 2
    have c3 : u.cell? ⟨w.heap.size, 3, none⟩ = some (.int .i64 ta) := cell_of_lit hb 3
    have c4 : u.cell? ⟨w.heap.size, 4, none⟩ = some (.int .i64 tb) := cell_of_lit hb 4
    clear hm hb HX
    by_cases hn : tn = []
    · subst hn
      go_wp2_with (fail)
      go_ret
      exact ⟨ret_bool (by rw [HE.out]; rfl), HM.out⟩
    · have HNN := Lib.hid hn
      have gn : (tn == []) = false := beq_eq_false_iff_ne.2 hn
      go_wp2_with (fail)
      go_ret
      exact ⟨ret_bool (by rw [HE.out, decide_eq_true HNN.out, Bool.true_and]; first | rfl | (rw [Bool.eq_iff_iff]; simp)), HM.out⟩
  · simp only [] at hkind hE
    have HE := Lib.hid hE
    have g1 : (tk == 1) = false := beq_eq_false_iff_ne.2 (by omega)
    have g2 : (tk == 2) = false := beq_eq_false_iff_ne.2 (by omega)
    have HK := Lib.hid (show ((tk == 3) = true ∨ ((tk == 3) = false ∧ (tk == 4) = true)) ∨ ((tk == 3) = false ∧ (tk == 4) = false ∧ (tk == 5) = true) by
      rcases hkind with rfl | rfl | rfl <;> decide)
    obtain ⟨da, hda⟩ : ∃ da, decide (0 ≤ ta ∧ ta < (i : Int)) = da := ⟨_, rfl⟩
    obtain ⟨db, hdb⟩ : ∃ db, decide (0 ≤ tb ∧ tb < (i : Int)) = db := ⟨_, rfl⟩
    have HA := Lib.hid (isEarlier_any ta i)
    have HB := Lib.hid (isEarlier_any tb i)
    rewrite [hda] at HA HE
    rewrite [hdb] at HB HE
    have hop := fun w => tm_eql ⟨tk, tv, tn, ta, tb⟩ ⟨tk, 0, [], ta, tb⟩ w
    clear hkind hE HWAY hda hdb
    go_enter Try.func39, Try.ntmps39
    go_upto_region 1 with (fail)
    refine world_named (fun u => Made W u ∧ u.heap[w.heap.size]? = some (.cells (Tm.cells ⟨tk, tv, tn, ta, tb⟩).toArray TE (0, 0))) HX.out ?_
    rintro u ⟨hm, hb⟩
    have HM := Lib.hid hm
    have c0 : u.cell? ⟨w.heap.size, 0, none⟩ = some (.int .u8 tk) := cell_of_lit hb 0
    have c1 : u.cell? ⟨w.heap.size, 1, none⟩ = some (.int .i64 tv) := cell_of_lit hb 1
    have c2 : u.cell? ⟨w.heap.size, 2, none⟩ = some (.string (strOf tn)) := cell_of_lit hb 2
    have c3 : u.cell? ⟨w.heap.size, 3, none⟩ = some (.int .i64 ta) := cell_of_lit hb 3
    have c4 : u.cell? ⟨w.heap.size, 4, none⟩ = some (.int .i64 tb) := cell_of_lit hb 4
    clear hm hb HX
    rcases HK.out with (g3 | ⟨g3, g4⟩) | ⟨g3, g4, g5⟩
    all_goals
      clear HK
      cases da with
      | false =>
        go_wp2_with ((go_at_call 67; with_reducible refine (HA.out _).mono ?_; rintro e w' ⟨rfl, rfl⟩))
        go_ret
        exact ⟨ret_bool (by rw [HE.out]; first | rfl | (rw [Bool.eq_iff_iff]; simp)), HM.out⟩
      | true =>
        cases db with
        | false =>
          go_wp2_with ((go_at_call 67; with_reducible (first | refine (HA.out _).mono ?_ | refine (HB.out _).mono ?_); rintro e w' ⟨rfl, rfl⟩))
          go_ret
          exact ⟨ret_bool (by rw [HE.out]; first | rfl | (rw [Bool.eq_iff_iff]; simp)), HM.out⟩
        | true =>
          go_wp2_with ((go_at_call 67; with_reducible (first | refine (HA.out _).mono ?_ | refine (HB.out _).mono ?_); rintro e w' ⟨rfl, rfl⟩))
          go_ret
          exact ⟨ret_bool (by rw [HE.out]; first | rfl | (rw [Bool.eq_iff_iff]; simp)), HM.out⟩
  · simp only [] at hkind hE
    have HE := Lib.hid hE
    have g1 : (tk == 1) = false := by rw [hkind]; rfl
    have g2 : (tk == 2) = false := by rw [hkind]; rfl
    have g3 : (tk == 3) = false := by rw [hkind]; rfl
    have g4 : (tk == 4) = false := by rw [hkind]; rfl
    have g5 : (tk == 5) = false := by rw [hkind]; rfl
    have g6 : (tk == 6) = true := by rw [hkind]; rfl
    obtain ⟨da, hda⟩ : ∃ da, decide (0 ≤ ta ∧ ta < (i : Int)) = da := ⟨_, rfl⟩
    have HA := Lib.hid (isEarlier_any ta i)
    rewrite [hda] at HA HE
    have hop := fun w => tm_eql ⟨tk, tv, tn, ta, tb⟩ ⟨tk, 0, [], ta, 0⟩ w
    clear hkind hE HWAY hda
    go_enter Try.func39, Try.ntmps39
    go_upto_region 1 with (fail)
    refine world_named (fun u => Made W u ∧ u.heap[w.heap.size]? = some (.cells (Tm.cells ⟨tk, tv, tn, ta, tb⟩).toArray TE (0, 0))) HX.out ?_
    rintro u ⟨hm, hb⟩
    have HM := Lib.hid hm
    have c0 : u.cell? ⟨w.heap.size, 0, none⟩ = some (.int .u8 tk) := cell_of_lit hb 0
    have c1 : u.cell? ⟨w.heap.size, 1, none⟩ = some (.int .i64 tv) := cell_of_lit hb 1
    have c2 : u.cell? ⟨w.heap.size, 2, none⟩ = some (.string (strOf tn)) := cell_of_lit hb 2
    have c3 : u.cell? ⟨w.heap.size, 3, none⟩ = some (.int .i64 ta) := cell_of_lit hb 3
    have c4 : u.cell? ⟨w.heap.size, 4, none⟩ = some (.int .i64 tb) := cell_of_lit hb 4
    clear hm hb HX
    cases da with
    | false =>
      go_wp2_with ((go_at_call 67; with_reducible refine (HA.out _).mono ?_; rintro e w' ⟨rfl, rfl⟩))
      go_ret
      exact ⟨ret_bool (by rw [HE.out]; first | rfl | (rw [Bool.eq_iff_iff]; simp)), HM.out⟩
    | true =>
      go_wp2_with ((go_at_call 67; with_reducible refine (HA.out _).mono ?_; rintro e w' ⟨rfl, rfl⟩))
      go_ret
      exact ⟨ret_bool (by rw [HE.out]; first | rfl | (rw [Bool.eq_iff_iff]; simp)), HM.out⟩
  · simp only [] at hkind hE
    have HE := Lib.hid hE
    have g1 : (tk == 1) = false := beq_eq_false_iff_ne.2 (by omega)
    have g2 : (tk == 2) = false := beq_eq_false_iff_ne.2 (by omega)
    have g3 : (tk == 3) = false := beq_eq_false_iff_ne.2 (by omega)
    have g4 : (tk == 4) = false := beq_eq_false_iff_ne.2 (by omega)
    have g5 : (tk == 5) = false := beq_eq_false_iff_ne.2 (by omega)
    have g6 : (tk == 6) = false := beq_eq_false_iff_ne.2 (by omega)
    clear hkind hE HWAY
    go_enter Try.func39, Try.ntmps39
    go_upto_region 1 with (fail)
    refine world_named (fun u => Made W u ∧ u.heap[w.heap.size]? = some (.cells (Tm.cells ⟨tk, tv, tn, ta, tb⟩).toArray TE (0, 0))) HX.out ?_
    rintro u ⟨hm, hb⟩
    have HM := Lib.hid hm
    have c0 : u.cell? ⟨w.heap.size, 0, none⟩ = some (.int .u8 tk) := cell_of_lit hb 0
    have c1 : u.cell? ⟨w.heap.size, 1, none⟩ = some (.int .i64 tv) := cell_of_lit hb 1
    have c2 : u.cell? ⟨w.heap.size, 2, none⟩ = some (.string (strOf tn)) := cell_of_lit hb 2
    have c3 : u.cell? ⟨w.heap.size, 3, none⟩ = some (.int .i64 ta) := cell_of_lit hb 3
    have c4 : u.cell? ⟨w.heap.size, 4, none⟩ = some (.int .i64 tb) := cell_of_lit hb 4
    clear hm hb HX
    go_wp2
    go_ret
    exact ⟨ret_bool HE.out.symm, HM.out⟩
set_option maxRecDepth 100000 in
set_option maxHeartbeats 16000000 in
theorem xright_any (W : World) (ao : Option Addr) (cap : Nat) (e : List Tm) (hT : Tms W ao cap e) (hl : e.length ≤ 10000) : Makes Try.prog W 22 #[.slice ao e.length cap] (.bool (rightB e)) := by
  intro w hm
  have HT := Lib.hid hT
  have HM := Lib.hid hm
  clear hT hm
  go_enter Try.func22, Try.ntmps22
  go_wp2_with (fail)
  go_loopw [7] (fun iv wr => ∃ k : Nat, k ≤ e.length ∧ iv = .int .i64 k ∧ okFrom k (e.drop k) = okFrom 0 e ∧ Made W wr) (fun iv _ => e.length - (intOf iv).toNat)
  case atStart => exact ⟨0, Nat.zero_le _, rfl, rfl, HM.out⟩
  case round =>
    clear HM
    obtain ⟨k, hk, rfl, hok, hmr⟩ := hrel
    have MR := Lib.hid hmr
    have HOK := Lib.hid hok
    clear hok hmr
    by_cases hlt : k < e.length
    rotate_left
    · obtain rfl : k = e.length := by omega
      have HR := Lib.hid (show rightB e = decide (0 < e.length) by
        unfold rightB
        rw [← HOK.out, List.drop_length, Bool.eq_iff_iff]
        simp only [okFrom, Bool.true_and, decide_eq_true_eq]
        exact List.length_pos_iff.symm)
      go_wp2
      rewrite [HR.out]
      go_ret
      exact ⟨ret_bool (by simp), MR.out⟩
    · obtain ⟨t, ht⟩ : ∃ t, e[k] = t := ⟨_, rfl⟩
      have HBAD := Lib.hid (show okT t k = false → rightB e = false from fun h => by
        unfold rightB
        rw [← HOK.out, List.drop_eq_getElem_cons hlt, ht]
        simp only [okFrom, h, Bool.false_and])
      have HGOOD := Lib.hid (show okT t k = true → okFrom (k + 1) (e.drop (k + 1)) = okFrom 0 e from fun h => by
        rw [← HOK.out, List.drop_eq_getElem_cons hlt, ht]
        simp only [okFrom, h, Bool.true_and])
      obtain ⟨b, o, rfl, c0, c1, c2, c3, c4⟩ := tms_cells (HT.out.made tm_len MR.out) hlt t ht
      have HIR := Lib.hid (isRight_any W t k)
      obtain ⟨dk, hdk⟩ : ∃ dk, okT t k = dk := ⟨_, rfl⟩
      rewrite [hdk] at HIR HBAD HGOOD
      have hki : (k : Int) < (e.length : Int) := by omega
      have hz := MR.out.size
      clear ht HOK hdk
      obtain ⟨tk, tv, tn, ta, tb⟩ := t
      have HX := Lib.hid (show Made W (wr.alloc (.cells (Tm.cells ⟨tk, tv, tn, ta, tb⟩).toArray TE)) ∧ (wr.alloc (.cells (Tm.cells ⟨tk, tv, tn, ta, tb⟩).toArray TE)).heap[wr.heap.size]? = some (.cells (Tm.cells ⟨tk, tv, tn, ta, tb⟩).toArray TE (0, 0)) from ⟨MR.out.alloc hz _, heap_alloc_new wr _⟩)
      go_upto_region 4 with (fail)
      refine world_named (fun u => Made W u ∧ u.heap[wr.heap.size]? = some (.cells (Tm.cells ⟨tk, tv, tn, ta, tb⟩).toArray TE (0, 0))) HX.out ?_
      rintro u ⟨hm, hb⟩
      have HM := Lib.hid hm
      clear c0 c1 c2 c3 c4
      have c0 : u.cell? ⟨wr.heap.size, 0, none⟩ = some (.int .u8 tk) := cell_of_lit hb 0
      have c1 : u.cell? ⟨wr.heap.size, 1, none⟩ = some (.int .i64 tv) := cell_of_lit hb 1
      have c2 : u.cell? ⟨wr.heap.size, 2, none⟩ = some (.string (strOf tn)) := cell_of_lit hb 2
      have c3 : u.cell? ⟨wr.heap.size, 3, none⟩ = some (.int .i64 ta) := cell_of_lit hb 3
      have c4 : u.cell? ⟨wr.heap.size, 4, none⟩ = some (.int .i64 tb) := cell_of_lit hb 4
      clear hm hb HX hz MR
      go_wp2_with (fail)
      refine (HIR.out u HM.out).mono ?_
      rintro x u2 ⟨rfl, h2⟩
      have M2 := Lib.hid h2
      clear h2 c0 c1 c2 c3 c4
      cases dk with
      | false =>
        go_wp2
        go_ret
        exact ⟨ret_bool (HBAD.out (by trivial)).symm, M2.out⟩
      | true =>
        go_wp2
        go_roundw
        case rel => exact ⟨k + 1, by omega, by go_num, HGOOD.out (by trivial), M2.out⟩
        case measure => simp [intOf]; omega
end
end
section
open Go.ChangeShapes Go.WideShapes Go.ChangeAt Go.RowKit Go.Sort BigFrame

/-- The last k indexes, from the last one on. -/
def backK (n : Nat) : (k : Nat) → k ≤ n → List (Fin n)
  | 0, _ => []
  | k + 1, h => backK n k (Nat.le_of_succ_le h) ++ [⟨n - 1 - k, by omega⟩]
theorem backK_len (n : Nat) : ∀ (k : Nat) (h : k ≤ n), (backK n k h).length = k
  | 0, _ => rfl
  | k + 1, h => by rw [backK, List.length_append, backK_len n k]; rfl
/-- What a round keeps: what stood in W0, and block Bs. -/
structure KeepB (n0 Bs : Nat) (A B : World) : Prop where
  low : Below n0 A B
  blk : B.heap[Bs]? = A.heap[Bs]?
theorem KeepB.trans {n0 Bs : Nat} {A B C : World} (h : KeepB n0 Bs A B) (k : KeepB n0 Bs B C) : KeepB n0 Bs A C := ⟨h.low.trans k.low, k.blk.trans h.blk⟩
abbrev backV (e : List Tm) (x : Fin e.length) : Array Value := #[.int .i64 (x.val : Int), (e.get x).val]
section
attribute [local go_sem] Oper.semAt_some
attribute [local irreducible] World.cell?
set_option maxRecDepth 100000 in
set_option maxHeartbeats 4000000 in
theorem back1_in (F : Fence) (n : Nat) (hF : F.fn 73) (hro : F.round = none) (hn : 1 ≤ n) (l Bs : Nat) (W0 : World) (ao : Option Addr) (cap : Nat) (e : List Tm) (hT : Tms W0 ao cap e) (hl : e.length ≤ 10000) (T : TypeId) (J Jx : List (Fin e.length) → World → Prop)
    (hY : ∀ pre x W, J pre W → pre.length < e.length → YieldAt F (n - 1) Try.prog l (backV e x) W fun r W' =>
      (r = .returned (.bool true) ∧ J (pre ++ [x]) W' ∧ KeepB W0.heap.size Bs W W') ∨ (r = .returned (.bool false) ∧ Jx (pre ++ [x]) W'))
    (W : World) (hm : Made W0 W) (hBs : W.heap[Bs]? = some (.cells #[.slice ao e.length cap] T (0, 0))) (h0 : J [] W) :
    CallsIn F n Try.prog 73 #[.func (.yield l) #[] #[], .pointer (some ⟨Bs, 0, none⟩)] W fun r W' => (∃ v, r = .returned v) ∧
      ((∃ ys, ys = backK e.length e.length (Nat.le_refl _) ∧ J ys W') ∨ (∃ pre, (∃ (k : Nat) (hk : k ≤ e.length), pre = backK e.length k hk) ∧ Jx pre W')) := by
  have HT := Lib.hid hT
  have HM := Lib.hid hm
  have HB := Lib.hid hBs
  have cb : W.cell? ⟨Bs, 0, none⟩ = some (.slice ao e.length cap) := cell_of_lit (cs := [.slice ao e.length cap]) hBs 0
  clear hT hm hBs
  refine callsIn_of_wp Try.func73 rfl hF ?_ hro
  simp only [Try.ntmps73, List.size_toArray, List.length_cons, List.length_nil, Nat.reduceAdd, Nat.reduceSub, Array.replicate_succ, Array.replicate_zero, List.push_toArray, List.append_toArray, List.nil_append, List.cons_append]
  gi_wp2
  gi_loopw [3] (fun i wr => ∃ (k : Nat) (hk : k ≤ e.length), i = .int .i64 ((e.length : Int) - 1 - k) ∧ J (backK e.length k hk) wr ∧ Made W0 wr ∧ wr.heap[Bs]? = some (.cells #[.slice ao e.length cap] T (0, 0)))
    (fun i _ => (intOf i + 1).toNat)
  case atStart => exact ⟨0, Nat.zero_le _, by go_num, h0, HM.out, HB.out⟩
  case round =>
    clear cb HB HM
    obtain ⟨k, hk, rfl, hJs, hmr, hbs⟩ := hrel
    have cb : wr.cell? ⟨Bs, 0, none⟩ = some (.slice ao e.length cap) := cell_of_lit (cs := [.slice ao e.length cap]) hbs 0
    have MR := Lib.hid hmr
    have HB := Lib.hid hbs
    clear hmr hbs
    by_cases hlt : k < e.length
    · obtain ⟨i, hi⟩ : ∃ i : Nat, i + k + 1 = e.length := ⟨e.length - 1 - k, by omega⟩
      have hie : (e.length : Int) - 1 - k = (i : Int) := by omega
      have hil : i < e.length := by omega
      have hfin : (⟨e.length - 1 - k, by omega⟩ : Fin e.length) = ⟨i, hil⟩ := Fin.ext (by show e.length - 1 - k = i; omega)
      have HNX := Lib.hid (show backK e.length k hk ++ [⟨i, hil⟩] = backK e.length (k + 1) hlt by rw [← hfin]; rfl)
      obtain ⟨t, ht⟩ : ∃ t, e.get ⟨i, hil⟩ = t := ⟨_, rfl⟩
      obtain ⟨b, o, rfl, c0, c1, c2, c3, c4⟩ := tms_cells (HT.out.made tm_len MR.out) hil t ht
      obtain ⟨fn, tmps, assign, body, hy, hR⟩ := hY _ ⟨i, hil⟩ wr hJs (by rw [backK_len]; exact hlt)
      dsimp only [backV] at hy
      rewrite [ht] at hy
      rewrite [hie]
      have HI := Lib.hid hi
      have hi1 : (i : Int) < (e.length : Int) := by omega
      have hi0 : (0 : Int) ≤ (i : Int) := by omega
      have HJS := Lib.hid hJs
      clear ht hi hie hfin hJs
      obtain ⟨tk, tv, tn, ta, tb⟩ := t
      gi_wp2
      refine hR.mono ?_
      rintro r W3 (⟨rfl, hJ3, hk3⟩ | ⟨rfl, hJx3⟩)
      · have HK := Lib.hid hk3
        have HJ3 := Lib.hid hJ3
        clear hk3 hJ3
        gi_wp2
        go_roundw
        case rel => exact ⟨k + 1, hlt, by have := HI.out; simp only [Value.int.injEq, true_and]; omega, by rw [← HNX.out]; exact HJ3.out, Below.trans MR.out HK.out.low, HK.out.blk.trans HB.out⟩
        case measure => simp [intOf] <;> omega
      · have HJX := Lib.hid hJx3
        clear hJx3
        gi_wp2
        refine bodyPost_ret (results_none rfl _ _ _) rfl ?_
        exact ⟨⟨_, rfl⟩, .inr ⟨_, ⟨k + 1, hlt, HNX.out⟩, HJX.out⟩⟩
    · obtain rfl : k = e.length := by omega
      have HJS := Lib.hid hJs
      have hneg : (e.length : Int) - 1 - (e.length : Int) < 0 := by omega
      clear hJs
      gi_wp2
      go_end0
      exact ⟨⟨_, rfl⟩, .inl ⟨_, rfl, HJS.out⟩⟩
theorem back_stops (F : Fence) (n : Nat) (hF : F.fn 73) (hro : F.round = none) (hn : 1 ≤ n) (Bs : Nat) (W0 : World) (ao : Option Addr) (cap : Nat) (e : List Tm) (hT : Tms W0 ao cap e) (hl : e.length ≤ 10000) (T : TypeId) (w : World)
    (hm : Made W0 w) (hBs : w.heap[Bs]? = some (.cells #[.slice ao e.length cap] T (0, 0))) :
    SeqStopsK F n Try.prog 73 #[.pointer (some ⟨Bs, 0, none⟩)] (backV e) (KeepB W0.heap.size Bs) (fun ys => ys = backK e.length e.length (Nat.le_refl _))
      (fun pre => ∃ (k : Nat) (hk : k ≤ e.length), pre = backK e.length k hk) e.length w := fun l J Jx W hW _ _ hY h0 =>
  back1_in F n hF hro hn l Bs W0 ao cap e hT hl T J Jx hY W (Made.trans hm hW) (Made.heap (show Made w W from hW) hBs) h0
set_option maxHeartbeats 1000000 in
theorem back_in (F : Fence) (n : Nat) (hF : F.fn 43) (hro : F.round = none) (a : Option Addr) (len cap : Nat) (w : World) :
    CallsIn F n Try.prog 43 #[.slice a len cap] w fun e w' => e = .returned (.func (.func 73) #[] #[.pointer (some ⟨w.heap.size, 0, none⟩)]) ∧ w' = w.alloc (.cells #[.slice a len cap] 26) := by
  refine callsIn_of_wp Try.func43 rfl hF ?_ hro
  simp only [Try.ntmps43, List.size_toArray, List.length_cons, List.length_nil, Nat.reduceAdd, Nat.reduceSub, Array.replicate_succ, Array.replicate_zero, List.push_toArray, List.append_toArray, List.nil_append, List.cons_append]
  gi_wp2
  go_ret
  exact ⟨rfl, rfl⟩
end
end
section

section
variable {F : Fence} {n : Nat} {P : Program} {ops : Array Oper} {Q : Exit → Act → World → Prop} {md : Region.Mode}
/-- Each operation waits for earlier ones alone. -/
def earlyB (md : Region.Mode) (ops : Array Oper) : Bool := (List.range ops.size).all fun i => ((ops[i]?).map (·.after.all fun e => !Region.binds md e || decide (e.on < i))).getD true
theorem ready_iff {listed : Array Bool} {i : Nat} : i ∈ Region.ready md ops listed ↔ i < ops.size ∧ listed.getD i true = false ∧ ∃ o, ops[i]? = some o ∧ ∀ e ∈ o.after.toList, Region.binds md e = true → listed.getD e.on false = true := by
  unfold Region.ready
  rw [List.mem_filter, List.mem_range]
  refine and_congr_right fun hi => ?_
  rw [Array.getElem?_eq_getElem hi]
  simp only [Option.map_some, Option.getD_some, Bool.and_eq_true, Bool.not_eq_true', Option.some.injEq, exists_eq_left', ← Array.all_toList, List.all_eq_true, Bool.or_eq_true]
  refine and_congr_right fun _ => forall_congr' fun e => forall_congr' fun _ => ?_
  cases Region.binds md e <;> simp
theorem getD_mono {listed : Array Bool} {i : Nat} (h : listed.getD i true = true) (hi : i < listed.size) : listed.getD i false = true := by
  simp only [Array.getD, hi, dif_pos] at h ⊢
  exact h
theorem ready_all {listed : Array Bool} (hs : listed.size = ops.size) (hE : earlyB md ops = true) (h : Region.ready md ops listed = []) : ∀ i, i < ops.size → listed.getD i true = true := by
  intro i
  induction i using Nat.strongRecOn with
  | _ i ih =>
    intro hi
    cases hl : listed.getD i true with
    | true => rfl
    | false =>
      have hm : i ∈ Region.ready md ops listed := by
        refine ready_iff.2 ⟨hi, hl, _, Array.getElem?_eq_getElem hi, fun e he hb => ?_⟩
        unfold earlyB at hE
        have h1 := List.all_eq_true.1 hE i (List.mem_range.2 hi)
        rw [Array.getElem?_eq_getElem hi] at h1
        simp only [Option.map_some, Option.getD_some, ← Array.all_toList, List.all_eq_true, Bool.or_eq_true, Bool.not_eq_true', decide_eq_true_eq] at h1
        have h2 : e.on < i := by
          rcases h1 e he with h1 | h1
          · rw [hb] at h1; cases h1
          · exact h1
        exact getD_mono (ih e.on h2 (by omega)) (by omega)
      rw [h] at hm
      cases hm
theorem count_set {listed : Array Bool} {i : Nat} (hi : i < listed.size) (h : listed.getD i true = false) : (listed.setIfInBounds i true).toList.count false + 1 = listed.toList.count false := by
  have h1 : listed.toList[i]'(by simpa using hi) = false := by
    simp only [Array.getD, hi, dif_pos] at h
    simpa using h
  rw [Array.toList_setIfInBounds]
  have h2 := List.count_set (a := true) (b := false) (l := listed.toList) (i := i) (by simpa using hi)
  have h3 : 0 < listed.toList.count false := List.count_pos_iff.2 (h1 ▸ List.getElem_mem _)
  have h4 : (listed.toList[i]'(by simpa using hi) == false) = true := by rw [h1]; rfl
  rw [h2, h4]
  have h5 : ((true : Bool) == false) = false := rfl
  rw [h5]
  simp only [if_true, Bool.false_eq_true, if_false]
  omega
/-- Whatever order comes up. -/
theorem wpAnyIn_inv (hE : earlyB md ops = true) (Inv : Array Bool → Act → World → Prop)
    (hstep : ∀ listed a w i o, listed.size = ops.size → Inv listed a w → ops[i]? = some o → listed.getD i true = false → (∀ e ∈ o.after.toList, Region.binds md e = true → listed.getD e.on false = true) →
      ∀ K : Act → World → Prop, (∀ a' w', Inv (listed.setIfInBounds i true) a' w' → K a' w') → if Region.wanted o (yielded ops a.tmps) then o.wpIn F n P a w K Q else (∀ f, o.about P w a.eval = some f → F.fn f) ∧ K (a.put o.dst undef) w)
    (hdone : ∀ listed a w, listed.size = ops.size → Inv listed a w → (∀ i, i < ops.size → listed.getD i true = true) → Q .normal a w) : ∀ fuel listed a w, listed.size = ops.size → listed.toList.count false ≤ fuel → Inv listed a w → wpAnyIn F n P md ops Q fuel listed a w
  | 0, listed, a, w, hs, hc, hI => by
    have hall : ∀ i, i < ops.size → listed.getD i true = true := fun i hi => by
      cases hl : listed.getD i true with
      | true => rfl
      | false => have := count_set (by omega : i < listed.size) hl; omega
    refine ⟨List.eq_nil_iff_forall_not_mem.2 fun i hi => ?_, hdone listed a w hs hI hall⟩
    obtain ⟨h1, h2, -⟩ := ready_iff.1 hi
    rw [hall i h1] at h2
    cases h2
  | fuel + 1, listed, a, w, hs, hc, hI => by
    refine ⟨fun h => hdone listed a w hs hI (ready_all hs hE h), fun i hi => ?_⟩
    obtain ⟨h1, h2, o, ho, hd⟩ := ready_iff.1 hi
    have hst := hstep listed a w i o hs hI ho h2 hd (wpAnyIn F n P md ops Q fuel (listed.setIfInBounds i true)) (fun a' w' h => wpAnyIn_inv hE Inv hstep hdone fuel _ a' w' (by simpa using hs) (by have := count_set (by omega : i < listed.size) h2; omega) h)
    unfold wpOpIn
    rw [ho]
    exact hst
theorem wpIn_region_inv {id : Nat} {a : Act} {w : World} (hm : P.follows .mixedOrders = true) (hE : earlyB .any ops = true) (Inv : Array Bool → Act → World → Prop) (h0 : Inv (Array.replicate ops.size false) a w.drew)
    (hstep : ∀ listed a w i o, listed.size = ops.size → Inv listed a w → ops[i]? = some o → listed.getD i true = false → (∀ e ∈ o.after.toList, Region.binds .any e = true → listed.getD e.on false = true) →
      ∀ K : Act → World → Prop, (∀ a' w', Inv (listed.setIfInBounds i true) a' w' → K a' w') → if Region.wanted o (yielded ops a.tmps) then o.wpIn F n P a w K Q else (∀ f, o.about P w a.eval = some f → F.fn f) ∧ K (a.put o.dst undef) w)
    (hdone : ∀ listed a w, listed.size = ops.size → Inv listed a w → (∀ i, i < ops.size → listed.getD i true = true) → Q .normal a w) : (Code.region id ops true).wpIn F n P Q a w :=
  wpIn_region_any hm (wpAnyIn_inv hE Inv hstep hdone ops.size _ a w.drew (by simp) (by simp) h0)
end
end
section
open Go.ChangeShapes Go.WideShapes Go.ChangeAt Go.RowKit Go.Sort BigFrame

theorem listed_set {listed : Array Bool} (hs : listed.size = 10) {i : Nat} (hi : i < 10) (j : Nat) : (listed.setIfInBounds i true).getD j false = (decide (i = j) || listed.getD j false) := by
  simp only [Array.getD_eq_getD_getElem?, Array.getElem?_setIfInBounds, hs, hi, if_true]
  by_cases h : i = j
  · rw [if_pos h, decide_eq_true h]; rfl
  · rw [if_neg h, decide_eq_false h]; rfl
/-- The world when some of the two stores have come up. -/
def storesW (D : World) (g a b : Nat) (l7 l9 : Bool) : World := if l9 = true then (D.setCell ⟨g, a, none⟩ (.bool true)).setCell ⟨g, b, none⟩ (.bool true) else if l7 = true then D.setCell ⟨g, a, none⟩ (.bool true) else D
structure RInv (D : World) (p g Bx a b n : Nat) (listed : Array Bool) (x : Act) (w : World) : Prop where
  d : x.defers = []
  sz : x.tmps.size = 44
  t3 : x.tmps[3]? = some (.pointer (some ⟨p, 0, none⟩))
  t5 : x.tmps[5]? = some (.pointer (some ⟨Bx, 0, none⟩))
  s0 : listed.getD 0 false = true → x.tmps[29]? = some (.slice (some ⟨g, 0, none⟩) n n)
  s1 : listed.getD 1 false = true → x.tmps[30]? = some (.pointer (some ⟨Bx, 3, none⟩))
  s2 : listed.getD 2 false = true → x.tmps[31]? = some (.int .i64 a)
  s3 : listed.getD 3 false = true → x.tmps[32]? = some (.slice (some ⟨g, 0, none⟩) n n)
  s4 : listed.getD 4 false = true → x.tmps[33]? = some (.pointer (some ⟨Bx, 4, none⟩))
  s5 : listed.getD 5 false = true → x.tmps[34]? = some (.int .i64 b)
  s6 : listed.getD 6 false = true → x.tmps[35]? = some (.pointer (some ⟨g, a, none⟩))
  s8 : listed.getD 8 false = true → x.tmps[36]? = some (.pointer (some ⟨g, b, none⟩))
  ord : listed.getD 9 false = true → listed.getD 7 false = true
  w : w = storesW D g a b (listed.getD 7 false) (listed.getD 9 false)
/-- What the cells are, whatever stores have come up. -/
structure RWorld (D : World) (p g Bx a b n : Nat) : Prop where
  box : D.cell? ⟨p, 0, none⟩ = some (.slice (some ⟨g, 0, none⟩) n n)
  ca : D.cell? ⟨Bx, 3, none⟩ = some (.int .i64 a)
  cb : D.cell? ⟨Bx, 4, none⟩ = some (.int .i64 b)
  ha : ∃ v, D.cell? ⟨g, a, none⟩ = some v
  hb : ∃ v, D.cell? ⟨g, b, none⟩ = some v
  free : ∀ j, D.frozen? ⟨g, j, none⟩ = false
  pg : p ≠ g
  Bg : Bx ≠ g
  an : a < n
  bn : b < n
theorem RWorld.drew {D : World} {p g Bx a b n : Nat} (h : RWorld D p g Bx a b n) : RWorld D.drew p g Bx a b n := ⟨h.box, h.ca, h.cb, h.ha, h.hb, h.free, h.pg, h.Bg, h.an, h.bn⟩
theorem stores_other {D : World} {g a b : Nat} {l7 l9 : Bool} {k j : Nat} (h : k ≠ g) : (storesW D g a b l7 l9).cell? ⟨k, j, none⟩ = D.cell? ⟨k, j, none⟩ := by
  have h1 : ∀ (w : World) (c : Nat) (v : Value), (w.setCell ⟨g, c, none⟩ v).cell? ⟨k, j, none⟩ = w.cell? ⟨k, j, none⟩ := fun w c v => World.cell?_of_block (heap_setCell_other w ⟨g, c, none⟩ k v h)
  unfold storesW
  split
  · rw [h1, h1]
  split
  · rw [h1]
  · rfl
theorem stores_some {D : World} {g a b : Nat} {l7 l9 : Bool} {j : Nat} (h : ∃ v, D.cell? ⟨g, j, none⟩ = some v) : ∃ v, (storesW D g a b l7 l9).cell? ⟨g, j, none⟩ = some v := by
  have h1 : ∀ (w : World) (c : Nat) (v : Value), (∃ v, w.cell? ⟨g, j, none⟩ = some v) → ∃ v', (w.setCell ⟨g, c, none⟩ v).cell? ⟨g, j, none⟩ = some v' := fun w c v hw => by
    obtain ⟨v0, h0⟩ := hw
    by_cases hc : c = j
    · subst hc
      exact ⟨v, World.cell?_setCell_same' _ _ _ (by rw [h0]; rfl)⟩
    · exact ⟨v0, (World.cell?_setCell_other _ _ _ _ (by simp)).trans h0⟩
  unfold storesW
  split
  · exact h1 _ _ _ (h1 _ _ _ h)
  split
  · exact h1 _ _ _ h
  · exact h
theorem stores_free {D : World} {g a b : Nat} {l7 l9 : Bool} (h : ∀ j, D.frozen? ⟨g, j, none⟩ = false) (j : Nat) : (storesW D g a b l7 l9).frozen? ⟨g, j, none⟩ = false := by
  unfold storesW
  split
  · rw [World.frozen?_setCell, World.frozen?_setCell]; exact h j
  split
  · rw [World.frozen?_setCell]; exact h j
  · exact h j
theorem getD_keep {listed : Array Bool} (hs : listed.size = 10) {i j : Nat} (hi : i < 10) (hij : i ≠ j) (h : (listed.setIfInBounds i true).getD j false = true) : listed.getD j false = true := by
  rw [listed_set hs hi, decide_eq_false hij, Bool.false_or] at h
  exact h
theorem getD_same {listed : Array Bool} (hs : listed.size = 10) {i j : Nat} (hi : i < 10) (hij : i ≠ j) : (listed.setIfInBounds i true).getD j false = listed.getD j false := by
  rw [listed_set hs hi, decide_eq_false hij, Bool.false_or]
theorem getD_own {listed : Array Bool} (hs : listed.size = 10) {i : Nat} (hi : i < 10) : (listed.setIfInBounds i true).getD i false = true := by
  rw [listed_set hs hi, decide_eq_true rfl, Bool.true_or]
theorem getD_unl {listed : Array Bool} (hs : listed.size = 10) {i : Nat} (hi : i < 10) (h : listed.getD i true = false) : listed.getD i false = false := by
  have h1 : i < listed.size := by omega
  simp only [Array.getD, h1, dif_pos] at h ⊢
  exact h
theorem put_other {x : Array Value} {d j : Nat} {v : Value} (h : d ≠ j) : (x.setIfInBounds d v)[j]? = x[j]? := Array.getElem?_setIfInBounds_ne h
theorem put_same {x : Array Value} {d : Nat} {v : Value} (hs : x.size = 44) (hd : d < 44) : (x.setIfInBounds d v)[d]? = some v := Array.getElem?_setIfInBounds_self_of_lt (by omega)
section
variable {D : World} {p g Bx a b n : Nat} {listed : Array Bool} {x : Act} {w : World}
theorem rinv_step0 (hs : listed.size = 10) (h : RInv D p g Bx a b n listed x w) : RInv D p g Bx a b n (listed.setIfInBounds 0 true) { tmps := x.tmps.setIfInBounds 29 (.slice (some ⟨g, 0, none⟩) n n), defers := x.defers } w :=
  ⟨h.d, (Array.size_setIfInBounds ..).trans h.sz, (put_other (by decide)).trans h.t3, (put_other (by decide)).trans h.t5, fun _ => put_same h.sz (by decide), fun hl => (put_other (by decide)).trans (h.s1 (getD_keep hs (by decide : 0 < 10) (by decide) hl)), fun hl => (put_other (by decide)).trans (h.s2 (getD_keep hs (by decide : 0 < 10) (by decide) hl)), fun hl => (put_other (by decide)).trans (h.s3 (getD_keep hs (by decide : 0 < 10) (by decide) hl)), fun hl => (put_other (by decide)).trans (h.s4 (getD_keep hs (by decide : 0 < 10) (by decide) hl)), fun hl => (put_other (by decide)).trans (h.s5 (getD_keep hs (by decide : 0 < 10) (by decide) hl)), fun hl => (put_other (by decide)).trans (h.s6 (getD_keep hs (by decide : 0 < 10) (by decide) hl)), fun hl => (put_other (by decide)).trans (h.s8 (getD_keep hs (by decide : 0 < 10) (by decide) hl)), fun hl => (getD_same hs (by decide : 0 < 10) (by decide)).trans (h.ord (getD_keep hs (by decide : 0 < 10) (by decide) hl)), by rw [getD_same hs (by decide : 0 < 10) (by decide), getD_same hs (by decide : 0 < 10) (by decide)]; exact h.w⟩
theorem rinv_step1 (hs : listed.size = 10) (h : RInv D p g Bx a b n listed x w) : RInv D p g Bx a b n (listed.setIfInBounds 1 true) { tmps := x.tmps.setIfInBounds 30 (.pointer (some ⟨Bx, 3, none⟩)), defers := x.defers } w :=
  ⟨h.d, (Array.size_setIfInBounds ..).trans h.sz, (put_other (by decide)).trans h.t3, (put_other (by decide)).trans h.t5, fun hl => (put_other (by decide)).trans (h.s0 (getD_keep hs (by decide : 1 < 10) (by decide) hl)), fun _ => put_same h.sz (by decide), fun hl => (put_other (by decide)).trans (h.s2 (getD_keep hs (by decide : 1 < 10) (by decide) hl)), fun hl => (put_other (by decide)).trans (h.s3 (getD_keep hs (by decide : 1 < 10) (by decide) hl)), fun hl => (put_other (by decide)).trans (h.s4 (getD_keep hs (by decide : 1 < 10) (by decide) hl)), fun hl => (put_other (by decide)).trans (h.s5 (getD_keep hs (by decide : 1 < 10) (by decide) hl)), fun hl => (put_other (by decide)).trans (h.s6 (getD_keep hs (by decide : 1 < 10) (by decide) hl)), fun hl => (put_other (by decide)).trans (h.s8 (getD_keep hs (by decide : 1 < 10) (by decide) hl)), fun hl => (getD_same hs (by decide : 1 < 10) (by decide)).trans (h.ord (getD_keep hs (by decide : 1 < 10) (by decide) hl)), by rw [getD_same hs (by decide : 1 < 10) (by decide), getD_same hs (by decide : 1 < 10) (by decide)]; exact h.w⟩
theorem rinv_step2 (hs : listed.size = 10) (h : RInv D p g Bx a b n listed x w) : RInv D p g Bx a b n (listed.setIfInBounds 2 true) { tmps := x.tmps.setIfInBounds 31 (.int .i64 a), defers := x.defers } w :=
  ⟨h.d, (Array.size_setIfInBounds ..).trans h.sz, (put_other (by decide)).trans h.t3, (put_other (by decide)).trans h.t5, fun hl => (put_other (by decide)).trans (h.s0 (getD_keep hs (by decide : 2 < 10) (by decide) hl)), fun hl => (put_other (by decide)).trans (h.s1 (getD_keep hs (by decide : 2 < 10) (by decide) hl)), fun _ => put_same h.sz (by decide), fun hl => (put_other (by decide)).trans (h.s3 (getD_keep hs (by decide : 2 < 10) (by decide) hl)), fun hl => (put_other (by decide)).trans (h.s4 (getD_keep hs (by decide : 2 < 10) (by decide) hl)), fun hl => (put_other (by decide)).trans (h.s5 (getD_keep hs (by decide : 2 < 10) (by decide) hl)), fun hl => (put_other (by decide)).trans (h.s6 (getD_keep hs (by decide : 2 < 10) (by decide) hl)), fun hl => (put_other (by decide)).trans (h.s8 (getD_keep hs (by decide : 2 < 10) (by decide) hl)), fun hl => (getD_same hs (by decide : 2 < 10) (by decide)).trans (h.ord (getD_keep hs (by decide : 2 < 10) (by decide) hl)), by rw [getD_same hs (by decide : 2 < 10) (by decide), getD_same hs (by decide : 2 < 10) (by decide)]; exact h.w⟩
theorem rinv_step3 (hs : listed.size = 10) (h : RInv D p g Bx a b n listed x w) : RInv D p g Bx a b n (listed.setIfInBounds 3 true) { tmps := x.tmps.setIfInBounds 32 (.slice (some ⟨g, 0, none⟩) n n), defers := x.defers } w :=
  ⟨h.d, (Array.size_setIfInBounds ..).trans h.sz, (put_other (by decide)).trans h.t3, (put_other (by decide)).trans h.t5, fun hl => (put_other (by decide)).trans (h.s0 (getD_keep hs (by decide : 3 < 10) (by decide) hl)), fun hl => (put_other (by decide)).trans (h.s1 (getD_keep hs (by decide : 3 < 10) (by decide) hl)), fun hl => (put_other (by decide)).trans (h.s2 (getD_keep hs (by decide : 3 < 10) (by decide) hl)), fun _ => put_same h.sz (by decide), fun hl => (put_other (by decide)).trans (h.s4 (getD_keep hs (by decide : 3 < 10) (by decide) hl)), fun hl => (put_other (by decide)).trans (h.s5 (getD_keep hs (by decide : 3 < 10) (by decide) hl)), fun hl => (put_other (by decide)).trans (h.s6 (getD_keep hs (by decide : 3 < 10) (by decide) hl)), fun hl => (put_other (by decide)).trans (h.s8 (getD_keep hs (by decide : 3 < 10) (by decide) hl)), fun hl => (getD_same hs (by decide : 3 < 10) (by decide)).trans (h.ord (getD_keep hs (by decide : 3 < 10) (by decide) hl)), by rw [getD_same hs (by decide : 3 < 10) (by decide), getD_same hs (by decide : 3 < 10) (by decide)]; exact h.w⟩
theorem rinv_step4 (hs : listed.size = 10) (h : RInv D p g Bx a b n listed x w) : RInv D p g Bx a b n (listed.setIfInBounds 4 true) { tmps := x.tmps.setIfInBounds 33 (.pointer (some ⟨Bx, 4, none⟩)), defers := x.defers } w :=
  ⟨h.d, (Array.size_setIfInBounds ..).trans h.sz, (put_other (by decide)).trans h.t3, (put_other (by decide)).trans h.t5, fun hl => (put_other (by decide)).trans (h.s0 (getD_keep hs (by decide : 4 < 10) (by decide) hl)), fun hl => (put_other (by decide)).trans (h.s1 (getD_keep hs (by decide : 4 < 10) (by decide) hl)), fun hl => (put_other (by decide)).trans (h.s2 (getD_keep hs (by decide : 4 < 10) (by decide) hl)), fun hl => (put_other (by decide)).trans (h.s3 (getD_keep hs (by decide : 4 < 10) (by decide) hl)), fun _ => put_same h.sz (by decide), fun hl => (put_other (by decide)).trans (h.s5 (getD_keep hs (by decide : 4 < 10) (by decide) hl)), fun hl => (put_other (by decide)).trans (h.s6 (getD_keep hs (by decide : 4 < 10) (by decide) hl)), fun hl => (put_other (by decide)).trans (h.s8 (getD_keep hs (by decide : 4 < 10) (by decide) hl)), fun hl => (getD_same hs (by decide : 4 < 10) (by decide)).trans (h.ord (getD_keep hs (by decide : 4 < 10) (by decide) hl)), by rw [getD_same hs (by decide : 4 < 10) (by decide), getD_same hs (by decide : 4 < 10) (by decide)]; exact h.w⟩
theorem rinv_step5 (hs : listed.size = 10) (h : RInv D p g Bx a b n listed x w) : RInv D p g Bx a b n (listed.setIfInBounds 5 true) { tmps := x.tmps.setIfInBounds 34 (.int .i64 b), defers := x.defers } w :=
  ⟨h.d, (Array.size_setIfInBounds ..).trans h.sz, (put_other (by decide)).trans h.t3, (put_other (by decide)).trans h.t5, fun hl => (put_other (by decide)).trans (h.s0 (getD_keep hs (by decide : 5 < 10) (by decide) hl)), fun hl => (put_other (by decide)).trans (h.s1 (getD_keep hs (by decide : 5 < 10) (by decide) hl)), fun hl => (put_other (by decide)).trans (h.s2 (getD_keep hs (by decide : 5 < 10) (by decide) hl)), fun hl => (put_other (by decide)).trans (h.s3 (getD_keep hs (by decide : 5 < 10) (by decide) hl)), fun hl => (put_other (by decide)).trans (h.s4 (getD_keep hs (by decide : 5 < 10) (by decide) hl)), fun _ => put_same h.sz (by decide), fun hl => (put_other (by decide)).trans (h.s6 (getD_keep hs (by decide : 5 < 10) (by decide) hl)), fun hl => (put_other (by decide)).trans (h.s8 (getD_keep hs (by decide : 5 < 10) (by decide) hl)), fun hl => (getD_same hs (by decide : 5 < 10) (by decide)).trans (h.ord (getD_keep hs (by decide : 5 < 10) (by decide) hl)), by rw [getD_same hs (by decide : 5 < 10) (by decide), getD_same hs (by decide : 5 < 10) (by decide)]; exact h.w⟩
theorem rinv_step6 (hs : listed.size = 10) (h : RInv D p g Bx a b n listed x w) : RInv D p g Bx a b n (listed.setIfInBounds 6 true) { tmps := x.tmps.setIfInBounds 35 (.pointer (some ⟨g, a, none⟩)), defers := x.defers } w :=
  ⟨h.d, (Array.size_setIfInBounds ..).trans h.sz, (put_other (by decide)).trans h.t3, (put_other (by decide)).trans h.t5, fun hl => (put_other (by decide)).trans (h.s0 (getD_keep hs (by decide : 6 < 10) (by decide) hl)), fun hl => (put_other (by decide)).trans (h.s1 (getD_keep hs (by decide : 6 < 10) (by decide) hl)), fun hl => (put_other (by decide)).trans (h.s2 (getD_keep hs (by decide : 6 < 10) (by decide) hl)), fun hl => (put_other (by decide)).trans (h.s3 (getD_keep hs (by decide : 6 < 10) (by decide) hl)), fun hl => (put_other (by decide)).trans (h.s4 (getD_keep hs (by decide : 6 < 10) (by decide) hl)), fun hl => (put_other (by decide)).trans (h.s5 (getD_keep hs (by decide : 6 < 10) (by decide) hl)), fun _ => put_same h.sz (by decide), fun hl => (put_other (by decide)).trans (h.s8 (getD_keep hs (by decide : 6 < 10) (by decide) hl)), fun hl => (getD_same hs (by decide : 6 < 10) (by decide)).trans (h.ord (getD_keep hs (by decide : 6 < 10) (by decide) hl)), by rw [getD_same hs (by decide : 6 < 10) (by decide), getD_same hs (by decide : 6 < 10) (by decide)]; exact h.w⟩
theorem rinv_step7 (hs : listed.size = 10) (h : RInv D p g Bx a b n listed x w) (hu : listed.getD 7 true = false) : RInv D p g Bx a b n (listed.setIfInBounds 7 true) x (w.setCell ⟨g, a, none⟩ (.bool true)) :=
  ⟨h.d, h.sz, h.t3, h.t5, fun hl => h.s0 (getD_keep hs (by decide : 7 < 10) (by decide) hl), fun hl => h.s1 (getD_keep hs (by decide : 7 < 10) (by decide) hl), fun hl => h.s2 (getD_keep hs (by decide : 7 < 10) (by decide) hl), fun hl => h.s3 (getD_keep hs (by decide : 7 < 10) (by decide) hl), fun hl => h.s4 (getD_keep hs (by decide : 7 < 10) (by decide) hl), fun hl => h.s5 (getD_keep hs (by decide : 7 < 10) (by decide) hl), fun hl => h.s6 (getD_keep hs (by decide : 7 < 10) (by decide) hl), fun hl => h.s8 (getD_keep hs (by decide : 7 < 10) (by decide) hl), fun _ => getD_own hs (by decide : 7 < 10), by
    have h7 := getD_unl hs (by decide : 7 < 10) hu
    have h9 : listed.getD 9 false = false := by
      cases h9 : listed.getD 9 false with
      | false => rfl
      | true => have := h.ord h9; rw [h7] at this; cases this
    rw [getD_own hs (by decide : 7 < 10), getD_same hs (by decide : 7 < 10) (by decide), h.w, h9, h7]; rfl⟩
theorem rinv_step8 (hs : listed.size = 10) (h : RInv D p g Bx a b n listed x w) : RInv D p g Bx a b n (listed.setIfInBounds 8 true) { tmps := x.tmps.setIfInBounds 36 (.pointer (some ⟨g, b, none⟩)), defers := x.defers } w :=
  ⟨h.d, (Array.size_setIfInBounds ..).trans h.sz, (put_other (by decide)).trans h.t3, (put_other (by decide)).trans h.t5, fun hl => (put_other (by decide)).trans (h.s0 (getD_keep hs (by decide : 8 < 10) (by decide) hl)), fun hl => (put_other (by decide)).trans (h.s1 (getD_keep hs (by decide : 8 < 10) (by decide) hl)), fun hl => (put_other (by decide)).trans (h.s2 (getD_keep hs (by decide : 8 < 10) (by decide) hl)), fun hl => (put_other (by decide)).trans (h.s3 (getD_keep hs (by decide : 8 < 10) (by decide) hl)), fun hl => (put_other (by decide)).trans (h.s4 (getD_keep hs (by decide : 8 < 10) (by decide) hl)), fun hl => (put_other (by decide)).trans (h.s5 (getD_keep hs (by decide : 8 < 10) (by decide) hl)), fun hl => (put_other (by decide)).trans (h.s6 (getD_keep hs (by decide : 8 < 10) (by decide) hl)), fun _ => put_same h.sz (by decide), fun hl => (getD_same hs (by decide : 8 < 10) (by decide)).trans (h.ord (getD_keep hs (by decide : 8 < 10) (by decide) hl)), by rw [getD_same hs (by decide : 8 < 10) (by decide), getD_same hs (by decide : 8 < 10) (by decide)]; exact h.w⟩
theorem rinv_step9 (hs : listed.size = 10) (h : RInv D p g Bx a b n listed x w) (hu : listed.getD 9 true = false) (h7 : listed.getD 7 false = true) : RInv D p g Bx a b n (listed.setIfInBounds 9 true) x (w.setCell ⟨g, b, none⟩ (.bool true)) :=
  ⟨h.d, h.sz, h.t3, h.t5, fun hl => h.s0 (getD_keep hs (by decide : 9 < 10) (by decide) hl), fun hl => h.s1 (getD_keep hs (by decide : 9 < 10) (by decide) hl), fun hl => h.s2 (getD_keep hs (by decide : 9 < 10) (by decide) hl), fun hl => h.s3 (getD_keep hs (by decide : 9 < 10) (by decide) hl), fun hl => h.s4 (getD_keep hs (by decide : 9 < 10) (by decide) hl), fun hl => h.s5 (getD_keep hs (by decide : 9 < 10) (by decide) hl), fun hl => h.s6 (getD_keep hs (by decide : 9 < 10) (by decide) hl), fun hl => h.s8 (getD_keep hs (by decide : 9 < 10) (by decide) hl), fun _ => (getD_same hs (by decide : 9 < 10) (by decide)).trans h7, by rw [getD_own hs (by decide : 9 < 10), getD_same hs (by decide : 9 < 10) (by decide), h.w, getD_unl hs (by decide : 9 < 10) hu, h7]; rfl⟩
end
end
section
open Go.ChangeShapes Go.WideShapes Go.ChangeAt Go.RowKit Go.Sort BigFrame

/-- What is marked when the terms of a row have been seen, whatever row it is. -/
def markL (e : List Tm) (pre : List (Fin e.length)) : Nat → Bool := pre.foldl (fun f x j => f j || (f x.val && refsB (e.get x) j)) (fun j => decide (j + 1 = e.length))
theorem markL_snoc (e : List Tm) (pre : List (Fin e.length)) (x : Fin e.length) (j : Nat) : markL e (pre ++ [x]) j = (markL e pre j || (markL e pre x.val && refsB (e.get x) j)) := by
  unfold markL
  rw [List.foldl_append]
  rfl
theorem used_end (e : List Tm) {k j : Nat} (hk : 0 < k) (hj : j + 1 = e.length) : usedK e k j = true := by
  have h1 : usedK e 1 j = true := by simp [usedK, hj]
  have h2 := used_mono e j 1 (k - 1) h1
  rwa [show 1 + (k - 1) = k by omega] at h2
theorem markL_back (e : List Tm) : ∀ (k : Nat) (hk : k ≤ e.length) (j : Nat), markL e (backK e.length k hk) j = (usedK e k j || decide (j + 1 = e.length))
  | 0, _, j => by simp [markL, backK, usedK]
  | k + 1, hk, j => by
    have hil : e.length - 1 - k < e.length := by omega
    rw [backK, markL_snoc, markL_back e k, markL_back e k, usedK_step e k (i := e.length - 1 - k) (by omega) (e.get ⟨e.length - 1 - k, hil⟩) (by rw [List.getElem?_eq_getElem hil]; rfl)]
    simp only []
    by_cases h0 : k = 0
    · subst h0
      simp [usedK]
      exact Or.inl
    · rw [decide_eq_false h0, Bool.false_and, Bool.or_false, Bool.false_and, Bool.or_false, decide_eq_false (show ¬ (e.length - 1 - k + 1 = e.length) by omega), Bool.or_false]
      by_cases hj : j + 1 = e.length
      · rw [used_end e (by omega) hj]
        simp
      · rw [decide_eq_false hj, Bool.or_false, Bool.or_false]
theorem markL_all (e : List Tm) (h : e ≠ []) (j : Nat) : markL e (backK e.length e.length (Nat.le_refl _)) j = usedB e j := by
  rw [markL_back]
  unfold usedB
  by_cases hj : j + 1 = e.length
  · rw [used_end e (List.length_pos_iff.2 h) hj]
    rfl
  · rw [decide_eq_false hj, Bool.or_false]
/-- The marks, and the variable that holds their row. -/
structure UX (W : World) (g p : Nat) (f : Nat → Bool) (n : Nat) (u : World) : Prop where
  row : UAt W g f n u
  box : u.heap[p]? = some (.cells #[.slice (some ⟨g, 0, none⟩) n n] 66 (0, 0))
  ne : p ≠ g
theorem UX.next {W u u1 : World} {g p n : Nat} {f : Nat → Bool} (h : UX W g p f n u) (hm : Made u u1) : UX W g p f n u1 := ⟨h.row.next hm, hm.heap h.box, h.ne⟩
theorem UX.set {W u : World} {g p n : Nat} {f : Nat → Bool} (h : UX W g p f n u) (j : Nat) : UX W g p (fun i => f i || decide (i = j)) n (u.setCell ⟨g, j, none⟩ (.bool true)) :=
  ⟨h.row.set j, (heap_setCell_other u ⟨g, j, none⟩ p (.bool true) h.ne).trans h.box, h.ne⟩
theorem UX.turn {W u : World} {g p n : Nat} {f f' : Nat → Bool} (h : UX W g p f n u) (he : ∀ j, j < n → f j = f' j) : UX W g p f' n u := ⟨h.row.turn he, h.box, h.ne⟩
/-- A block of cells stands where a block that holds none turns. -/
theorem blk_kept {A B : World} {row : Option Nat} {k : Nat} {cs : Array Value} {T : TypeId} {fr : Nat × Nat} (h : A.heap[k]? = some (.cells cs T fr)) (hg : A.grownBy B row) (hr : ∀ r, row = some r → ∃ o : Obj, A.heap[r]? = some o ∧ o.isCells = false) : B.heap[k]? = some (.cells cs T fr) := by
  refine (hg.block k (heap_lt h) fun e => ?_).trans h
  obtain ⟨o, ho, hc⟩ := hr k e.symm
  rw [h] at ho
  cases ho
  cases hc
theorem world_namedI {F : Fence} {n : Nat} {P : Program} {c : Code} {Q : Exit → Act → World → Prop} {a : Act} {w : World} (X : World → Prop) (hX : X w) (h : ∀ u, X u → c.wpIn F n P Q a u) : c.wpIn F n P Q a w := h w hX
theorem KeepB.refl (n0 Bs : Nat) (A : World) : KeepB n0 Bs A A := ⟨Below.refl _ _, rfl⟩
theorem keepB_set {n0 Bs : Nat} (A : World) {g : Nat} (j : Nat) (v : Value) (hg : n0 ≤ g) (hne : Bs ≠ g) : KeepB n0 Bs A (A.setCell ⟨g, j, none⟩ v) := ⟨(Below.refl n0 A).setCell (p := ⟨g, j, none⟩) hg v, heap_setCell_other A ⟨g, j, none⟩ Bs v hne⟩
theorem keepB_alloc {n0 Bs : Nat} (A : World) (o : Obj) (hn : n0 ≤ A.heap.size) (hB : Bs < A.heap.size) : KeepB n0 Bs A (A.alloc o) := ⟨(Below.refl n0 A).alloc hn o, heap_alloc_old A o hB⟩
theorem keepB_b {n0 Bs : Nat} {w : World} (hn : n0 ≤ w.heap.size) (hB : Bs < w.heap.size) (W : World) (l : Nat) (o o' : Obj) (hl : w.heap.size ≤ l) (h : W.heap[l]? = some o) (h1 : o.isCells = false) (h2 : o.isWalk = false) : KeepB n0 Bs W (W.putObj l o') :=
  ⟨belowK_b hn W l o o' hl h h1 h2, World.putObj_heap_other (by omega)⟩
/-- The marks stand where a block that holds no cells turns, at or beyond B. -/
theorem ux_kept {W A B : World} {g p n C : Nat} {f : Nat → Bool} {row : Option Nat} (h : UX W g p f n A) (hC : W.heap.size ≤ C) (hg : A.grownBy B row) (hr : ∀ r, row = some r → C ≤ r ∧ ∃ o : Obj, A.heap[r]? = some o ∧ o.isCells = false) : UX W g p f n B :=
  ⟨⟨Below.grown h.row.made hg h.row.made.size (fun k e => Nat.le_trans hC (hr k e).1), blk_kept h.row.blk hg (fun r e => (hr r e).2), h.row.low⟩, blk_kept h.box hg (fun r e => (hr r e).2), h.ne⟩
section
attribute [local go_sem] Oper.semAt_some
attribute [local irreducible] World.cell?
set_option maxRecDepth 100000 in
set_option maxHeartbeats 16000000 in
theorem used_in (F : Fence) (n : Nat) (h31 : F.fn 31) (h43 : F.fn 43) (h73 : F.fn 73) (hro : F.round = none) (hn : 3 ≤ n) (W : World) (ao : Option Addr) (cap : Nat) (e : List Tm) (hT : Tms W ao cap e) (hl : e.length ≤ 10000) (hr : rightB e = true) (w : World) (hm : Made W w) :
    CallsIn F n Try.prog 31 #[.slice ao e.length cap] w (UsedSays W e) := by
  have h1 : 1 ≤ n := by omega
  have hmx : Try.prog.follows .mixedOrders = true := by kernel_rfl
  have hne : e ≠ [] := by
    unfold rightB at hr
    rw [Bool.and_eq_true] at hr
    exact of_decide_eq_true hr.2
  have hok : okFrom 0 e = true := by
    unfold rightB at hr
    rw [Bool.and_eq_true] at hr
    exact hr.1
  have hpos : 0 < e.length := List.length_pos_iff.2 hne
  obtain ⟨m, hm1⟩ : ∃ m : Nat, m + 1 = e.length := ⟨e.length - 1, by omega⟩
  have HM1 := Lib.hid hm1
  obtain ⟨i0, hi0, hz0, hz1, hz2⟩ := info_parts bool_row
  obtain ⟨M, hM⟩ : ∃ M, M = madeCells (Value.bool false).cells (((e.length : Nat) : Int).toNat * i0.size) := ⟨_, rfl⟩
  have hMl : M = (boolC (fun _ => false) e.length).toArray := by
    rw [hM, hz1, Nat.mul_one, Int.toNat_natCast]
    apply Array.toList_inj.1
    rw [show (Value.bool false).cells = #[Value.bool false] from rfl, toList_madeCells_one]
    unfold boolC
    refine List.ext_getElem (by simp) fun i h1 h2 => ?_
    simp
  have hmk : ∀ u : World, (Instr.makeSlice 66 (.int .i64 (e.length : Int)) (.int .i64 (e.length : Int))).run Try.prog u = .ok (.slice (some ⟨u.heap.size, 0, none⟩) e.length e.length) (u.alloc (.cells M 4)) := fun u => by
    have h := run_make (P := Try.prog) u 66 4 i0 (.bool false) Try.underlying66 hi0 hz0 .i64 .i64 (e.length : Int) (e.length : Int) (by omega) (by omega) (by rw [hz2]; omega) (by omega)
    rw [← hM] at h
    simpa using h
  have HX := Lib.hid (show UX W w.heap.size (w.heap.size + 1) (fun _ => false) e.length ((w.alloc (.cells M 4)).alloc (.cells #[.slice (some ⟨w.heap.size, 0, none⟩) e.length e.length] 66)) from by
    have m1 := hm.alloc hm.size (.cells M 4)
    refine ⟨⟨m1.alloc m1.size _, ?_, hm.size⟩, heap_at (by simp), by omega⟩
    exact (heap_alloc_old _ _ (by simp)).trans (by rw [heap_alloc_new w _, hMl]))
  clear hM hMl hi0 hz0 hz1 hz2 hm1
  refine callsIn_of_wp_marks Try.func31 rfl h31 ?_ hro
  simp only [Try.ntmps31, List.size_toArray, List.length_cons, List.length_nil, Nat.reduceAdd, Nat.reduceSub, Array.replicate_succ, Array.replicate_zero, List.push_toArray, List.append_toArray, List.nil_append, List.cons_append]
  gi_upto_region 2 with (fail)
  refine world_namedI (fun u => UX W w.heap.size (w.heap.size + 1) (fun _ => false) e.length u) HX.out ?_
  intro u0 hu0
  have K0 := Lib.hid ((hu0.set m).turn (f' := markL e []) fun j hj => by
    unfold markL
    rw [List.foldl_nil, Bool.false_or, Bool.eq_iff_iff]
    simp only [decide_eq_true_eq]
    have := HM1.out
    omega)
  have cb : u0.cell? ⟨w.heap.size + 1, 0, none⟩ = some (.slice (some ⟨w.heap.size, 0, none⟩) e.length e.length) := cell_of_lit (cs := [.slice (some ⟨w.heap.size, 0, none⟩) e.length e.length]) hu0.box 0
  have ft := free_of_lit hu0.row.blk
  have lt := heap_lt hu0.row.blk
  have hml : (e.length : Int) - 1 = (m : Int) := by have := HM1.out; omega
  have cm := hu0.row.cell (j := m) (by have := HM1.out; omega)
  have hmi : (m : Int) < (e.length : Int) := by have := HM1.out; omega
  generalize w.heap.size + 1 = p at *
  generalize w.heap.size = g at *
  clear hu0 HX hmk
  gi_upto_region 3 with (fail)
  refine world_namedI (fun u => UX W g p (markL e []) e.length u) K0.out ?_
  intro u1 hu1
  have K1 := Lib.hid hu1
  clear hu1 K0 cb ft lt cm hml hmi
  gi_wp2_with (gi_at_call 43; refine (back_in F (n - 1) h43 hro _ _ _ _).mono ?_; rintro x w' ⟨rfl, rfl⟩)
  refine world_namedI (fun u => UX W g p (markL e []) e.length u ∧ u.heap[u1.heap.size]? = some (.cells #[.slice ao e.length cap] 26 (0, 0)) ∧ u.heap.size = u1.heap.size + 1) ⟨K1.out.next ((Made.refl u1).alloc (Nat.le_refl _) _), heap_alloc_new u1 _, by simp⟩ ?_
  rintro w' ⟨hKW, hBs, hsz⟩
  have KW := Lib.hid hKW
  have hgB : g < u1.heap.size := heap_lt K1.out.row.blk
  have hpB : p < u1.heap.size := heap_lt K1.out.box
  have hlow := K1.out.row.low
  have hWw := KW.out.row.made.size
  have HBS := Lib.hid hBs
  clear K1 hBs hKW
  refine wpIn_rangeFunc_ownH hro h1 (gf := 73) (lb := #[.pointer (some ⟨u1.heap.size, 0, none⟩)]) rfl h73 (enters_of Try.func73 (by kernel_rfl) rfl)
    (back_stops F (n - 1) h73 hro (by omega) u1.heap.size W ao cap e hT hl 26 w' KW.out.row.made HBS.out) (fun h k => h.trans k) (keepB_b hWw (by omega)) (Below.refl _ _) (fun _ => rfl)
    (fun pre W' => UX W g p (markL e pre) e.length W' ∧ W'.heap[u1.heap.size]? = some (.cells #[.slice ao e.length cap] 26 (0, 0)))
    (fun _ _ _ => False)
    (fun s A B row hs hg hr => ⟨ux_kept hs.1 hWw hg hr, blk_kept hs.2 hg (fun r e => (hr r e).2)⟩)
    (fun _ _ _ _ _ hs _ _ => hs)
    ⟨KW.out, HBS.out⟩
    (fun x a' W' => ∃ Bx, (Bx ≠ g ∧ Bx ≠ p) ∧ W'.heap[Bx]? = some (.cells (e.get x).cells.toArray TE (0, 0)) ∧ a' = { tmps := #[Value.slice ao e.length cap, undef, Value.slice none 0 0, Value.pointer (some { block := p, off := 0 }), Value.int IntKind.i64 (x.val : Int), Value.pointer (some { block := Bx, off := 0 }), Value.slice ao e.length cap, Value.int IntKind.i64 ↑e.length, Value.slice (some { block := g, off := 0 }) e.length e.length, Value.slice (some { block := g, off := 0 }) e.length e.length, Value.slice ao e.length cap, Value.int IntKind.i64 ↑e.length, Value.int IntKind.i64 ↑m, Value.pointer (some { block := g, off := m }), Value.slice ao e.length cap, Value.func (Fn.func 73) #[] #[Value.pointer (some { block := u1.heap.size, off := 0 })], Value.int IntKind.i64 (x.val : Int), (e.get x).val, undef, undef, undef, undef, undef, undef, undef, undef, undef, undef, undef, undef, undef, undef, undef, undef, undef, undef, undef, undef, undef, undef, undef, undef, undef, undef], defers := [] })
    (fun x a' s A B row hs hg hr => by obtain ⟨Bx, h1, h2, h3⟩ := hs; exact ⟨Bx, h1, blk_kept h2 hg (fun r e => (hr r e).2), h3⟩)
    ?assign ?body ?done ?stop
  case assign =>
    rintro l pre x Wr K ⟨hI, hB⟩ hK
    have hW1 := hI.row.made.size
    have hBl := heap_lt hB
    gi_wp2
    exact hK _ _ ((KeepsOthers.alloc _ _).from _) (keepB_alloc _ _ hW1 hBl) ⟨hI.next ((Made.refl Wr).alloc (Nat.le_refl _) _), (heap_alloc_old _ _ hBl).trans hB⟩ ⟨Wr.heap.size, ⟨by have := heap_lt hI.row.blk; omega, by have := heap_lt hI.box; omega⟩, heap_alloc_new Wr _, rfl⟩
  case body =>
    rintro l pre x a' Wr hl0 ⟨rr, hrr⟩ ⟨hI, hB⟩ ⟨Bx, ⟨hBg, hBp⟩, bX, rfl⟩ hlt
    obtain ⟨t, ht⟩ : ∃ t, e.get x = t := ⟨_, rfl⟩
    have hokt := ok_at e 0 x.val hok x.isLt
    rw [Nat.zero_add, show e[x.val] = t from ht] at hokt
    rewrite [ht] at bX
    obtain ⟨i, hi⟩ : ∃ i, x.val = i := ⟨_, rfl⟩
    have HMK := Lib.hid (fun j => markL_snoc e pre x j)
    rewrite [ht, hi] at HMK
    have hil : i < e.length := by rw [← hi]; exact x.isLt
    rewrite [hi] at hokt
    rewrite [hi, ht]
    have KI := Lib.hid hI
    have HB := Lib.hid hB
    have cb : Wr.cell? ⟨p, 0, none⟩ = some (.slice (some ⟨g, 0, none⟩) e.length e.length) := cell_of_lit (cs := [.slice (some ⟨g, 0, none⟩) e.length e.length]) hI.box 0
    have ft := free_of_lit hI.row.blk
    have lt := heap_lt hI.row.blk
    have cm := hI.row.cell hil
    have hii : (i : Int) < (e.length : Int) := by omega
    obtain ⟨tk, tv, tn, ta, tb⟩ := t
    have c0 : Wr.cell? ⟨Bx, 0, none⟩ = some (.int .u8 tk) := cell_of_lit bX 0
    have c1 : Wr.cell? ⟨Bx, 1, none⟩ = some (.int .i64 tv) := cell_of_lit bX 1
    have c2 : Wr.cell? ⟨Bx, 2, none⟩ = some (.string (strOf tn)) := cell_of_lit bX 2
    have c3 : Wr.cell? ⟨Bx, 3, none⟩ = some (.int .i64 ta) := cell_of_lit bX 3
    have c4 : Wr.cell? ⟨Bx, 4, none⟩ = some (.int .i64 tb) := cell_of_lit bX 4
    have HKT := Lib.hid hokt
    clear hI hB bX ht hokt
    cases hd : markL e pre i with
    | false =>
      rewrite [hd] at cm
      have HN := Lib.hid (KI.out.turn (f' := markL e (pre ++ [x])) fun j hj => by rw [HMK.out j, hd, Bool.false_and, Bool.or_false])
      clear hd
      gi_wp2
      exact ⟨KeepsFrom.refl _ _, KeepB.refl _ _ _, HN.out, HB.out⟩
    | true =>
      rewrite [hd] at cm
      have HMT := Lib.hid (fun j => show markL e (pre ++ [x]) j = (markL e pre j || refsB ⟨tk, tv, tn, ta, tb⟩ j) from by rw [HMK.out j, hd, Bool.true_and])
      clear hd
      by_cases hk3 : tk < 3
      · have g3 : (tk == 3) = false := beq_eq_false_iff_ne.2 (by omega)
        have g4 : (tk == 4) = false := beq_eq_false_iff_ne.2 (by omega)
        have g5 : (tk == 5) = false := beq_eq_false_iff_ne.2 (by omega)
        have g6 : (tk == 6) = false := beq_eq_false_iff_ne.2 (by omega)
        have HN := Lib.hid (KI.out.turn (f' := markL e (pre ++ [x])) fun j hj => by rw [HMT.out j, refs_low hk3, Bool.or_false])
        clear hk3
        gi_wp2
        exact ⟨KeepsFrom.refl _ _, KeepB.refl _ _ _, HN.out, HB.out⟩
      · have hk4 : 3 ≤ tk := by omega
        obtain ⟨ha0, ha1⟩ := (ok_refs HKT.out).1 hk4
        obtain ⟨a, rfl⟩ := Int.eq_ofNat_of_zero_le (show 0 ≤ ta from ha0)
        have hae : (a : Int) < (e.length : Int) := by have h9 : (a : Int) < i := ha1; omega
        have ca := KI.out.row.cell (j := a) (by omega)
        clear ha0 ha1
        by_cases hk6 : tk < 6
        · obtain ⟨hb0, hb1⟩ := (ok_refs HKT.out).2 hk4 hk6
          obtain ⟨b2, rfl⟩ := Int.eq_ofNat_of_zero_le (show 0 ≤ tb from hb0)
          have hbe : (b2 : Int) < (e.length : Int) := by have h9 : (b2 : Int) < i := hb1; omega
          have KAB := Lib.hid ((((KI.out.next (made_drew (Made.refl _))).set a).set b2).turn (f' := markL e (pre ++ [x])) fun j hj => by rw [HMT.out j, refs_two hk4 hk6 rfl rfl, Bool.or_assoc])
          have cb2 := KI.out.row.cell (j := b2) (by omega)
          clear hb0 hb1
          rcases (show ((tk == 3) = true ∨ ((tk == 3) = false ∧ (tk == 4) = true)) ∨ ((tk == 3) = false ∧ (tk == 4) = false ∧ (tk == 5) = true) by
            rcases (show tk = 3 ∨ tk = 4 ∨ tk = 5 by omega) with rfl | rfl | rfl <;> decide) with (g3 | ⟨g3, g4⟩) | ⟨g3, g4, g5⟩
          all_goals
            clear hk4 hk6
            have hpg := KI.out.ne
            have HRW := Lib.hid (RWorld.drew (show RWorld Wr p g Bx a b2 e.length from ⟨cb, c3, c4, ⟨_, ca⟩, ⟨_, cb2⟩, ft, hpg, hBg, by omega, by omega⟩))
            gi_wp2
            refine wpIn_region_inv hmx (by kernel_rfl) (RInv Wr.drew p g Bx a b2 e.length) ?h0 ?hstep ?hdone
            case h0 => exact ⟨rfl, rfl, rfl, rfl, fun h => (by cases h), fun h => (by cases h), fun h => (by cases h), fun h => (by cases h), fun h => (by cases h), fun h => (by cases h), fun h => (by cases h), fun h => (by cases h), fun h => (by cases h), rfl⟩
            case hstep =>
              rintro listed x w i o hs hI ho hun hd K hK
              have hs10 : listed.size = 10 := hs
              have hi : i < 10 := (Array.getElem?_eq_some_iff.1 ho).1
              have hRI := hI
              obtain ⟨xt, xd⟩ := x
              obtain ⟨hdf, hsz, t3, t5, s0, s1, s2, s3, s4, s5, s6, s8, hord, hw⟩ := hI
              simp only [] at hdf
              subst hdf
              simp only [] at hsz t3 t5 s0 s1 s2 s3 s4 s5 s6 s8
              clear hord
              have hcp : w.cell? ⟨p, 0, none⟩ = some (.slice (some ⟨g, 0, none⟩) e.length e.length) := by rw [hw, stores_other HRW.out.pg]; exact HRW.out.box
              have HW := Lib.hid hw
              have hc3 : w.cell? ⟨Bx, 3, none⟩ = some (.int .i64 a) := by rw [hw, stores_other HRW.out.Bg]; exact HRW.out.ca
              have hc4 : w.cell? ⟨Bx, 4, none⟩ = some (.int .i64 b2) := by rw [hw, stores_other HRW.out.Bg]; exact HRW.out.cb
              obtain ⟨va, hga⟩ : ∃ v, w.cell? ⟨g, a, none⟩ = some v := by rw [hw]; exact stores_some HRW.out.ha
              obtain ⟨vb, hgb⟩ : ∃ v, w.cell? ⟨g, b2, none⟩ = some v := by rw [hw]; exact stores_some HRW.out.hb
              have hfr : ∀ j, w.frozen? ⟨g, j, none⟩ = false := by rw [hw]; exact stores_free HRW.out.free
              have HS := Lib.hid (And.intro hs10 hRI)
              have HSZ := Lib.hid hsz
              have HP := Lib.hid (fun i (hi : i < 10) => listed_set hs10 hi)
              have HDEP := Lib.hid hd
              have HUN := Lib.hid hun
              clear hw hs hs10 hsz hRI hd hun
              clear cb ft cm c0 c1 c2 c3 c4 ca cb2
              rcases (show i = 0 ∨ i = 1 ∨ i = 2 ∨ i = 3 ∨ i = 4 ∨ i = 5 ∨ i = 6 ∨ i = 7 ∨ i = 8 ∨ i = 9 by omega) with rfl | rfl | rfl | rfl | rfl | rfl | rfl | rfl | rfl | rfl
              · obtain rfl := Option.some.inj ho
                go_simp
                refine hK _ _ ?_
                exact rinv_step0 HS.out.1 HS.out.2
              · obtain rfl := Option.some.inj ho
                go_simp
                refine hK _ _ ?_
                exact rinv_step1 HS.out.1 HS.out.2
              · obtain rfl := Option.some.inj ho
                have q1 := s1 (HDEP.out ⟨1, .data⟩ (by simp) rfl)
                go_simp
                refine hK _ _ ?_
                exact rinv_step2 HS.out.1 HS.out.2
              · obtain rfl := Option.some.inj ho
                go_simp
                refine hK _ _ ?_
                exact rinv_step3 HS.out.1 HS.out.2
              · obtain rfl := Option.some.inj ho
                go_simp
                refine hK _ _ ?_
                exact rinv_step4 HS.out.1 HS.out.2
              · obtain rfl := Option.some.inj ho
                have q4 := s4 (HDEP.out ⟨4, .data⟩ (by simp) rfl)
                go_simp
                refine hK _ _ ?_
                exact rinv_step5 HS.out.1 HS.out.2
              · obtain rfl := Option.some.inj ho
                have q0 := s0 (HDEP.out ⟨0, .data⟩ (by simp) rfl)
                have q2 := s2 (HDEP.out ⟨2, .data⟩ (by simp) rfl)
                go_simp
                refine hK _ _ ?_
                exact rinv_step6 HS.out.1 HS.out.2
              · obtain rfl := Option.some.inj ho
                have q6 := s6 (HDEP.out ⟨6, .data⟩ (by simp) rfl)
                go_simp
                refine hK _ _ ?_
                exact rinv_step7 HS.out.1 HS.out.2 HUN.out
              · obtain rfl := Option.some.inj ho
                have q3 := s3 (HDEP.out ⟨3, .data⟩ (by simp) rfl)
                have q5 := s5 (HDEP.out ⟨5, .data⟩ (by simp) rfl)
                go_simp
                refine hK _ _ ?_
                exact rinv_step8 HS.out.1 HS.out.2
              · obtain rfl := Option.some.inj ho
                have q8 := s8 (HDEP.out ⟨8, .data⟩ (by simp) rfl)
                have q7 := HDEP.out ⟨7, .chain⟩ (by simp) rfl
                go_simp
                refine hK _ _ ?_
                exact rinv_step9 HS.out.1 HS.out.2 HUN.out q7
            case hdone =>
              rintro listed x w hs hI hall
              have hs10 : listed.size = 10 := hs
              have h9 : listed.getD 9 false = true := getD_mono (hall 9 (by decide)) (by omega)
              have hw := hI.w
              rw [h9] at hw
              have hw2 : w = (Wr.drew.setCell ⟨g, a, none⟩ (.bool true)).setCell ⟨g, b2, none⟩ (.bool true) := hw
              clear hw hI
              subst hw2
              have k1 : KeepB W.heap.size u1.heap.size Wr Wr.drew := ⟨⟨rfl, rfl, rfl, Nat.le_refl _, fun _ _ => rfl⟩, rfl⟩
              have k2 := keepB_set (n0 := W.heap.size) (Bs := u1.heap.size) Wr.drew a (.bool true) hlow (by omega)
              have k3 := keepB_set (n0 := W.heap.size) (Bs := u1.heap.size) (Wr.drew.setCell ⟨g, a, none⟩ (.bool true)) b2 (.bool true) hlow (by omega)
              have kk := (k1.trans k2).trans k3
              exact ⟨(((KeepsOthers.drew Wr).trans (KeepsOthers.setCell _ _ _)).trans (KeepsOthers.setCell _ _ _)).from _, kk, KAB.out, kk.blk.trans HB.out⟩
        · have hk7 : tk = 6 := by
            have h9 := HKT.out
            unfold okT at h9
            simp only [] at h9
            rw [if_neg (by omega), if_neg (by omega), if_neg (by omega)] at h9
            by_cases h6 : tk = 6
            · exact h6
            · rw [if_neg h6] at h9; cases h9
          have KA := Lib.hid ((KI.out.set a).turn (f' := markL e (pre ++ [x])) fun j hj => by rw [HMT.out j, refs_one hk4 hk6 rfl])
          have g3 : (tk == 3) = false := beq_eq_false_iff_ne.2 (by omega)
          have g4 : (tk == 4) = false := beq_eq_false_iff_ne.2 (by omega)
          have g5 : (tk == 5) = false := beq_eq_false_iff_ne.2 (by omega)
          have g6 : (tk == 6) = true := beq_iff_eq.2 hk7
          clear hk4 hk6 hk7
          gi_wp2
          exact ⟨(KeepsOthers.setCell _ _ _).from _, keepB_set _ _ _ hlow (by omega), KA.out, (heap_setCell_other Wr ⟨g, a, none⟩ u1.heap.size _ (by show u1.heap.size ≠ g; omega)).trans HB.out⟩
  case done =>
    rintro D ys W' hD rfl ⟨hI, hB⟩ hK
    have KI := Lib.hid hI
    have cb : W'.cell? ⟨p, 0, none⟩ = some (.slice (some ⟨g, 0, none⟩) e.length e.length) := cell_of_lit (cs := [.slice (some ⟨g, 0, none⟩) e.length e.length]) hI.box 0
    clear hI hB
    gi_wp2
    refine ⟨by simp, .inl ⟨_, _, rfl, run_takeDeferred hK, ?_⟩⟩
    refine ⟨_, results_tmp rfl _ _ _, g, rfl, ?_⟩
    refine ⟨Below.trans KI.out.row.made (belowK_b (w := w') hWw W' D _ _ hD hK rfl rfl), ?_, hlow⟩
    rw [World.putObj_heap_other (by omega), ← boolC_congr (fun j _ => markL_all e hne j)]
    exact KI.out.row.blk
  case stop =>
    rintro D c pre W _ _ h _
    exact h.elim
theorem xused_any (W : World) (ao : Option Addr) (cap : Nat) (e : List Tm) (hT : Tms W ao cap e) (hl : e.length ≤ 10000) (hr : rightB e = true) (w : World) (hm : Made W w) : Calls Try.prog 31 #[.slice ao e.length cap] w (UsedSays W e) :=
  callsIn_wide.1 (used_in Fence.wide 3 trivial trivial trivial rfl (Nat.le_refl _) W ao cap e hT hl hr w hm)
end
end
section
open Go.ChangeShapes Go.WideShapes Go.ChangeAt Go.RowKit Go.Sort BigFrame Go.Maps

theorem names_few2 (e : List Tm) : ∀ i, (namesF e i).length ≤ i
  | 0 => Nat.le_refl _
  | i + 1 => by
    have := names_few2 e i
    simp only [namesF]
    split
    · split
      · rw [List.length_append, List.length_singleton]; omega
      · omega
    · omega
theorem law_str : Keyed Try.prog 9 := string_keyed Try.underlying9
theorem zero_unit (w : World) : (zeroValue 71).run Try.prog w = .ok (.agg #[]) w := by kernel_rfl
/-- The names as a set. -/
abbrev nmSet (l : List (List UInt8)) : DataW Unit := setOf (.agg []) (l.map Lit.string)
theorem any_str (x : List UInt8) : ∀ l : List (List UInt8), l.any ((fun y : Lit => y.sameKey (.string x)) ∘ Lit.string) = decide (x ∈ l)
  | [] => rfl
  | a :: r => by
    rw [List.any_cons, any_str x r, Bool.eq_iff_iff]
    simp only [Function.comp, Bool.or_eq_true, decide_eq_true_eq, List.mem_cons]
    have : ((Lit.string a).sameKey (.string x) = true) = (a = x) := by simp [Lit.sameKey]
    rw [this]
    exact ⟨fun h => h.imp Eq.symm id, fun h => h.imp Eq.symm id⟩
theorem has_nm (l : List (List UInt8)) (x : List UInt8) : Maps.has (nmSet l) (.string x) = decide (x ∈ l) := by
  rw [has_setOf _ _ _ (fun y hy => by obtain ⟨_, _, rfl⟩ := List.mem_map.1 hy; trivial), List.any_map]
  exact any_str x l
theorem nm_put (l : List (List UInt8)) (x : List UInt8) : (nmSet l).put (.string x) (.agg []) = nmSet (l ++ [x]) := by
  unfold nmSet
  rw [List.map_append, List.map_cons, List.map_nil, setOf_snoc]
theorem map_made {H : Type} {w w' : World} {P : Program} {k : TypeId} {R : Value → Option (DataW H × List MemPlace)} {b n : Nat} {D : DataW H} (h : w.ownsMap P k R b n D) (hm : Made w w') : w'.ownsMap P k R b n D := by
  have hlt := h.lt
  obtain ⟨es, clock, hb, F, hs, hD⟩ := h
  exact ⟨es, clock, (hm.block b hlt).trans hb, F, hs, hD⟩
/-- The names, the marks, and the set of the names. -/
structure MX (W : World) (g mb : Nat) (f : Nat → Bool) (n : Nat) (v : Value) (l : List (List UInt8)) (u : World) : Prop where
  row : Grows txC 1 9 W W.heap.size v l u
  marks : u.heap[g]? = some (.cells (boolC f n).toArray 4 (0, 0))
  map : u.ownsMap Try.prog 9 (unitElem (H := Unit)) mb l.length (nmSet l)
  low : W.heap.size ≤ mb
section
variable {W u u1 : World} {g mb n : Nat} {f : Nat → Bool} {v : Value} {l : List (List UInt8)}
theorem MX.next (h : MX W g mb f n v l u) (hm : Made u u1) : MX W g mb f n v l u1 := ⟨h.row.next hm, hm.heap h.marks, map_made h.map hm, h.low⟩
theorem MX.mark (h : MX W g mb f n v l u) {j : Nat} (hj : j < n) : u.cell? ⟨g, j, none⟩ = some (.bool (f j)) := (cell_of_lit h.marks j).trans (boolC_at f hj)
theorem blk_map {es : Array MapEntry} {c : Nat} (h : u.heap[mb]? = some (.map es c)) {cs : Array Value} {T : TypeId} {fr : Nat × Nat} {k : Nat} (hk : u.heap[k]? = some (.cells cs T fr)) : k ≠ mb := by
  intro e
  subst e
  rw [h] at hk
  cases hk
end
/-- The names and the marks, while the set has one more. -/
structure MZ (W : World) (g mb : Nat) (f : Nat → Bool) (n : Nat) (v : Value) (l l2 : List (List UInt8)) (u : World) : Prop where
  row : Grows txC 1 9 W W.heap.size v l u
  marks : u.heap[g]? = some (.cells (boolC f n).toArray 4 (0, 0))
  map : u.ownsMap Try.prog 9 (unitElem (H := Unit)) mb l2.length (nmSet l2)
  low : W.heap.size ≤ mb
theorem row_not_map {u : World} {B : Nat} {T : TypeId} {s n k : Nat} {v : Value} {xs : List Value} {H : Type} {P : Program} {kt : TypeId} {R : Value → Option (DataW H × List MemPlace)} {D : DataW H} {mb : Nat} (h : u.ownsRow B T s v n xs) (hm : u.ownsMap P kt R mb k D) : ∀ g, v.ownBlock = some g → g ≠ mb := by
  intro g hg e
  subst e
  obtain ⟨es, clock, hb, -⟩ := hm
  rcases h.2 with ⟨rfl, _⟩ | ⟨a, _, _, rfl, _, ha, _⟩
  · simp [Value.ownBlock] at hg
  simp only [Value.ownBlock, Option.some.injEq] at hg
  subst hg
  rw [hb] at ha
  cases ha
section
variable {W u u1 : World} {g mb n : Nat} {f : Nat → Bool} {v : Value} {l l2 : List (List UInt8)}
theorem MZ.next (h : MZ W g mb f n v l l2 u) (hm : Made u u1) : MZ W g mb f n v l l2 u1 := ⟨h.row.next hm, hm.heap h.marks, map_made h.map hm, h.low⟩
theorem MX.put (h : MX W g mb f n v l u) {x : List UInt8} (hm : u1.ownsMap Try.prog 9 (unitElem (H := Unit)) mb (l.length + 1) ((nmSet l).put (.string x) (.agg []))) (gr : u.grownBy u1 (some mb)) : MZ W g mb f n v l (l ++ [x]) u1 := by
  have hlt := h.map.lt
  have hmd : Made W u1 := Below.grown h.row.made gr h.row.made.size (fun k e => by cases e; exact h.low)
  refine ⟨⟨hmd, h.row.low, q_owns h.row.row fun k hk => ?_⟩, ?_, ?_, h.low⟩
  · obtain ⟨cs, T, fr, hb⟩ : ∃ cs T fr, u.heap[k]? = some (.cells cs T fr) := by
      rcases h.row.row.2 with ⟨rfl, _⟩ | ⟨a, _, _, rfl, _, ha, _⟩
      · simp [Value.ownBlock] at hk
      · simp only [Value.ownBlock, Option.some.injEq] at hk
        subst hk
        exact ⟨_, _, _, ha⟩
    exact gr.block k (heap_lt hb) fun e => row_not_map h.row.row h.map k hk (by cases e; rfl)
  · obtain ⟨es, c, hb, -⟩ := h.map
    exact (gr.block g (heap_lt h.marks) fun e => blk_map hb h.marks (by cases e; rfl)).trans h.marks
  · rw [List.length_append, List.length_singleton, ← nm_put]
    exact hm
theorem MZ.more {k : Nat} {v1 : Value} {t : List UInt8} (h : MZ W g mb f n v l (l ++ [t]) u) (hn : l.length + [t].length = k) (own : u1.ownsRow W.heap.size 9 1 v1 k (l.flatMap txC ++ [t].flatMap txC)) (gr : u.grownBy u1 v.ownBlock) : MX W g mb f n v1 (l ++ [t]) u1 :=
  ⟨h.row.more hn own gr, (gr.block g (heap_lt h.marks) fun e => q_far h.row.row h.marks (by decide) g e.symm rfl).trans h.marks, h.map.kept gr (fun e => row_not_map h.row.row h.map mb e.symm rfl), h.low⟩
end
section
attribute [local irreducible] World.cell?
set_option maxRecDepth 100000 in
set_option maxHeartbeats 32000000 in
theorem xnames_any (ao : Option Addr) (cap : Nat) (e : List Tm) (w : World) (hT : Tms w ao cap e) (hl : e.length ≤ 10000) (hN : ∀ t ∈ e, t.name.length ≤ 140737488351232) : Calls Try.prog 15 #[.slice ao e.length cap] w (NamesSays w (namesL e)) := by
  have HT := Lib.hid hT
  have HN := Lib.hid hN
  have HRT := Lib.hid (xright_any w ao cap e hT hl w (Made.refl w))
  cases hr : rightB e with
  | false =>
    have HR := Lib.hid (show namesL e = [] by unfold namesL; rw [hr]; rfl)
    rewrite [hr] at HRT
    clear hr hT hN
    go_enter Try.func15, Try.ntmps15
    go_wp2_with (fail)
    refine HRT.out.mono ?_
    rintro x w1 ⟨rfl, hm1⟩
    go_wp2
    rewrite [HR.out]
    go_ret
    exact ⟨none, 0, rfl, recs_none _, hm1⟩
  | true =>
    have HUS := Lib.hid (fun u (hu : Made w u) => xused_any w ao cap e hT hl hr u hu)
    have HNL := Lib.hid (show namesL e = namesF e e.length by unfold namesL; rw [hr]; rfl)
    have HI := Lib.hid (info_parts str_row)
    have hmm := @run_makeMap Try.prog
    rewrite [hr] at HRT
    clear hr hT hN
    go_enter Try.func15, Try.ntmps15
    go_wp2_with (fail)
    refine HRT.out.mono ?_
    rintro x w1 ⟨rfl, hm1⟩
    have M1 := Lib.hid hm1
    clear hm1
    go_wp2_with (fail)
    refine (HUS.out _ M1.out).mono ?_
    rintro x w2 ⟨g, rfl, hU⟩
    have K0 := Lib.hid (show MX w g w2.heap.size (usedB e) e.length (.slice none 0 0) [] (w2.alloc (.map #[] 0)) from by
      have m1 : Made w2 (w2.alloc (.map #[] 0)) := (Made.refl w2).alloc (Nat.le_refl _) _
      exact ⟨grows_nil (Made.trans hU.made m1) (Nat.le_refl _), m1.heap hU.blk, World.ownsMap_made _ _ _ _, hU.made.size⟩)
    clear hU M1 HRT HUS
    go_wp2_with (fail)
    clear hmm
    go_loopw [5, 18] (fun nv iv wr => ∃ k : Nat, k ≤ e.length ∧ iv = .int .i64 k ∧ MX w g w2.heap.size (usedB e) e.length nv (namesF e k) wr) (fun _ iv _ => e.length - (intOf iv).toNat)
    case atStart => exact ⟨0, Nat.zero_le _, rfl, K0.out⟩
    case round =>
      clear K0
      generalize w2.heap.size = mb at *
      clear w2
      obtain ⟨k, hk, rfl, hN⟩ := hrel
      obtain ⟨so, c, rfl, hrec⟩ := hN.row.recs tx_len (by decide)
      have KN := Lib.hid hN
      have HRC := Lib.hid hrec
      have hfew := names_few2 e k
      clear hN hrec
      by_cases hk1 : k < e.length
      rotate_left
      · obtain rfl : k = e.length := by omega
        go_wp2
        rewrite [HNL.out]
        go_ret
        exact ⟨so, c, rfl, HRC.out, KN.out.row.made⟩
      · obtain ⟨t, ht⟩ : ∃ t, e[k] = t := ⟨_, rfl⟩
        have HST := Lib.hid (show namesF e (k + 1) = if usedB e k = true ∧ t.kind = 2 ∧ t.name ∉ namesF e k then namesF e k ++ [t.name] else namesF e k by simp only [namesF, List.getElem?_eq_getElem hk1, ht])
        have hki : (k : Int) < (e.length : Int) := by omega
        have hen : (e.length : Int) ≤ 10000 := by omega
        obtain ⟨tb, o, rfl, c0, c1, c2, c3, c4⟩ := tms_cells (HT.out.made tm_len KN.out.row.made) hk1 t ht
        have HNB := Lib.hid (show t.name.length ≤ 140737488351232 from by rw [← ht]; exact HN.out _ (List.getElem_mem hk1))
        clear ht
        obtain ⟨tk, tv, tn, ta, tbb⟩ := t
        generalize namesF e k = l at *
        have HX := Lib.hid (show MX w g mb (usedB e) e.length (.slice so l.length c) l (wr.alloc (.cells (Tm.cells ⟨tk, tv, tn, ta, tbb⟩).toArray TE)) ∧ (wr.alloc (.cells (Tm.cells ⟨tk, tv, tn, ta, tbb⟩).toArray TE)).heap[wr.heap.size]? = some (.cells (Tm.cells ⟨tk, tv, tn, ta, tbb⟩).toArray TE (0, 0)) from ⟨KN.out.next ((Made.refl wr).alloc (Nat.le_refl _) _), heap_alloc_new wr _⟩)
        go_upto_region 9 with (fail)
        refine world_named (fun u => MX w g mb (usedB e) e.length (.slice so l.length c) l u ∧ u.heap[wr.heap.size]? = some (.cells (Tm.cells ⟨tk, tv, tn, ta, tbb⟩).toArray TE (0, 0))) HX.out ?_
        rintro u ⟨hu, hb⟩
        have KQ := Lib.hid hu
        clear c0 c1 c2 c3 c4 HX KN HRC
        have c0 : u.cell? ⟨wr.heap.size, 0, none⟩ = some (.int .u8 tk) := cell_of_lit hb 0
        have c2 : u.cell? ⟨wr.heap.size, 2, none⟩ = some (.string (strOf tn)) := cell_of_lit hb 2
        have ltb := heap_lt hb
        have HQB := Lib.hid hb
        have cm := KQ.out.mark hk1
        clear hu hb
        generalize wr.heap.size = q at *
        clear wr
        cases hu : usedB e k with
        | false =>
          rewrite [hu] at cm
          have HE := Lib.hid (show namesF e (k + 1) = l by rw [HST.out, hu]; exact if_neg (fun h => by cases h.1))
          clear hu
          go_wp2
          go_roundw
          case rel => exact ⟨k + 1, by omega, by go_num, by rw [HE.out]; exact KQ.out⟩
          case measure => simp [intOf]; omega
        | true =>
          rewrite [hu] at cm
          by_cases h2 : tk = 2
          rotate_left
          · have g2 : (tk != 2) = true := bne_iff_ne.2 h2
            have g3 : (tk == 2) = false := beq_eq_false_iff_ne.2 h2
            have HE := Lib.hid (show namesF e (k + 1) = l by rw [HST.out]; exact if_neg (fun h => h2 h.2.1))
            clear hu h2
            go_wp2
            go_roundw
            case rel => exact ⟨k + 1, by omega, by go_num, by rw [HE.out]; exact KQ.out⟩
            case measure => simp [intOf]; omega
          · have g2 : (tk != 2) = false := bne_eq_false_iff_eq.2 h2
            have g3 : (tk == 2) = true := beq_iff_eq.2 h2
            have hkey : keyOf Try.prog 9 (.string (strOf tn)) = some (.string tn) := Go.WideMaps.keyOf_string_mk Try.underlying9 (by rw [str_size (show IsStr (strOf tn) tn from rfl)]; have h9 : tn.length ≤ 140737488351232 := HNB.out; unfold maxLen; omega)
            by_cases hin : tn ∈ l
            · have hhas : Maps.has (nmSet l) (.string tn) = true := (has_nm l tn).trans (decide_eq_true hin)
              have HE := Lib.hid (show namesF e (k + 1) = l by rw [HST.out]; exact if_neg (fun h => h.2.2 hin))
              clear hu h2 hin
              go_wp2_with (first
                | (at_lookup; refine wpList_lookup_own_unit _ rfl _ _ 70 rfl 9 71 law_str Try.underlying70 (zero_unit _) mb l.length _ rfl KQ.out.map _ _ rfl hkey ?_; rewrite [hhas])
                | go_in)
              go_roundw
              case rel => exact ⟨k + 1, by omega, by go_num, by rw [HE.out]; exact KQ.out.next ((Made.refl u).alloc (Nat.le_refl _) _)⟩
              case measure => simp [intOf]; omega
            · have hhas : Maps.has (nmSet l) (.string tn) = false := (has_nm l tn).trans (decide_eq_false hin)
              have HE := Lib.hid (show namesF e (k + 1) = l ++ [tn] by rw [HST.out]; exact if_pos ⟨hu, h2, hin⟩)
              clear hu h2 hin
              have KU := Lib.hid (KQ.out.next ((Made.refl u).alloc (Nat.le_refl _) (.cells #[] 71)))
              have hml : l.length < maxLen := by unfold maxLen; omega
              have hmx : l.length + 1 ≤ maxLen := by unfold maxLen; omega
              have hby : (l.length + 1) * 16 ≤ 140737488355328 := by omega
              go_upto_region 13 with (first
                | (at_lookup; refine wpList_lookup_own_unit _ rfl _ _ 70 rfl 9 71 law_str Try.underlying70 (zero_unit _) mb l.length _ rfl KQ.out.map _ _ rfl hkey ?_; rewrite [hhas])
                | (at_mapUpdate; refine wpList_mapUpdate_own _ rfl _ _ _ 70 rfl 9 71 law_str Try.underlying70 (unitElem (H := Unit)) mb l.length _ rfl KU.out.map hml _ _ _ rfl rfl hkey _ [] unitElem_mk ?_; intro w5 hown1 hgrow1
                   have KP := Lib.hid (KU.out.put hown1 hgrow1)
                   have hq5 : w5.heap[q]? = some (.cells (Tm.cells ⟨tk, tv, tn, ta, tbb⟩).toArray TE (0, 0)) := (hgrow1.block q (by simp only [World.size_alloc]; omega) (fun e => by obtain ⟨es, cc, hbm, -⟩ := KQ.out.map; exact blk_map hbm HQB.out (by cases e; rfl))).trans ((heap_alloc_old _ _ ltb).trans HQB.out)
                   have cx : w5.cell? ⟨q, 2, none⟩ = some (.string (strOf tn)) := cell_of_lit hq5 2
                   clear hown1 hgrow1 hq5)
                | go_in)
              have HCL := Lib.hid (cloneX_any w5 (strOf tn) (by rw [str_size (show IsStr (strOf tn) tn from rfl)]; exact HNB.out) w5 (Made.refl w5))
              go_wp2_with (fail)
              refine HCL.out.mono ?_
              rintro x w6 ⟨rfl, h6⟩
              have KA := Lib.hid ((KP.out.next h6).next ((Made.refl w6).alloc (Nat.le_refl _) (.cells ([tn].flatMap txC).toArray 9)))
              have HOL := Lib.hid (tx_olds w6 tn)
              have hsz := Lib.hid KA.out.row.made.size
              obtain ⟨i0, hi0, hz0, hz1, hz2⟩ := HI.out
              clear h6 HCL
              go_wp2_with (at_builtin; refine wpList_append_each rfl (.tmp 46) (.tmp 50) 22 rfl w.heap.size 9 i0 (.string ⟨#[]⟩) 1 16 Try.underlying22 hi0 hz0 hz1 hz2 rfl (by decide) (.slice so l.length c) l.length (l.flatMap txC) rfl KA.out.row.row (some ⟨w6.heap.size, 0, none⟩) 1 1 ([tn].flatMap txC) rfl (fun h => by simp at h) rfl HOL.out (tx_one _) hmx hby hsz.out ?_; intro v7 w9 own1 gr1; have KG := Lib.hid (KA.out.more rfl own1 gr1); clear own1 gr1)
              go_roundw
              case rel => exact ⟨k + 1, by omega, by go_num, by rw [HE.out]; exact KG.out⟩
              case measure => simp [intOf]; omega
end
end
section
open Go.ChangeShapes Go.WideShapes Go.ChangeAt Go.RowKit Go.Sort BigFrame

theorem recs_same {α : Type} {f : α → List Value} {s : Nat} {w u : World} {b o cap : Nat} {l : List α} (h : Recs f s w (some ⟨b, o, none⟩) cap l) (he : u.heap[b]? = w.heap[b]?) : Recs f s u (some ⟨b, o, none⟩) cap l :=
  ⟨h.room, h.max, fun t ht => by
    obtain ⟨b', o', e, hc⟩ := h.cell t ht
    obtain ⟨rfl, rfl⟩ : b = b' ∧ o = o' := by simpa using e
    exact ⟨b, o, rfl, fun r hr => (World.cell?_of_block he).trans (hc r hr)⟩⟩
theorem owns_empty (w : World) (B : Nat) (hB : B ≤ w.heap.size) (T : TypeId) (s : Nat) : (w.alloc (.cells #[] T)).ownsRow B T s (.slice (some ⟨w.heap.size, 0, none⟩) 0 0) 0 [] :=
  ⟨by simp, .inr ⟨w.heap.size, 0, #[], rfl, hB, heap_alloc_new w _, Nat.le_refl _, Nat.zero_le _, by simp, by simp⟩⟩
/-- A copy of a row of terms, in a block of the call's own. -/
def CopySays (w : World) (e : List Tm) (x : Ending) (w' : World) : Prop := ∃ cb cap, x = .returned (.slice (some ⟨cb, 0, none⟩) e.length cap) ∧ w.heap.size ≤ cb ∧ cb < w'.heap.size ∧ Tms w' (some ⟨cb, 0, none⟩) cap e ∧ Made w w'
section
attribute [local irreducible] World.cell?
set_option maxRecDepth 100000 in
set_option maxHeartbeats 8000000 in
theorem cloneT_any (w : World) (ao : Option Addr) (cap : Nat) (e : List Tm) (hT : Tms w ao cap e) (hl : e.length ≤ 10000) (h0 : 0 < e.length) : Calls Try.prog 30 #[.slice ao e.length cap] w (CopySays w e) := by
  have HI := Lib.hid (info_parts te_row)
  have hmx : 0 + e.length ≤ maxLen := by unfold maxLen; omega
  have hby : (0 + e.length) * 48 ≤ 140737488355328 := by omega
  obtain ⟨b, o, rfl, -⟩ := hT.cell 0 h0
  have m1 : Made w (w.alloc (.cells #[] TE)) := (Made.refl w).alloc (Nat.le_refl _) _
  have HOL := Lib.hid (recs_olds tm_len (by decide) (hT.made tm_len m1))
  have HOW := Lib.hid (owns_empty w w.heap.size (Nat.le_refl _) TE 5)
  have M1 := Lib.hid m1
  have hop : ∀ u : World, (binOp .eql 26 (.slice (some ⟨b, o, none⟩) e.length cap) (.slice none 0 0)).run Try.prog u = .ok (.bool false) u := fun u => Lib.run_eql_slice_nil u 26 TE (some ⟨b, o, none⟩) e.length cap 0 0 Try.underlying26
  clear hT m1
  go_enter Try.func30, Try.ntmps30
  obtain ⟨i0, hi0, hz0, hz1, hz2⟩ := HI.out
  go_wp2_with (at_builtin; refine wpList_append_each rfl (.tmp 5) (.tmp 6) 26 rfl w.heap.size TE i0 (Tm.val ⟨0, 0, [], 0, 0⟩) 5 48 Try.underlying26 hi0 hz0 hz1 hz2 rfl (by decide) (.slice (some ⟨w.heap.size, 0, none⟩) 0 0) 0 [] rfl HOW.out (some ⟨b, o, none⟩) e.length cap (e.flatMap Tm.cells) rfl (fun h => by simp at h) (flat_len' tm_len e) HOL.out (tm_one _) hmx hby (by simp) ?_; intro v7 w9 own1 gr1; have HO := Lib.hid own1; have HG := Lib.hid gr1; clear own1 gr1)
  have hmade : Made w w9 := Below.grown M1.out HG.out M1.out.size (fun k e => by cases e; exact Nat.le_refl _)
  have ho := HO.out
  rw [Nat.zero_add, List.nil_append] at ho
  obtain ⟨hl2, so, cp, hv, hrec⟩ := owns_recs tm_len (by decide) ho
  subst hv
  have HREC := Lib.hid hrec
  have HM := Lib.hid hmade
  obtain ⟨b9, o9, hso, hc9⟩ := hrec.cell 0 h0
  have hb9 := World.block_lt_of_cell? w9 _ (hc9 0 (by omega))
  have hlow : w.heap.size ≤ b9 ∧ o9 = 0 := by
    rcases ho.2 with ⟨hn, _⟩ | ⟨g, cap3, cur, hv, hg, -⟩
    · rw [hso] at hn; cases hn
    · rw [hso] at hv
      simp only [Value.slice.injEq, Option.some.injEq, Addr.mk.injEq] at hv
      obtain ⟨⟨rfl, rfl, -⟩, -⟩ := hv
      exact ⟨hg, rfl⟩
  obtain ⟨hlow, rfl⟩ := hlow
  have HL := Lib.hid hlow
  have HB := Lib.hid hb9
  subst hso
  clear ho hrec hmade hc9 hb9 hlow hl2
  go_wp2
  go_ret
  exact ⟨b9, cp, rfl, HL.out, HB.out, HREC.out, HM.out⟩
end
/-- What worth tells. -/
def WSays (u : World) (F : Nat → Prop) (ask : List UInt8 → Int × Int) (t : Tm) (vals : List Int) (R : List (List UInt8) → (Nat → Prop) → World → Prop) (acc : List (List UInt8)) (x : Ending) (u' : World) : Prop :=
  x = .returned (.tuple #[.int .i64 (capV (valT ask t vals)).1, .int .i64 (capV (valT ask t vals)).2]) ∧ ∃ F', R (acc ++ (if t.kind = 2 then [t.name] else [])) F' u' ∧ (∀ g, F' g → F g ∨ u.heap.size ≤ g) ∧ Out F u u'
theorem asks_made {W u u' : World} {K : FuncId} {caps : Array Value} {ask : List UInt8 → Int × Int} {R : List (List UInt8) → (Nat → Prop) → World → Prop} {acc : List (List UInt8)} {F : Nat → Prop} (hA : Asks W K caps ask R) (hR : R acc F u) (hW : W.heap.size ≤ u.heap.size) (hm : Made u u') : R acc F u' :=
  hA.keep acc F u u' hR (fun g hg => hm.block g (by rcases hg with hg | hg; exact hA.fits acc F u hR g hg; omega)) hm.os hm.tape hm.output hm.size
theorem wsays_made {W u u' : World} {K : FuncId} {caps : Array Value} {ask : List UInt8 → Int × Int} {R : List (List UInt8) → (Nat → Prop) → World → Prop} {acc : List (List UInt8)} {F : Nat → Prop} {t : Tm} {vals : List Int} {x : Ending} {v : Int}
    (hA : Asks W K caps ask R) (hR : R acc F u) (hW : W.heap.size ≤ u.heap.size) (hm : Made u u') (hk : t.kind ≠ 2) (hv : valT ask t vals = (v, 0)) (hx : x = .returned (.tuple #[.int .i64 (capV (v, 0)).1, .int .i64 (capV (v, 0)).2])) : WSays u F ask t vals R acc x u' :=
  ⟨by rw [hv]; exact hx, F, by rw [if_neg hk, List.append_nil]; exact asks_made hA hR hW hm, fun g h => .inl h, Out.made hm⟩
theorem capV_in {v : Int} (h : inR v = true) : capV (v, 0) = (v, 0) := by simp [capV, h]
theorem capV_out {v : Int} (h : inR v = false) : capV (v, 0) = (0, 6) := by simp [capV, h]
theorem inR_mul (a b : Int) : inR (mulZ a b) = inR (a * b) ∧ (inR (a * b) = true → mulZ a b = a * b) := by
  unfold mulZ inR
  by_cases h : -9223372036854775808 ≤ a * b ∧ a * b ≤ 9223372036854775807
  · rw [if_pos h]
    exact ⟨rfl, fun _ => rfl⟩
  · rw [if_neg h]
    have h1 : (decide (-maxV ≤ a * b) && decide (a * b ≤ maxV)) = false := by
      rw [Bool.and_eq_false_iff, decide_eq_false_iff_not, decide_eq_false_iff_not]
      show ¬ (-1099511627776 ≤ a * b) ∨ ¬ (a * b ≤ 1099511627776)
      omega
    rw [h1]
    exact ⟨by decide, fun h => by cases h⟩
section
attribute [local irreducible] World.cell?
set_option maxRecDepth 100000 in
set_option maxHeartbeats 32000000 in
theorem worth_any (W : World) (K : FuncId) (caps : Array Value) (ask : List UInt8 → Int × Int) (R : List (List UInt8) → (Nat → Prop) → World → Prop) (hA : Asks W K caps ask R) (t : Tm) (i n : Nat) (hok : okT t i = true) (hin : i < n) (vals : List Int) (hb : ∀ v ∈ vals, inR v = true)
    (h64 : ∀ s, -9223372036854775808 ≤ (ask s).1 ∧ (ask s).1 ≤ 9223372036854775807) (q : Nat) (acc : List (List UInt8)) (F : Nat → Prop) (u : World) (hR : R acc F u) (hW : W.heap.size ≤ u.heap.size) (hq : u.heap[q]? = some (.cells (intC vals n).toArray 2 (0, 0))) :
    Calls Try.prog 32 #[t.val, .slice (some ⟨q, 0, none⟩) n n, .func (.func K) #[] caps] u (WSays u F ask t vals R acc) := by
  have HA := Lib.hid hA
  have HR := Lib.hid hR
  have hke := hA.enters
  have HK := Lib.hid (ok_refs hok)
  have hkd := kind_of hok
  obtain ⟨tk, tv, tn, ta, tb⟩ := t
  simp only [] at hkd
  have HX := Lib.hid (show Made u (u.alloc (.cells (Tm.cells ⟨tk, tv, tn, ta, tb⟩).toArray TE)) ∧ (u.alloc (.cells (Tm.cells ⟨tk, tv, tn, ta, tb⟩).toArray TE)).heap[u.heap.size]? = some (.cells (Tm.cells ⟨tk, tv, tn, ta, tb⟩).toArray TE (0, 0)) from ⟨(Made.refl u).alloc (Nat.le_refl _) _, heap_alloc_new u _⟩)
  have HQ := Lib.hid hq
  have H64 := Lib.hid h64
  have HB := Lib.hid hb
  clear hR hA hok hq h64 hb
  go_enter Try.func32, Try.ntmps32
  go_upto_region 2 with (fail)
  refine world_named (fun y => Made u y ∧ y.heap[u.heap.size]? = some (.cells (Tm.cells ⟨tk, tv, tn, ta, tb⟩).toArray TE (0, 0))) HX.out ?_
  rintro y ⟨hm, hbx⟩
  have HM := Lib.hid hm
  have c0 : y.cell? ⟨u.heap.size, 0, none⟩ = some (.int .u8 tk) := cell_of_lit hbx 0
  have c1 : y.cell? ⟨u.heap.size, 1, none⟩ = some (.int .i64 tv) := cell_of_lit hbx 1
  have c2 : y.cell? ⟨u.heap.size, 2, none⟩ = some (.string (strOf tn)) := cell_of_lit hbx 2
  have c3 : y.cell? ⟨u.heap.size, 3, none⟩ = some (.int .i64 ta) := cell_of_lit hbx 3
  have c4 : y.cell? ⟨u.heap.size, 4, none⟩ = some (.int .i64 tb) := cell_of_lit hbx 4
  have HQY := Lib.hid (hm.heap HQ.out)
  have hsz := hm.size
  clear hm hbx HX
  rcases hkd with hkd | hkd | hkd | hkd | hkd | hkd
  · have g1 : (tk == 1) = true := by rw [hkd]; rfl
    have HV := Lib.hid (isValue_any tv)
    have HXV := Lib.hid (show valT ask ⟨tk, tv, tn, ta, tb⟩ vals = (tv, 0) by unfold valT; simp only [hkd]; rfl)
    have HKN := Lib.hid (show tk ≠ 2 by omega)
    obtain ⟨d, hd⟩ : ∃ d, inR tv = d := ⟨_, rfl⟩
    rewrite [hd] at HV
    have HD := Lib.hid hd
    clear hkd hd
    cases d with
    | true =>
      go_wp2_with ((go_at_call 45; with_reducible refine (HV.out _).mono ?_; rintro e w' ⟨rfl, rfl⟩))
      refine bodyPost_ret (v := .tuple #[.int .i64 tv, .int .i64 0]) (by simp [results, Try.results32, go_sem]) rfl ?_
      exact wsays_made HA.out HR.out hW HM.out HKN.out HXV.out (by rw [capV_in HD.out])
    | false =>
      go_wp2_with ((go_at_call 45; with_reducible refine (HV.out _).mono ?_; rintro e w' ⟨rfl, rfl⟩))
      refine bodyPost_ret (v := .tuple #[.int .i64 0, .int .i64 6]) (by simp [results, Try.results32, go_sem]) rfl ?_
      exact wsays_made HA.out HR.out hW HM.out HKN.out HXV.out (by rw [capV_out HD.out])
  · have g1 : (tk == 1) = false := by rw [hkd]; rfl
    have g2 : (tk == 2) = true := by rw [hkd]; rfl
    have HXV := Lib.hid (show valT ask ⟨tk, tv, tn, ta, tb⟩ vals = (if (ask tn).2 = 0 then ((ask tn).1, 0) else (0, (ask tn).2)) by unfold valT; simp only [hkd]; rfl)
    have HKN := Lib.hid hkd
    have HCALL := Lib.hid (HA.out.ask acc F y tn (asks_made HA.out HR.out hW HM.out))
    have H6 := H64.out tn
    clear hkd
    obtain ⟨v, hv⟩ : ∃ v, (ask tn).1 = v := ⟨_, rfl⟩
    obtain ⟨er, her⟩ : ∃ er, (ask tn).2 = er := ⟨_, rfl⟩
    rewrite [hv, her] at HXV HCALL
    rewrite [hv] at H6
    obtain ⟨hv0, hv1⟩ := H6
    clear hv her
    go_wp2_with (fail)
    refine HCALL.out.mono ?_
    rintro x y2 ⟨rfl, F2, hR2, hF2, hO2⟩
    have HEND := Lib.hid (show ∀ x, x = .returned (.tuple #[.int .i64 (capV (valT ask ⟨tk, tv, tn, ta, tb⟩ vals)).1, .int .i64 (capV (valT ask ⟨tk, tv, tn, ta, tb⟩ vals)).2]) → WSays u F ask ⟨tk, tv, tn, ta, tb⟩ vals R acc x y2 from fun x hx =>
      ⟨hx, F2, by rw [if_pos HKN.out]; exact hR2, fun g hg => (hF2 g hg).imp id (fun h => by have := HM.out.size; omega), by
        have hM := HM.out
        exact ⟨hO2.os.trans hM.os, hO2.tape.trans hM.tape, hO2.output.trans hM.output, Nat.le_trans hM.size hO2.size, fun g hg hnf => (hO2.block g (by have := hM.size; omega) hnf).trans (hM.block g hg)⟩⟩)
    clear hR2 hF2 hO2 HCALL c0 c1 c2 c3 c4
    by_cases he : er = 0
    · subst he
      have HXV2 := Lib.hid (show valT ask ⟨tk, tv, tn, ta, tb⟩ vals = (v, 0) by rw [HXV.out]; rfl)
      have HV := Lib.hid (isValue_any v)
      obtain ⟨d, hd⟩ : ∃ d, inR v = d := ⟨_, rfl⟩
      rewrite [hd] at HV
      have HD := Lib.hid hd
      clear hd HXV
      cases d with
      | true =>
        go_wp2_with ((go_at_call 45; with_reducible refine (HV.out _).mono ?_; rintro e w' ⟨rfl, rfl⟩))
        refine bodyPost_ret (v := .tuple #[.int .i64 v, .int .i64 0]) (by simp [results, Try.results32, go_sem]) rfl ?_
        exact HEND.out _ (by rw [HXV2.out, capV_in HD.out])
      | false =>
        go_wp2_with ((go_at_call 45; with_reducible refine (HV.out _).mono ?_; rintro e w' ⟨rfl, rfl⟩))
        refine bodyPost_ret (v := .tuple #[.int .i64 0, .int .i64 6]) (by simp [results, Try.results32, go_sem]) rfl ?_
        exact HEND.out _ (by rw [HXV2.out, capV_out HD.out])
    · have ge : (er != 0) = true := bne_iff_ne.2 he
      have HXV2 := Lib.hid (show capV (valT ask ⟨tk, tv, tn, ta, tb⟩ vals) = (0, er) by rw [HXV.out, if_neg he]; exact if_pos he)
      clear he
      go_wp2_with (fail)
      refine bodyPost_ret (v := .tuple #[.int .i64 0, .int .i64 er]) (by simp [results, Try.results32, go_sem]) rfl ?_
      exact HEND.out _ (by rw [HXV2.out])
  · have g1 : (tk == 1) = false := by rw [hkd]; rfl
    have g2 : (tk == 2) = false := by rw [hkd]; rfl
    have g3 : (tk == 3) = true := by rw [hkd]; rfl
    obtain ⟨⟨ha0, ha1⟩, hb0, hb1⟩ : (0 ≤ ta ∧ ta < i) ∧ 0 ≤ tb ∧ tb < i := ⟨HK.out.1 (show 3 ≤ tk by omega), HK.out.2 (show 3 ≤ tk by omega) (show tk < 6 by omega)⟩
    obtain ⟨a, rfl⟩ := Int.eq_ofNat_of_zero_le ha0
    obtain ⟨b, rfl⟩ := Int.eq_ofNat_of_zero_le hb0
    have hai : (a : Int) < (n : Int) := by omega
    have hbi : (b : Int) < (n : Int) := by omega
    have ca := (cell_of_lit HQY.out a).trans (intC_at vals (show a < n by omega))
    have cb := (cell_of_lit HQY.out b).trans (intC_at vals (show b < n by omega))
    have hna := getD_in HB.out a
    have hnb := getD_in HB.out b
    have hvt : valT ask ⟨tk, tv, tn, (a : Int), (b : Int)⟩ vals = (vals.getD a 0 + vals.getD b 0, 0) := by unfold valT; simp only [hkd]; rfl
    have HKN := Lib.hid (show tk ≠ 2 by omega)
    generalize vals.getD a 0 = x at *
    generalize vals.getD b 0 = z at *
    obtain ⟨hx0, hx1⟩ := hna
    obtain ⟨hz0, hz1⟩ := hnb
    have HXV := Lib.hid hvt
    clear hkd HK HQ HQY hvt ha0 ha1 hb0 hb1
    have HV := Lib.hid (isValue_any (x + z))
    obtain ⟨d, hd⟩ : ∃ d, inR (x + z) = d := ⟨_, rfl⟩
    rewrite [hd] at HV
    have HD := Lib.hid hd
    clear hd
    cases d with
    | true =>
      go_upto_region 11 with (fail)
      go_quiet (fail)
      go_wp2_with ((go_at_call 45; with_reducible refine (HV.out _).mono ?_; rintro e w' ⟨rfl, rfl⟩))
      refine bodyPost_ret (v := .tuple #[.int .i64 (x + z), .int .i64 0]) (by simp [results, Try.results32, go_sem]) rfl ?_
      exact wsays_made HA.out HR.out hW (below_drewN HM.out _) HKN.out HXV.out (by rw [capV_in HD.out])
    | false =>
      go_upto_region 11 with (fail)
      go_quiet (fail)
      go_wp2_with ((go_at_call 45; with_reducible refine (HV.out _).mono ?_; rintro e w' ⟨rfl, rfl⟩))
      refine bodyPost_ret (v := .tuple #[.int .i64 0, .int .i64 6]) (by simp [results, Try.results32, go_sem]) rfl ?_
      exact wsays_made HA.out HR.out hW (below_drewN HM.out _) HKN.out HXV.out (by rw [capV_out HD.out])
  · have g1 : (tk == 1) = false := by rw [hkd]; rfl
    have g2 : (tk == 2) = false := by rw [hkd]; rfl
    have g3 : (tk == 3) = false := by rw [hkd]; rfl
    have g4 : (tk == 4) = true := by rw [hkd]; rfl
    obtain ⟨⟨ha0, ha1⟩, hb0, hb1⟩ : (0 ≤ ta ∧ ta < i) ∧ 0 ≤ tb ∧ tb < i := ⟨HK.out.1 (show 3 ≤ tk by omega), HK.out.2 (show 3 ≤ tk by omega) (show tk < 6 by omega)⟩
    obtain ⟨a, rfl⟩ := Int.eq_ofNat_of_zero_le ha0
    obtain ⟨b, rfl⟩ := Int.eq_ofNat_of_zero_le hb0
    have hai : (a : Int) < (n : Int) := by omega
    have hbi : (b : Int) < (n : Int) := by omega
    have ca := (cell_of_lit HQY.out a).trans (intC_at vals (show a < n by omega))
    have cb := (cell_of_lit HQY.out b).trans (intC_at vals (show b < n by omega))
    have hna := getD_in HB.out a
    have hnb := getD_in HB.out b
    have hvt : valT ask ⟨tk, tv, tn, (a : Int), (b : Int)⟩ vals = (vals.getD a 0 - vals.getD b 0, 0) := by unfold valT; simp only [hkd]; rfl
    have HKN := Lib.hid (show tk ≠ 2 by omega)
    generalize vals.getD a 0 = x at *
    generalize vals.getD b 0 = z at *
    obtain ⟨hx0, hx1⟩ := hna
    obtain ⟨hz0, hz1⟩ := hnb
    have HXV := Lib.hid hvt
    clear hkd HK HQ HQY hvt ha0 ha1 hb0 hb1
    have HV := Lib.hid (isValue_any (x - z))
    obtain ⟨d, hd⟩ : ∃ d, inR (x - z) = d := ⟨_, rfl⟩
    rewrite [hd] at HV
    have HD := Lib.hid hd
    clear hd
    cases d with
    | true =>
      go_upto_region 13 with (fail)
      go_quiet (fail)
      go_wp2_with ((go_at_call 45; with_reducible refine (HV.out _).mono ?_; rintro e w' ⟨rfl, rfl⟩))
      refine bodyPost_ret (v := .tuple #[.int .i64 (x - z), .int .i64 0]) (by simp [results, Try.results32, go_sem]) rfl ?_
      exact wsays_made HA.out HR.out hW (below_drewN HM.out _) HKN.out HXV.out (by rw [capV_in HD.out])
    | false =>
      go_upto_region 13 with (fail)
      go_quiet (fail)
      go_wp2_with ((go_at_call 45; with_reducible refine (HV.out _).mono ?_; rintro e w' ⟨rfl, rfl⟩))
      refine bodyPost_ret (v := .tuple #[.int .i64 0, .int .i64 6]) (by simp [results, Try.results32, go_sem]) rfl ?_
      exact wsays_made HA.out HR.out hW (below_drewN HM.out _) HKN.out HXV.out (by rw [capV_out HD.out])
  · have g1 : (tk == 1) = false := by rw [hkd]; rfl
    have g2 : (tk == 2) = false := by rw [hkd]; rfl
    have g3 : (tk == 3) = false := by rw [hkd]; rfl
    have g4 : (tk == 4) = false := by rw [hkd]; rfl
    have g5 : (tk == 5) = true := by rw [hkd]; rfl
    obtain ⟨⟨ha0, ha1⟩, hb0, hb1⟩ : (0 ≤ ta ∧ ta < i) ∧ 0 ≤ tb ∧ tb < i := ⟨HK.out.1 (show 3 ≤ tk by omega), HK.out.2 (show 3 ≤ tk by omega) (show tk < 6 by omega)⟩
    obtain ⟨a, rfl⟩ := Int.eq_ofNat_of_zero_le ha0
    obtain ⟨b, rfl⟩ := Int.eq_ofNat_of_zero_le hb0
    have hai : (a : Int) < (n : Int) := by omega
    have hbi : (b : Int) < (n : Int) := by omega
    have ca := (cell_of_lit HQY.out a).trans (intC_at vals (show a < n by omega))
    have cb := (cell_of_lit HQY.out b).trans (intC_at vals (show b < n by omega))
    have hna := getD_in HB.out a
    have hnb := getD_in HB.out b
    have hvt : valT ask ⟨tk, tv, tn, (a : Int), (b : Int)⟩ vals = (vals.getD a 0 * vals.getD b 0, 0) := by unfold valT; simp only [hkd]; rfl
    have HKN := Lib.hid (show tk ≠ 2 by omega)
    generalize vals.getD a 0 = x at *
    generalize vals.getD b 0 = z at *
    obtain ⟨hx0, hx1⟩ := hna
    obtain ⟨hz0, hz1⟩ := hnb
    have HXV := Lib.hid hvt
    clear hkd HK HQ HQY hvt ha0 ha1 hb0 hb1
    have HMU := Lib.hid (multiply_any x z ⟨hx0, hx1⟩ ⟨hz0, hz1⟩)
    obtain ⟨hmi, hme⟩ := inR_mul x z
    have HV := Lib.hid (isValue_any (mulZ x z))
    obtain ⟨d, hd⟩ : ∃ d, inR (x * z) = d := ⟨_, rfl⟩
    rewrite [hmi, hd] at HV
    have HD := Lib.hid hd
    have HME := Lib.hid (fun h => hme (hd.trans h))
    clear hd hmi hme
    cases d with
    | true =>
      go_upto_region 15 with (fail)
      go_quiet ((go_at_call 44; exact (HMU.out _).mono fun e w' ⟨he, hw⟩ => ⟨he, _, hw.symm⟩))
      go_wp2_with ((go_at_call 45; with_reducible refine (HV.out _).mono ?_; rintro e w' ⟨rfl, rfl⟩))
      refine bodyPost_ret (v := .tuple #[.int .i64 (mulZ x z), .int .i64 0]) (by simp [results, Try.results32, go_sem]) rfl ?_
      exact wsays_made HA.out HR.out hW (below_drewN HM.out _) HKN.out HXV.out (by rw [capV_in HD.out, HME.out (by trivial)])
    | false =>
      go_upto_region 15 with (fail)
      go_quiet ((go_at_call 44; exact (HMU.out _).mono fun e w' ⟨he, hw⟩ => ⟨he, _, hw.symm⟩))
      go_wp2_with ((go_at_call 45; with_reducible refine (HV.out _).mono ?_; rintro e w' ⟨rfl, rfl⟩))
      refine bodyPost_ret (v := .tuple #[.int .i64 0, .int .i64 6]) (by simp [results, Try.results32, go_sem]) rfl ?_
      exact wsays_made HA.out HR.out hW (below_drewN HM.out _) HKN.out HXV.out (by rw [capV_out HD.out])
  · have g1 : (tk == 1) = false := by rw [hkd]; rfl
    have g2 : (tk == 2) = false := by rw [hkd]; rfl
    have g3 : (tk == 3) = false := by rw [hkd]; rfl
    have g4 : (tk == 4) = false := by rw [hkd]; rfl
    have g5 : (tk == 5) = false := by rw [hkd]; rfl
    have g6 : (tk == 6) = true := by rw [hkd]; rfl
    obtain ⟨ha0, ha1⟩ : 0 ≤ ta ∧ ta < i := HK.out.1 (show 3 ≤ tk by omega)
    obtain ⟨a, rfl⟩ := Int.eq_ofNat_of_zero_le ha0
    have hai : (a : Int) < (n : Int) := by omega
    have ca := (cell_of_lit HQY.out a).trans (intC_at vals (show a < n by omega))
    have hna := getD_in HB.out a
    have hvt : valT ask ⟨tk, tv, tn, (a : Int), tb⟩ vals = (- vals.getD a 0, 0) := by unfold valT; simp only [hkd]; rfl
    have HKN := Lib.hid (show tk ≠ 2 by omega)
    generalize vals.getD a 0 = x at *
    obtain ⟨hx0, hx1⟩ := hna
    have HXV := Lib.hid hvt
    clear hkd HK HQ HQY hvt ha0 ha1
    have HV := Lib.hid (isValue_any (-x))
    obtain ⟨d, hd⟩ : ∃ d, inR (-x) = d := ⟨_, rfl⟩
    rewrite [hd] at HV
    have HD := Lib.hid hd
    clear hd
    cases d with
    | true =>
      go_wp2_with ((go_at_call 45; with_reducible refine (HV.out _).mono ?_; rintro e w' ⟨rfl, rfl⟩))
      refine bodyPost_ret (v := .tuple #[.int .i64 (-x), .int .i64 0]) (by simp [results, Try.results32, go_sem]) rfl ?_
      exact wsays_made HA.out HR.out hW HM.out HKN.out HXV.out (by rw [capV_in HD.out])
    | false =>
      go_wp2_with ((go_at_call 45; with_reducible refine (HV.out _).mono ?_; rintro e w' ⟨rfl, rfl⟩))
      refine bodyPost_ret (v := .tuple #[.int .i64 0, .int .i64 6]) (by simp [results, Try.results32, go_sem]) rfl ?_
      exact wsays_made HA.out HR.out hW HM.out HKN.out HXV.out (by rw [capV_out HD.out])
end
end
section
open Go.ChangeShapes Go.WideShapes Go.ChangeAt Go.RowKit Go.Sort BigFrame

theorem run_equalIn_func_nil (w : World) (d : Nat) (f : Fn) (r c : Array Value) : (Op.equalIn (d + 1) 32 (.func f r c) .nilFunc).run Try.prog w = .ok false w := by
  simp [Op.equalIn, run_underlying Try.underlying32]
theorem run_func_nil (w : World) (f : Fn) (r c : Array Value) : (binOp .eql 32 (.func f r c) .nilFunc).run Try.prog w = .ok (.bool false) w := by
  simp only [binOp]
  simp [Op.equal, Op.maxDepth, run_equalIn_func_nil w 9999 f r c]
/-- The copy of the terms, the marks, the values, and what has been asked. -/
structure EX (w wc : World) (F : Nat → Prop) (R : List (List UInt8) → (Nat → Prop) → World → Prop) (cb g q : Nat) (f : Nat → Bool) (n : Nat) (vals : List Int) (acc : List (List UInt8)) (u : World) : Prop where
  marks : u.heap[g]? = some (.cells (boolC f n).toArray 4 (0, 0))
  vblk : u.heap[q]? = some (.cells (intC vals n).toArray 2 (0, 0))
  trm : u.heap[cb]? = wc.heap[cb]?
  ne : g ≠ q ∧ cb ≠ q
  low : w.heap.size ≤ cb ∧ w.heap.size ≤ g ∧ w.heap.size ≤ q
  lt : cb < u.heap.size
  asked : ∃ F', R acc F' u ∧ (∀ b, F' b → F b ∨ w.heap.size ≤ b) ∧ ¬ F' cb ∧ ¬ F' g ∧ ¬ F' q
  out : Out F w u
theorem Out.step {F : Nat → Prop} {w u u1 : World} (h : Out F w u) (hm : Made u u1) : Out F w u1 :=
  ⟨hm.os.trans h.os, hm.tape.trans h.tape, hm.output.trans h.output, Nat.le_trans h.size hm.size, fun b hb hf => (hm.block b (Nat.lt_of_lt_of_le hb h.size)).trans (h.block b hb hf)⟩
theorem capV_ok {x : Int × Int} {z : Int} (h : capV x = (z, 0)) : inR z = true := by
  unfold capV at h
  split at h
  · rename_i h1
    exact absurd (Prod.mk.inj h).2 h1
  split at h
  · rename_i h1 h2
    rw [← (Prod.mk.inj h).1]
    exact h2
  · exact absurd (Prod.mk.inj h).2 (by decide)
theorem capV_bad {x : Int × Int} {z e : Int} (h : capV x = (z, e)) (he : e ≠ 0) : (z, e) = (0, e) := by
  unfold capV at h
  split at h
  · rw [← (Prod.mk.inj h).1]
  split at h
  · exact absurd (Prod.mk.inj h).2.symm he
  · rw [← (Prod.mk.inj h).1]
section
variable {w wc u u1 : World} {F : Nat → Prop} {R : List (List UInt8) → (Nat → Prop) → World → Prop} {cb g q n : Nat} {f : Nat → Bool} {vals : List Int} {acc : List (List UInt8)} {K : FuncId} {caps : Array Value} {ask : List UInt8 → Int × Int}
theorem EX.made (hA : Asks w K caps ask R) (h : EX w wc F R cb g q f n vals acc u) (hm : Made u u1) : EX w wc F R cb g q f n vals acc u1 := by
  obtain ⟨F', h1, h2⟩ := h.asked
  exact ⟨hm.heap h.marks, hm.heap h.vblk, (hm.block cb h.lt).trans h.trm, h.ne, h.low, Nat.lt_of_lt_of_le h.lt hm.size, ⟨F', asks_made hA h1 h.out.size hm, h2⟩, h.out.step hm⟩
theorem EX.store (hA : Asks w K caps ask R) (h : EX w wc F R cb g q f n vals acc u) (x : Int) : EX w wc F R cb g q f n (vals ++ [x]) acc (u.setCell ⟨q, vals.length, none⟩ (.int .i64 x)) := by
  obtain ⟨F', h1, h2, h3, h4, h5⟩ := h.asked
  have ho : ∀ b, b ≠ q → (u.setCell ⟨q, vals.length, none⟩ (.int .i64 x)).heap[b]? = u.heap[b]? := fun b hb => heap_setCell_other u ⟨q, vals.length, none⟩ b (.int .i64 x) hb
  refine ⟨(ho g h.ne.1).trans h.marks, ?_, (ho cb h.ne.2).trans h.trm, h.ne, h.low, by simpa using h.lt, ⟨F', hA.keep acc F' u _ h1 (fun b hb => ho b ?_) rfl rfl rfl (by simp), h2, h3, h4, h5⟩, ?_⟩
  · have := heap_setCell_same u q vals.length (intC vals n).toArray 2 (.int .i64 x) h.vblk
    rwa [intC_set] at this
  · rintro rfl
    rcases hb with hb | hb
    · exact h5 hb
    · have := h.low.2.2; omega
  · exact ⟨h.out.os, h.out.tape, h.out.output, by simpa using h.out.size, fun b hb hf => (ho b (by have := h.low.2.2; omega)).trans (h.out.block b hb hf)⟩
theorem EX.skip (h : EX w wc F R cb g q f n vals acc u) : EX w wc F R cb g q f n (vals ++ [0]) acc u := ⟨h.marks, by rw [← intC_zero]; exact h.vblk, h.trm, h.ne, h.low, h.lt, h.asked, h.out⟩
theorem EX.mark (h : EX w wc F R cb g q f n vals acc u) {j : Nat} (hj : j < n) : u.cell? ⟨g, j, none⟩ = some (.bool (f j)) := (cell_of_lit h.marks j).trans (boolC_at f hj)
theorem EX.val (h : EX w wc F R cb g q f n vals acc u) {j : Nat} (hj : j < n) : u.cell? ⟨q, j, none⟩ = some (.int .i64 (vals.getD j 0)) := (cell_of_lit h.vblk j).trans (intC_at vals hj)
/-- Behind what worth tells. -/
theorem EX.worth {t : Tm} (h : EX w wc F R cb g q f n vals acc u) {F' : Nat → Prop} (h2 : ∀ b, F' b → F b ∨ w.heap.size ≤ b) (h3 : ¬ F' cb) (h4 : ¬ F' g) (h5 : ¬ F' q) {F2 : Nat → Prop} (hR : R (acc ++ (if t.kind = 2 then [t.name] else [])) F2 u1) (hF : ∀ b, F2 b → F' b ∨ u.heap.size ≤ b) (hO : Out F' u u1) :
    EX w wc F R cb g q f n vals (acc ++ (if t.kind = 2 then [t.name] else [])) u1 := by
  have lg := heap_lt h.marks
  have lq := heap_lt h.vblk
  have hs := h.out.size
  refine ⟨(hO.block g lg h4).trans h.marks, (hO.block q lq h5).trans h.vblk, (hO.block cb h.lt h3).trans h.trm, h.ne, h.low, Nat.lt_of_lt_of_le h.lt hO.size, ⟨F2, hR, fun b hb => ?_, fun hb => ?_, fun hb => ?_, fun hb => ?_⟩, ?_⟩
  · rcases hF b hb with h9 | h9
    · exact h2 b h9
    · exact .inr (by omega)
  · rcases hF cb hb with h9 | h9
    · exact h3 h9
    · have := h.lt; omega
  · rcases hF g hb with h9 | h9
    · exact h4 h9
    · omega
  · rcases hF q hb with h9 | h9
    · exact h5 h9
    · omega
  · exact ⟨hO.os.trans h.out.os, hO.tape.trans h.out.tape, hO.output.trans h.out.output, Nat.le_trans hs hO.size, fun b hb hf => (hO.block b (by omega) (fun h9 => by rcases h2 b h9 with h9 | h9; exact hf h9; omega)).trans (h.out.block b hb hf)⟩
end
section
attribute [local irreducible] World.cell?
set_option maxRecDepth 100000 in
set_option maxHeartbeats 32000000 in
theorem xeval_any (w : World) (ao : Option Addr) (cap : Nat) (e : List Tm) (hT : Tms w ao cap e) (hl : e.length ≤ 10000) (K : FuncId) (caps : Array Value) (ask : List UInt8 → Int × Int) (R : List (List UInt8) → (Nat → Prop) → World → Prop) (F : Nat → Prop)
    (hA : Asks w K caps ask R) (hR : R [] F w) (h64 : ∀ s, -9223372036854775808 ≤ (ask s).1 ∧ (ask s).1 ≤ 9223372036854775807) :
    Calls Try.prog 12 #[.slice ao e.length cap, .func (.func K) #[] caps] w (EvSays w F ask e R) := by
  have HA := Lib.hid hA
  have HRR := Lib.hid hR
  have HRT := Lib.hid (xright_any w ao cap e hT hl w (Made.refl w))
  have H64 := Lib.hid h64
  have hop := fun u => run_func_nil u (.func K) #[] caps
  cases hr : rightB e with
  | false =>
    have HR := Lib.hid (show evL ask e = (0, 1) ∧ askedL ask e = [] by unfold evL askedL; rw [hr]; exact ⟨rfl, rfl⟩)
    rewrite [hr] at HRT
    clear hr hT h64 hA hR
    go_enter Try.func12, Try.ntmps12
    go_wp2_with (fail)
    refine HRT.out.mono ?_
    rintro x w1 ⟨rfl, hm1⟩
    have M1 := Lib.hid hm1
    clear hm1
    go_wp2
    refine bodyPost_ret (v := .tuple #[.int .i64 0, .int .i64 1]) (by simp [results, Try.results12, go_sem]) rfl ?_
    exact ⟨by rw [HR.out.1], F, by rw [HR.out.2]; exact asks_made HA.out HRR.out (Nat.le_refl _) M1.out, fun b hb => .inl hb, Out.made M1.out⟩
  | true =>
    have hok : okFrom 0 e = true ∧ e ≠ [] := by
      have h9 := hr
      unfold rightB at h9
      rw [Bool.and_eq_true, decide_eq_true_iff] at h9
      exact h9
    have HEL := Lib.hid (show evL ask e = evF ask e e.length 0 [] ∧ askedL ask e = askF ask e e.length 0 [] by unfold evL askedL; rw [hr]; exact ⟨rfl, rfl⟩)
    have HRB := Lib.hid hok.1
    have hn0 : 0 < e.length := List.length_pos_iff.2 hok.2
    have HCL := Lib.hid (fun u (hu : Made w u) => cloneT_any u ao cap e (hT.made tm_len hu) hl hn0)
    have HUS := Lib.hid (fun W2 (so : Option Addr) (c2 : Nat) (h2 : Tms W2 so c2 e) => xused_any W2 so c2 e h2 hl hr W2 (Made.refl W2))
    obtain ⟨i0, hi0, hz0, hz1, hz2⟩ := info_parts long_row
    obtain ⟨M, hM⟩ : ∃ M, M = madeCells (Value.int .i64 0).cells (((e.length : Nat) : Int).toNat * i0.size) := ⟨_, rfl⟩
    have hMl : M = (intC [] e.length).toArray := by
      rw [hM, hz1, Nat.mul_one, Int.toNat_natCast]
      apply Array.toList_inj.1
      rw [show (Value.int .i64 0).cells = #[Value.int .i64 0] from rfl, toList_madeCells_one]
      unfold intC
      refine List.ext_getElem (by simp) fun i h1 h2 => ?_
      simp
    have hmk : ∀ u : World, (Instr.makeSlice 68 (.int .i64 (e.length : Int)) (.int .i64 (e.length : Int))).run Try.prog u = .ok (.slice (some ⟨u.heap.size, 0, none⟩) e.length e.length) (u.alloc (.cells M 2)) := fun u => by
      have h := run_make (P := Try.prog) u 68 2 i0 (.int .i64 0) Try.underlying68 hi0 hz0 .i64 .i64 (e.length : Int) (e.length : Int) (by omega) (by omega) (by rw [hz2]; omega) (by omega)
      rw [← hM] at h
      simpa using h
    have HML := Lib.hid hMl
    rewrite [hr] at HRT
    clear hr hT hok hM hMl hi0 hz0 hz1 hz2 h64 hA hR
    go_enter Try.func12, Try.ntmps12
    go_wp2_with (fail)
    refine HRT.out.mono ?_
    rintro x w1 ⟨rfl, hm1⟩
    have M1 := Lib.hid hm1
    clear hm1
    go_wp2_with (fail)
    refine (HCL.out _ M1.out).mono ?_
    rintro x w2 ⟨cb, cap2, rfl, hlo, hcb, hT2, hm2⟩
    have M2 := Lib.hid (Made.trans M1.out hm2)
    have HT2 := Lib.hid hT2
    have HLO := Lib.hid (Nat.le_trans M1.out.size hlo)
    clear hlo hm2 hT2 HCL M1
    go_wp2_with (fail)
    refine (HUS.out w2 _ _ HT2.out).mono ?_
    rintro x w3 ⟨g, rfl, hU⟩
    have K0 := Lib.hid (show EX w w2 F R cb g w3.heap.size (usedB e) e.length [] [] (w3.alloc (.cells M 2)) from by
      have m3 : Made w3 (w3.alloc (.cells M 2)) := (Made.refl w3).alloc (Nat.le_refl _) _
      have hall : Made w (w3.alloc (.cells M 2)) := Made.trans M2.out (Made.trans hU.made m3)
      have hg := heap_lt hU.blk
      have h23 := hU.made.size
      have hw2 := M2.out.size
      have hlow := hU.low
      refine ⟨m3.heap hU.blk, by rw [HML.out]; exact heap_alloc_new w3 _, ?_, ⟨by omega, by omega⟩, ⟨HLO.out, by omega, by omega⟩, by simp only [World.size_alloc]; omega, ⟨F, asks_made HA.out HRR.out (Nat.le_refl _) hall, fun b hb => .inl hb, fun hb => ?_, fun hb => ?_, fun hb => ?_⟩, Out.made hall⟩
      · exact (m3.block cb (by omega)).trans (hU.made.block cb hcb)
      · have := HA.out.fits [] F w HRR.out cb hb; have := HLO.out; omega
      · have := HA.out.fits [] F w HRR.out g hb; omega
      · have := HA.out.fits [] F w HRR.out _ hb; omega)
    clear hU HRT HUS HML
    go_wp2_with (fail)
    clear hmk
    go_loopw [28] (fun iv wr => ∃ (k : Nat) (vals : List Int) (acc : List (List UInt8)), k ≤ e.length ∧ iv = .int .i64 k ∧ vals.length = k ∧ (∀ v ∈ vals, inR v = true) ∧ EX w w2 F R cb g w3.heap.size (usedB e) e.length vals acc wr ∧ evF ask e (e.length - k) k vals = evF ask e e.length 0 [] ∧ acc ++ askF ask e (e.length - k) k vals = askF ask e e.length 0 []) (fun iv _ => e.length - (intOf iv).toNat)
    case atStart => exact ⟨0, [], [], Nat.zero_le _, rfl, rfl, (fun _ h => by cases h), K0.out, rfl, rfl⟩
    case round =>
      clear K0
      obtain ⟨k, vals, acc, hk, rfl, hvl, hin, hE, hev, has⟩ := hrel
      have KE := Lib.hid hE
      have HVL := Lib.hid hvl
      have HIN := Lib.hid hin
      have HOK := Lib.hid hev
      have HAS := Lib.hid has
      clear hE hin hev hvl has
      generalize w3.heap.size = q at *
      clear w3
      by_cases hk1 : k < e.length
      rotate_left
      · obtain rfl : k = e.length := by omega
        have cq := KE.out.val (show e.length - 1 < e.length by omega)
        have HR := Lib.hid (show evL ask e = (vals.getD (e.length - 1) 0, 0) by
          rw [HEL.out.1, ← HOK.out, Nat.sub_self]
          show (vals.getLastD 0, 0) = _
          rw [List.getLastD_eq_getLast?, List.getLast?_eq_getElem?, List.getD_eq_getElem?_getD, HVL.out])
        have HR2 := Lib.hid (show askedL ask e = acc by
          rw [HEL.out.2, ← HAS.out, Nat.sub_self]
          show acc ++ [] = acc
          exact List.append_nil _)
        obtain ⟨n1, hn1⟩ : ∃ n1 : Nat, n1 = e.length - 1 := ⟨_, rfl⟩
        have hn2 : (e.length : Int) - 1 = (n1 : Int) := by omega
        rewrite [← hn1] at cq HR
        have hn3 : (n1 : Int) < (e.length : Int) := by omega
        clear hn1
        generalize vals.getD n1 0 = z at *
        go_wp2
        refine bodyPost_ret (v := .tuple #[.int .i64 z, .int .i64 0]) (by simp [results, Try.results12, go_sem]) rfl ?_
        obtain ⟨F', h1, h2, -⟩ := KE.out.asked
        exact ⟨by rw [HR.out], F', by rw [HR2.out]; exact h1, h2, KE.out.out⟩
      · obtain ⟨t, ht⟩ : ∃ t, e[k] = t := ⟨_, rfl⟩
        obtain ⟨b9, o9, he9, c0, c1, c2, c3, c4⟩ := tms_cells (recs_same HT2.out KE.out.trm) hk1 t ht
        obtain ⟨rfl, rfl⟩ : cb = b9 ∧ 0 = o9 := by simpa using he9
        rewrite [Nat.zero_add] at c0 c1 c2 c3 c4
        have hokt := ok_at e 0 k HRB.out hk1
        rw [Nat.zero_add, ht] at hokt
        have HKT := Lib.hid hokt
        have hki : (k : Int) < (e.length : Int) := by omega
        have hen : (e.length : Int) ≤ 10000 := by omega
        have hstep : ∀ b, usedB e k = b → (evF ask e (e.length - k) k vals = if b = true then (if (capV (valT ask t vals)).2 = 0 then evF ask e (e.length - (k + 1)) (k + 1) (vals ++ [(capV (valT ask t vals)).1]) else capV (valT ask t vals)) else evF ask e (e.length - (k + 1)) (k + 1) (vals ++ [0])) ∧
            (askF ask e (e.length - k) k vals = if b = true then (if t.kind = 2 then [t.name] else []) ++ (if (capV (valT ask t vals)).2 = 0 then askF ask e (e.length - (k + 1)) (k + 1) (vals ++ [(capV (valT ask t vals)).1]) else []) else askF ask e (e.length - (k + 1)) (k + 1) (vals ++ [0])) := by
          intro b hb
          rw [show e.length - k = (e.length - (k + 1)) + 1 by omega]
          simp only [evF, askF, List.getElem?_eq_getElem hk1, ht, hb]
          exact ⟨trivial, trivial⟩
        have HSTEP := Lib.hid hstep
        have hz := KE.out.out.size
        clear ht hokt hstep he9
        have HX := Lib.hid (show EX w w2 F R cb g q (usedB e) e.length vals acc (wr.alloc (.cells t.cells.toArray TE)) ∧ (wr.alloc (.cells t.cells.toArray TE)).heap[wr.heap.size]? = some (.cells t.cells.toArray TE (0, 0)) from ⟨KE.out.made HA.out ((Made.refl wr).alloc (Nat.le_refl _) _), heap_alloc_new wr _⟩)
        obtain ⟨tk, tv, tn, ta, tbb⟩ := t
        go_upto_region 9 with (fail)
        refine world_named (fun u => EX w w2 F R cb g q (usedB e) e.length vals acc u ∧ u.heap[wr.heap.size]? = some (.cells (Tm.cells ⟨tk, tv, tn, ta, tbb⟩).toArray TE (0, 0))) HX.out ?_
        rintro u ⟨hu, hb⟩
        have KU := Lib.hid hu
        clear c0 c1 c2 c3 c4 HX KE
        have c0 : u.cell? ⟨wr.heap.size, 0, none⟩ = some (.int .u8 tk) := cell_of_lit hb 0
        have c1 : u.cell? ⟨wr.heap.size, 1, none⟩ = some (.int .i64 tv) := cell_of_lit hb 1
        have c2 : u.cell? ⟨wr.heap.size, 2, none⟩ = some (.string (strOf tn)) := cell_of_lit hb 2
        have c3 : u.cell? ⟨wr.heap.size, 3, none⟩ = some (.int .i64 ta) := cell_of_lit hb 3
        have c4 : u.cell? ⟨wr.heap.size, 4, none⟩ = some (.int .i64 tbb) := cell_of_lit hb 4
        have cm := KU.out.mark hk1
        clear hu hb hz
        cases hu : usedB e k with
        | false =>
          rewrite [hu] at cm
          have hs2 := HSTEP.out false hu
          have HNX := Lib.hid (show evF ask e (e.length - (k + 1)) (k + 1) (vals ++ [0]) = evF ask e e.length 0 [] by rw [← HOK.out, hs2.1]; rfl)
          have HNY := Lib.hid (show acc ++ askF ask e (e.length - (k + 1)) (k + 1) (vals ++ [0]) = askF ask e e.length 0 [] by rw [← HAS.out, hs2.2]; rfl)
          clear hu hs2
          go_wp2
          go_roundw
          case rel => exact ⟨k + 1, vals ++ [0], acc, by omega, by go_num, by rw [List.length_append, HVL.out]; rfl, fun v hv => by
            rcases List.mem_append.1 hv with hv | hv
            · exact HIN.out v hv
            · rw [List.mem_singleton] at hv
              subst hv
              rfl, KU.out.skip, HNX.out, HNY.out⟩
          case measure => simp [intOf]; omega
        | true =>
          rewrite [hu] at cm
          have hs2 := HSTEP.out true hu
          rw [if_pos rfl, if_pos rfl] at hs2
          have HEV := Lib.hid hs2
          obtain ⟨F', h1, h2, h3, h4, h5⟩ := KU.out.asked
          have HWO := Lib.hid (worth_any w K caps ask R HA.out ⟨tk, tv, tn, ta, tbb⟩ k e.length HKT.out hk1 vals HIN.out H64.out q acc F' u h1 KU.out.out.size KU.out.vblk)
          have HF := Lib.hid (And.intro h2 (And.intro h3 (And.intro h4 h5)))
          obtain ⟨z, er, hze⟩ : ∃ z er, capV (valT ask ⟨tk, tv, tn, ta, tbb⟩ vals) = (z, er) := ⟨_, _, rfl⟩
          have HZE := Lib.hid hze
          clear hu hs2 h1 h2 h3 h4 h5 hze
          go_wp2_with (fail)
          refine HWO.out.mono ?_
          rintro x u2 ⟨hx, F2, hR2, hF2, hO2⟩
          rewrite [HZE.out] at hx
          subst hx
          have KV := Lib.hid (KU.out.worth HF.out.1 HF.out.2.1 HF.out.2.2.1 HF.out.2.2.2 hR2 hF2 hO2)
          clear hR2 hF2 hO2 HWO c0 c1 c2 c3 c4 cm
          by_cases he : er = 0
          · have ge : (er != 0) = false := by rw [he]; rfl
            have hev := HEV.out
            rw [HZE.out] at hev
            simp only [he] at hev
            rw [if_pos trivial, if_pos trivial] at hev
            have HNX := Lib.hid (show evF ask e (e.length - (k + 1)) (k + 1) (vals ++ [z]) = evF ask e e.length 0 [] from hev.1.symm.trans HOK.out)
            have HNY := Lib.hid (show (acc ++ (if tk = 2 then [tn] else [])) ++ askF ask e (e.length - (k + 1)) (k + 1) (vals ++ [z]) = askF ask e e.length 0 [] by rw [← HAS.out, hev.2, List.append_assoc])
            have HB := Lib.hid (show ∀ v ∈ vals ++ [z], inR v = true from fun v hv => by
              rcases List.mem_append.1 hv with hv | hv
              · exact HIN.out v hv
              · rw [List.mem_singleton] at hv
                subst hv
                exact capV_ok (by rw [HZE.out, he]))
            have KN := Lib.hid (KV.out.store HA.out z)
            rewrite [HVL.out] at KN
            have fq := free_of_lit KV.out.vblk
            have lq := heap_lt KV.out.vblk
            have cq := KV.out.val hk1
            clear he hev
            go_wp2
            go_roundw
            case rel => exact ⟨k + 1, vals ++ [z], _, by omega, by go_num, by rw [List.length_append, HVL.out]; rfl, HB.out, KN.out, HNX.out, HNY.out⟩
            case measure => simp [intOf]; omega
          · have ge : (er != 0) = true := bne_iff_ne.2 he
            have hev := HEV.out
            rw [HZE.out] at hev
            simp only [] at hev
            rw [if_neg he, if_neg he, List.append_nil] at hev
            have HR := Lib.hid (show evL ask e = (0, er) by rw [HEL.out.1, ← HOK.out, hev.1]; exact capV_bad HZE.out he)
            have HR2 := Lib.hid (show askedL ask e = acc ++ (if tk = 2 then [tn] else []) by rw [HEL.out.2, ← HAS.out, hev.2])
            clear he hev
            go_wp2
            refine bodyPost_ret (v := .tuple #[.int .i64 0, .int .i64 er]) (by simp [results, Try.results12, go_sem]) rfl ?_
            obtain ⟨F3, h1, h2, -⟩ := KV.out.asked
            exact ⟨by rw [HR.out], F3, by rw [HR2.out]; exact h1, h2, KV.out.out⟩
end
end
end Go.Proofs.Ytebpimjbjjmpaaa
