/- What Right of the document's answer for expr returns; no condition but that on the number of terms. -/
import Derived.Test.YtebpimjbjjmpaaaExprVal
import Derived.Test.YtebpimjbjjmpaaaExprRefA
import Derived.Laws.StructEq
namespace Go.Proofs.Ytebpimjbjjmpaaa
open Go.ChangeShapes Go.WideShapes Go.ChangeAt Go.RowKit Go.Sort BigFrame

theorem ok_ways (t : Tm) (i : Nat) :
    (t.kind = 1 ∧ okT t i = (decide (0 ≤ t.v ∧ t.v ≤ 1099511627776) && decide (t = ⟨t.kind, t.v, [], 0, 0⟩))) ∨
    (t.kind = 2 ∧ okT t i = (decide (t.name ≠ []) && decide (t = ⟨t.kind, 0, t.name, 0, 0⟩))) ∨
    ((t.kind = 3 ∨ t.kind = 4 ∨ t.kind = 5) ∧ okT t i = (decide (0 ≤ t.a ∧ t.a < i) && decide (0 ≤ t.b ∧ t.b < i) && decide (t = ⟨t.kind, 0, [], t.a, t.b⟩))) ∨
    (t.kind = 6 ∧ okT t i = (decide (0 ≤ t.a ∧ t.a < i) && decide (t = ⟨t.kind, 0, [], t.a, 0⟩))) ∨
    ((t.kind ≠ 1 ∧ t.kind ≠ 2 ∧ t.kind ≠ 3 ∧ t.kind ≠ 4 ∧ t.kind ≠ 5 ∧ t.kind ≠ 6) ∧ okT t i = false) := by
  obtain ⟨k, v, n, a, b⟩ := t
  unfold okT
  simp only [Tm.mk.injEq]
  by_cases h1 : k = 1
  · subst h1
    refine .inl ⟨rfl, ?_⟩
    rw [if_pos rfl, Bool.eq_iff_iff]
    simp only [Bool.and_eq_true, decide_eq_true_eq]
    constructor
    · rintro ⟨x1, x2, x3, x4, x5⟩
      exact ⟨⟨x1, x2⟩, trivial, trivial, x3, x4, x5⟩
    · rintro ⟨⟨x1, x2⟩, -, -, x3, x4, x5⟩
      exact ⟨x1, x2, x3, x4, x5⟩
  by_cases h2 : k = 2
  · subst h2
    refine .inr (.inl ⟨rfl, ?_⟩)
    rw [if_neg (by decide), if_pos rfl, Bool.eq_iff_iff]
    simp only [Bool.and_eq_true, decide_eq_true_eq]
    constructor
    · rintro ⟨x1, x2, x3, x4⟩
      exact ⟨x1, trivial, x2, trivial, x3, x4⟩
    · rintro ⟨x1, -, x2, -, x3, x4⟩
      exact ⟨x1, x2, x3, x4⟩
  by_cases h3 : k = 3 ∨ k = 4 ∨ k = 5
  · refine .inr (.inr (.inl ⟨h3, ?_⟩))
    rw [if_neg h1, if_neg h2, if_pos h3, Bool.eq_iff_iff]
    simp only [Bool.and_eq_true, decide_eq_true_eq]
    constructor
    · rintro ⟨x1, x2, x3, x4, x5, x6⟩
      exact ⟨⟨⟨x1, x2⟩, x3, x4⟩, trivial, x5, x6, trivial, trivial⟩
    · rintro ⟨⟨⟨x1, x2⟩, x3, x4⟩, -, x5, x6, -, -⟩
      exact ⟨x1, x2, x3, x4, x5, x6⟩
  by_cases h6 : k = 6
  · subst h6
    refine .inr (.inr (.inr (.inl ⟨rfl, ?_⟩)))
    rw [if_neg (by decide), if_neg (by decide), if_neg (by decide), if_pos rfl, Bool.eq_iff_iff]
    simp only [Bool.and_eq_true, decide_eq_true_eq]
    constructor
    · rintro ⟨x1, x2, x3, x4, x5⟩
      exact ⟨⟨x1, x2⟩, trivial, x4, x5, trivial, x3⟩
    · rintro ⟨⟨x1, x2⟩, -, x4, x5, -, x3⟩
      exact ⟨x1, x2, x3, x4, x5⟩
  · refine .inr (.inr (.inr (.inr ⟨⟨h1, h2, by omega, by omega, by omega, h6⟩, ?_⟩)))
    rw [if_neg h1, if_neg h2, if_neg h3, if_neg h6]
section
set_option maxRecDepth 100000 in
set_option maxHeartbeats 1000000 in
theorem tm_neql (y z : Tm) (w : World) : (binOp .neq TE y.val z.val).run Try.prog w = .ok (.bool (!decide (y = z))) w := by
  obtain ⟨y0, y1, y2, y3, y4⟩ := y
  obtain ⟨z0, z1, z2, z3, z4⟩ := z
  by_cases h0 : y0 = z0
  rotate_left
  · simp [go_sem, h0]
  subst h0
  by_cases h1 : y1 = z1
  rotate_left
  · simp [go_sem, h1]
  subst h1
  by_cases h2 : y2 = z2
  rotate_left
  · simp [go_sem, h2]
  subst h2
  by_cases h3 : y3 = z3
  rotate_left
  · simp [go_sem, h3]
  subst h3
  by_cases h4 : y4 = z4
  rotate_left
  · simp [go_sem, h4]
  subst h4
  simp [go_sem]
end
/-- A term's variable, and the one that it ought to be. -/
structure T2 (W : World) (b1 b2 : Nat) (x y : Tm) (u : World) : Prop where
  made : Made W u
  fst : u.heap[b1]? = some (.cells x.cells.toArray TE (0, 0))
  snd : u.heap[b2]? = some (.cells y.cells.toArray TE (0, 0))
  low : W.heap.size ≤ b2
  ne : b1 ≠ b2
theorem T2.set {W u : World} {b1 b2 : Nat} {x y : Tm} (h : T2 W b1 b2 x y u) (j : Nat) (v : Value) {z : Tm} (he : y.cells.toArray.setIfInBounds j v = z.cells.toArray) : T2 W b1 b2 x z (u.setCell ⟨b2, j, none⟩ v) := by
  refine ⟨Below.setCell h.made (p := ⟨b2, j, none⟩) h.low v, (heap_setCell_other u ⟨b2, j, none⟩ b1 v h.ne).trans h.fst, ?_, h.low, h.ne⟩
  have := heap_setCell_same u b2 j y.cells.toArray TE v h.snd
  rwa [he] at this
theorem T2.cells {W u : World} {b1 b2 : Nat} {x y : Tm} (h : T2 W b1 b2 x y u) :
    (u.cell? ⟨b1, 0, none⟩ = some (.int .u8 x.kind) ∧ u.cell? ⟨b1, 1, none⟩ = some (.int .i64 x.v) ∧ u.cell? ⟨b1, 2, none⟩ = some (.string (strOf x.name)) ∧ u.cell? ⟨b1, 3, none⟩ = some (.int .i64 x.a) ∧ u.cell? ⟨b1, 4, none⟩ = some (.int .i64 x.b)) ∧
    (u.cell? ⟨b2, 0, none⟩ = some (.int .u8 y.kind) ∧ u.cell? ⟨b2, 1, none⟩ = some (.int .i64 y.v) ∧ u.cell? ⟨b2, 2, none⟩ = some (.string (strOf y.name)) ∧ u.cell? ⟨b2, 3, none⟩ = some (.int .i64 y.a) ∧ u.cell? ⟨b2, 4, none⟩ = some (.int .i64 y.b)) :=
  ⟨⟨cell_of_lit h.fst 0, cell_of_lit h.fst 1, cell_of_lit h.fst 2, cell_of_lit h.fst 3, cell_of_lit h.fst 4⟩, cell_of_lit h.snd 0, cell_of_lit h.snd 1, cell_of_lit h.snd 2, cell_of_lit h.snd 3, cell_of_lit h.snd 4⟩
section
attribute [local irreducible] World.cell?
set_option maxRecDepth 100000 in
set_option maxHeartbeats 32000000 in
theorem rright_any (W : World) (ao : Option Addr) (cap : Nat) (e : List Tm) (hT : Tms W ao cap e) (hl : e.length ≤ 100000) : Makes Try.prog W 23 #[.slice ao e.length cap] (.bool (rightB e)) := by
  intro w hm
  have HT := Lib.hid hT
  have HM := Lib.hid hm
  clear hT hm
  go_enter Try.func23, Try.ntmps23
  go_wp2_with (fail)
  go_loopw [3] (fun iv wr => ∃ k : Nat, k ≤ e.length ∧ iv = .int .i64 k ∧ okFrom k (e.drop k) = okFrom 0 e ∧ Made W wr) (fun iv _ => e.length - (intOf iv).toNat)
  case atStart => exact ⟨0, Nat.zero_le _, rfl, rfl, HM.out⟩
  case round =>
    clear HM
    obtain ⟨k, hk, rfl, hok, hmr⟩ := hrel
    have MR := Lib.hid hmr
    have HOK := Lib.hid hok
    clear hok hmr
    by_cases hlt : k < e.length
    rotate_left
    · obtain rfl : k = e.length := by omega
      have HR := Lib.hid (show rightB e = decide (0 < e.length) by
        unfold rightB
        rw [← HOK.out, List.drop_length, Bool.eq_iff_iff]
        simp only [okFrom, Bool.true_and, decide_eq_true_eq]
        exact List.length_pos_iff.symm)
      go_wp2
      rewrite [HR.out]
      go_ret
      exact ⟨rfl, MR.out⟩
    · obtain ⟨t, ht⟩ : ∃ t, e[k] = t := ⟨_, rfl⟩
      have HBAD := Lib.hid (show okT t k = false → rightB e = false from fun h => by
        unfold rightB
        rw [← HOK.out, List.drop_eq_getElem_cons hlt, ht]
        simp only [okFrom, h, Bool.false_and])
      have HGOOD := Lib.hid (show okT t k = true → okFrom (k + 1) (e.drop (k + 1)) = okFrom 0 e from fun h => by
        rw [← HOK.out, List.drop_eq_getElem_cons hlt, ht]
        simp only [okFrom, h, Bool.true_and])
      obtain ⟨b, o, rfl, c0, c1, c2, c3, c4⟩ := tms_cells (HT.out.made tm_len MR.out) hlt t ht
      have HWAY := Lib.hid (ok_ways t k)
      have lb := World.block_lt_of_cell? wr _ c0
      have hki : (k : Int) < (e.length : Int) := by omega
      have hz := MR.out.size
      clear ht HOK
      obtain ⟨tk, tv, tn, ta, tb⟩ := t
      have HX := Lib.hid (show T2 W wr.heap.size (wr.heap.size + 1) ⟨tk, tv, tn, ta, tb⟩ ⟨tk, 0, [], 0, 0⟩ ((wr.alloc (.cells (Tm.cells ⟨tk, tv, tn, ta, tb⟩).toArray TE)).alloc (.cells (Tm.cells ⟨tk, 0, [], 0, 0⟩).toArray TE)) from by
        have m1 := MR.out.alloc hz (.cells (Tm.cells ⟨tk, tv, tn, ta, tb⟩).toArray TE)
        exact ⟨m1.alloc m1.size _, (heap_alloc_old _ _ (by simp)).trans (heap_alloc_new wr _), heap_at (by simp), by omega, by omega⟩)
      go_upto_region 6 with (fail)
      refine world_named (fun u => T2 W wr.heap.size (wr.heap.size + 1) ⟨tk, tv, tn, ta, tb⟩ ⟨tk, 0, [], 0, 0⟩ u) HX.out ?_
      intro u hu
      have KU := Lib.hid hu
      clear hu HX c0 c1 c2 c3 c4 lb hz
      generalize wr.heap.size + 1 = q2 at *
      generalize wr.heap.size = q1 at *
      clear MR
      clear wr
      obtain ⟨⟨a0, a1, a2, a3, a4⟩, d0, d1, d2, d3, d4⟩ := KU.out.cells
      have ft := free_of_lit KU.out.snd
      have lt := heap_lt KU.out.snd
      have hk64 : (k : Int) ≤ 100000 := by omega
      rcases HWAY.out with ⟨hkind, hE⟩ | ⟨hkind, hE⟩ | ⟨hkind, hE⟩ | ⟨hkind, hE⟩ | ⟨hkind, hE⟩
      · simp only [] at hkind hE
        have HE := Lib.hid hE
        have g1 : (tk == 1) = true := by rw [hkind]; rfl
        clear hkind hE HWAY
        go_upto_region 11 with (fail)
        refine world_named (fun u => T2 W q1 q2 ⟨tk, tv, tn, ta, tb⟩ ⟨tk, tv, [], 0, 0⟩ u) (KU.out.set 1 (.int .i64 tv) rfl) ?_
        intro u2 hu2
        have KV := Lib.hid hu2
        clear hu2 KU a0 a1 a2 a3 a4 d0 d1 d2 d3 d4 ft lt
        have KU := Lib.hid KV.out
        clear KV
        clear u
        obtain ⟨u, hu⟩ : ∃ u, u = u2 := ⟨_, rfl⟩
        subst hu
        obtain ⟨⟨a0, a1, a2, a3, a4⟩, d0, d1, d2, d3, d4⟩ := KU.out.cells
        have ft := free_of_lit KU.out.snd
        have lt := heap_lt KU.out.snd
        by_cases hv : 0 ≤ tv ∧ tv ≤ 1099511627776
        · obtain ⟨hv0, hv1⟩ := hv
          have HD := Lib.hid (decide_eq_true (show 0 ≤ tv ∧ tv ≤ 1099511627776 from ⟨hv0, hv1⟩))
          have hop := tm_neql ⟨tk, tv, tn, ta, tb⟩ ⟨tk, tv, [], 0, 0⟩
          cases hd : decide ((⟨tk, tv, tn, ta, tb⟩ : Tm) = ⟨tk, tv, [], 0, 0⟩) with
          | false =>
            rewrite [hd] at hop
            have HO := Lib.hid (show okT ⟨tk, tv, tn, ta, tb⟩ k = false by rw [HE.out, hd, Bool.and_false])
            clear hd
            go_wp2
            rewrite [HBAD.out HO.out]
            go_ret
            exact ⟨rfl, KU.out.made⟩
          | true =>
            rewrite [hd] at hop
            have HO := Lib.hid (show okT ⟨tk, tv, tn, ta, tb⟩ k = true by rw [HE.out, hd, HD.out, Bool.and_true])
            clear hd
            go_wp2
            go_roundw
            case rel => exact ⟨k + 1, by omega, by go_num, HGOOD.out HO.out, KU.out.made⟩
            case measure => simp [intOf]; omega
        · have HO := Lib.hid (show okT ⟨tk, tv, tn, ta, tb⟩ k = false by rw [HE.out, decide_eq_false hv, Bool.false_and])
          have hv2 : tv < 0 ∨ (0 ≤ tv ∧ 1099511627776 < tv) := by omega
          clear hv
          rcases hv2 with hv | ⟨hv, hv2⟩
          all_goals
            go_wp2
            rewrite [HBAD.out HO.out]
            go_ret
            exact ⟨rfl, KU.out.made⟩
      · simp only [] at hkind hE
        have HE := Lib.hid hE
        have g1 : (tk == 1) = false := by rw [hkind]; rfl
        have g2 : (tk == 2) = true := by rw [hkind]; rfl
        clear hkind hE HWAY
        go_upto_region 15 with (fail)
        refine world_named (fun u => T2 W q1 q2 ⟨tk, tv, tn, ta, tb⟩ ⟨tk, 0, tn, 0, 0⟩ u) (KU.out.set 2 (.string (strOf tn)) rfl) ?_
        intro u2 hu2
        have KV := Lib.hid hu2
        clear hu2 KU a0 a1 a2 a3 a4 d0 d1 d2 d3 d4 ft lt
        have KU := Lib.hid KV.out
        clear KV
        clear u
        obtain ⟨u, hu⟩ : ∃ u, u = u2 := ⟨_, rfl⟩
        subst hu
        obtain ⟨⟨a0, a1, a2, a3, a4⟩, d0, d1, d2, d3, d4⟩ := KU.out.cells
        have ft := free_of_lit KU.out.snd
        have lt := heap_lt KU.out.snd
        by_cases hv : tn = []
        · have HO := Lib.hid (show okT ⟨tk, tv, tn, ta, tb⟩ k = false by rw [HE.out, decide_eq_false (fun h => h hv), Bool.false_and])
          have gt : (tn == []) = true := beq_iff_eq.2 hv
          clear hv
          go_wp2
          rewrite [HBAD.out HO.out]
          go_ret
          exact ⟨rfl, KU.out.made⟩
        · have HD := Lib.hid (decide_eq_true (show tn ≠ [] from hv))
          have gt : (tn == []) = false := beq_eq_false_iff_ne.2 hv
          clear hv
          have hop := tm_neql ⟨tk, tv, tn, ta, tb⟩ ⟨tk, 0, tn, 0, 0⟩
          cases hd : decide ((⟨tk, tv, tn, ta, tb⟩ : Tm) = ⟨tk, 0, tn, 0, 0⟩) with
          | false =>
            rewrite [hd] at hop
            have HO := Lib.hid (show okT ⟨tk, tv, tn, ta, tb⟩ k = false by rw [HE.out, hd, Bool.and_false])
            clear hd
            go_wp2
            rewrite [HBAD.out HO.out]
            go_ret
            exact ⟨rfl, KU.out.made⟩
          | true =>
            rewrite [hd] at hop
            have HO := Lib.hid (show okT ⟨tk, tv, tn, ta, tb⟩ k = true by rw [HE.out, hd, HD.out, Bool.and_true])
            clear hd
            go_wp2
            go_roundw
            case rel => exact ⟨k + 1, by omega, by go_num, HGOOD.out HO.out, KU.out.made⟩
            case measure => simp [intOf]; omega
      · simp only [] at hkind hE
        rcases hkind with hkind | hkind | hkind
        · have HE := Lib.hid hE
          have g1 : (tk == 1) = false := by rw [hkind]; rfl
          have g2 : (tk == 2) = false := by rw [hkind]; rfl
          have g3 : (tk == 3) = true := by rw [hkind]; rfl
          clear hkind hE HWAY
          go_upto_region 25 with (fail)
          refine world_named (fun u => T2 W q1 q2 ⟨tk, tv, tn, ta, tb⟩ ⟨tk, 0, [], ta, 0⟩ u) (KU.out.set 3 (.int .i64 ta) rfl) ?_
          intro u2 hu2
          have KV := Lib.hid hu2
          clear hu2 KU a0 a1 a2 a3 a4 d0 d1 d2 d3 d4 ft lt
          have KU := Lib.hid KV.out
          clear KV
          clear u
          obtain ⟨u, hu⟩ : ∃ u, u = u2 := ⟨_, rfl⟩
          subst hu
          obtain ⟨⟨a0, a1, a2, a3, a4⟩, d0, d1, d2, d3, d4⟩ := KU.out.cells
          have ft := free_of_lit KU.out.snd
          have lt := heap_lt KU.out.snd
          by_cases hv : 0 ≤ ta ∧ ta < k
          · obtain ⟨hv0, hv1⟩ := hv
            have HD := Lib.hid (decide_eq_true (show 0 ≤ ta ∧ ta < (k : Int) from ⟨hv0, hv1⟩))
            go_upto_region 29 with (fail)
            refine world_named (fun u => T2 W q1 q2 ⟨tk, tv, tn, ta, tb⟩ ⟨tk, 0, [], ta, tb⟩ u) (KU.out.set 4 (.int .i64 tb) rfl) ?_
            intro u2 hu2
            have KV := Lib.hid hu2
            clear hu2 KU a0 a1 a2 a3 a4 d0 d1 d2 d3 d4 ft lt
            have KU := Lib.hid KV.out
            clear KV
            clear u
            obtain ⟨u, hu⟩ : ∃ u, u = u2 := ⟨_, rfl⟩
            subst hu
            obtain ⟨⟨a0, a1, a2, a3, a4⟩, d0, d1, d2, d3, d4⟩ := KU.out.cells
            have ft := free_of_lit KU.out.snd
            have lt := heap_lt KU.out.snd
            by_cases hv : 0 ≤ tb ∧ tb < k
            · obtain ⟨hv2, hv3⟩ := hv
              have HD2 := Lib.hid (decide_eq_true (show 0 ≤ tb ∧ tb < (k : Int) from ⟨hv2, hv3⟩))
              have hop := tm_neql ⟨tk, tv, tn, ta, tb⟩ ⟨tk, 0, [], ta, tb⟩
              cases hd : decide ((⟨tk, tv, tn, ta, tb⟩ : Tm) = ⟨tk, 0, [], ta, tb⟩) with
              | false =>
                rewrite [hd] at hop
                have HO := Lib.hid (show okT ⟨tk, tv, tn, ta, tb⟩ k = false by rw [HE.out, hd, Bool.and_false])
                clear hd
                go_wp2
                rewrite [HBAD.out HO.out]
                go_ret
                exact ⟨rfl, KU.out.made⟩
              | true =>
                rewrite [hd] at hop
                have HO := Lib.hid (show okT ⟨tk, tv, tn, ta, tb⟩ k = true by rw [HE.out, hd, HD.out, HD2.out, Bool.and_true, Bool.and_true])
                clear hd
                go_wp2
                go_roundw
                case rel => exact ⟨k + 1, by omega, by go_num, HGOOD.out HO.out, KU.out.made⟩
                case measure => simp [intOf]; omega
            · have HO := Lib.hid (show okT ⟨tk, tv, tn, ta, tb⟩ k = false by rw [HE.out, decide_eq_false hv, Bool.and_false, Bool.false_and])
              have hv4 : tb < 0 ∨ (0 ≤ tb ∧ (k : Int) ≤ tb) := by omega
              clear hv
              rcases hv4 with hv | ⟨hv, hv2⟩
              all_goals
                go_wp2
                rewrite [HBAD.out HO.out]
                go_ret
                exact ⟨rfl, KU.out.made⟩
          · have HO := Lib.hid (show okT ⟨tk, tv, tn, ta, tb⟩ k = false by rw [HE.out, decide_eq_false hv, Bool.false_and, Bool.false_and])
            have hv2 : ta < 0 ∨ (0 ≤ ta ∧ (k : Int) ≤ ta) := by omega
            clear hv
            rcases hv2 with hv | ⟨hv, hv2⟩
            all_goals
              go_wp2
              rewrite [HBAD.out HO.out]
              go_ret
              exact ⟨rfl, KU.out.made⟩
        · have HE := Lib.hid hE
          have g1 : (tk == 1) = false := by rw [hkind]; rfl
          have g2 : (tk == 2) = false := by rw [hkind]; rfl
          have g3 : (tk == 3) = false := by rw [hkind]; rfl
          have g4 : (tk == 4) = true := by rw [hkind]; rfl
          clear hkind hE HWAY
          go_upto_region 25 with (fail)
          refine world_named (fun u => T2 W q1 q2 ⟨tk, tv, tn, ta, tb⟩ ⟨tk, 0, [], ta, 0⟩ u) (KU.out.set 3 (.int .i64 ta) rfl) ?_
          intro u2 hu2
          have KV := Lib.hid hu2
          clear hu2 KU a0 a1 a2 a3 a4 d0 d1 d2 d3 d4 ft lt
          have KU := Lib.hid KV.out
          clear KV
          clear u
          obtain ⟨u, hu⟩ : ∃ u, u = u2 := ⟨_, rfl⟩
          subst hu
          obtain ⟨⟨a0, a1, a2, a3, a4⟩, d0, d1, d2, d3, d4⟩ := KU.out.cells
          have ft := free_of_lit KU.out.snd
          have lt := heap_lt KU.out.snd
          by_cases hv : 0 ≤ ta ∧ ta < k
          · obtain ⟨hv0, hv1⟩ := hv
            have HD := Lib.hid (decide_eq_true (show 0 ≤ ta ∧ ta < (k : Int) from ⟨hv0, hv1⟩))
            go_upto_region 29 with (fail)
            refine world_named (fun u => T2 W q1 q2 ⟨tk, tv, tn, ta, tb⟩ ⟨tk, 0, [], ta, tb⟩ u) (KU.out.set 4 (.int .i64 tb) rfl) ?_
            intro u2 hu2
            have KV := Lib.hid hu2
            clear hu2 KU a0 a1 a2 a3 a4 d0 d1 d2 d3 d4 ft lt
            have KU := Lib.hid KV.out
            clear KV
            clear u
            obtain ⟨u, hu⟩ : ∃ u, u = u2 := ⟨_, rfl⟩
            subst hu
            obtain ⟨⟨a0, a1, a2, a3, a4⟩, d0, d1, d2, d3, d4⟩ := KU.out.cells
            have ft := free_of_lit KU.out.snd
            have lt := heap_lt KU.out.snd
            by_cases hv : 0 ≤ tb ∧ tb < k
            · obtain ⟨hv2, hv3⟩ := hv
              have HD2 := Lib.hid (decide_eq_true (show 0 ≤ tb ∧ tb < (k : Int) from ⟨hv2, hv3⟩))
              have hop := tm_neql ⟨tk, tv, tn, ta, tb⟩ ⟨tk, 0, [], ta, tb⟩
              cases hd : decide ((⟨tk, tv, tn, ta, tb⟩ : Tm) = ⟨tk, 0, [], ta, tb⟩) with
              | false =>
                rewrite [hd] at hop
                have HO := Lib.hid (show okT ⟨tk, tv, tn, ta, tb⟩ k = false by rw [HE.out, hd, Bool.and_false])
                clear hd
                go_wp2
                rewrite [HBAD.out HO.out]
                go_ret
                exact ⟨rfl, KU.out.made⟩
              | true =>
                rewrite [hd] at hop
                have HO := Lib.hid (show okT ⟨tk, tv, tn, ta, tb⟩ k = true by rw [HE.out, hd, HD.out, HD2.out, Bool.and_true, Bool.and_true])
                clear hd
                go_wp2
                go_roundw
                case rel => exact ⟨k + 1, by omega, by go_num, HGOOD.out HO.out, KU.out.made⟩
                case measure => simp [intOf]; omega
            · have HO := Lib.hid (show okT ⟨tk, tv, tn, ta, tb⟩ k = false by rw [HE.out, decide_eq_false hv, Bool.and_false, Bool.false_and])
              have hv4 : tb < 0 ∨ (0 ≤ tb ∧ (k : Int) ≤ tb) := by omega
              clear hv
              rcases hv4 with hv | ⟨hv, hv2⟩
              all_goals
                go_wp2
                rewrite [HBAD.out HO.out]
                go_ret
                exact ⟨rfl, KU.out.made⟩
          · have HO := Lib.hid (show okT ⟨tk, tv, tn, ta, tb⟩ k = false by rw [HE.out, decide_eq_false hv, Bool.false_and, Bool.false_and])
            have hv2 : ta < 0 ∨ (0 ≤ ta ∧ (k : Int) ≤ ta) := by omega
            clear hv
            rcases hv2 with hv | ⟨hv, hv2⟩
            all_goals
              go_wp2
              rewrite [HBAD.out HO.out]
              go_ret
              exact ⟨rfl, KU.out.made⟩
        · have HE := Lib.hid hE
          have g1 : (tk == 1) = false := by rw [hkind]; rfl
          have g2 : (tk == 2) = false := by rw [hkind]; rfl
          have g3 : (tk == 3) = false := by rw [hkind]; rfl
          have g4 : (tk == 4) = false := by rw [hkind]; rfl
          have g5 : (tk == 5) = true := by rw [hkind]; rfl
          clear hkind hE HWAY
          go_upto_region 25 with (fail)
          refine world_named (fun u => T2 W q1 q2 ⟨tk, tv, tn, ta, tb⟩ ⟨tk, 0, [], ta, 0⟩ u) (KU.out.set 3 (.int .i64 ta) rfl) ?_
          intro u2 hu2
          have KV := Lib.hid hu2
          clear hu2 KU a0 a1 a2 a3 a4 d0 d1 d2 d3 d4 ft lt
          have KU := Lib.hid KV.out
          clear KV
          clear u
          obtain ⟨u, hu⟩ : ∃ u, u = u2 := ⟨_, rfl⟩
          subst hu
          obtain ⟨⟨a0, a1, a2, a3, a4⟩, d0, d1, d2, d3, d4⟩ := KU.out.cells
          have ft := free_of_lit KU.out.snd
          have lt := heap_lt KU.out.snd
          by_cases hv : 0 ≤ ta ∧ ta < k
          · obtain ⟨hv0, hv1⟩ := hv
            have HD := Lib.hid (decide_eq_true (show 0 ≤ ta ∧ ta < (k : Int) from ⟨hv0, hv1⟩))
            go_upto_region 29 with (fail)
            refine world_named (fun u => T2 W q1 q2 ⟨tk, tv, tn, ta, tb⟩ ⟨tk, 0, [], ta, tb⟩ u) (KU.out.set 4 (.int .i64 tb) rfl) ?_
            intro u2 hu2
            have KV := Lib.hid hu2
            clear hu2 KU a0 a1 a2 a3 a4 d0 d1 d2 d3 d4 ft lt
            have KU := Lib.hid KV.out
            clear KV
            clear u
            obtain ⟨u, hu⟩ : ∃ u, u = u2 := ⟨_, rfl⟩
            subst hu
            obtain ⟨⟨a0, a1, a2, a3, a4⟩, d0, d1, d2, d3, d4⟩ := KU.out.cells
            have ft := free_of_lit KU.out.snd
            have lt := heap_lt KU.out.snd
            by_cases hv : 0 ≤ tb ∧ tb < k
            · obtain ⟨hv2, hv3⟩ := hv
              have HD2 := Lib.hid (decide_eq_true (show 0 ≤ tb ∧ tb < (k : Int) from ⟨hv2, hv3⟩))
              have hop := tm_neql ⟨tk, tv, tn, ta, tb⟩ ⟨tk, 0, [], ta, tb⟩
              cases hd : decide ((⟨tk, tv, tn, ta, tb⟩ : Tm) = ⟨tk, 0, [], ta, tb⟩) with
              | false =>
                rewrite [hd] at hop
                have HO := Lib.hid (show okT ⟨tk, tv, tn, ta, tb⟩ k = false by rw [HE.out, hd, Bool.and_false])
                clear hd
                go_wp2
                rewrite [HBAD.out HO.out]
                go_ret
                exact ⟨rfl, KU.out.made⟩
              | true =>
                rewrite [hd] at hop
                have HO := Lib.hid (show okT ⟨tk, tv, tn, ta, tb⟩ k = true by rw [HE.out, hd, HD.out, HD2.out, Bool.and_true, Bool.and_true])
                clear hd
                go_wp2
                go_roundw
                case rel => exact ⟨k + 1, by omega, by go_num, HGOOD.out HO.out, KU.out.made⟩
                case measure => simp [intOf]; omega
            · have HO := Lib.hid (show okT ⟨tk, tv, tn, ta, tb⟩ k = false by rw [HE.out, decide_eq_false hv, Bool.and_false, Bool.false_and])
              have hv4 : tb < 0 ∨ (0 ≤ tb ∧ (k : Int) ≤ tb) := by omega
              clear hv
              rcases hv4 with hv | ⟨hv, hv2⟩
              all_goals
                go_wp2
                rewrite [HBAD.out HO.out]
                go_ret
                exact ⟨rfl, KU.out.made⟩
          · have HO := Lib.hid (show okT ⟨tk, tv, tn, ta, tb⟩ k = false by rw [HE.out, decide_eq_false hv, Bool.false_and, Bool.false_and])
            have hv2 : ta < 0 ∨ (0 ≤ ta ∧ (k : Int) ≤ ta) := by omega
            clear hv
            rcases hv2 with hv | ⟨hv, hv2⟩
            all_goals
              go_wp2
              rewrite [HBAD.out HO.out]
              go_ret
              exact ⟨rfl, KU.out.made⟩
      · simp only [] at hkind hE
        have HE := Lib.hid hE
        have g1 : (tk == 1) = false := by rw [hkind]; rfl
        have g2 : (tk == 2) = false := by rw [hkind]; rfl
        have g3 : (tk == 3) = false := by rw [hkind]; rfl
        have g4 : (tk == 4) = false := by rw [hkind]; rfl
        have g5 : (tk == 5) = false := by rw [hkind]; rfl
        have g6 : (tk == 6) = true := by rw [hkind]; rfl
        clear hkind hE HWAY
        go_upto_region 25 with (fail)
        refine world_named (fun u => T2 W q1 q2 ⟨tk, tv, tn, ta, tb⟩ ⟨tk, 0, [], ta, 0⟩ u) (KU.out.set 3 (.int .i64 ta) rfl) ?_
        intro u2 hu2
        have KV := Lib.hid hu2
        clear hu2 KU a0 a1 a2 a3 a4 d0 d1 d2 d3 d4 ft lt
        have KU := Lib.hid KV.out
        clear KV
        clear u
        obtain ⟨u, hu⟩ : ∃ u, u = u2 := ⟨_, rfl⟩
        subst hu
        obtain ⟨⟨a0, a1, a2, a3, a4⟩, d0, d1, d2, d3, d4⟩ := KU.out.cells
        have ft := free_of_lit KU.out.snd
        have lt := heap_lt KU.out.snd
        by_cases hv : 0 ≤ ta ∧ ta < k
        · obtain ⟨hv0, hv1⟩ := hv
          have HD := Lib.hid (decide_eq_true (show 0 ≤ ta ∧ ta < (k : Int) from ⟨hv0, hv1⟩))
          have hop := tm_neql ⟨tk, tv, tn, ta, tb⟩ ⟨tk, 0, [], ta, 0⟩
          cases hd : decide ((⟨tk, tv, tn, ta, tb⟩ : Tm) = ⟨tk, 0, [], ta, 0⟩) with
          | false =>
            rewrite [hd] at hop
            have HO := Lib.hid (show okT ⟨tk, tv, tn, ta, tb⟩ k = false by rw [HE.out, hd, Bool.and_false])
            clear hd
            go_wp2
            rewrite [HBAD.out HO.out]
            go_ret
            exact ⟨rfl, KU.out.made⟩
          | true =>
            rewrite [hd] at hop
            have HO := Lib.hid (show okT ⟨tk, tv, tn, ta, tb⟩ k = true by rw [HE.out, hd, HD.out, Bool.and_true])
            clear hd
            go_wp2
            go_roundw
            case rel => exact ⟨k + 1, by omega, by go_num, HGOOD.out HO.out, KU.out.made⟩
            case measure => simp [intOf]; omega
        · have HO := Lib.hid (show okT ⟨tk, tv, tn, ta, tb⟩ k = false by rw [HE.out, decide_eq_false hv, Bool.false_and])
          have hv2 : ta < 0 ∨ (0 ≤ ta ∧ (k : Int) ≤ ta) := by omega
          clear hv
          rcases hv2 with hv | ⟨hv, hv2⟩
          all_goals
            go_wp2
            rewrite [HBAD.out HO.out]
            go_ret
            exact ⟨rfl, KU.out.made⟩
      · simp only [] at hkind hE
        obtain ⟨h1, h2, h3, h4, h5, h6⟩ := hkind
        have g1 : (tk == 1) = false := beq_eq_false_iff_ne.2 h1
        have g2 : (tk == 2) = false := beq_eq_false_iff_ne.2 h2
        have g3 : (tk == 3) = false := beq_eq_false_iff_ne.2 h3
        have g4 : (tk == 4) = false := beq_eq_false_iff_ne.2 h4
        have g5 : (tk == 5) = false := beq_eq_false_iff_ne.2 h5
        have g6 : (tk == 6) = false := beq_eq_false_iff_ne.2 h6
        have HO := Lib.hid hE
        clear hE HWAY h1 h2 h3 h4 h5 h6
        go_wp2
        rewrite [HBAD.out HO.out]
        go_ret
        exact ⟨rfl, KU.out.made⟩
end
end Go.Proofs.Ytebpimjbjjmpaaa
