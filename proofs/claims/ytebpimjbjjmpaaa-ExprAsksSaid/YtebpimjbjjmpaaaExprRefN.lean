/- What Names of the document's answer for expr returns; no condition but that on the number of terms. -/
import Derived.Test.YtebpimjbjjmpaaaExprRefU
import Derived.Test.YtebpimjbjjmpaaaExprRefR
import Derived.Test.YtebpimjbjjmpaaaGBase
import Derived.Test.YtebpimjbjjmpaaaExprNam
namespace Go.Proofs.Ytebpimjbjjmpaaa
open Go.ChangeShapes Go.WideShapes Go.ChangeAt Go.RowKit Go.Sort BigFrame

theorem names_few (e : List Tm) : ∀ i, (namesF e i).length ≤ i
  | 0 => Nat.le_refl _
  | i + 1 => by
    have := names_few e i
    simp only [namesF]
    split
    · split
      · rw [List.length_append, List.length_singleton]; omega
      · omega
    · omega
/-- The names, the marks and whether they stand apart. -/
structure NAt (W : World) (g : Nat) (f : Nat → Bool) (n : Nat) (v : Value) (l : List (List UInt8)) (u : World) : Prop where
  row : Grows txC 1 9 W W.heap.size v l u
  marks : u.heap[g]? = some (.cells (boolC f n).toArray 4 (0, 0))
theorem NAt.next {W u u1 : World} {g n : Nat} {f : Nat → Bool} {v : Value} {l : List (List UInt8)} (h : NAt W g f n v l u) (hm : Made u u1) : NAt W g f n v l u1 := ⟨h.row.next hm, hm.heap h.marks⟩
theorem NAt.more {W u u1 : World} {g n k : Nat} {f : Nat → Bool} {v v1 : Value} {l : List (List UInt8)} {t : List UInt8} (h : NAt W g f n v l u) (hn : l.length + [t].length = k) (own : u1.ownsRow W.heap.size 9 1 v1 k (l.flatMap txC ++ [t].flatMap txC)) (gr : u.grownBy u1 v.ownBlock) : NAt W g f n v1 (l ++ [t]) u1 :=
  ⟨h.row.more hn own gr, (gr.block g (heap_lt h.marks) fun e => q_far h.row.row h.marks (by decide) g e.symm rfl).trans h.marks⟩
theorem NAt.mark {W u : World} {g n : Nat} {f : Nat → Bool} {v : Value} {l : List (List UInt8)} (h : NAt W g f n v l u) {j : Nat} (hj : j < n) : u.cell? ⟨g, j, none⟩ = some (.bool (f j)) := (cell_of_lit h.marks j).trans (boolC_at f hj)
section
attribute [local irreducible] World.cell?
set_option maxRecDepth 100000 in
set_option maxHeartbeats 32000000 in
theorem rnames_any (ao : Option Addr) (cap : Nat) (e : List Tm) (w : World) (hT : Tms w ao cap e) (hl : e.length ≤ 10000) : Calls Try.prog 24 #[.slice ao e.length cap] w (NamesSays w (namesL e)) := by
  have HT := Lib.hid hT
  have HRT := Lib.hid (rright_any w ao cap e hT (by omega) w (Made.refl w))
  cases hr : rightB e with
  | false =>
    have HR := Lib.hid (show namesL e = [] by unfold namesL; rw [hr]; rfl)
    rewrite [hr] at HRT
    clear hr hT
    go_enter Try.func24, Try.ntmps24
    go_wp2_with (fail)
    refine HRT.out.mono ?_
    rintro x w1 ⟨rfl, hm1⟩
    go_wp2
    rewrite [HR.out]
    go_ret
    exact ⟨none, 0, rfl, recs_none _, hm1⟩
  | true =>
    have hok : okFrom 0 e = true := by
      have h9 := hr
      unfold rightB at h9
      rw [Bool.and_eq_true] at h9
      exact h9.1
    have HUS := Lib.hid (fun u (hu : Made w u) => rused_any w ao cap e hT (by omega) hok u hu)
    have HNL := Lib.hid (show namesL e = namesF e e.length by unfold namesL; rw [hr]; rfl)
    have HI := Lib.hid (info_parts str_row)
    rewrite [hr] at HRT
    clear hr hT hok
    go_enter Try.func24, Try.ntmps24
    go_wp2_with (fail)
    refine HRT.out.mono ?_
    rintro x w1 ⟨rfl, hm1⟩
    have M1 := Lib.hid hm1
    clear hm1
    go_wp2_with (fail)
    refine (HUS.out _ M1.out).mono ?_
    rintro x w2 ⟨g, rfl, hU⟩
    have K0 := Lib.hid (show NAt w g (usedB e) e.length (.slice none 0 0) [] w2 from ⟨grows_nil hU.made (Nat.le_refl _), hU.blk⟩)
    clear hU M1 HRT HUS
    go_wp2_with (fail)
    go_loopw [3, 5] (fun nv iv wr => ∃ k : Nat, k ≤ e.length ∧ iv = .int .i64 k ∧ NAt w g (usedB e) e.length nv (namesF e k) wr) (fun _ iv _ => e.length - (intOf iv).toNat)
    case atStart => exact ⟨0, Nat.zero_le _, rfl, K0.out⟩
    case round =>
      clear K0 w2
      obtain ⟨k, hk, rfl, hN⟩ := hrel
      obtain ⟨so, c, rfl, hrec⟩ := hN.row.recs tx_len (by decide)
      have KN := Lib.hid hN
      have HRC := Lib.hid hrec
      have hfew := names_few e k
      clear hN hrec
      by_cases hk1 : k < e.length
      rotate_left
      · obtain rfl : k = e.length := by omega
        go_wp2
        rewrite [HNL.out]
        go_ret
        exact ⟨so, c, rfl, HRC.out, KN.out.row.made⟩
      · obtain ⟨t, ht⟩ : ∃ t, e[k] = t := ⟨_, rfl⟩
        have HTM := Lib.hid (fun u (hu : Made w u) => tms_cells (HT.out.made tm_len hu) hk1 t ht)
        have HST := Lib.hid (show namesF e (k + 1) = if usedB e k = true ∧ t.kind = 2 ∧ t.name ∉ namesF e k then namesF e k ++ [t.name] else namesF e k by simp only [namesF, List.getElem?_eq_getElem hk1, ht])
        have hki : (k : Int) < (e.length : Int) := by omega
        have hen : (e.length : Int) ≤ 10000 := by omega
        obtain ⟨tb, o, rfl, -, -, -, -, -⟩ := HTM.out wr KN.out.row.made
        clear ht
        obtain ⟨tk, tv, tn, ta, tbb⟩ := t
        generalize namesF e k = l at *
        obtain ⟨wo, hwo⟩ : ∃ wo, wo = wr := ⟨_, rfl⟩
        subst hwo
        go_wp2_with (fail)
        go_loopw [6, 7] (fun bv jv wz => ∃ (j nd : Nat) (b : Bool), j ≤ l.length ∧ bv = .bool b ∧ jv = .int .i64 j ∧ b = decide (tn ∈ l.take j) ∧ wz = wo.drewN nd) (fun _ jv _ => l.length - (intOf jv).toNat)
        case atStart => exact ⟨0, 0, false, Nat.zero_le _, rfl, rfl, by simp, rfl⟩
        case round =>
          obtain ⟨j, nd, b, hj, rfl, rfl, hb, hwq⟩ := hrel
          have HB := Lib.hid hb
          have HW := Lib.hid hwq
          have MQ := Lib.hid (show Made wo wr from hwq ▸ below_drewN (Made.refl wo) nd)
          clear hb hwq
          by_cases hj1 : j < l.length
          · obtain ⟨y, hy⟩ : ∃ y, l[j] = y := ⟨_, rfl⟩
            obtain ⟨nb, no, rfl, cy⟩ := txs_cell (HRC.out.made tx_len MQ.out) hj1 y hy
            obtain ⟨b', o', e', c0, c1, c2, c3, c4⟩ := HTM.out wr (Made.trans KN.out.row.made MQ.out)
            obtain ⟨rfl, rfl⟩ : tb = b' ∧ o = o' := by simpa using e'
            clear e'
            have hji : (j : Int) < (l.length : Int) := by omega
            have HNX := Lib.hid (show decide (tn ∈ l.take (j + 1)) = (b || (y == tn)) by
              rw [HB.out, List.take_succ_eq_append_getElem hj1, hy, Bool.eq_iff_iff]
              simp only [List.mem_append, List.mem_singleton, decide_eq_true_eq, Bool.or_eq_true, beq_iff_eq]
              exact ⟨fun h => h.imp id Eq.symm, fun h => h.imp id Eq.symm⟩)
            cases b with
            | true =>
              go_upto_region 12 with (fail)
              go_quiet (fail)
              go_wp2
              go_roundw
              case rel => exact ⟨j + 1, nd + nq, true, by omega, rfl, by go_num, by rw [HNX.out]; rfl, by rw [HW.out, World.drewN_drewN]⟩
              case measure => simp [intOf]; omega
            | false =>
              cases hyt : (y == tn) with
              | true =>
                go_upto_region 12 with (fail)
                go_quiet (fail)
                go_wp2
                go_roundw
                case rel => exact ⟨j + 1, nd + nq, true, by omega, rfl, by go_num, by rw [HNX.out, hyt]; rfl, by rw [HW.out, World.drewN_drewN]⟩
                case measure => simp [intOf]; omega
              | false =>
                go_upto_region 12 with (fail)
                go_quiet (fail)
                go_wp2
                go_roundw
                case rel => exact ⟨j + 1, nd + nq, false, by omega, rfl, by go_num, by rw [HNX.out, hyt]; rfl, by rw [HW.out, World.drewN_drewN]⟩
                case measure => simp [intOf]; omega
          · obtain rfl : j = l.length := by omega
            have KQ := Lib.hid (KN.out.next MQ.out)
            have hbm : b = decide (tn ∈ l) := by rw [HB.out, List.take_length]
            have HBM := Lib.hid hbm
            have cm := KQ.out.mark hk1
            obtain ⟨b', o', e', c0, c1, c2, c3, c4⟩ := HTM.out wr KQ.out.row.made
            obtain ⟨rfl, rfl⟩ : tb = b' ∧ o = o' := by simpa using e'
            clear e' hbm KN MQ HB HW
            cases hu : usedB e k with
            | false =>
              rewrite [hu] at cm
              have HE := Lib.hid (show namesF e (k + 1) = l by rw [HST.out, hu]; exact if_neg (fun h => by cases h.1))
              clear hu
              go_wp2
              go_roundw
              case rel => exact ⟨k + 1, by omega, by go_num, by rw [HE.out]; exact KQ.out⟩
              case measure => simp [intOf]; omega
            | true =>
              rewrite [hu] at cm
              by_cases h2 : tk = 2
              rotate_left
              · have g2 : (tk == 2) = false := beq_eq_false_iff_ne.2 h2
                have HE := Lib.hid (show namesF e (k + 1) = l by rw [HST.out]; exact if_neg (fun h => h2 h.2.1))
                clear hu h2
                go_wp2
                go_roundw
                case rel => exact ⟨k + 1, by omega, by go_num, by rw [HE.out]; exact KQ.out⟩
                case measure => simp [intOf]; omega
              · have g2 : (tk == 2) = true := beq_iff_eq.2 h2
                cases b with
                | true =>
                  have hin : tn ∈ l := of_decide_eq_true HBM.out.symm
                  have HE := Lib.hid (show namesF e (k + 1) = l by rw [HST.out]; exact if_neg (fun h => h.2.2 hin))
                  clear hu h2 hin
                  go_wp2
                  go_roundw
                  case rel => exact ⟨k + 1, by omega, by go_num, by rw [HE.out]; exact KQ.out⟩
                  case measure => simp [intOf]; omega
                | false =>
                  have hin : tn ∉ l := of_decide_eq_false HBM.out.symm
                  have HE := Lib.hid (show namesF e (k + 1) = l ++ [tn] by rw [HST.out]; exact if_pos ⟨hu, h2, hin⟩)
                  clear hu h2 hin
                  have KA := Lib.hid (KQ.out.next ((Made.refl wr).alloc (Nat.le_refl _) (.cells ([tn].flatMap txC).toArray 9)))
                  have HOL := Lib.hid (tx_olds wr tn)
                  have hsz := Lib.hid KA.out.row.made.size
                  have hmx : l.length + 1 ≤ maxLen := by unfold maxLen; omega
                  have hby : (l.length + 1) * 16 ≤ 140737488355328 := by omega
                  obtain ⟨i0, hi0, hz0, hz1, hz2⟩ := HI.out
                  go_wp2_with (at_builtin; refine wpList_append_each rfl (.tmp 55) (.tmp 61) 22 rfl w.heap.size 9 i0 (.string ⟨#[]⟩) 1 16 Try.underlying22 hi0 hz0 hz1 hz2 rfl (by decide) (.slice so l.length c) l.length (l.flatMap txC) rfl KA.out.row.row (some ⟨wr.heap.size, 0, none⟩) 1 1 ([tn].flatMap txC) rfl (fun h => by simp at h) rfl HOL.out (tx_one _) hmx hby hsz.out ?_; intro v7 w9 own1 gr1; have KG := Lib.hid (KA.out.more rfl own1 gr1); clear own1 gr1)
                  go_roundw
                  case rel => exact ⟨k + 1, by omega, by go_num, by rw [HE.out]; exact KG.out⟩
                  case measure => simp [intOf]; omega
end
end Go.Proofs.Ytebpimjbjjmpaaa
