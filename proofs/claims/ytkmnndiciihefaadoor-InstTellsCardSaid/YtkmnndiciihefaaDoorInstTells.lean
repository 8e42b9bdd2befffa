/- InstTells of the laws of inst returns true, for every instruction, in every world that holds the table of names. -/
import Derived.Test.YtkmnndiciihefaaDoorInstRefH
import Derived.Test.YtkmnndiciihefaaDoorInstLaws
namespace Go.Proofs.YtkmnndiciihefaaDoor
open Go.ChangeShapes Go.WideShapes Go.ChangeAt Go.RowKit Go.Sort BigFrame

theorem cond_kind (op : Int) : atB (opN op) 1 = (decide (kindZ op = 1) || decide (kindZ op = 3) || decide (kindZ op = 4) || decide (kindZ op = 12) || decide (kindZ op = 13)) := by
  by_cases h : op < 1 ∨ 31 < op
  · rw [kind_none op h]
    unfold opN isOp
    rw [if_neg (by simp; omega)]
    rfl
  · exact (kind_has (op := op) (by omega) (by omega)).cond
theorem writes_zero (x : In) (h : (writesP x).2 = false) : (writesP x).1 = 0 := by
  revert h
  unfold writesP
  cases rightB x <;> simp
  by_cases h1 : x.op = 29 <;> cases hasB (fieldsZ x.op) 3 <;> simp [h1]
theorem wpred_zero (x : In) (h : (wpredP x).2 = false) : (wpredP x).1 = 0 := by
  revert h
  unfold wpredP
  cases rightB x <;> cases hasB (fieldsZ x.op) 4 <;> simp
namespace instTells
section
attribute [local irreducible] World.cell?
set_option maxRecDepth 100000 in
set_option maxHeartbeats 8000000 in
theorem walk (W : World) (hN : Names W) (x : In) (w0 : x.small) : Calls Tryd.prog 4 #[x.val] W fun e w' => e = .returned (.bool true) ∧ Made W w' := by
  have HX := Lib.hid w0
  have hop0 := w0.op0
  have hop1 := w0.op1
  obtain ⟨r1, a, hA⟩ : ∃ r a, writesP x = (r, a) := ⟨_, _, rfl⟩
  obtain ⟨r2, b, hB⟩ : ∃ r a, wpredP x = (r, a) := ⟨_, _, rfl⟩
  obtain ⟨r3, f, g, hC⟩ : ∃ r a b, rpredP x = (r, a, b) := ⟨_, _, _, rfl⟩
  obtain ⟨r4, c, hT⟩ : ∃ r a, targetP x = (r, a) := ⟨_, _, rfl⟩
  have hz1 := writes_zero x
  have hz2 := wpred_zero x
  rw [hA] at hz1
  rw [hB] at hz2
  have Z1 := Lib.hid (hz1 : a = false → r1 = 0)
  have Z2 := Lib.hid (hz2 : b = false → r2 = 0)
  have HCK := Lib.hid (cond_kind x.op)
  have CT := Lib.hid (reads_counts x w0)
  have FA := Lib.hid (fun (u : World) (hu : Names u) => writes_any u hu x w0)
  have FA2 := Lib.hid (fun (u : World) => rwrites_any x w0 u)
  have FB := Lib.hid (fun (u : World) (hu : Names u) => writesPred_any u hu x w0)
  have FB2 := Lib.hid (fun (u : World) => rwritesPred_any x w0 u)
  have FC := Lib.hid (fun (u : World) (hu : Names u) => readsPred_any u hu x w0)
  have FC2 := Lib.hid (fun (u : World) => rreadsPred_any x w0 u)
  have FT := Lib.hid (fun (u : World) (hu : Names u) => target_any u hu x w0)
  have FT2 := Lib.hid (fun (u : World) => rtarget_any x w0 u)
  rewrite [hA] at FA FA2
  rewrite [hB] at FB FB2
  rewrite [hC] at FC FC2
  rewrite [hT] at FT FT2
  have FR := Lib.hid (fun (u : World) (hu : Names u) => right_any u hu x w0)
  have FR2 := Lib.hid (fun (u : World) => rright_any x w0 u)
  obtain ⟨l, hl⟩ : ∃ l, readsL x = l := ⟨_, rfl⟩
  have FM := Lib.hid (fun (u : World) => refReads.reads_any x w0 u)
  have FL := Lib.hid (fun (u : World) (hu : Names u) => reads_any u hu x w0 u (Made.refl u))
  rewrite [hl] at FM FL CT
  clear hl
  have FK := Lib.hid (fun (u : World) (hu : Names u) => class_any u hu x w0)
  have FK2 := Lib.hid (class_ref x.op hop0 hop1)
  have FD := Lib.hid (fun (u : World) (hu : Names u) => cond_in_any u hu x w0)
  have FD2 := Lib.hid (fun (u : World) => kind_ref x.op hop0 hop1 u)
  clear hA hB hC hT hz1 hz2 w0
  generalize rightB x = rb at *
  generalize classZ (opN x.op) = cl at *
  generalize atB (opN x.op) 1 = cd at *
  generalize kindZ x.op = k at *
  go_enter Tryd.func4, Tryd.ntmps4
  go_upto_region 1 with (fail)
  refine name_world (fun u => Own W W.heap.size x u) ⟨(Made.refl W).alloc (Nat.le_refl _) _, heap_alloc_new W _⟩ ?_
  intro u0 h0
  have K0 := Lib.hid h0
  clear h0
  go_cut [38] from 26 to 38 (fun v wc => v = .bool false ∧ Own W W.heap.size x wc)
  case first =>
    obtain ⟨a0, a1, a2, a3, a4, a5, a6, a7, a8, a9, a10⟩ := in_cells K0.out.in_
    have g0 := fun d os => cell_regrown a0 d os
    have g1 := fun d os => cell_regrown a1 d os
    have g2 := fun d os => cell_regrown a2 d os
    have g3 := fun d os => cell_regrown a3 d os
    have g4 := fun d os => cell_regrown a4 d os
    have g5 := fun d os => cell_regrown a5 d os
    have g6 := fun d os => cell_regrown a6 d os
    have g7 := fun d os => cell_regrown a7 d os
    have g8 := fun d os => cell_regrown a8 d os
    have g9 := fun d os => cell_regrown a9 d os
    have g10 := fun d os => cell_regrown a10 d os
    cases rb
    all_goals
      refine wp_region_quiet_below (by kernel_rfl) (by kernel_rfl) ?_
      repeat (go_big_quiet_step ((first
        | (go_at_call 11; exact (FR.out u0 (hN.made K0.out.made)).again _ _)
        | (go_at_call 16; exact (FR2.out u0).again _ _)
        | (go_at_call 13; exact (FK.out u0 (hN.made K0.out.made)).again _ _)
        | (go_at_call 17; exact (FK2.out.makes u0).again _ _))))
      refine wpQuiet_nil ?_
      intro u1 hw9
      have K1 := Lib.hid (K0.out.next (made_regrown hw9))
      go_wp2
      go_meet
      case rel => exact ⟨by simp, K1.out⟩
  case rest =>
    obtain ⟨rfl, hO⟩ := hcut
    generalize wc = u1 at *
    have K1 := Lib.hid hO
    clear hO
    obtain ⟨a0, a1, a2, a3, a4, a5, a6, a7, a8, a9, a10⟩ := in_cells K1.out.in_
    have hb := heap_lt K1.out.in_
    go_wp2_with (fail)
    refine (FD2.out u1 _ (Made.refl _)).mono ?_
    rintro e u2 ⟨rfl, h1⟩
    have K2 := Lib.hid (K1.out.next h1)
    clear h1 a0 a1 a2 a3 a4 a5 a6 a7 a8 a9 a10 hb
    obtain ⟨a0, a1, a2, a3, a4, a5, a6, a7, a8, a9, a10⟩ := in_cells K2.out.in_
    have hb := heap_lt K2.out.in_
    go_upto_region 4 with (fail)
    go_cut [62] from 42 to 62 (fun v wc => v = .bool false ∧ Own W W.heap.size x wc)
    case first =>
      go_wp2_with (fail)
      refine (FD.out u2 (hN.made K2.out.made) _ (Made.refl _)).mono ?_
      rintro e u3 ⟨rfl, h1⟩
      have K3 := Lib.hid (K2.out.next h1)
      have hcd := HCK.out
      clear h1 a0 a1 a2 a3 a4 a5 a6 a7 a8 a9 a10 hb
      have hk : k = 1 ∨ k = 3 ∨ k = 4 ∨ k = 12 ∨ k = 13 ∨ ((k == 1) = false ∧ (k == 3) = false ∧ (k == 4) = false ∧ (k == 12) = false ∧ (k == 13) = false) := by
        simp only [beq_eq_false_iff_ne]
        omega
      rcases hk with rfl | rfl | rfl | rfl | rfl | ⟨n1, n3, n4, n12, n13⟩
      case inr.inr.inr.inr.inr =>
        obtain rfl : cd = false := by
          rw [hcd]
          simp only [beq_eq_false_iff_ne] at n1 n3 n4 n12 n13
          simp [n1, n3, n4, n12, n13]
        clear hcd
        go_wp2
        go_meet
        case rel => exact ⟨by simp, K3.out⟩
      all_goals
        obtain rfl : cd = true := hcd
        go_wp2
        go_meet
        case rel => exact ⟨by simp, K3.out⟩
    case rest =>
      obtain ⟨rfl, hO⟩ := hcut
      generalize wc = u3 at *
      have K3 := Lib.hid hO
      clear hO a0 a1 a2 a3 a4 a5 a6 a7 a8 a9 a10 hb
      obtain ⟨a0, a1, a2, a3, a4, a5, a6, a7, a8, a9, a10⟩ := in_cells K3.out.in_
      have hb := heap_lt K3.out.in_
      go_wp2_with (fail)
      refine (FA.out u3 (hN.made K3.out.made) _ (Made.refl _)).mono ?_
      rintro e u4 ⟨rfl, h1⟩
      have K4 := Lib.hid (K3.out.next h1)
      clear h1 a0 a1 a2 a3 a4 a5 a6 a7 a8 a9 a10 hb
      obtain ⟨a0, a1, a2, a3, a4, a5, a6, a7, a8, a9, a10⟩ := in_cells K4.out.in_
      have hb := heap_lt K4.out.in_
      go_wp2_with (fail)
      refine (FA2.out u4 _ (Made.refl _)).mono ?_
      rintro e u5 ⟨rfl, h1⟩
      have K5 := Lib.hid (K4.out.next h1)
      clear h1 a0 a1 a2 a3 a4 a5 a6 a7 a8 a9 a10 hb
      obtain ⟨a0, a1, a2, a3, a4, a5, a6, a7, a8, a9, a10⟩ := in_cells K5.out.in_
      have hb := heap_lt K5.out.in_
      go_wp2_with (fail)
      refine (FB.out u5 (hN.made K5.out.made) _ (Made.refl _)).mono ?_
      rintro e u6 ⟨rfl, h1⟩
      have K6 := Lib.hid (K5.out.next h1)
      clear h1 a0 a1 a2 a3 a4 a5 a6 a7 a8 a9 a10 hb
      obtain ⟨a0, a1, a2, a3, a4, a5, a6, a7, a8, a9, a10⟩ := in_cells K6.out.in_
      have hb := heap_lt K6.out.in_
      go_wp2_with (fail)
      refine (FB2.out u6 _ (Made.refl _)).mono ?_
      rintro e u7 ⟨rfl, h1⟩
      have K7 := Lib.hid (K6.out.next h1)
      clear h1 a0 a1 a2 a3 a4 a5 a6 a7 a8 a9 a10 hb
      obtain ⟨a0, a1, a2, a3, a4, a5, a6, a7, a8, a9, a10⟩ := in_cells K7.out.in_
      have hb := heap_lt K7.out.in_
      go_wp2_with (fail)
      refine (FC.out u7 (hN.made K7.out.made) _ (Made.refl _)).mono ?_
      rintro e u8 ⟨rfl, h1⟩
      have K8 := Lib.hid (K7.out.next h1)
      clear h1 a0 a1 a2 a3 a4 a5 a6 a7 a8 a9 a10 hb
      obtain ⟨a0, a1, a2, a3, a4, a5, a6, a7, a8, a9, a10⟩ := in_cells K8.out.in_
      have hb := heap_lt K8.out.in_
      go_wp2_with (fail)
      refine (FC2.out u8 _ (Made.refl _)).mono ?_
      rintro e u9 ⟨rfl, h1⟩
      have K9 := Lib.hid (K8.out.next h1)
      clear h1 a0 a1 a2 a3 a4 a5 a6 a7 a8 a9 a10 hb
      obtain ⟨a0, a1, a2, a3, a4, a5, a6, a7, a8, a9, a10⟩ := in_cells K9.out.in_
      have hb := heap_lt K9.out.in_
      go_wp2_with (fail)
      refine (FT.out u9 (hN.made K9.out.made) _ (Made.refl _)).mono ?_
      rintro e u10 ⟨rfl, h1⟩
      have K10 := Lib.hid (K9.out.next h1)
      clear h1 a0 a1 a2 a3 a4 a5 a6 a7 a8 a9 a10 hb
      obtain ⟨a0, a1, a2, a3, a4, a5, a6, a7, a8, a9, a10⟩ := in_cells K10.out.in_
      have hb := heap_lt K10.out.in_
      go_wp2_with (fail)
      refine (FT2.out u10 _ (Made.refl _)).mono ?_
      rintro e u11 ⟨rfl, h1⟩
      have K11 := Lib.hid (K10.out.next h1)
      clear h1 a0 a1 a2 a3 a4 a5 a6 a7 a8 a9 a10 hb
      obtain ⟨a0, a1, a2, a3, a4, a5, a6, a7, a8, a9, a10⟩ := in_cells K11.out.in_
      have hb := heap_lt K11.out.in_
      go_upto_region 14 with (fail)
      go_cut [169] from 105 to 169 (fun v wc => v = .bool false ∧ Own W W.heap.size x wc)
      case first =>
        cases a <;> cases b
        · obtain rfl := Z1.out rfl
          obtain rfl := Z2.out rfl
          go_wp2
          go_meet
          case rel => exact ⟨by simp, K11.out⟩
        · obtain rfl := Z1.out rfl
          go_wp2
          go_meet
          case rel => exact ⟨by simp, K11.out⟩
        · obtain rfl := Z2.out rfl
          go_wp2
          go_meet
          case rel => exact ⟨by simp, K11.out⟩
        · go_wp2
          go_meet
          case rel => exact ⟨by simp, K11.out⟩
      case rest =>
        obtain ⟨rfl, hO⟩ := hcut
        generalize wc = u12 at *
        have K12 := Lib.hid hO
        clear hO a0 a1 a2 a3 a4 a5 a6 a7 a8 a9 a10 hb
        obtain ⟨a0, a1, a2, a3, a4, a5, a6, a7, a8, a9, a10⟩ := in_cells K12.out.in_
        have hb := heap_lt K12.out.in_
        go_wp2_with (fail)
        refine (FM.out u12 _ (Made.refl _)).mono ?_
        rintro e u13 ⟨rfl, h1⟩
        have K13 := Lib.hid (K12.out.next h1)
        clear h1 a0 a1 a2 a3 a4 a5 a6 a7 a8 a9 a10 hb
        go_upto_region 17 with (refine wpList_store_row rfl 40 (.tmp 22) (.tmp 171) rfl u13.heap.size (markL l).toArray (by rfl) (by rfl) 40 (markL []).toArray (heap_alloc_new u13 _) (by simpa [markL] using refReads.info_marks) (by simp [markL]) (all_oneCell_toArray (markL_one _)) ?_)
        refine name_world (fun u => Own W W.heap.size x u ∧ u.heap[u13.heap.size]? = some (.cells (markL l).toArray 40 (0, 0))) ⟨K13.out.next (below_setRow ((Made.refl u13).alloc (Nat.le_refl _) _) (Nat.le_refl _) _), setRow_heap _ _ _ _ _ _ (heap_alloc_new u13 (.cells (markL []).toArray 40))⟩ ?_
        rintro u14 ⟨hO, hM⟩
        have K14 := Lib.hid hO
        have M14 := Lib.hid hM
        clear hO hM
        generalize u13.heap.size = mb at *
        obtain ⟨a0, a1, a2, a3, a4, a5, a6, a7, a8, a9, a10⟩ := in_cells K14.out.in_
        have hb := heap_lt K14.out.in_
        go_wp2_with (fail)
        refine (FL.out u14 (hN.made K14.out.made)).mono ?_
        rintro e u15 ⟨p, cap, rfl, h1, hreg⟩
        have K15 := Lib.hid (K14.out.next h1)
        have M15 := Lib.hid (h1.heap M14.out)
        have RG := Lib.hid hreg
        have hlm := heap_lt (h1.heap M14.out)
        clear h1 hreg a0 a1 a2 a3 a4 a5 a6 a7 a8 a9 a10 hb
        have hfew := CT.out.few
        go_wp2_with (fail)
        go_loopw [24, 25] (fun at_ r wr => ∃ n : Nat, n ≤ 32 ∧ r = .int .i64 n ∧ at_ = .int .i64 (cnt l n) ∧ wr = u15) (fun _ r _ => 32 - (intOf r).toNat)
        case atStart => exact ⟨0, Nat.zero_le _, rfl, by rw [CT.out.zero]; rfl, rfl⟩
        case round =>
          obtain ⟨n, hn, rfl, rfl, rfl⟩ := hrel
          by_cases hlt : n < 32
          · have hm : wr.cell? ⟨mb, n, none⟩ = some (.bool (markB l n)) := (cell_of_lit M15.out n).trans (markL_at l n hlt)
            have hst := Lib.hid (CT.out.step n hlt)
            have hle := CT.out.le n hn
            have hhere := Lib.hid (CT.out.here n hlt)
            have hn0 : (0 : Int) ≤ (n : Int) := Int.natCast_nonneg _
            have hni : (n : Int) < 32 := by omega
            cases hmk : markB l n with
            | false =>
              rewrite [hmk] at hm
              have HMK := Lib.hid hmk
              clear hmk
              go_wp2
              go_roundw
              case rel => exact ⟨n + 1, by omega, by go_num, by rw [hst.out, HMK.out]; rfl, trivial⟩
              case measure => simp [intOf]; omega
            | true =>
              rewrite [hmk] at hm
              have HMK := Lib.hid hmk
              have hq := hhere.out hmk
              obtain ⟨hql, hqe⟩ := List.getElem?_eq_some_iff.1 hq
              have hcell : ∃ g, p = some ⟨g, 0, none⟩ ∧ g < wr.heap.size ∧ l.length ≤ cap ∧ cap ≤ maxLen ∧ wr.cell? ⟨g, cnt l n, none⟩ = some (.int .u8 n) := by
                rcases RG.out with h | ⟨g, hp, hg, hc1, hc2, hc⟩
                · rw [h] at hql; simp at hql
                · exact ⟨g, hp, hg, hc1, hc2, by rw [hc _ hql, hqe]⟩
              obtain ⟨g, rfl, hg, hc1, hc2, hcell⟩ := hcell
              unfold maxLen at hc2
              have hst2 := Lib.hid (show cnt l (n + 1) = cnt l n + 1 by rw [hst.out, HMK.out]; rfl)
              clear hmk hq hqe hst hhere
              generalize cnt l n = q at *
              have hqi : (q : Int) < (l.length : Int) := by omega
              have hq0 : (0 : Int) ≤ (q : Int) := Int.natCast_nonneg _
              go_wp2
              go_roundw
              case rel => exact ⟨n + 1, by omega, by go_num, by rw [hst2.out]; go_num, trivial⟩
              case measure => simp [intOf]; omega
          · obtain rfl : n = 32 := by omega
            rewrite [CT.out.all]
            go_wp2_with (fail)
            refine (awake_any _ (hN.made K15.out.made) _ (Made.refl _)).mono ?_
            rintro e u16 ⟨rfl, h1⟩
            have M16 := Lib.hid (Made.trans K15.out.made h1)
            clear h1
            go_wp2
            go_ret
            exact ⟨rfl, M16.out⟩
end
end instTells
end Go.Proofs.YtkmnndiciihefaaDoor
