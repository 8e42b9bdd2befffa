/- ExprKnown walked; no condition. -/
import Derived.Test.YtebpimjbjjmpaaaExprSame
namespace Go.Proofs.Ytebpimjbjjmpaaa
open Go.ChangeShapes Go.WideShapes Go.ChangeAt Go.RowKit Go.Sort BigFrame

/-- The texts, where their reading ends, and why. -/
def knL : List (List UInt8) := [[49, 32, 43], [41], [49, 32, 50], [40, 32, 49], [], [42, 32, 49], [49, 32, 61, 32, 50], [49, 32, 43, 32, 42, 32, 50], List.replicate 16 40 ++ [49], List.replicate 17 40 ++ [49], List.replicate 17 45 ++ [49]]
def knP : List Int := [2, 0, 1, 2, 0, 0, 1, 2, 17, 16, 16]
def knE : List Int := [8, 8, 0, 8, 8, 8, 0, 8, 8, 3, 3]
def knR (l : List UInt8) : Option (Int × Int × Nat) := (pf 200 .sum 0 (Ts l)).map fun r => match r with
  | .ok a r => (((Ts l).length : Int) - r.length, 0, a.size)
  | .bad r w => (((Ts l).length : Int) - r.length, w, 0)
theorem kn_all : ∀ k : Fin 11, knR (knL.getD k.val []) = some (knP.getD k.val 0, knE.getD k.val 0, if knE.getD k.val 0 = 0 then 1 else 0) ∧ (knL.getD k.val []).length ≤ 20 := by decide +kernel
theorem kn_parse (l : List UInt8) (hl : l.length ≤ 20) (p e : Int) (s : Nat) (h : knR l = some (p, e, s)) (so : Option Addr) (c : Nat) (u : World) (hT : Toks u so c (cutT l)) :
    Calls Try.prog 9 #[.slice so (cutT l).length c] u fun x u' => ∃ so2 c2, x = .returned (.tuple #[.slice so2 s c2, .int .i64 p, .int .i64 e]) ∧ Made u u' := by
  obtain ⟨res, hr, hv⟩ := Option.map_eq_some_iff.1 h
  have hfw := cutT_few l
  refine (xparse_any so c (cutT l) u hT (by omega) (fun t ht => by have := lex_text l t (List.mem_of_mem_take ht); omega) res (by rw [cutT_q]; exact pf_sound _ _ _ _ _ hr)).mono ?_
  intro x u' hq
  cases res with
  | ok a r =>
    obtain ⟨s2, c2, rfl, -, hm⟩ := hq
    simp only [Prod.mk.injEq] at hv
    obtain ⟨rfl, rfl, rfl⟩ := hv
    exact ⟨s2, c2, by rw [cutT_q], hm⟩
  | bad r wy =>
    obtain ⟨rfl, hm⟩ := hq
    simp only [Prod.mk.injEq] at hv
    obtain ⟨rfl, rfl, rfl⟩ := hv
    exact ⟨none, 0, by rw [cutT_q], hm⟩
theorem run_equalIn_nil_nil (w : World) (d : Nat) : (Op.equalIn (d + 1) 32 .nilFunc .nilFunc).run Try.prog w = .ok true w := by
  simp [Op.equalIn, run_underlying Try.underlying32]
theorem run_nil_nil (w : World) : (binOp .eql 32 .nilFunc .nilFunc).run Try.prog w = .ok (.bool true) w := by
  simp only [binOp]
  simp [Op.equal, Op.maxDepth, run_equalIn_nil_nil w 9999]
section
attribute [local irreducible] World.cell?
set_option maxRecDepth 100000 in
set_option maxHeartbeats 4000000 in
theorem xeval_nil (W : World) (ao : Option Addr) (cap : Nat) (e : List Tm) (hT : Tms W ao cap e) (hl : e.length ≤ 10000) : Makes Try.prog W 12 #[.slice ao e.length cap, .nilFunc] (.tuple #[.int .i64 0, .int .i64 1]) := by
  intro w hm
  have HRT := Lib.hid (xright_any W ao cap e hT hl w hm)
  have hop := fun u => run_nil_nil u
  clear hT hm
  cases hr : rightB e with
  | false =>
    rewrite [hr] at HRT
    clear hr
    go_enter Try.func12, Try.ntmps12
    go_wp2_with (fail)
    refine HRT.out.mono ?_
    rintro x w1 ⟨rfl, hm1⟩
    have M1 := Lib.hid hm1
    clear hm1
    go_wp2
    refine bodyPost_ret (v := .tuple #[.int .i64 0, .int .i64 1]) (by simp [results, Try.results12, go_sem]) rfl ?_
    exact ⟨rfl, M1.out⟩
  | true =>
    rewrite [hr] at HRT
    clear hr
    go_enter Try.func12, Try.ntmps12
    go_wp2_with (fail)
    refine HRT.out.mono ?_
    rintro x w1 ⟨rfl, hm1⟩
    have M1 := Lib.hid hm1
    clear hm1
    go_wp2
    refine bodyPost_ret (v := .tuple #[.int .i64 0, .int .i64 1]) (by simp [results, Try.results12, go_sem]) rfl ?_
    exact ⟨rfl, M1.out⟩
end
/-- The three tables. -/
structure KnAt (W : World) (b : Nat) (w : World) : Prop where
  made : Made W w
  txt : w.heap[b]? = some (.cells (knL.map fun l => Value.string (strOf l)).toArray 9 (0, 0))
  plc : w.heap[b + 1]? = some (.cells (knP.map fun p => Value.int .i64 p).toArray 3 (0, 0))
  err : w.heap[b + 2]? = some (.cells (knE.map fun p => Value.int .i64 p).toArray 24 (0, 0))
theorem KnAt.next {W w w1 : World} {b : Nat} (h : KnAt W b w) (hm : Made w w1) : KnAt W b w1 := ⟨Made.trans h.made hm, hm.heap h.txt, hm.heap h.plc, hm.heap h.err⟩
theorem kn_cells {W w : World} {b k : Nat} (h : KnAt W b w) (hk : k < 11) : w.cell? ⟨b, k, none⟩ = some (.string (strOf (knL.getD k []))) ∧ w.cell? ⟨b + 1, k, none⟩ = some (.int .i64 (knP.getD k 0)) ∧ w.cell? ⟨b + 2, k, none⟩ = some (.int .i64 (knE.getD k 0)) := by
  refine ⟨(cell_of_lit h.txt k).trans ?_, (cell_of_lit h.plc k).trans ?_, (cell_of_lit h.err k).trans ?_⟩
  all_goals
    rw [List.getElem?_map, List.getD_eq_getElem?_getD, List.getElem?_eq_getElem (by simpa [knL, knP, knE] using hk)]
    rfl
/-- a * a, with a name that is not used. -/
def knS : List Tm := [⟨2, 0, [97], 0, 0⟩, ⟨2, 0, [122], 0, 0⟩, ⟨5, 0, [], 0, 0⟩]
def knN : List Nm := [⟨[97], 3, 0⟩]
theorem knN_64 (s : List UInt8) : -9223372036854775808 ≤ (askL knN s).1 ∧ (askL knN s).1 ≤ 9223372036854775807 := by
  simp only [knN, askL]
  split
  · exact ⟨by decide, by decide⟩
  · exact ⟨by decide, by decide⟩
namespace exprKnown
section
attribute [local irreducible] World.cell?
set_option maxRecDepth 100000 in
set_option maxHeartbeats 64000000 in
theorem walk (W : World) : Calls Try.prog 3 #[] W fun e w' => e = .returned (.bool true) ∧ Made W w' := by
  have HA := Lib.hid (fun (u : World) (hu : Made W u) => awake15_any W u hu)
  have HCUT := Lib.hid (fun (l : List UInt8) (hl : l.length ≤ 20) u => cut_any (strOf l) l rfl (by omega) u)
  go_enter Try.func3, Try.ntmps3
  go_upto_region 4 with (fail)
  have K0 := Lib.hid (show KnAt W W.heap.size (((W.alloc (.cells (knL.map fun l => Value.string (strOf l)).toArray 9)).alloc (.cells (knP.map fun p => Value.int .i64 p).toArray 3)).alloc (.cells (knE.map fun p => Value.int .i64 p).toArray 24)) from by
    have m1 : Made W (W.alloc (.cells (knL.map fun l => Value.string (strOf l)).toArray 9)) := (Made.refl W).alloc (Nat.le_refl _) _
    have m2 := m1.alloc m1.size (.cells (knP.map fun p => Value.int .i64 p).toArray 3)
    have m3 := m2.alloc m2.size (.cells (knE.map fun p => Value.int .i64 p).toArray 24)
    refine ⟨m3, ?_, ?_, heap_at (by simp)⟩
    · exact (heap_alloc_old _ _ (by simp; omega)).trans ((heap_alloc_old _ _ (by simp)).trans (heap_alloc_new W _))
    · exact (heap_alloc_old _ _ (by simp)).trans (heap_at (by simp)))
  refine world_named (fun u => KnAt W W.heap.size u) K0.out ?_
  intro u0 hu0
  have K1 := Lib.hid hu0
  clear hu0 K0
  generalize W.heap.size = b at *
  go_wp2_with (fail)
  go_loopw [4] (fun iv wr => ∃ k : Nat, k ≤ 11 ∧ iv = .int .i64 k ∧ KnAt W b wr) (fun iv _ => 11 - (intOf iv).toNat)
  case atStart => exact ⟨0, Nat.zero_le _, rfl, K1.out⟩
  case round =>
    clear K1
    obtain ⟨k, hk, rfl, hK⟩ := hrel
    have KW := Lib.hid hK
    clear hK
    by_cases hlt : k < 11
    · obtain ⟨d0, d1, d2⟩ := kn_cells KW.out hlt
      obtain ⟨hkr, hkl⟩ := kn_all ⟨k, hlt⟩
      simp only [] at hkr hkl
      have hki : (k : Int) < 11 := by omega
      obtain ⟨l, hl⟩ : ∃ l, knL.getD k [] = l := ⟨_, rfl⟩
      obtain ⟨pz, hp⟩ : ∃ pz, knP.getD k 0 = pz := ⟨_, rfl⟩
      obtain ⟨ez, he⟩ : ∃ ez, knE.getD k 0 = ez := ⟨_, rfl⟩
      rewrite [hl, hp, he] at hkr
      rewrite [hl] at hkl d0
      have HEQ := Lib.hid (And.intro hp he)
      clear d1 d2 hl hp he
      have HC := Lib.hid (HCUT.out l hkl)
      have HPA := Lib.hid (fun so c u (hT : Toks u so c (cutT l)) => kn_parse l hkl pz ez _ hkr so c u hT)
      clear hkr hkl
      go_wp2_with (fail)
      refine (HC.out _).mono ?_
      rintro x w1 ⟨so, c, rfl, hT1, h1⟩
      have KT := Lib.hid hT1
      have K1 := Lib.hid (KW.out.next h1)
      clear hT1 h1 KW d0 HC
      go_wp2_with (fail)
      refine (HPA.out so c _ KT.out).mono ?_
      rintro x w2 ⟨s2, c2, rfl, h2⟩
      have K2 := Lib.hid (K1.out.next h2)
      clear h2 K1 HPA
      obtain ⟨-, d1, d2⟩ := kn_cells K2.out hlt
      rewrite [HEQ.out.1] at d1
      rewrite [HEQ.out.2] at d2
      by_cases he : ez = 0
      · have g1 : (ez == 0) = true := beq_iff_eq.2 he
        have g2 : (ez != 0) = false := bne_eq_false_iff_eq.2 he
        rewrite [if_pos he]
        clear he
        go_wp2
        go_roundw
        case rel => exact ⟨k + 1, by omega, by go_num, K2.out⟩
        case measure => simp [intOf]; omega
      · have g1 : (ez == 0) = false := beq_eq_false_iff_ne.2 he
        have g2 : (ez != 0) = true := bne_iff_ne.2 he
        rewrite [if_neg he]
        clear he
        go_wp2
        go_roundw
        case rel => exact ⟨k + 1, by omega, by go_num, K2.out⟩
        case measure => simp [intOf]; omega
    · obtain rfl : k = 11 := by omega
      have M0 := Lib.hid KW.out.made
      clear KW
      have H1 := Lib.hid (of_lit [49, 48, 57, 57, 53, 49, 49, 54, 50, 55, 55, 55, 54, 32, 43, 32, 49] 100 0 6 (by decide +kernel) (by decide))
      have H2 := Lib.hid (of_lit [99] 100 0 4 (by decide +kernel) (by decide))
      have H3 := Lib.hid (of_lit [49, 48, 57, 57, 53, 49, 49, 54, 50, 55, 55, 55, 54, 32, 42, 32, 49, 48, 57, 57, 53, 49, 49, 54, 50, 55, 55, 55, 54] 100 0 6 (by decide +kernel) (by decide))
      have g11 : ¬ (((11 : Nat) : Int) < 11) := by decide
      go_wp2_with (fail)
      refine (H1.out W _ M0.out).mono ?_
      rintro x w1 ⟨rfl, h1⟩
      have M1 := Lib.hid h1
      clear h1 M0
      go_wp2_with (fail)
      refine (H2.out W _ M1.out).mono ?_
      rintro x w2 ⟨rfl, h2⟩
      have M2 := Lib.hid h2
      clear h2 M1
      go_wp2_with (fail)
      refine (H3.out W _ M2.out).mono ?_
      rintro x w3 ⟨rfl, h3⟩
      have M3 := Lib.hid h3
      clear h3 M2
      go_wp2_with (fail)
      refine (mkby_any none 0 0 w3).mono ?_
      rintro x w4 ⟨rfl, hw4⟩
      have c4 : w4.heap[w3.heap.size]? = some (.cells #[.slice none ([] : List Nm).length 0] 39 (0, 0)) := by rw [hw4]; exact heap_alloc_new w3 _
      have M4 := Lib.hid (Made.trans M3.out (show Made w3 w4 from by rw [hw4]; exact (Made.refl w3).alloc (Nat.le_refl _) _))
      have HE1 := Lib.hid (xeval_any w4 none 0 [] (recs_none _) (by decide) _ _ (askL []) _ (fun _ => False) (by_asks w4 none 0 [] (recs_none _) (by decide) w3.heap.size _ c4) ⟨fun _ h => h, Made.refl w4⟩ (fun s => ⟨show (-9223372036854775808 : Int) ≤ 0 by decide, show (0 : Int) ≤ 9223372036854775807 by decide⟩))
      clear hw4 c4 M3
      go_wp2_with (fail)
      refine HE1.out.mono ?_
      rintro x w5 ⟨rfl, F', ⟨hF', hm5⟩, -, -⟩
      have M5 := Lib.hid (Made.trans M4.out hm5)
      rewrite [show evL (askL []) [] = (0, 1) from rfl]
      clear hm5 hF' M4 HE1
      have m6 : Made w5 (w5.alloc (.cells ([(⟨1, 0, [], 0, 0⟩ : Tm)].flatMap Tm.cells).toArray TE)) := (Made.refl w5).alloc (Nat.le_refl _) _
      have HE2 := Lib.hid (xeval_nil (w5.alloc (.cells ([(⟨1, 0, [], 0, 0⟩ : Tm)].flatMap Tm.cells).toArray TE)) (some ⟨w5.heap.size, 0, none⟩) 1 [⟨1, 0, [], 0, 0⟩] (recs_lit (n := 1) tm_len (heap_alloc_new w5 _) rfl (by decide)) (by decide) _ (Made.refl _))
      have M6 := Lib.hid (Made.trans M5.out m6)
      clear m6 M5
      go_wp2_with (fail)
      refine HE2.out.mono ?_
      rintro x w7 ⟨rfl, h7⟩
      have M7 := Lib.hid (Made.trans M6.out h7)
      clear h7 M6 HE2
      have m8 : Made w7 (w7.alloc (.cells (knS.flatMap Tm.cells).toArray TE)) := (Made.refl w7).alloc (Nat.le_refl _) _
      have HX8 := Lib.hid (show Made W (w7.alloc (.cells (knS.flatMap Tm.cells).toArray TE)) ∧ Tms (w7.alloc (.cells (knS.flatMap Tm.cells).toArray TE)) (some ⟨w7.heap.size, 0, none⟩) 3 knS from ⟨Made.trans M7.out m8, recs_lit tm_len (heap_alloc_new w7 _) rfl (by decide)⟩)
      clear m8 M7
      go_upto_region 16 with (fail)
      refine world_named (fun u => Made W u ∧ Tms u (some ⟨w7.heap.size, 0, none⟩) 3 knS) HX8.out ?_
      rintro w8 ⟨h8, hT8⟩
      have M8 := Lib.hid h8
      have T8 := Lib.hid hT8
      clear h8 hT8 HX8
      generalize w7.heap.size = sb at *
      go_wp2_with (fail)
      refine (mkby_any _ _ _ _).mono ?_
      rintro x w9 ⟨rfl, hw9⟩
      have b9 : w9.heap[w8.heap.size]? = some (.cells (knN.flatMap Nm.cells).toArray 38 (0, 0)) := by rw [hw9]; exact heap_alloc2_old w8 _ _
      have c9 : w9.heap[w8.heap.size + 1]? = some (.cells #[.slice (some ⟨w8.heap.size, 0, none⟩) knN.length 1] 39 (0, 0)) := by rw [hw9]; exact heap_alloc2_new w8 _ _
      have m9 : Made w8 w9 := by rw [hw9]; exact ((Made.refl w8).alloc (Nat.le_refl _) _).alloc (by simp only [World.size_alloc]; omega) _
      have T9 := Lib.hid (T8.out.made tm_len m9)
      have HE3 := Lib.hid (xeval_any w9 (some ⟨sb, 0, none⟩) 3 knS T9.out (by decide) _ _ _ _ (fun _ => False) (by_asks w9 _ 1 knN (recs_lit nm_len b9 rfl (by decide)) (by decide) _ _ c9) ⟨fun _ h => h, Made.refl w9⟩ knN_64)
      have M9 := Lib.hid (Made.trans M8.out m9)
      simp only [World.size_alloc]
      clear hw9 b9 c9 m9 M8 T8
      go_wp2_with (fail)
      refine HE3.out.mono ?_
      rintro x w10 ⟨rfl, F', ⟨hF', hm10⟩, -, -⟩
      have M10 := Lib.hid (Made.trans M9.out hm10)
      have T10 := Lib.hid (T9.out.made tm_len hm10)
      rewrite [show evL (askL knN) knS = (9, 0) from by decide +kernel]
      clear hm10 hF' M9 T9 HE3
      have m11 : Made w10 (w10.alloc (.cells ([(⟨2, [], -1, 0, 0⟩ : Tk)].flatMap Tk.cells).toArray TN)) := (Made.refl w10).alloc (Nat.le_refl _) _
      have HP := Lib.hid (xparse_any (some ⟨w10.heap.size, 0, none⟩) 1 [⟨2, [], -1, 0, 0⟩] (w10.alloc (.cells ([(⟨2, [], -1, 0, 0⟩ : Tk)].flatMap Tk.cells).toArray TN)) (recs_lit (n := 1) tk_len (heap_alloc_new w10 _) rfl (by decide)) (by decide) (fun t ht => by rw [List.mem_singleton] at ht; subst ht; decide) (.bad [⟨2, [], -1⟩] 8) (pf_sound 20 _ _ _ _ rfl))
      have M11 := Lib.hid (Made.trans M10.out m11)
      have T11 := Lib.hid (T10.out.made tm_len m11)
      clear m11 M10 T10
      go_wp2_with (fail)
      refine HP.out.mono ?_
      rintro x w12 ⟨rfl, h12⟩
      have M12 := Lib.hid (Made.trans M11.out h12)
      have T12 := Lib.hid (T11.out.made tm_len h12)
      rewrite [show ((([(⟨2, [], -1, 0, 0⟩ : Tk)].map Tk.q).length : Nat) : Int) - (([(⟨2, [], -1⟩ : Tq)].length : Nat) : Int) = 0 from rfl]
      clear h12 M11 T11 HP
      have HNM := Lib.hid (xnames_any (some ⟨sb, 0, none⟩) 3 knS w12 T12.out (by decide) (by decide))
      rewrite [show namesL knS = [[97]] from by decide +kernel] at HNM
      go_wp2_with (fail)
      refine HNM.out.mono ?_
      rintro x w13 ⟨so, c, rfl, hX, h13⟩
      have m14 : Made w13 (w13.alloc (.cells (([[97]] : List (List UInt8)).flatMap txC).toArray 9)) := (Made.refl w13).alloc (Nat.le_refl _) _
      have HTX := Lib.hid (texts15_any so (some ⟨w13.heap.size, 0, none⟩) c 1 [[97]] (w13.alloc (.cells (([[97]] : List (List UInt8)).flatMap txC).toArray 9)) (hX.made tx_len m14) (recs_lit (n := 1) tx_len (heap_alloc_new w13 _) rfl (by decide)) (by decide) 1 1 rfl rfl)
      have M14 := Lib.hid (Made.trans M12.out (Made.trans h13 m14))
      clear h13 hX m14 M12 T12 HNM
      go_wp2_with (fail)
      refine HTX.out.mono ?_
      rintro x w15 ⟨rfl, h15⟩
      have M15 := Lib.hid (Made.trans M14.out h15)
      clear h15 M14 HTX
      have J1 := Lib.hid (is_lit [45, 40, 50, 41] 100 (-2) (by decide +kernel) (by decide))
      have J2 := Lib.hid (is_lit [45, 45, 45, 45, 45, 45, 45, 45, 45, 45, 45, 45, 45, 45, 45, 45, 49] 200 1 (by decide +kernel) (by decide))
      have J3 := Lib.hid (is_lit [49, 48, 57, 57, 53, 49, 49, 54, 50, 55, 55, 55, 54] 100 1099511627776 (by decide +kernel) (by decide))
      have J4 := Lib.hid (is_lit [49, 48, 57, 57, 53, 49, 49, 54, 50, 55, 55, 55, 54, 45, 49] 100 1099511627775 (by decide +kernel) (by decide))
      have J5 := Lib.hid (is_lit [48, 42, 97, 45, 49, 48, 57, 57, 53, 49, 49, 54, 50, 55, 55, 55, 54] 100 (-1099511627776) (by decide +kernel) (by decide))
      go_wp2_with (fail)
      refine (J1.out W _ M15.out).mono ?_
      rintro x w16 ⟨rfl, h16⟩
      have M16 := Lib.hid h16
      clear h16 M15
      go_wp2_with (fail)
      refine (J2.out W _ M16.out).mono ?_
      rintro x w17 ⟨rfl, h17⟩
      have M17 := Lib.hid h17
      clear h17 M16
      go_wp2_with (fail)
      refine (J3.out W _ M17.out).mono ?_
      rintro x w18 ⟨rfl, h18⟩
      have M18 := Lib.hid h18
      clear h18 M17
      go_wp2_with (fail)
      refine (J4.out W _ M18.out).mono ?_
      rintro x w19 ⟨rfl, h19⟩
      have M19 := Lib.hid h19
      clear h19 M18
      go_wp2_with (fail)
      refine (J5.out W _ M19.out).mono ?_
      rintro x w20 ⟨rfl, h20⟩
      have M20 := Lib.hid h20
      clear h20 M19
      go_wp2_with (fail)
      refine (HA.out _ M20.out).mono ?_
      rintro x w21 ⟨rfl, h21⟩
      have M21 := Lib.hid h21
      clear h21
      go_wp2
      go_ret
      exact ⟨rfl, M21.out⟩
end
end exprKnown
end Go.Proofs.Ytebpimjbjjmpaaa
