/- What Split of the document's answer for lex returns; no condition but those named. -/
import Derived.Test.YtlhociildcdnoaaLexRefL
namespace Go.Proofs.Ytlhociildcdnoaa
open Go.ChangeShapes Go.WideShapes Go.ChangeAt Go.RowKit Go.Sort BigFrame

theorem recs_block {α : Type} {f : α → List Value} {s : Nat} {w w' : World} {ao : Option Addr} {cap : Nat} {l : List α} (h : Recs f s w ao cap l) (hb : ∀ b o, ao = some ⟨b, o, none⟩ → w'.heap[b]? = w.heap[b]?) : Recs f s w' ao cap l :=
  ⟨h.room, h.max, fun t ht => by
    obtain ⟨b, o, e, hc⟩ := h.cell t ht
    exact ⟨b, o, e, fun r hr => (World.cell?_of_block (hb b o e)).trans (hc r hr)⟩⟩
/-- A row of a call's own, as a slice: where it lies, and what an append asks of it. -/
theorem grows_slice {α : Type} {f : α → List Value} {s : Nat} {T : TypeId} {W w : World} {B : Nat} {v : Value} {l : List α} (hf : ∀ x, (f x).length = s) (hs : 0 < s) (h : Grows f s T W B v l w) :
    ∃ so c, v = .slice so l.length c ∧ Recs f s w so c l ∧ (so = none → l.length = 0 ∧ c = 0) ∧ ∀ b o, so = some ⟨b, o, none⟩ → B ≤ b ∧ b < w.heap.size := by
  obtain ⟨so, c, hv, hr⟩ := h.recs hf hs
  refine ⟨so, c, hv, hr, ?_, ?_⟩
  · rintro rfl
    rcases h.row.2 with ⟨h1, h2⟩ | ⟨g, cap, cur, h1, _⟩
    · rw [hv] at h1
      simp only [Value.slice.injEq, true_and] at h1
      exact ⟨h2, h1.2⟩
    · rw [hv] at h1
      simp at h1
  · rintro b o rfl
    exact h.row.lt b (by rw [hv]; rfl)
theorem lfs_take {l : List UInt8} {i f : Nat} (hf : f ≤ i) (hi : i < l.length) (b : UInt8) (hb : l[i] = b) (hbn : b.toNat ≠ 10) (h : lfs ((l.take i).drop f) = 0) : lfs ((l.take (i + 1)).drop f) = 0 := by
  rw [List.take_succ_eq_append_getElem hi, List.drop_append_of_le_length (by rw [List.length_take]; omega), lfs_app, h, hb]
  unfold lfs
  rw [List.countP_cons, decide_eq_false hbn]
  rfl
theorem drop_mid {l : List UInt8} {i f : Nat} (hf : f ≤ i) (hi : i < l.length) (b : UInt8) (hb : l[i] = b) : l.drop f = (l.take i).drop f ++ b :: l.drop (i + 1) := by
  have e : l = l.take i ++ (b :: l.drop (i + 1)) := by rw [← hb, ← List.drop_eq_getElem_cons hi, List.take_append_drop]
  have e2 : l.drop f = (l.take i ++ (b :: l.drop (i + 1))).drop f := by rw [← e]
  rw [e2, List.drop_append_of_le_length (by rw [List.length_take]; omega)]
section
attribute [local irreducible] World.cell?
set_option maxRecDepth 100000 in
set_option maxHeartbeats 32000000 in
theorem rsplit_any (S : ByteArray) (l : List UInt8) (hS : IsStr S l) (hl : l.length ≤ 20000) (w : World) : Calls Try.prog 10 #[.string S] w (LexSays l w) := by
  have hz := str_size hS
  have H := Lib.hid hS
  have HZ := Lib.hid hz
  have hsz : S.size ≤ 20000 := by omega
  have HFEW := Lib.hid (run_few l.length l (Nat.le_refl _) 1 1)
  have HLW := Lib.hid (show lexT l = (lxRun 1 1 l).1 ∧ lexW l = (lxRun 1 1 l).2.take 100 from ⟨rfl, rfl⟩)
  obtain ⟨i0, hi0, hz0, hz1, hz2⟩ := info_parts tok_row
  obtain ⟨j0, hj0, hy0, hy1, hy2⟩ := info_parts wrong_row
  have K0 := Lib.hid (two_start (T1 := 44) (T2 := 46) w)
  clear hS hz
  go_enter Try.func10, Try.ntmps10
  go_wp2_with (fail)
  go_loopw [4, 5, 6, 7, 8] (fun ov bv fv nv iv wr => ∃ (i f : Nat) (nn : Int) (v1 v2 : Value) (l1 : List Tk) (l2 : List Wr), iv = .int .i64 i ∧ v1 = ov ∧ v2 = bv ∧ fv = .int .i64 f ∧ nv = .int .i64 nn ∧ 1 ≤ nn ∧ nn ≤ i + 1 ∧ RTwo w v1 v2 l1 l2 wr ∧ l1.length ≤ 20001 ∧ l2.length ≤ 20000 ∧
    ((i ≤ S.size ∧ f ≤ i ∧ lfs ((l.take i).drop f) = 0 ∧ lxRun 1 1 l = (l1 ++ (lxRun nn 1 (l.drop f)).1, l2 ++ (lxRun nn 1 (l.drop f)).2)) ∨ (i = S.size + 1 ∧ lxRun 1 1 l = (l1, l2)))) (fun _ _ _ _ iv _ => S.size + 1 - (intOf iv).toNat)
  case atStart => exact ⟨0, 0, 1, _, _, [], [], rfl, rfl, rfl, rfl, rfl, by omega, by omega, K0.out, by simp, by simp, .inl ⟨Nat.zero_le _, Nat.le_refl _, rfl, rfl⟩⟩
  case round =>
    obtain ⟨i, f, nn, v1, v2, l1, l2, rfl, rfl, rfl, rfl, rfl, hn0, hn1, hT, hl1, hl2, hR⟩ := hrel
    have KR := Lib.hid hT
    have HR := Lib.hid hR
    clear hT hR K0
    rcases HR.out with ⟨hi, hf, hlf, hR⟩ | ⟨hi, hR⟩
    · have HRR := Lib.hid hR
      have HLF := Lib.hid hlf
      clear hR hlf HR
      have hii : (i : Int) ≤ (S.size : Int) := by omega
      have hnw : nn ≤ 20002 := by omega
      have hcase : (∃ b : UInt8, (i : Int) < (S.size : Int) ∧ (Instr.index 9 (.string S) (.int .i64 i)).run Try.prog wr = .ok (.int .u8 b.toNat) wr ∧ ((b.toNat : Int) != 10) = true ∧ lfs ((l.take (i + 1)).drop f) = 0) ∨
          (∃ b : UInt8, (i : Int) < (S.size : Int) ∧ (Instr.index 9 (.string S) (.int .i64 i)).run Try.prog wr = .ok (.int .u8 b.toNat) wr ∧ ((b.toNat : Int) != 10) = false ∧ b.toNat = 10 ∧ l.drop f = (l.take i).drop f ++ b :: l.drop (i + 1)) ∨ i = S.size := by
        by_cases h : i < S.size
        · have hil : i < l.length := by have := HZ.out; omega
          have hidx := str_at (w := wr) H.out hil _ rfl
          by_cases hb : (l[i]).toNat = 10
          · exact .inr (.inl ⟨l[i], by omega, hidx, by simp [hb], hb, drop_mid hf hil _ rfl⟩)
          · exact .inl ⟨l[i], by omega, hidx, bne_iff_ne.2 (by omega), lfs_take hf hil _ rfl hb HLF.out⟩
        · exact .inr (.inr (by omega))
      have HTX := Lib.hid (show IsStr (S.extract f i) ((l.take i).drop f) by
        have h7 := str_part H.out f i
        rwa [← List.drop_take] at h7)
      obtain ⟨P, hP⟩ : ∃ P, P = lxRun nn 1 ((l.take i).drop f) := ⟨_, rfl⟩
      have HLI := Lib.hid (fun (u : World) => (rline_any (S.extract f i) ((l.take i).drop f) HTX.out HLF.out (by rw [List.length_drop, List.length_take]; omega) nn (by omega) (by omega) u).mono fun e w' h => (show ∃ u1 u2, e = .returned (.tuple #[u1, u2]) ∧ RTwo u u1 u2 P.1 P.2 w' by rw [hP]; exact h))
      have HP := Lib.hid hP
      clear hP
      obtain ⟨m1, m2⟩ := P
      simp only [] at HLI
      have hf0 : (0 : Int) ≤ (f : Int) := by omega
      have hfi : (f : Int) ≤ (i : Int) := by omega
      rcases hcase with ⟨b, hlt, hidx, hb, hlf2⟩ | ⟨b, hlt, hidx, hb, hb10, hmid⟩ | hie
      · have HL2 := Lib.hid hlf2
        have hlt2 : i + 1 ≤ S.size := by omega
        clear hlf2 HLI HTX
        go_wp2
        go_roundw
        case rel => exact ⟨i + 1, f, nn, v1, v2, l1, l2, by go_num, rfl, rfl, rfl, rfl, hn0, by omega, KR.out, hl1, hl2, .inl ⟨hlt2, by omega, HL2.out, HRR.out⟩⟩
        case measure => simp [intOf]; omega
      · have HNEW := Lib.hid (show lxRun 1 1 l = (l1 ++ m1 ++ (lxRun (nn + 1) 1 (l.drop (i + 1))).1, l2 ++ m2 ++ (lxRun (nn + 1) 1 (l.drop (i + 1))).2) by
          have h8 := HP.out
          rw [HRR.out, hmid, run_app_lf hb10 _ _ _ _ _ (Nat.le_refl _), HLF.out, ← h8]
          simp only [List.append_assoc, Int.natCast_zero, Int.add_zero])
        have HZ2 := Lib.hid (show lfs ((l.take (i + 1)).drop (i + 1)) = 0 by rw [List.drop_eq_nil_of_le (by rw [List.length_take]; omega)]; rfl)
        have hlt2 : i + 1 ≤ S.size := by omega
        clear hmid hb10
        have hml : m1.length + l1.length ≤ 20001 ∧ m2.length + l2.length ≤ 20000 := by
          have h5 := HFEW.out
          rw [HNEW.out] at h5
          simp only [List.length_append] at h5
          omega
        obtain ⟨hml1, hml2⟩ := hml
        clear HTX HRR HFEW
        go_upto_region 9 with (fail)
        go_wp2_with (fail)
        refine (HLI.out _).mono ?_
        rintro e w4 ⟨u1, u2, rfl, hLT⟩
        have KT := Lib.hid (KR.out.next hLT.made)
        obtain ⟨so1, k1, hv1, hr1, hnone1, hat1⟩ := grows_slice tk_len (by decide) hLT.fst
        obtain ⟨so2, k2, hv2, hr2, hnone2, hat2⟩ := grows_slice wr_len (by decide) hLT.snd
        subst hv1
        subst hv2
        have HO1 := Lib.hid (recs_olds tk_len (by decide) hr1)
        have HR2 := Lib.hid hr2
        have HA2 := Lib.hid hat2
        have HOWN := Lib.hid (fun g hg => (KR.out.fst.row.lt g hg).2)
        have hs3 := Lib.hid KT.out.made.size
        have hmx : l1.length + m1.length ≤ maxLen := by unfold maxLen; omega
        have hby : (l1.length + m1.length) * 48 ≤ 140737488355328 := by omega
        have hmx2 : l2.length + m2.length ≤ maxLen := by unfold maxLen; omega
        have hby2 : (l2.length + m2.length) * 24 ≤ 140737488355328 := by omega
        clear hLT hr1 hr2 hat1 hat2 HLI
        go_upto_region 11 with (at_builtin; refine wpList_append_each rfl (.tmp 36) (.tmp 37) 33 rfl w.heap.size 44 i0 (Tk.val ⟨0, [], 0, 0, 0⟩) 5 48 Try.underlying33 hi0 hz0 hz1 hz2 rfl (by decide) v1 l1.length (l1.flatMap Tk.cells) rfl KT.out.fst.row so1 m1.length k1 (m1.flatMap Tk.cells) rfl hnone1 (flat_len' tk_len m1) HO1.out (tk_one _) hmx hby hs3.out ?_; intro v7 w9 own1 gr1; have KG := Lib.hid (KT.out.more1 types_apart rfl own1 gr1); have HO2 := Lib.hid (recs_olds wr_len (by decide) (recs_block HR2.out (w' := w9) fun b o e => gr1.block b (HA2.out b o e).2 (fun h => by have := HOWN.out b h.symm; have := (HA2.out b o e).1; omega))); clear own1 gr1)
        have hs4 := Lib.hid KG.out.made.size
        clear HR2 HA2 HOWN HO1 hs3 hmx hby KT hnone1
        go_upto_region 12 with (at_builtin; refine wpList_append_each rfl (.tmp 39) (.tmp 40) 34 rfl w.heap.size 46 j0 (Wr.val ⟨0, 0, 0⟩) 3 24 Try.underlying34 hj0 hy0 hy1 hy2 rfl (by decide) v2 l2.length (l2.flatMap Wr.cells) rfl KG.out.snd.row so2 m2.length k2 (m2.flatMap Wr.cells) rfl hnone2 (flat_len' wr_len m2) HO2.out (wr_one _) hmx2 hby2 hs4.out ?_; intro v8 w10 own2 gr2; have KN := Lib.hid (KG.out.more2 types_apart rfl own2 gr2); clear own2 gr2)
        clear HO2 hs4 hmx2 hby2 KG KR hnone2
        go_wp2
        go_roundw
        case rel => exact ⟨i + 1, i + 1, nn + 1, v7, v8, l1 ++ m1, l2 ++ m2, by go_num, rfl, rfl, by go_num, by go_num, by omega, by omega, KN.out, by rw [List.length_append]; omega, by rw [List.length_append]; omega, .inl ⟨hlt2, Nat.le_refl _, HZ2.out, HNEW.out⟩⟩
        case measure => simp [intOf]; omega
      · have HNEW := Lib.hid (show lxRun 1 1 l = (l1 ++ m1, l2 ++ m2) by
          have h8 := HP.out
          have h9 : (l.take i).drop f = l.drop f := by rw [hie, HZ.out, List.take_length]
          rw [h9] at h8
          rw [HRR.out, ← h8])
        have hie1 : i + 1 = S.size + 1 := by omega
        have hge : (S.size : Int) ≤ (i : Int) := by omega
        clear hie
        have hml : m1.length + l1.length ≤ 20001 ∧ m2.length + l2.length ≤ 20000 := by
          have h5 := HFEW.out
          rw [HNEW.out] at h5
          simp only [List.length_append] at h5
          omega
        obtain ⟨hml1, hml2⟩ := hml
        clear HTX HRR HFEW
        go_upto_region 9 with (fail)
        go_wp2_with (fail)
        refine (HLI.out _).mono ?_
        rintro e w4 ⟨u1, u2, rfl, hLT⟩
        have KT := Lib.hid (KR.out.next hLT.made)
        obtain ⟨so1, k1, hv1, hr1, hnone1, hat1⟩ := grows_slice tk_len (by decide) hLT.fst
        obtain ⟨so2, k2, hv2, hr2, hnone2, hat2⟩ := grows_slice wr_len (by decide) hLT.snd
        subst hv1
        subst hv2
        have HO1 := Lib.hid (recs_olds tk_len (by decide) hr1)
        have HR2 := Lib.hid hr2
        have HA2 := Lib.hid hat2
        have HOWN := Lib.hid (fun g hg => (KR.out.fst.row.lt g hg).2)
        have hs3 := Lib.hid KT.out.made.size
        have hmx : l1.length + m1.length ≤ maxLen := by unfold maxLen; omega
        have hby : (l1.length + m1.length) * 48 ≤ 140737488355328 := by omega
        have hmx2 : l2.length + m2.length ≤ maxLen := by unfold maxLen; omega
        have hby2 : (l2.length + m2.length) * 24 ≤ 140737488355328 := by omega
        clear hLT hr1 hr2 hat1 hat2 HLI
        go_upto_region 11 with (at_builtin; refine wpList_append_each rfl (.tmp 36) (.tmp 37) 33 rfl w.heap.size 44 i0 (Tk.val ⟨0, [], 0, 0, 0⟩) 5 48 Try.underlying33 hi0 hz0 hz1 hz2 rfl (by decide) v1 l1.length (l1.flatMap Tk.cells) rfl KT.out.fst.row so1 m1.length k1 (m1.flatMap Tk.cells) rfl hnone1 (flat_len' tk_len m1) HO1.out (tk_one _) hmx hby hs3.out ?_; intro v7 w9 own1 gr1; have KG := Lib.hid (KT.out.more1 types_apart rfl own1 gr1); have HO2 := Lib.hid (recs_olds wr_len (by decide) (recs_block HR2.out (w' := w9) fun b o e => gr1.block b (HA2.out b o e).2 (fun h => by have := HOWN.out b h.symm; have := (HA2.out b o e).1; omega))); clear own1 gr1)
        have hs4 := Lib.hid KG.out.made.size
        clear HR2 HA2 HOWN HO1 hs3 hmx hby KT hnone1
        go_upto_region 12 with (at_builtin; refine wpList_append_each rfl (.tmp 39) (.tmp 40) 34 rfl w.heap.size 46 j0 (Wr.val ⟨0, 0, 0⟩) 3 24 Try.underlying34 hj0 hy0 hy1 hy2 rfl (by decide) v2 l2.length (l2.flatMap Wr.cells) rfl KG.out.snd.row so2 m2.length k2 (m2.flatMap Wr.cells) rfl hnone2 (flat_len' wr_len m2) HO2.out (wr_one _) hmx2 hby2 hs4.out ?_; intro v8 w10 own2 gr2; have KN := Lib.hid (KG.out.more2 types_apart rfl own2 gr2); clear own2 gr2)
        clear HO2 hs4 hmx2 hby2 KG KR hnone2
        go_wp2
        go_roundw
        case rel => exact ⟨i + 1, i + 1, nn + 1, v7, v8, l1 ++ m1, l2 ++ m2, by go_num, rfl, rfl, by go_num, by go_num, by omega, by omega, KN.out, by rw [List.length_append]; omega, by rw [List.length_append]; omega, .inr ⟨hie1, HNEW.out⟩⟩
        case measure => simp [intOf]; omega
    · have HRR := Lib.hid hR
      have hgt : (S.size : Int) < (i : Int) := by omega
      obtain ⟨so1, k1, hv1, hr1, -, -⟩ := grows_slice tk_len (by decide) KR.out.fst
      obtain ⟨so2, k2, hv2, hr2, hnone2, -⟩ := grows_slice wr_len (by decide) KR.out.snd
      have H1 := Lib.hid hr1
      have H2 := Lib.hid hr2
      have MR := Lib.hid KR.out.made
      have hrm := hr2.room
      subst hv1
      subst hv2
      clear hR HR hi hr1 hr2 KR hnone2
      by_cases h100 : 100 < l2.length
      · have g100 : (100 : Int) < (l2.length : Int) := by omega
        have gk1 : (100 : Int) ≤ (k2 : Int) := by omega
        have gk2 : 100 ≤ k2 := by omega
        have HL2 := Lib.hid (show (l2.take 100).length = 100 by rw [List.length_take]; omega)
        go_wp2
        refine bodyPost_ret (v := .tuple #[.slice so1 l1.length k1, .slice so2 100 k2]) (by simp [results, Try.results10, go_sem]) rfl ?_
        exact ⟨so1, l1.length, k1, so2, 100, k2, rfl, by rw [HLW.out.1, HRR.out], by rw [HLW.out.2, HRR.out]; exact HL2.out, by rw [HLW.out.1, HRR.out]; exact H1.out, by rw [HLW.out.2, HRR.out]; exact recs_first H2.out 100, MR.out⟩
      · have g100 : (l2.length : Int) ≤ 100 := by omega
        have HL2 := Lib.hid (show l2.take 100 = l2 by rw [List.take_of_length_le (by omega)])
        go_wp2
        refine bodyPost_ret (v := .tuple #[.slice so1 l1.length k1, .slice so2 l2.length k2]) (by simp [results, Try.results10, go_sem]) rfl ?_
        exact ⟨so1, l1.length, k1, so2, l2.length, k2, rfl, by rw [HLW.out.1, HRR.out], by rw [HLW.out.2, HRR.out, HL2.out], by rw [HLW.out.1, HRR.out]; exact H1.out, by rw [HLW.out.2, HRR.out, HL2.out]; exact H2.out, MR.out⟩
end
end Go.Proofs.Ytlhociildcdnoaa
