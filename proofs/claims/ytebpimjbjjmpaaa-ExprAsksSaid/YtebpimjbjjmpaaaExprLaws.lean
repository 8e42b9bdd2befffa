/- What the laws of expr are made of: names by a list, a text's tokens, its value; no condition but those on lengths. -/
import Derived.Test.YtebpimjbjjmpaaaExprCode
import Derived.Test.YtebpimjbjjmpaaaExprLex
import Derived.Test.YtebpimjbjjmpaaaLexCode
import Derived.Great.Walk
import Derived.Deep.Cut
import Derived.BigQuiet
import Derived.Laws.StructEq
namespace Go.Proofs.Ytebpimjbjjmpaaa
open Go.ChangeShapes Go.WideShapes Go.ChangeAt Go.RowKit Go.Sort BigFrame

theorem enters_by : EntersX 33 := fun args w => by
  have hf := Try.func33
  have h1 : ¬ Try.f33.name = "runtime.NumGoroutine" := by
    have : (Try.f33.name == "runtime.NumGoroutine") = false := by kernel_rfl
    simpa using this
  have h2 : ¬ Try.f33.body = none := fun h => by
    have hb : Try.f33.body.isNone = false := by kernel_rfl
    rw [h] at hb
    exact absurd hb (by simp)
  simp [callFunc, program, Sem.run, hf, go_sem, h1, h2]
section
attribute [local irreducible] World.cell?
set_option maxRecDepth 100000 in
set_option maxHeartbeats 8000000 in
theorem by_any (W : World) (ao : Option Addr) (cap : Nat) (l : List Nm) (hT : Nms W ao cap l) (hl : l.length ≤ 100000) (c : Nat) (T : TypeId) (hc : W.heap[c]? = some (.cells #[.slice ao l.length cap] T (0, 0))) (s : List UInt8) : Makes Try.prog W 33 #[.string (strOf s), .pointer (some ⟨c, 0, none⟩)] (.tuple #[.int .i64 (askL l s).1, .int .i64 (askL l s).2]) := by
  intro w hm
  have HT := Lib.hid hT
  have HM := Lib.hid hm
  have HC := Lib.hid hc
  clear hT hm hc
  go_enter Try.func33, Try.ntmps33
  go_wp2_with (fail)
  go_loopw [5] (fun iv wr => ∃ k : Nat, k ≤ l.length ∧ iv = .int .i64 k ∧ askL (l.drop k) s = askL l s ∧ Made W wr) (fun iv _ => l.length - (intOf iv).toNat)
  case atStart => exact ⟨0, Nat.zero_le _, rfl, rfl, HM.out⟩
  case round =>
    clear HM
    obtain ⟨k, hk, rfl, hok, hmr⟩ := hrel
    have MR := Lib.hid hmr
    have HOK := Lib.hid hok
    have cc : wr.cell? ⟨c, 0, none⟩ = some (.slice ao l.length cap) := cell_of_lit (cs := [.slice ao l.length cap]) (hmr.heap HC.out) 0
    clear hok hmr
    by_cases hlt : k < l.length
    rotate_left
    · obtain rfl : k = l.length := by omega
      have HR := Lib.hid (show askL l s = (0, 4) by rw [← HOK.out, List.drop_length]; rfl)
      go_wp2
      refine bodyPost_ret (v := .tuple #[.int .i64 0, .int .i64 4]) (by simp [results, Try.results33, go_sem]) rfl ?_
      exact ⟨by rw [HR.out], MR.out⟩
    · obtain ⟨x, hx⟩ : ∃ x, l[k] = x := ⟨_, rfl⟩
      obtain ⟨b, o, rfl, c0, c1, c2⟩ := nms_cells (HT.out.made nm_len MR.out) hlt x hx
      have HST := Lib.hid (show askL l s = if x.name = s then (x.v, x.e) else askL (l.drop (k + 1)) s by rw [← HOK.out, List.drop_eq_getElem_cons hlt, hx]; rfl)
      have hki : (k : Int) < (l.length : Int) := by omega
      clear hx HOK
      obtain ⟨xn, xv, xe⟩ := x
      by_cases hn : xn = s
      · have g : (xn == s) = true := beq_iff_eq.2 hn
        have HR := Lib.hid (show askL l s = (xv, xe) by rw [HST.out]; exact if_pos hn)
        clear hn
        go_upto_region 5 with (fail)
        go_quiet (fail)
        go_wp2
        refine bodyPost_ret (v := .tuple #[.int .i64 xv, .int .i64 xe]) (by simp [results, Try.results33, go_sem]) rfl ?_
        exact ⟨by rw [HR.out], below_drewN MR.out _⟩
      · have g : (xn == s) = false := beq_eq_false_iff_ne.2 hn
        have HR := Lib.hid (show askL (l.drop (k + 1)) s = askL l s by rw [HST.out]; exact (if_neg hn).symm)
        clear hn
        go_wp2
        go_roundw
        case rel => exact ⟨k + 1, by omega, by go_num, HR.out, MR.out⟩
        case measure => simp [intOf]; omega
end
/-- The list's names are asked: nothing turns. -/
theorem by_asks (W : World) (ao : Option Addr) (cap : Nat) (l : List Nm) (hT : Nms W ao cap l) (hl : l.length ≤ 100000) (c : Nat) (T : TypeId) (hc : W.heap[c]? = some (.cells #[.slice ao l.length cap] T (0, 0))) :
    Asks W 33 #[.pointer (some ⟨c, 0, none⟩)] (askL l) (fun _ F u => (∀ g, ¬ F g) ∧ Made W u) := by
  refine ⟨enters_by, ?_, fun _ F u h g hg => absurd hg (h.1 g), ?_⟩
  · rintro acc F u u' ⟨hF, hm⟩ hb ho ht hp hs
    exact ⟨hF, ⟨ho.trans hm.os, ht.trans hm.tape, hp.trans hm.output, Nat.le_trans hm.size hs, fun g hg => (hb g (.inr hg)).trans (hm.block g hg)⟩⟩
  · rintro acc F u s ⟨hF, hm⟩
    refine (by_any u ao cap l (hT.made nm_len hm) hl c T (hm.heap hc) s u (Made.refl u)).mono ?_
    rintro x u' ⟨rfl, h⟩
    exact ⟨rfl, F, ⟨hF, Made.trans hm h⟩, fun g hg => absurd hg (hF g), Out.made h⟩
/-! A text's tokens without the last end. -/
theorem lexT_ne (s : List UInt8) : lexT s ≠ [] := by
  have key : ∀ (n : Nat) (s : List UInt8), s.length ≤ n → ∀ line col : Int, (lxRun line col s).1 ≠ [] := by
    intro n
    induction n with
    | zero =>
      intro s h line col
      obtain rfl := List.eq_nil_of_length_eq_zero (Nat.le_zero.1 h)
      simp [lxRun_nil]
    | succ n ih =>
      intro s h line col
      cases s with
      | nil => simp [lxRun_nil]
      | cons b r =>
        rw [List.length_cons] at h
        by_cases hb : b.toNat = 10
        · rw [lxRun_lf _ _ hb]
          simp
        · rw [lxRun_cut _ _ hb]
          intro h2
          exact ih (r.drop (lxCut b r).more) (by rw [List.length_drop]; omega) _ _ (List.append_eq_nil_iff.1 h2).2
  exact key s.length s (Nat.le_refl _) 1 1
/-- The tokens that cut tells. -/
def cutT (s : List UInt8) : List Tk := (lexT s).take ((lexT s).length - 1)
theorem cutT_q (s : List UInt8) : (cutT s).map Tk.q = Ts s := by
  unfold cutT Ts Qs lexT
  rw [List.map_take, List.dropLast_eq_take, List.length_map]
theorem cutT_few (s : List UInt8) : (cutT s).length ≤ s.length := by
  have := lexT_few s
  unfold cutT
  rw [List.length_take]
  omega
def CutSays (s : List UInt8) (w : World) (x : Ending) (w' : World) : Prop := ∃ so c, x = .returned (.slice so (cutT s).length c) ∧ Toks w' so c (cutT s) ∧ Made w w'
section
attribute [local irreducible] World.cell?
set_option maxRecDepth 100000 in
set_option maxHeartbeats 8000000 in
theorem cut_any (S : ByteArray) (s : List UInt8) (h : IsStr S s) (hl : s.length ≤ 5000) (w : World) : Calls Try.prog 10 #[.string S] w (CutSays s w) := by
  have HX := Lib.hid (lex_any S s h (by omega) w)
  have hne := List.length_pos_iff.2 (lexT_ne s)
  have hfw := lexT_few s
  clear h
  go_enter Try.func10, Try.ntmps10
  go_wp2_with (fail)
  refine HX.out.mono ?_
  rintro x w1 ⟨so, n, c, dg, m, d, rfl, hn, hm, hT, -, hM⟩
  have HT := Lib.hid hT
  have MM := Lib.hid hM
  have hrm := hT.room
  have HC := Lib.hid (show (cutT s).length = n - 1 by unfold cutT; rw [List.length_take, hn]; omega)
  have HN := Lib.hid hn
  have hn0 : ((n : Int) == 0) = false := beq_eq_false_iff_ne.2 (by omega)
  obtain ⟨n1, hn1⟩ : ∃ n1 : Nat, n1 = n - 1 := ⟨_, rfl⟩
  have hn2 : (n : Int) - 1 = (n1 : Int) := by omega
  have hn3 : (n1 : Int) ≤ (c : Int) := by omega
  have hn4 : (n : Int) ≤ 5001 := by omega
  have HC2 := Lib.hid (show (cutT s).length = n1 by rw [HC.out]; omega)
  clear hT hM hm hn hn1 HC
  go_wp2
  refine bodyPost_ret (v := .slice so n1 c) (by simp [results, Try.results10, go_sem]) rfl ?_
  exact ⟨so, c, by rw [HC2.out], recs_first HT.out _, MM.out⟩
theorem mkby_any (no : Option Addr) (n nc : Nat) (w : World) : Calls Try.prog 13 #[.slice no n nc] w fun x w' => x = .returned (.func (.func 33) #[] #[.pointer (some ⟨w.heap.size, 0, none⟩)]) ∧ w' = w.alloc (.cells #[.slice no n nc] 39) := by
  go_enter Try.func13, Try.ntmps13
  go_wp2
  go_ret
  exact ⟨rfl, rfl⟩
/-- a is 3, b is 1. -/
abbrev names31 : List Nm := [⟨[97], 3, 0⟩, ⟨[98], 1, 0⟩]
/-- What of tells. -/
def ofV : Rs → Int × Int
  | .ok a [] => evT (askL names31) a
  | _ => (0, 8)
theorem ask31_64 (s : List UInt8) : -9223372036854775808 ≤ (askL names31 s).1 ∧ (askL names31 s).1 ≤ 9223372036854775807 := by
  simp only [askL]
  split
  · exact ⟨by decide, by decide⟩
  split
  · exact ⟨by decide, by decide⟩
  · exact ⟨by decide, by decide⟩
set_option maxRecDepth 100000 in
set_option maxHeartbeats 16000000 in
theorem of_any (S : ByteArray) (s : List UInt8) (h : IsStr S s) (hl : s.length ≤ 5000) (res : Rs) (hR : Rd .sum 0 (Ts s) res) (w : World) : Calls Try.prog 11 #[.string S] w (fun x w' => x = .returned (.tuple #[.int .i64 (ofV res).1, .int .i64 (ofV res).2]) ∧ Made w w') := by
  have HC := Lib.hid (fun u => cut_any S s h hl u)
  have hfw := cutT_few s
  have HP := Lib.hid (fun so c u (hT : Toks u so c (cutT s)) => xparse_any so c (cutT s) u hT (by omega) (fun t ht => by have := lex_text s t (List.mem_of_mem_take ht); omega) res (by rw [cutT_q]; exact hR))
  have HRR := Lib.hid hR
  clear h hR
  go_enter Try.func11, Try.ntmps11
  go_wp2_with (fail)
  refine (HC.out _).mono ?_
  rintro x w1 ⟨so, c, rfl, hT, hm1⟩
  have M1 := Lib.hid hm1
  have HT := Lib.hid hT
  clear hm1 hT
  go_wp2_with (fail)
  refine (HP.out so c _ HT.out).mono ?_
  intro x w2 hq
  cases res with
  | bad r wy =>
    obtain ⟨rfl, hm2⟩ := hq
    have hwn : (wy != 0) = true := bne_iff_ne.2 (by have := rd_why HRR.out r wy rfl; omega)
    have M2 := Lib.hid (Made.trans M1.out hm2)
    clear hm2
    go_wp2
    refine bodyPost_ret (v := .tuple #[.int .i64 0, .int .i64 8]) (by simp [results, Try.results11, go_sem]) rfl ?_
    exact ⟨rfl, M2.out⟩
  | ok a r =>
    obtain ⟨s1, c1, rfl, hE, hm2⟩ := hq
    have M2 := Lib.hid (Made.trans M1.out hm2)
    have HE := Lib.hid hE
    have hlen : ((Ts s).length : Int) = ((cutT s).length : Int) := by rw [← cutT_q, List.length_map]
    have hlen2 : (((cutT s).map Tk.q).length : Int) = ((cutT s).length : Int) := by rw [List.length_map]
    rewrite [hlen2]
    clear hm2 hE hlen2 hlen
    go_wp2_with (fail)
    refine (HC.out _).mono ?_
    rintro x w3 ⟨so2, c2, rfl, -, hm3⟩
    have M3 := Lib.hid (Made.trans M2.out hm3)
    have HE3 := Lib.hid (HE.out.made tm_len hm3)
    have hsz := rd_few HRR.out a r rfl
    clear hm3
    cases r with
    | cons t r =>
      have hne : (((cutT s).length : Int) - ((t :: r).length : Int) != ((cutT s).length : Int)) = true := bne_iff_ne.2 (by rw [List.length_cons]; omega)
      go_wp2
      refine bodyPost_ret (v := .tuple #[.int .i64 0, .int .i64 8]) (by simp [results, Try.results11, go_sem]) rfl ?_
      exact ⟨rfl, M3.out⟩
    | nil =>
      have hne : (((cutT s).length : Int) - (([] : List Tq).length : Int) != ((cutT s).length : Int)) = false := bne_eq_false_iff_eq.2 (by simp)
      have hfine := rd_fine HRR.out a [] rfl trivial
      have hpl := post_len a 0
      have hsz2 : a.size ≤ 5000 := by
        simp only [List.length_nil] at hsz
        rw [← cutT_q, List.length_map] at hsz
        omega
      have HEV := Lib.hid (show evL (askL names31) (a.post 0) = evT (askL names31) a from ev_tree _ hfine)
      have HPL := Lib.hid hpl
      clear hfine hpl hsz
      go_wp2_with (fail)
      refine (mkby_any _ _ _ _).mono ?_
      rintro x w4 ⟨rfl, hw4⟩
      have b31 : w4.heap[w3.heap.size]? = some (.cells (names31.flatMap Nm.cells).toArray 38 (0, 0)) := by rw [hw4]; exact heap_alloc2_old w3 _ _
      have c31 : w4.heap[w3.heap.size + 1]? = some (.cells #[.slice (some ⟨w3.heap.size, 0, none⟩) names31.length 2] 39 (0, 0)) := by rw [hw4]; exact heap_alloc2_new w3 _ _
      have m4 : Made w3 w4 := by rw [hw4]; exact ((Made.refl w3).alloc (Nat.le_refl _) _).alloc (by simp only [World.size_alloc]; omega) _
      have hN : Nms w4 (some ⟨w3.heap.size, 0, none⟩) 2 names31 := recs_lit nm_len b31 rfl (by omega)
      have hTM := HE3.out.made tm_len m4
      have HA := Lib.hid (by_asks w4 _ 2 names31 hN (by decide) _ _ c31)
      have HEVAL := Lib.hid (xeval_any w4 s1 c1 (a.post 0) hTM (by rw [HPL.out]; omega) _ _ _ _ (fun _ => False) HA.out ⟨fun _ h => h, Made.refl w4⟩ ask31_64)
      rewrite [HPL.out] at HEVAL
      have M4 := Lib.hid (Made.trans M3.out m4)
      simp only [World.size_alloc]
      clear hw4 b31 c31 m4 hN hTM HA
      go_wp2_with (fail)
      refine HEVAL.out.mono ?_
      rintro x w5 ⟨rfl, F', ⟨hF', hm5⟩, -, -⟩
      have M5 := Lib.hid (Made.trans M4.out hm5)
      rewrite [HEV.out]
      clear hm5
      go_wp2
      refine bodyPost_ret (v := .tuple #[.int .i64 (evT (askL names31) a).1, .int .i64 (evT (askL names31) a).2]) (by simp [results, Try.results11, go_sem]) rfl ?_
      exact ⟨rfl, M5.out⟩
end
end Go.Proofs.Ytebpimjbjjmpaaa
