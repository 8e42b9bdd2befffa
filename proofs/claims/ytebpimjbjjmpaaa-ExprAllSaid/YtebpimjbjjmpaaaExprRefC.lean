/- What product, sum and Parse of the document's answer for expr return; no condition but that on the number of tokens. -/
import Derived.Test.YtebpimjbjjmpaaaExprRefB
import Derived.Deep.CutBlock
namespace Go.Proofs.Ytebpimjbjjmpaaa
open Go.ChangeShapes Go.WideShapes Go.ChangeAt Go.RowKit Go.Sort BigFrame

/-- What is so ahead of each sign: a part has been read, or something is wrong. -/
def Head (M : Ex → Md) (L : List Tk) (d : Nat) (e : List Tm) (res : Rs) (k : Nat) (bad : Int) (en : Nat) (E : List Tm) (kk : Int) : Prop :=
  (bad = 0 ∧ en = E.length ∧ E.length + (L.length - k) ≤ 50000 ∧ kk = (E.length : Int) - 1 ∧ ∃ a, E = e ++ a.post e.length ∧ Rd (M a) d ((L.map Tk.q).drop k) res) ∨ (bad ≠ 0 ∧ res = .bad ((L.map Tk.q).drop k) bad)
theorem rdq_open {W w : World} {lo : Option Addr} {c : Nat} {L : List Tk} {d : Nat} {e : List Tm} {res : Rs} {x : Ending} {w' : World} (h : RdQ W w lo c L d e res x w') (hw : ∀ r y, res = .bad r y → y = 3 ∨ y = 8) :
    ∃ (k1 : Nat) (bad : Int) (eo : Option Addr) (en ec : Nat) (E : List Tm) (kk : Int), x = .returned (.tuple #[SV lo L.length c k1 d bad eo en ec, .int .i64 kk]) ∧ k1 ≤ L.length ∧ Grows Tm.cells 5 TE W W.heap.size (.slice eo en ec) E w' ∧ Kept w w' ∧
      ((bad = 0 ∧ en = E.length ∧ kk = (E.length : Int) - 1 ∧ ∃ a, res = .ok a ((L.map Tk.q).drop k1) ∧ E = e ++ a.post e.length) ∨ (bad ≠ 0 ∧ res = .bad ((L.map Tk.q).drop k1) bad)) := by
  cases res with
  | ok a r =>
    obtain ⟨k', eo, ec, hx, hk, hr, hG, hK⟩ := h
    have hl : (e ++ a.post e.length).length = e.length + a.size := by rw [List.length_append, post_len]
    exact ⟨k', 0, eo, _, ec, _, _, hx, hk, hG, hK, .inl ⟨rfl, hl.symm, by omega, a, by rw [hr], rfl⟩⟩
  | bad r y =>
    obtain ⟨k', eo, en, ec, E, kk, hx, hk, hr, hG, hK⟩ := h
    have := hw r y rfl
    exact ⟨k', y, eo, en, ec, E, kk, hx, hk, hG, hK, .inr ⟨by omega, by rw [hr]⟩⟩
/-- How much is left by the reading's variable. -/
def leftQ (b n : Nat) (w : World) : Nat := n - (match w.cell? ⟨b, 1, none⟩ with | some (.int _ z) => z.toNat | _ => 0)
theorem left_sx {W w u : World} {ev : Value} {E : List Tm} {b r : Nat} {rs : List Value} {x0 x2 x3 x4 : Value} {k n : Nat} (h : SX W w ev E b [x0, .int .i64 k, x2, x3, x4] r rs u) : leftQ b n u = n - k := by
  unfold leftQ
  rw [h.cellB.2.1]
  simp
abbrev zR : List Value := [.slice none 0 0, .int .i64 0, .int .i64 0, .int .i64 0, .slice none 0 0]
section
attribute [local irreducible] World.cell?
set_option maxRecDepth 100000 in
set_option maxHeartbeats 32000000 in
theorem product_step (W : World) (lo : Option Addr) (c : Nat) (L : List Tk) (hT : Toks W lo c L) (hL : L.length ≤ 10000) (N : Nat) (hsub : ReadC .fac 78 W lo c L N) : ReadC .prod 63 W lo c L N := by
  intro k d e eo ec res w hN hk hd hen hG hR
  have HSEE := Lib.hid (fun u (hu : Made W u) (k : Nat) (d bad : Int) (eo : Option Addr) (en ec : Nat) => see_any u lo c L (toks_made hT hu) k d bad eo en ec u (Made.refl u))
  have HX := Lib.hid (sx_start hG (.slice lo L.length c) (.int .i64 k) (.int .i64 d) (.int .i64 0) (.slice eo e.length ec) (.slice none 0 0) (.int .i64 0) (.int .i64 0) (.int .i64 0) (.slice none 0 0))
  have HSUB := Lib.hid hsub
  have HH := Lib.hid (show ∃ res0, Rd .fac d ((L.map Tk.q).drop k) res0 ∧ ∀ (k1 : Nat) (bad : Int) (en : Nat) (E : List Tm) (kk : Int), k1 ≤ L.length → ((bad = 0 ∧ en = E.length ∧ kk = (E.length : Int) - 1 ∧ ∃ a, res0 = .ok a ((L.map Tk.q).drop k1) ∧ E = e ++ a.post e.length) ∨ (bad ≠ 0 ∧ res0 = .bad ((L.map Tk.q).drop k1) bad)) → Head .pt L d e res k1 bad en E kk ∧ L.length - k1 < N from by
    cases hR with
    | @prodOk _ _ a0 r0 _ hf hp =>
      refine ⟨_, hf, fun k1 bad en E kk hk1 h => ?_⟩
      rcases h with ⟨hb, hen2, hkk, a, ha, hE⟩ | ⟨hb, hr⟩
      · cases ha
        have h9 := rd_few hf _ _ rfl
        simp only [List.length_drop, List.length_map] at h9
        have hl : E.length = e.length + a0.size := by rw [hE, List.length_append, post_len]
        have h8 := (rd_len hf).1
        simp only [Rs.rest, List.length_drop, List.length_map] at h8
        exact ⟨.inl ⟨hb, hen2, by omega, hkk, _, hE, hp⟩, by omega⟩
      · cases hr
    | @prodBad _ _ r0 w0 hf =>
      refine ⟨_, hf, fun k1 bad en E kk hk1 h => ?_⟩
      rcases h with ⟨hb, hen2, hkk, a, ha, hE⟩ | ⟨hb, hr⟩
      · cases ha
      · cases hr
        have h8 := (rd_len hf).1
        simp only [Rs.rest, List.length_drop, List.length_map] at h8
        exact ⟨.inr ⟨hb, rfl⟩, by omega⟩)
  obtain ⟨res0, hR0, hHead⟩ := HH.out
  have HQ := Lib.hid (fun u hu => hsub k d e eo ec res0 u hN hk hd hen hu hR0)
  have HHD := Lib.hid hHead
  have HWY := Lib.hid (rd_why hR0)
  have HTT := Lib.hid hT
  clear hsub hG hT hR HH hHead hR0
  go_enter Try.func63, Try.ntmps63
  go_upto_region 2 with (fail)
  refine world_named (fun u => SX W w (.slice eo e.length ec) e w.heap.size _ (w.heap.size + 1) zR u) HX.out ?_
  intro u1 hu
  have K1 := Lib.hid hu
  obtain ⟨a0, a1, a2, a3, a4⟩ := hu.cellB
  clear hu HX
  go_wp2_with (fail)
  refine (HQ.out _ K1.out.row).mono ?_
  intro x u2 hq
  obtain ⟨k1, bad, eo1, en1, ec1, E1, kk1, rfl, hk1, hG1, hKP, hways⟩ := rdq_open hq HWY.out
  have HHX := Lib.hid (HHD.out k1 bad en1 E1 kk1 hk1 hways)
  have K2 := Lib.hid (K1.out.call hKP hG1)
  clear hq hG1 hKP hways K1 a0 a1 a2 a3 a4 HQ HHD
  obtain ⟨a0, a1, a2, a3, a4⟩ := K2.out.cellB
  have ft := free_of_lit K2.out.blk
  have lt := heap_lt K2.out.blk
  have K3 := Lib.hid (K2.out.allB (.slice lo L.length c) (.int .i64 k1) (.int .i64 d) (.int .i64 bad) (.slice eo1 en1 ec1))
  go_wp2_with (fail)
  clear a0 a1 a2 a3 a4 ft lt K2
  go_loopw [4] (fun iv wr => ∃ (k1 : Nat) (bad : Int) (eo1 : Option Addr) (en1 ec1 : Nat) (E1 : List Tm) (kk1 : Int), iv = .int .i64 kk1 ∧ k1 ≤ L.length ∧ SX W w (.slice eo1 en1 ec1) E1 w.heap.size [.slice lo L.length c, .int .i64 k1, .int .i64 d, .int .i64 bad, .slice eo1 en1 ec1] (w.heap.size + 1) zR wr ∧ L.length - k1 < N ∧ Head .pt L d e res k1 bad en1 E1 kk1) (fun _ wr => leftQ w.heap.size L.length wr)
  case atStart => exact ⟨k1, bad, eo1, en1, ec1, E1, kk1, rfl, hk1, K3.out, HHX.out.2, HHX.out.1⟩
  case round =>
    clear K3 HHX hk1 res0 HWY
    obtain ⟨k2, bad2, eo2, en2, ec2, E, kk, rfl, hk2, hS, hN2, hH⟩ := hrel
    have K := Lib.hid hS
    have HMS := Lib.hid (left_sx (n := L.length) hS)
    clear hS
    obtain ⟨a0, a1, a2, a3, a4⟩ := K.out.cellB
    rcases hH with ⟨hb0, hen2, hfew, hkk, a, hE, hR⟩ | ⟨hb, hres⟩
    · subst hb0
      subst hen2
      have HE := Lib.hid hE
      have hsg := see_sg L k2
      generalize hts : (L.map Tk.q).drop k2 = ts at hR hsg
      obtain ⟨X, hX⟩ : ∃ X, seeS L k2 0 = X := ⟨_, rfl⟩
      rewrite [hX] at hsg
      have HXX := Lib.hid hX
      have HTS := Lib.hid hts
      have HKK := Lib.hid hkk
      clear hts hX hE hkk
      cases hR with
      | @starOk _ t r _ b r1 _ h hf hp =>
        have g42 : (X == [42]) = true := by
          rw [hsg 42] at h
          exact beq_iff_eq.2 (of_decide_eq_true h)
        obtain ⟨hk3, -, hr⟩ := drop_cons' HTS.out
        rw [hr] at hf
        have ek : ((k2 + 1 : Nat) : Int) = (k2 : Int) + 1 := by omega
        have HS := Lib.hid (fun u hu => HSUB.out (k2 + 1) d E eo2 ec2 _ u (by omega) (by omega) hd (by omega) hu hf)
        have HWB := Lib.hid (rd_why hf)
        have HFW := Lib.hid (show b.size + r1.length ≤ ((L.map Tk.q).drop (k2 + 1)).length from by have h9 := rd_few hf _ _ rfl; simp only [] at h9; exact h9)
        rewrite [ek] at HS
        have hkk2 : (k2 : Int) ≤ 10000 := by omega
        clear hsg h hr hf ek
        go_wp2_with (fail)
        refine (HSEE.out _ K.out.made _ _ _ _ _ _).mono ?_
        rintro e1 u4 ⟨rfl, hm⟩
        rewrite [HXX.out]
        have K5 := Lib.hid (K.out.next hm)
        clear hm K a0 a1 a2 a3 a4
        obtain ⟨a0, a1, a2, a3, a4⟩ := K5.out.cellB
        have ft := free_of_lit K5.out.blk
        have lt := heap_lt K5.out.blk
        have K6 := Lib.hid (K5.out.setB 1 (.int .i64 ((k2 : Int) + 1)) (cs' := [.slice lo L.length c, .int .i64 ((k2 : Int) + 1), .int .i64 d, .int .i64 0, .slice eo2 E.length ec2]) rfl)
        go_wp2_with (fail)
        refine (HS.out _ K6.out.row).mono ?_
        rintro e2 u6 ⟨k3, eo3, ec3, rfl, hk3', hr3, hG3, hKP⟩
        have HR3 := Lib.hid hr3
        have K7 := Lib.hid (K6.out.call hKP hG3)
        clear hG3 hKP K6 K5 a0 a1 a2 a3 a4 ft lt HS
        obtain ⟨F, hF⟩ : ∃ F, F = E ++ b.post E.length := ⟨_, rfl⟩
        have hFl : F.length = E.length + b.size := by rw [hF, List.length_append, post_len]
        have hidx : (E.length : Int) + (b.size : Int) - 1 = (F.length : Int) - 1 := by omega
        have hlen := HFW.out
        rw [hr3] at hlen
        simp only [List.length_drop, List.length_map] at hlen
        rewrite [← hF, ← hFl] at K7
        rewrite [← hFl, hidx]
        have HF := Lib.hid hF
        have HFL := Lib.hid hFl
        have hf3 : F.length + 1 + (L.length - k3) ≤ 50000 := by omega
        have hk23 : k2 < k3 := by omega
        have hFe : F.length ≤ 100000 := by omega
        clear hF hFl hidx hlen hr3
        obtain ⟨a0, a1, a2, a3, a4⟩ := K7.out.cellB
        have ft := free_of_lit K7.out.blk
        have lt := heap_lt K7.out.blk
        have K8 := Lib.hid (K7.out.allB (.slice lo L.length c) (.int .i64 k3) (.int .i64 d) (.int .i64 0) (.slice eo3 F.length ec3))
        go_upto_region 7 with (fail)
        refine world_named (fun u => SX W w (.slice eo3 F.length ec3) F w.heap.size _ (w.heap.size + 1) zR u) K8.out ?_
        intro u7 hu7
        have K9 := Lib.hid hu7
        clear hu7 K8 K7 a0 a1 a2 a3 a4 ft lt
        obtain ⟨a0, a1, a2, a3, a4⟩ := K9.out.cellB
        go_wp2_with (fail)
        refine (add_ok W lo L.length c k3 d eo3 ec3 F hFe ⟨5, 0, [], kk, (F.length : Int) - 1⟩ _ K9.out.row).mono ?_
        rintro e3 u8 ⟨eo4, ec4, rfl, hG4, hKP⟩
        have K10 := Lib.hid (K9.out.call hKP hG4)
        clear hG4 hKP K9 a0 a1 a2 a3 a4
        obtain ⟨a0, a1, a2, a3, a4⟩ := K10.out.cellB
        have ft := free_of_lit K10.out.blk
        have lt := heap_lt K10.out.blk
        have K11 := Lib.hid (K10.out.allB (.slice lo L.length c) (.int .i64 k3) (.int .i64 d) (.int .i64 0) (.slice eo4 (F.length + 1) ec4))
        go_wp2
        go_roundw
        case rel =>
          have hl : (F ++ [(⟨5, 0, [], kk, (F.length : Int) - 1⟩ : Tm)]).length = F.length + 1 := by rw [List.length_append]; rfl
          refine ⟨k3, 0, eo4, F.length + 1, ec4, _, _, rfl, hk3', K11.out, by omega, .inl ⟨rfl, hl.symm, by omega, by omega, .bin 5 a b, ?_, by rw [← HR3.out]; exact hp⟩⟩
          have hEl : E.length = e.length + a.size := by rw [HE.out, List.length_append, post_len]
          simp only [Ex.post]
          rw [HFL.out, HF.out, HKK.out, ← List.append_assoc, ← List.append_assoc, ← HE.out, hEl]
          simp only [Int.natCast_add]
        case measure =>
          have h1 := left_sx (n := L.length) K11.out
          have h2 := HMS.out
          rw [h1, h2]
          omega
      | @starBad _ t r _ r1 wy h hf =>
        have g42 : (X == [42]) = true := by
          rw [hsg 42] at h
          exact beq_iff_eq.2 (of_decide_eq_true h)
        obtain ⟨hk3, -, hr⟩ := drop_cons' HTS.out
        rw [hr] at hf
        have ek : ((k2 + 1 : Nat) : Int) = (k2 : Int) + 1 := by omega
        have HS := Lib.hid (fun u hu => HSUB.out (k2 + 1) d E eo2 ec2 _ u (by omega) (by omega) hd (by omega) hu hf)
        have HWB := Lib.hid (rd_why hf)
        have HLR := Lib.hid (show r1.length ≤ ((L.map Tk.q).drop (k2 + 1)).length from (rd_len hf).1)
        rewrite [ek] at HS
        have hkk2 : (k2 : Int) ≤ 10000 := by omega
        clear hsg h hr hf ek
        go_wp2_with (fail)
        refine (HSEE.out _ K.out.made _ _ _ _ _ _).mono ?_
        rintro e1 u4 ⟨rfl, hm⟩
        rewrite [HXX.out]
        have K5 := Lib.hid (K.out.next hm)
        clear hm K a0 a1 a2 a3 a4
        obtain ⟨a0, a1, a2, a3, a4⟩ := K5.out.cellB
        have ft := free_of_lit K5.out.blk
        have lt := heap_lt K5.out.blk
        have K6 := Lib.hid (K5.out.setB 1 (.int .i64 ((k2 : Int) + 1)) (cs' := [.slice lo L.length c, .int .i64 ((k2 : Int) + 1), .int .i64 d, .int .i64 0, .slice eo2 E.length ec2]) rfl)
        go_wp2_with (fail)
        refine (HS.out _ K6.out.row).mono ?_
        rintro e2 u6 ⟨k3, eo3, en3, ec3, F, kk3, rfl, hk3', hr3, hG3, hKP⟩
        have hwn : wy ≠ 0 := by have := HWB.out _ _ rfl; omega
        have HR3 := Lib.hid hr3
        have K7 := Lib.hid (K6.out.call hKP hG3)
        clear hG3 hKP K6 K5 a0 a1 a2 a3 a4 ft lt HS hr3
        obtain ⟨a0, a1, a2, a3, a4⟩ := K7.out.cellB
        have ft := free_of_lit K7.out.blk
        have lt := heap_lt K7.out.blk
        have K8 := Lib.hid (K7.out.allB (.slice lo L.length c) (.int .i64 k3) (.int .i64 d) (.int .i64 wy) (.slice eo3 en3 ec3))
        go_upto_region 7 with (fail)
        refine world_named (fun u => SX W w (.slice eo3 en3 ec3) F w.heap.size _ (w.heap.size + 1) zR u) K8.out ?_
        intro u7 hu7
        have K9 := Lib.hid hu7
        clear hu7 K8 K7 a0 a1 a2 a3 a4 ft lt
        obtain ⟨a0, a1, a2, a3, a4⟩ := K9.out.cellB
        go_wp2_with (fail)
        refine (add_bad _ lo L.length c k3 d wy hwn eo3 en3 ec3 ⟨5, 0, [], kk, kk3⟩ _ (Made.refl _)).mono ?_
        rintro e3 u8 ⟨rfl, hm⟩
        have K10 := Lib.hid (K9.out.next hm)
        clear hm K9 a0 a1 a2 a3 a4
        obtain ⟨a0, a1, a2, a3, a4⟩ := K10.out.cellB
        have ft := free_of_lit K10.out.blk
        have lt := heap_lt K10.out.blk
        have K11 := Lib.hid (K10.out.allB (.slice lo L.length c) (.int .i64 k3) (.int .i64 d) (.int .i64 wy) (.slice eo3 en3 ec3))
        go_wp2
        go_roundw
        case rel =>
          have h3 := congrArg List.length HR3.out
          have h4 := HLR.out
          simp only [List.length_drop, List.length_map] at h3 h4
          exact ⟨k3, wy, eo3, en3, ec3, F, _, rfl, hk3', K11.out, by omega, .inr ⟨hwn, by rw [HR3.out]⟩⟩
        case measure =>
          have h1 := left_sx (n := L.length) K11.out
          have h2 := HMS.out
          have h3 := congrArg List.length HR3.out
          have h4 := HLR.out
          simp only [List.length_drop, List.length_map] at h3 h4
          rw [h1, h2]
          omega
      | starEnd h =>
        have g42 : (X == [42]) = false := by
          rw [hsg 42] at h
          exact beq_eq_false_iff_ne.2 (of_decide_eq_false h)
        clear hsg h
        go_wp2_with (fail)
        refine (HSEE.out _ K.out.made _ _ _ _ _ _).mono ?_
        rintro e1 u4 ⟨rfl, hm⟩
        rewrite [HXX.out]
        have K5 := Lib.hid (K.out.next hm)
        clear hm K a0 a1 a2 a3 a4
        obtain ⟨a0, a1, a2, a3, a4⟩ := K5.out.cellB
        obtain ⟨b0, b1, b2, b3, b4⟩ := K5.out.cellR
        obtain ⟨a0, a1, a2, a3, a4⟩ := K5.out.cellB
        have KR := Lib.hid (K5.out.allR (.slice lo L.length c) (.int .i64 k2) (.int .i64 d) (.int .i64 0) (.slice eo2 E.length ec2))
        have fr := free_of_lit K5.out.res
        have lr := heap_lt K5.out.res
        go_wp2
        refine post_named (fun u => SX W w (.slice eo2 E.length ec2) E w.heap.size _ (w.heap.size + 1) _ u) KR.out ?_
        intro z hz
        obtain ⟨q0, q1, q2, q3, q4⟩ := hz.cellR
        have HZ := Lib.hid hz
        clear hz KR
        refine bodyPost_ret (v := .tuple #[.agg #[.slice lo L.length c, .int .i64 k2, .int .i64 d, .int .i64 0, .slice eo2 E.length ec2], .int .i64 kk]) (by simp [results, Try.results63, go_sem, q0, q1, q2, q3, q4]) rfl ?_
        have hEl : E.length = e.length + a.size := by rw [HE.out, List.length_append, post_len]
        refine ⟨k2, eo2, ec2, ?_, hk2, HTS.out.symm, ?_, HZ.out.kept⟩
        · rw [← hEl, HKK.out, show (e.length : Int) + (a.size : Int) - 1 = (E.length : Int) - 1 by omega]
        · rw [← hEl, ← HE.out]
          exact HZ.out.row
    · have HRS := Lib.hid hres
      obtain ⟨X, hX⟩ : ∃ X, X = seeS L k2 bad2 := ⟨_, rfl⟩
      have HXX := Lib.hid hX.symm
      rw [show seeS L k2 bad2 = [] from if_neg hb] at hX
      have g42 : (X == [42]) = false := by rw [hX]; rfl
      clear hX hres hb
      go_wp2_with (fail)
      refine (HSEE.out _ K.out.made _ _ _ _ _ _).mono ?_
      rintro e1 u4 ⟨rfl, hm⟩
      rewrite [HXX.out]
      have K5 := Lib.hid (K.out.next hm)
      clear hm K a0 a1 a2 a3 a4
      obtain ⟨a0, a1, a2, a3, a4⟩ := K5.out.cellB
      obtain ⟨b0, b1, b2, b3, b4⟩ := K5.out.cellR
      obtain ⟨a0, a1, a2, a3, a4⟩ := K5.out.cellB
      have KR := Lib.hid (K5.out.allR (.slice lo L.length c) (.int .i64 k2) (.int .i64 d) (.int .i64 bad2) (.slice eo2 en2 ec2))
      have fr := free_of_lit K5.out.res
      have lr := heap_lt K5.out.res
      go_wp2
      refine post_named (fun u => SX W w (.slice eo2 en2 ec2) E w.heap.size _ (w.heap.size + 1) _ u) KR.out ?_
      intro z hz
      obtain ⟨q0, q1, q2, q3, q4⟩ := hz.cellR
      have HZ := Lib.hid hz
      clear hz KR
      refine bodyPost_ret (v := .tuple #[.agg #[.slice lo L.length c, .int .i64 k2, .int .i64 d, .int .i64 bad2, .slice eo2 en2 ec2], .int .i64 kk]) (by simp [results, Try.results63, go_sem, q0, q1, q2, q3, q4]) rfl ?_
      rw [HRS.out]
      exact ⟨k2, eo2, en2, ec2, E, kk, rfl, hk2, rfl, HZ.out.row, HZ.out.kept⟩
set_option maxRecDepth 100000 in
set_option maxHeartbeats 32000000 in
theorem sum_step (W : World) (lo : Option Addr) (c : Nat) (L : List Tk) (hT : Toks W lo c L) (hL : L.length ≤ 10000) (N : Nat) (hsub : ReadC .prod 63 W lo c L N) : ReadC .sum 36 W lo c L N := by
  intro k d e eo ec res w hN hk hd hen hG hR
  have HSEE := Lib.hid (fun u (hu : Made W u) (k : Nat) (d bad : Int) (eo : Option Addr) (en ec : Nat) => see_any u lo c L (toks_made hT hu) k d bad eo en ec u (Made.refl u))
  have HX := Lib.hid (sx_start hG (.slice lo L.length c) (.int .i64 k) (.int .i64 d) (.int .i64 0) (.slice eo e.length ec) (.slice none 0 0) (.int .i64 0) (.int .i64 0) (.int .i64 0) (.slice none 0 0))
  have HSUB := Lib.hid hsub
  have HH := Lib.hid (show ∃ res0, Rd .prod d ((L.map Tk.q).drop k) res0 ∧ ∀ (k1 : Nat) (bad : Int) (en : Nat) (E : List Tm) (kk : Int), k1 ≤ L.length → ((bad = 0 ∧ en = E.length ∧ kk = (E.length : Int) - 1 ∧ ∃ a, res0 = .ok a ((L.map Tk.q).drop k1) ∧ E = e ++ a.post e.length) ∨ (bad ≠ 0 ∧ res0 = .bad ((L.map Tk.q).drop k1) bad)) → Head .st L d e res k1 bad en E kk ∧ L.length - k1 < N from by
    cases hR with
    | @sumOk _ _ a0 r0 _ hf hp =>
      refine ⟨_, hf, fun k1 bad en E kk hk1 h => ?_⟩
      rcases h with ⟨hb, hen2, hkk, a, ha, hE⟩ | ⟨hb, hr⟩
      · cases ha
        have h9 := rd_few hf _ _ rfl
        simp only [List.length_drop, List.length_map] at h9
        have hl : E.length = e.length + a0.size := by rw [hE, List.length_append, post_len]
        have h8 := (rd_len hf).1
        simp only [Rs.rest, List.length_drop, List.length_map] at h8
        exact ⟨.inl ⟨hb, hen2, by omega, hkk, _, hE, hp⟩, by omega⟩
      · cases hr
    | @sumBad _ _ r0 w0 hf =>
      refine ⟨_, hf, fun k1 bad en E kk hk1 h => ?_⟩
      rcases h with ⟨hb, hen2, hkk, a, ha, hE⟩ | ⟨hb, hr⟩
      · cases ha
      · cases hr
        have h8 := (rd_len hf).1
        simp only [Rs.rest, List.length_drop, List.length_map] at h8
        exact ⟨.inr ⟨hb, rfl⟩, by omega⟩)
  obtain ⟨res0, hR0, hHead⟩ := HH.out
  have HQ := Lib.hid (fun u hu => hsub k d e eo ec res0 u hN hk hd hen hu hR0)
  have HHD := Lib.hid hHead
  have HWY := Lib.hid (rd_why hR0)
  have HTT := Lib.hid hT
  clear hsub hG hT hR HH hHead hR0
  go_enter Try.func36, Try.ntmps36
  go_upto_region 2 with (fail)
  refine world_named (fun u => SX W w (.slice eo e.length ec) e w.heap.size _ (w.heap.size + 1) zR u) HX.out ?_
  intro u1 hu
  have K1 := Lib.hid hu
  obtain ⟨a0, a1, a2, a3, a4⟩ := hu.cellB
  clear hu HX
  go_wp2_with (fail)
  refine (HQ.out _ K1.out.row).mono ?_
  intro x u2 hq
  obtain ⟨k1, bad, eo1, en1, ec1, E1, kk1, rfl, hk1, hG1, hKP, hways⟩ := rdq_open hq HWY.out
  have HHX := Lib.hid (HHD.out k1 bad en1 E1 kk1 hk1 hways)
  have K2 := Lib.hid (K1.out.call hKP hG1)
  clear hq hG1 hKP hways K1 a0 a1 a2 a3 a4 HQ HHD
  obtain ⟨a0, a1, a2, a3, a4⟩ := K2.out.cellB
  have ft := free_of_lit K2.out.blk
  have lt := heap_lt K2.out.blk
  have K3 := Lib.hid (K2.out.allB (.slice lo L.length c) (.int .i64 k1) (.int .i64 d) (.int .i64 bad) (.slice eo1 en1 ec1))
  go_wp2_with (fail)
  clear a0 a1 a2 a3 a4 ft lt K2
  go_loopw [4] (fun iv wr => ∃ (k1 : Nat) (bad : Int) (eo1 : Option Addr) (en1 ec1 : Nat) (E1 : List Tm) (kk1 : Int), iv = .int .i64 kk1 ∧ k1 ≤ L.length ∧ SX W w (.slice eo1 en1 ec1) E1 w.heap.size [.slice lo L.length c, .int .i64 k1, .int .i64 d, .int .i64 bad, .slice eo1 en1 ec1] (w.heap.size + 1) zR wr ∧ L.length - k1 < N ∧ Head .st L d e res k1 bad en1 E1 kk1) (fun _ wr => leftQ w.heap.size L.length wr)
  case atStart => exact ⟨k1, bad, eo1, en1, ec1, E1, kk1, rfl, hk1, K3.out, HHX.out.2, HHX.out.1⟩
  case round =>
    clear K3 HHX hk1 res0 HWY
    obtain ⟨k2, bad2, eo2, en2, ec2, E, kk, rfl, hk2, hS, hN2, hH⟩ := hrel
    have K := Lib.hid hS
    have HMS := Lib.hid (left_sx (n := L.length) hS)
    clear hS
    obtain ⟨a0, a1, a2, a3, a4⟩ := K.out.cellB
    rcases hH with ⟨hb0, hen2, hfew, hkk, a, hE, hR⟩ | ⟨hb, hres⟩
    · subst hb0
      subst hen2
      have HE := Lib.hid hE
      have hsg := see_sg L k2
      generalize hts : (L.map Tk.q).drop k2 = ts at hR hsg
      obtain ⟨X, hX⟩ : ∃ X, seeS L k2 0 = X := ⟨_, rfl⟩
      rewrite [hX] at hsg
      have HXX := Lib.hid hX
      have HTS := Lib.hid hts
      have HKK := Lib.hid hkk
      clear hts hX hE hkk
      cases hR with
      | @plusOk _ t r _ b r1 _ h hf hp =>
        have g43 : (X == [43]) = true := by
          rw [hsg 43] at h
          exact beq_iff_eq.2 (of_decide_eq_true h)
        have g45 : (X == [45]) = false := by
          have h9 := sg_not (c' := 45) h (by decide)
          rw [hsg 45] at h9
          exact beq_eq_false_iff_ne.2 (of_decide_eq_false h9)
        obtain ⟨hk3, -, hr⟩ := drop_cons' HTS.out
        rw [hr] at hf
        have ek : ((k2 + 1 : Nat) : Int) = (k2 : Int) + 1 := by omega
        have HS := Lib.hid (fun u hu => HSUB.out (k2 + 1) d E eo2 ec2 _ u (by omega) (by omega) hd (by omega) hu hf)
        have HWB := Lib.hid (rd_why hf)
        have HFW := Lib.hid (show b.size + r1.length ≤ ((L.map Tk.q).drop (k2 + 1)).length from by have h9 := rd_few hf _ _ rfl; simp only [] at h9; exact h9)
        rewrite [ek] at HS
        have hkk2 : (k2 : Int) ≤ 10000 := by omega
        clear hsg h hr hf ek
        go_wp2_with (fail)
        refine (HSEE.out _ K.out.made _ _ _ _ _ _).mono ?_
        rintro e1 u4 ⟨rfl, hm⟩
        rewrite [HXX.out]
        have K5 := Lib.hid (K.out.next hm)
        clear hm K a0 a1 a2 a3 a4
        obtain ⟨a0, a1, a2, a3, a4⟩ := K5.out.cellB
        go_wp2_with (fail)
        refine (HSEE.out _ K5.out.made _ _ _ _ _ _).mono ?_
        rintro e1 u5 ⟨rfl, hm⟩
        rewrite [HXX.out]
        have K6 := Lib.hid (K5.out.next hm)
        clear hm K5 a0 a1 a2 a3 a4
        have K5 := Lib.hid K6.out
        clear K6
        obtain ⟨a0, a1, a2, a3, a4⟩ := K5.out.cellB
        have ft := free_of_lit K5.out.blk
        have lt := heap_lt K5.out.blk
        have K6 := Lib.hid (K5.out.setB 1 (.int .i64 ((k2 : Int) + 1)) (cs' := [.slice lo L.length c, .int .i64 ((k2 : Int) + 1), .int .i64 d, .int .i64 0, .slice eo2 E.length ec2]) rfl)
        go_wp2_with (fail)
        refine (HS.out _ K6.out.row).mono ?_
        rintro e2 u6 ⟨k3, eo3, ec3, rfl, hk3', hr3, hG3, hKP⟩
        have HR3 := Lib.hid hr3
        have K7 := Lib.hid (K6.out.call hKP hG3)
        clear hG3 hKP K6 K5 a0 a1 a2 a3 a4 ft lt HS
        obtain ⟨F, hF⟩ : ∃ F, F = E ++ b.post E.length := ⟨_, rfl⟩
        have hFl : F.length = E.length + b.size := by rw [hF, List.length_append, post_len]
        have hidx : (E.length : Int) + (b.size : Int) - 1 = (F.length : Int) - 1 := by omega
        have hlen := HFW.out
        rw [hr3] at hlen
        simp only [List.length_drop, List.length_map] at hlen
        rewrite [← hF, ← hFl] at K7
        rewrite [← hFl, hidx]
        have HF := Lib.hid hF
        have HFL := Lib.hid hFl
        have hf3 : F.length + 1 + (L.length - k3) ≤ 50000 := by omega
        have hk23 : k2 < k3 := by omega
        have hFe : F.length ≤ 100000 := by omega
        clear hF hFl hidx hlen hr3
        obtain ⟨a0, a1, a2, a3, a4⟩ := K7.out.cellB
        have ft := free_of_lit K7.out.blk
        have lt := heap_lt K7.out.blk
        have K8 := Lib.hid (K7.out.allB (.slice lo L.length c) (.int .i64 k3) (.int .i64 d) (.int .i64 0) (.slice eo3 F.length ec3))
        go_upto_region 10 with (fail)
        refine world_named (fun u => SX W w (.slice eo3 F.length ec3) F w.heap.size _ (w.heap.size + 1) zR u) K8.out ?_
        intro u7 hu7
        have K9 := Lib.hid hu7
        clear hu7 K8 K7 a0 a1 a2 a3 a4 ft lt
        obtain ⟨a0, a1, a2, a3, a4⟩ := K9.out.cellB
        go_wp2_with (fail)
        refine (add_ok W lo L.length c k3 d eo3 ec3 F hFe ⟨3, 0, [], kk, (F.length : Int) - 1⟩ _ K9.out.row).mono ?_
        rintro e3 u8 ⟨eo4, ec4, rfl, hG4, hKP⟩
        have K10 := Lib.hid (K9.out.call hKP hG4)
        clear hG4 hKP K9 a0 a1 a2 a3 a4
        obtain ⟨a0, a1, a2, a3, a4⟩ := K10.out.cellB
        have ft := free_of_lit K10.out.blk
        have lt := heap_lt K10.out.blk
        have K11 := Lib.hid (K10.out.allB (.slice lo L.length c) (.int .i64 k3) (.int .i64 d) (.int .i64 0) (.slice eo4 (F.length + 1) ec4))
        go_wp2
        go_roundw
        case rel =>
          have hl : (F ++ [(⟨3, 0, [], kk, (F.length : Int) - 1⟩ : Tm)]).length = F.length + 1 := by rw [List.length_append]; rfl
          refine ⟨k3, 0, eo4, F.length + 1, ec4, _, _, rfl, hk3', K11.out, by omega, .inl ⟨rfl, hl.symm, by omega, by omega, .bin 3 a b, ?_, by rw [← HR3.out]; exact hp⟩⟩
          have hEl : E.length = e.length + a.size := by rw [HE.out, List.length_append, post_len]
          simp only [Ex.post]
          rw [HFL.out, HF.out, HKK.out, ← List.append_assoc, ← List.append_assoc, ← HE.out, hEl]
          simp only [Int.natCast_add]
        case measure =>
          have h1 := left_sx (n := L.length) K11.out
          have h2 := HMS.out
          rw [h1, h2]
          omega
      | @plusBad _ t r _ r1 wy h hf =>
        have g43 : (X == [43]) = true := by
          rw [hsg 43] at h
          exact beq_iff_eq.2 (of_decide_eq_true h)
        have g45 : (X == [45]) = false := by
          have h9 := sg_not (c' := 45) h (by decide)
          rw [hsg 45] at h9
          exact beq_eq_false_iff_ne.2 (of_decide_eq_false h9)
        obtain ⟨hk3, -, hr⟩ := drop_cons' HTS.out
        rw [hr] at hf
        have ek : ((k2 + 1 : Nat) : Int) = (k2 : Int) + 1 := by omega
        have HS := Lib.hid (fun u hu => HSUB.out (k2 + 1) d E eo2 ec2 _ u (by omega) (by omega) hd (by omega) hu hf)
        have HWB := Lib.hid (rd_why hf)
        have HLR := Lib.hid (show r1.length ≤ ((L.map Tk.q).drop (k2 + 1)).length from (rd_len hf).1)
        rewrite [ek] at HS
        have hkk2 : (k2 : Int) ≤ 10000 := by omega
        clear hsg h hr hf ek
        go_wp2_with (fail)
        refine (HSEE.out _ K.out.made _ _ _ _ _ _).mono ?_
        rintro e1 u4 ⟨rfl, hm⟩
        rewrite [HXX.out]
        have K5 := Lib.hid (K.out.next hm)
        clear hm K a0 a1 a2 a3 a4
        obtain ⟨a0, a1, a2, a3, a4⟩ := K5.out.cellB
        go_wp2_with (fail)
        refine (HSEE.out _ K5.out.made _ _ _ _ _ _).mono ?_
        rintro e1 u5 ⟨rfl, hm⟩
        rewrite [HXX.out]
        have K6 := Lib.hid (K5.out.next hm)
        clear hm K5 a0 a1 a2 a3 a4
        have K5 := Lib.hid K6.out
        clear K6
        obtain ⟨a0, a1, a2, a3, a4⟩ := K5.out.cellB
        have ft := free_of_lit K5.out.blk
        have lt := heap_lt K5.out.blk
        have K6 := Lib.hid (K5.out.setB 1 (.int .i64 ((k2 : Int) + 1)) (cs' := [.slice lo L.length c, .int .i64 ((k2 : Int) + 1), .int .i64 d, .int .i64 0, .slice eo2 E.length ec2]) rfl)
        go_wp2_with (fail)
        refine (HS.out _ K6.out.row).mono ?_
        rintro e2 u6 ⟨k3, eo3, en3, ec3, F, kk3, rfl, hk3', hr3, hG3, hKP⟩
        have hwn : wy ≠ 0 := by have := HWB.out _ _ rfl; omega
        have HR3 := Lib.hid hr3
        have K7 := Lib.hid (K6.out.call hKP hG3)
        clear hG3 hKP K6 K5 a0 a1 a2 a3 a4 ft lt HS hr3
        obtain ⟨a0, a1, a2, a3, a4⟩ := K7.out.cellB
        have ft := free_of_lit K7.out.blk
        have lt := heap_lt K7.out.blk
        have K8 := Lib.hid (K7.out.allB (.slice lo L.length c) (.int .i64 k3) (.int .i64 d) (.int .i64 wy) (.slice eo3 en3 ec3))
        go_upto_region 10 with (fail)
        refine world_named (fun u => SX W w (.slice eo3 en3 ec3) F w.heap.size _ (w.heap.size + 1) zR u) K8.out ?_
        intro u7 hu7
        have K9 := Lib.hid hu7
        clear hu7 K8 K7 a0 a1 a2 a3 a4 ft lt
        obtain ⟨a0, a1, a2, a3, a4⟩ := K9.out.cellB
        go_wp2_with (fail)
        refine (add_bad _ lo L.length c k3 d wy hwn eo3 en3 ec3 ⟨3, 0, [], kk, kk3⟩ _ (Made.refl _)).mono ?_
        rintro e3 u8 ⟨rfl, hm⟩
        have K10 := Lib.hid (K9.out.next hm)
        clear hm K9 a0 a1 a2 a3 a4
        obtain ⟨a0, a1, a2, a3, a4⟩ := K10.out.cellB
        have ft := free_of_lit K10.out.blk
        have lt := heap_lt K10.out.blk
        have K11 := Lib.hid (K10.out.allB (.slice lo L.length c) (.int .i64 k3) (.int .i64 d) (.int .i64 wy) (.slice eo3 en3 ec3))
        go_wp2
        go_roundw
        case rel =>
          have h3 := congrArg List.length HR3.out
          have h4 := HLR.out
          simp only [List.length_drop, List.length_map] at h3 h4
          exact ⟨k3, wy, eo3, en3, ec3, F, _, rfl, hk3', K11.out, by omega, .inr ⟨hwn, by rw [HR3.out]⟩⟩
        case measure =>
          have h1 := left_sx (n := L.length) K11.out
          have h2 := HMS.out
          have h3 := congrArg List.length HR3.out
          have h4 := HLR.out
          simp only [List.length_drop, List.length_map] at h3 h4
          rw [h1, h2]
          omega
      | @subOk _ t r _ b r1 _ h hf hp =>
        have g43 : (X == [43]) = false := by
          have h9 := sg_not (c' := 43) h (by decide)
          rw [hsg 43] at h9
          exact beq_eq_false_iff_ne.2 (of_decide_eq_false h9)
        have g45 : (X == [45]) = true := by
          rw [hsg 45] at h
          exact beq_iff_eq.2 (of_decide_eq_true h)
        obtain ⟨hk3, -, hr⟩ := drop_cons' HTS.out
        rw [hr] at hf
        have ek : ((k2 + 1 : Nat) : Int) = (k2 : Int) + 1 := by omega
        have HS := Lib.hid (fun u hu => HSUB.out (k2 + 1) d E eo2 ec2 _ u (by omega) (by omega) hd (by omega) hu hf)
        have HWB := Lib.hid (rd_why hf)
        have HFW := Lib.hid (show b.size + r1.length ≤ ((L.map Tk.q).drop (k2 + 1)).length from by have h9 := rd_few hf _ _ rfl; simp only [] at h9; exact h9)
        rewrite [ek] at HS
        have hkk2 : (k2 : Int) ≤ 10000 := by omega
        clear hsg h hr hf ek
        go_wp2_with (fail)
        refine (HSEE.out _ K.out.made _ _ _ _ _ _).mono ?_
        rintro e1 u4 ⟨rfl, hm⟩
        rewrite [HXX.out]
        have K5 := Lib.hid (K.out.next hm)
        clear hm K a0 a1 a2 a3 a4
        obtain ⟨a0, a1, a2, a3, a4⟩ := K5.out.cellB
        go_wp2_with (fail)
        refine (HSEE.out _ K5.out.made _ _ _ _ _ _).mono ?_
        rintro e1 u5 ⟨rfl, hm⟩
        rewrite [HXX.out]
        have K6 := Lib.hid (K5.out.next hm)
        clear hm K5 a0 a1 a2 a3 a4
        have K5 := Lib.hid K6.out
        clear K6
        obtain ⟨a0, a1, a2, a3, a4⟩ := K5.out.cellB
        go_wp2_with (fail)
        refine (HSEE.out _ K5.out.made _ _ _ _ _ _).mono ?_
        rintro e1 u5 ⟨rfl, hm⟩
        rewrite [HXX.out]
        have K6 := Lib.hid (K5.out.next hm)
        clear hm K5 a0 a1 a2 a3 a4
        have K5 := Lib.hid K6.out
        clear K6
        obtain ⟨a0, a1, a2, a3, a4⟩ := K5.out.cellB
        have ft := free_of_lit K5.out.blk
        have lt := heap_lt K5.out.blk
        have K6 := Lib.hid (K5.out.setB 1 (.int .i64 ((k2 : Int) + 1)) (cs' := [.slice lo L.length c, .int .i64 ((k2 : Int) + 1), .int .i64 d, .int .i64 0, .slice eo2 E.length ec2]) rfl)
        go_wp2_with (fail)
        refine (HS.out _ K6.out.row).mono ?_
        rintro e2 u6 ⟨k3, eo3, ec3, rfl, hk3', hr3, hG3, hKP⟩
        have HR3 := Lib.hid hr3
        have K7 := Lib.hid (K6.out.call hKP hG3)
        clear hG3 hKP K6 K5 a0 a1 a2 a3 a4 ft lt HS
        obtain ⟨F, hF⟩ : ∃ F, F = E ++ b.post E.length := ⟨_, rfl⟩
        have hFl : F.length = E.length + b.size := by rw [hF, List.length_append, post_len]
        have hidx : (E.length : Int) + (b.size : Int) - 1 = (F.length : Int) - 1 := by omega
        have hlen := HFW.out
        rw [hr3] at hlen
        simp only [List.length_drop, List.length_map] at hlen
        rewrite [← hF, ← hFl] at K7
        rewrite [← hFl, hidx]
        have HF := Lib.hid hF
        have HFL := Lib.hid hFl
        have hf3 : F.length + 1 + (L.length - k3) ≤ 50000 := by omega
        have hk23 : k2 < k3 := by omega
        have hFe : F.length ≤ 100000 := by omega
        clear hF hFl hidx hlen hr3
        obtain ⟨a0, a1, a2, a3, a4⟩ := K7.out.cellB
        have ft := free_of_lit K7.out.blk
        have lt := heap_lt K7.out.blk
        have K8 := Lib.hid (K7.out.allB (.slice lo L.length c) (.int .i64 k3) (.int .i64 d) (.int .i64 0) (.slice eo3 F.length ec3))
        go_upto_region 10 with (fail)
        refine world_named (fun u => SX W w (.slice eo3 F.length ec3) F w.heap.size _ (w.heap.size + 1) zR u) K8.out ?_
        intro u7 hu7
        have K9 := Lib.hid hu7
        clear hu7 K8 K7 a0 a1 a2 a3 a4 ft lt
        obtain ⟨a0, a1, a2, a3, a4⟩ := K9.out.cellB
        go_wp2_with (fail)
        refine (add_ok W lo L.length c k3 d eo3 ec3 F hFe ⟨4, 0, [], kk, (F.length : Int) - 1⟩ _ K9.out.row).mono ?_
        rintro e3 u8 ⟨eo4, ec4, rfl, hG4, hKP⟩
        have K10 := Lib.hid (K9.out.call hKP hG4)
        clear hG4 hKP K9 a0 a1 a2 a3 a4
        obtain ⟨a0, a1, a2, a3, a4⟩ := K10.out.cellB
        have ft := free_of_lit K10.out.blk
        have lt := heap_lt K10.out.blk
        have K11 := Lib.hid (K10.out.allB (.slice lo L.length c) (.int .i64 k3) (.int .i64 d) (.int .i64 0) (.slice eo4 (F.length + 1) ec4))
        go_wp2
        go_roundw
        case rel =>
          have hl : (F ++ [(⟨4, 0, [], kk, (F.length : Int) - 1⟩ : Tm)]).length = F.length + 1 := by rw [List.length_append]; rfl
          refine ⟨k3, 0, eo4, F.length + 1, ec4, _, _, rfl, hk3', K11.out, by omega, .inl ⟨rfl, hl.symm, by omega, by omega, .bin 4 a b, ?_, by rw [← HR3.out]; exact hp⟩⟩
          have hEl : E.length = e.length + a.size := by rw [HE.out, List.length_append, post_len]
          simp only [Ex.post]
          rw [HFL.out, HF.out, HKK.out, ← List.append_assoc, ← List.append_assoc, ← HE.out, hEl]
          simp only [Int.natCast_add]
        case measure =>
          have h1 := left_sx (n := L.length) K11.out
          have h2 := HMS.out
          rw [h1, h2]
          omega
      | @subBad _ t r _ r1 wy h hf =>
        have g43 : (X == [43]) = false := by
          have h9 := sg_not (c' := 43) h (by decide)
          rw [hsg 43] at h9
          exact beq_eq_false_iff_ne.2 (of_decide_eq_false h9)
        have g45 : (X == [45]) = true := by
          rw [hsg 45] at h
          exact beq_iff_eq.2 (of_decide_eq_true h)
        obtain ⟨hk3, -, hr⟩ := drop_cons' HTS.out
        rw [hr] at hf
        have ek : ((k2 + 1 : Nat) : Int) = (k2 : Int) + 1 := by omega
        have HS := Lib.hid (fun u hu => HSUB.out (k2 + 1) d E eo2 ec2 _ u (by omega) (by omega) hd (by omega) hu hf)
        have HWB := Lib.hid (rd_why hf)
        have HLR := Lib.hid (show r1.length ≤ ((L.map Tk.q).drop (k2 + 1)).length from (rd_len hf).1)
        rewrite [ek] at HS
        have hkk2 : (k2 : Int) ≤ 10000 := by omega
        clear hsg h hr hf ek
        go_wp2_with (fail)
        refine (HSEE.out _ K.out.made _ _ _ _ _ _).mono ?_
        rintro e1 u4 ⟨rfl, hm⟩
        rewrite [HXX.out]
        have K5 := Lib.hid (K.out.next hm)
        clear hm K a0 a1 a2 a3 a4
        obtain ⟨a0, a1, a2, a3, a4⟩ := K5.out.cellB
        go_wp2_with (fail)
        refine (HSEE.out _ K5.out.made _ _ _ _ _ _).mono ?_
        rintro e1 u5 ⟨rfl, hm⟩
        rewrite [HXX.out]
        have K6 := Lib.hid (K5.out.next hm)
        clear hm K5 a0 a1 a2 a3 a4
        have K5 := Lib.hid K6.out
        clear K6
        obtain ⟨a0, a1, a2, a3, a4⟩ := K5.out.cellB
        go_wp2_with (fail)
        refine (HSEE.out _ K5.out.made _ _ _ _ _ _).mono ?_
        rintro e1 u5 ⟨rfl, hm⟩
        rewrite [HXX.out]
        have K6 := Lib.hid (K5.out.next hm)
        clear hm K5 a0 a1 a2 a3 a4
        have K5 := Lib.hid K6.out
        clear K6
        obtain ⟨a0, a1, a2, a3, a4⟩ := K5.out.cellB
        have ft := free_of_lit K5.out.blk
        have lt := heap_lt K5.out.blk
        have K6 := Lib.hid (K5.out.setB 1 (.int .i64 ((k2 : Int) + 1)) (cs' := [.slice lo L.length c, .int .i64 ((k2 : Int) + 1), .int .i64 d, .int .i64 0, .slice eo2 E.length ec2]) rfl)
        go_wp2_with (fail)
        refine (HS.out _ K6.out.row).mono ?_
        rintro e2 u6 ⟨k3, eo3, en3, ec3, F, kk3, rfl, hk3', hr3, hG3, hKP⟩
        have hwn : wy ≠ 0 := by have := HWB.out _ _ rfl; omega
        have HR3 := Lib.hid hr3
        have K7 := Lib.hid (K6.out.call hKP hG3)
        clear hG3 hKP K6 K5 a0 a1 a2 a3 a4 ft lt HS hr3
        obtain ⟨a0, a1, a2, a3, a4⟩ := K7.out.cellB
        have ft := free_of_lit K7.out.blk
        have lt := heap_lt K7.out.blk
        have K8 := Lib.hid (K7.out.allB (.slice lo L.length c) (.int .i64 k3) (.int .i64 d) (.int .i64 wy) (.slice eo3 en3 ec3))
        go_upto_region 10 with (fail)
        refine world_named (fun u => SX W w (.slice eo3 en3 ec3) F w.heap.size _ (w.heap.size + 1) zR u) K8.out ?_
        intro u7 hu7
        have K9 := Lib.hid hu7
        clear hu7 K8 K7 a0 a1 a2 a3 a4 ft lt
        obtain ⟨a0, a1, a2, a3, a4⟩ := K9.out.cellB
        go_wp2_with (fail)
        refine (add_bad _ lo L.length c k3 d wy hwn eo3 en3 ec3 ⟨4, 0, [], kk, kk3⟩ _ (Made.refl _)).mono ?_
        rintro e3 u8 ⟨rfl, hm⟩
        have K10 := Lib.hid (K9.out.next hm)
        clear hm K9 a0 a1 a2 a3 a4
        obtain ⟨a0, a1, a2, a3, a4⟩ := K10.out.cellB
        have ft := free_of_lit K10.out.blk
        have lt := heap_lt K10.out.blk
        have K11 := Lib.hid (K10.out.allB (.slice lo L.length c) (.int .i64 k3) (.int .i64 d) (.int .i64 wy) (.slice eo3 en3 ec3))
        go_wp2
        go_roundw
        case rel =>
          have h3 := congrArg List.length HR3.out
          have h4 := HLR.out
          simp only [List.length_drop, List.length_map] at h3 h4
          exact ⟨k3, wy, eo3, en3, ec3, F, _, rfl, hk3', K11.out, by omega, .inr ⟨hwn, by rw [HR3.out]⟩⟩
        case measure =>
          have h1 := left_sx (n := L.length) K11.out
          have h2 := HMS.out
          have h3 := congrArg List.length HR3.out
          have h4 := HLR.out
          simp only [List.length_drop, List.length_map] at h3 h4
          rw [h1, h2]
          omega
      | sumEnd h h2 =>
        have g43 : (X == [43]) = false := by
          rw [hsg 43] at h
          exact beq_eq_false_iff_ne.2 (of_decide_eq_false h)
        have g45 : (X == [45]) = false := by
          rw [hsg 45] at h2
          exact beq_eq_false_iff_ne.2 (of_decide_eq_false h2)
        clear hsg h h2
        go_wp2_with (fail)
        refine (HSEE.out _ K.out.made _ _ _ _ _ _).mono ?_
        rintro e1 u4 ⟨rfl, hm⟩
        rewrite [HXX.out]
        have K5 := Lib.hid (K.out.next hm)
        clear hm K a0 a1 a2 a3 a4
        obtain ⟨a0, a1, a2, a3, a4⟩ := K5.out.cellB
        go_wp2_with (fail)
        refine (HSEE.out _ K5.out.made _ _ _ _ _ _).mono ?_
        rintro e1 u5 ⟨rfl, hm⟩
        rewrite [HXX.out]
        have K6 := Lib.hid (K5.out.next hm)
        clear hm K5 a0 a1 a2 a3 a4
        have K5 := Lib.hid K6.out
        clear K6
        obtain ⟨a0, a1, a2, a3, a4⟩ := K5.out.cellB
        obtain ⟨b0, b1, b2, b3, b4⟩ := K5.out.cellR
        obtain ⟨a0, a1, a2, a3, a4⟩ := K5.out.cellB
        have KR := Lib.hid (K5.out.allR (.slice lo L.length c) (.int .i64 k2) (.int .i64 d) (.int .i64 0) (.slice eo2 E.length ec2))
        have fr := free_of_lit K5.out.res
        have lr := heap_lt K5.out.res
        go_wp2
        refine post_named (fun u => SX W w (.slice eo2 E.length ec2) E w.heap.size _ (w.heap.size + 1) _ u) KR.out ?_
        intro z hz
        obtain ⟨q0, q1, q2, q3, q4⟩ := hz.cellR
        have HZ := Lib.hid hz
        clear hz KR
        refine bodyPost_ret (v := .tuple #[.agg #[.slice lo L.length c, .int .i64 k2, .int .i64 d, .int .i64 0, .slice eo2 E.length ec2], .int .i64 kk]) (by simp [results, Try.results36, go_sem, q0, q1, q2, q3, q4]) rfl ?_
        have hEl : E.length = e.length + a.size := by rw [HE.out, List.length_append, post_len]
        refine ⟨k2, eo2, ec2, ?_, hk2, HTS.out.symm, ?_, HZ.out.kept⟩
        · rw [← hEl, HKK.out, show (e.length : Int) + (a.size : Int) - 1 = (E.length : Int) - 1 by omega]
        · rw [← hEl, ← HE.out]
          exact HZ.out.row
    · have HRS := Lib.hid hres
      obtain ⟨X, hX⟩ : ∃ X, X = seeS L k2 bad2 := ⟨_, rfl⟩
      have HXX := Lib.hid hX.symm
      rw [show seeS L k2 bad2 = [] from if_neg hb] at hX
      have g43 : (X == [43]) = false := by rw [hX]; rfl
      have g45 : (X == [45]) = false := by rw [hX]; rfl
      clear hX hres hb
      go_wp2_with (fail)
      refine (HSEE.out _ K.out.made _ _ _ _ _ _).mono ?_
      rintro e1 u4 ⟨rfl, hm⟩
      rewrite [HXX.out]
      have K5 := Lib.hid (K.out.next hm)
      clear hm K a0 a1 a2 a3 a4
      obtain ⟨a0, a1, a2, a3, a4⟩ := K5.out.cellB
      go_wp2_with (fail)
      refine (HSEE.out _ K5.out.made _ _ _ _ _ _).mono ?_
      rintro e1 u5 ⟨rfl, hm⟩
      rewrite [HXX.out]
      have K6 := Lib.hid (K5.out.next hm)
      clear hm K5 a0 a1 a2 a3 a4
      have K5 := Lib.hid K6.out
      clear K6
      obtain ⟨a0, a1, a2, a3, a4⟩ := K5.out.cellB
      obtain ⟨b0, b1, b2, b3, b4⟩ := K5.out.cellR
      obtain ⟨a0, a1, a2, a3, a4⟩ := K5.out.cellB
      have KR := Lib.hid (K5.out.allR (.slice lo L.length c) (.int .i64 k2) (.int .i64 d) (.int .i64 bad2) (.slice eo2 en2 ec2))
      have fr := free_of_lit K5.out.res
      have lr := heap_lt K5.out.res
      go_wp2
      refine post_named (fun u => SX W w (.slice eo2 en2 ec2) E w.heap.size _ (w.heap.size + 1) _ u) KR.out ?_
      intro z hz
      obtain ⟨q0, q1, q2, q3, q4⟩ := hz.cellR
      have HZ := Lib.hid hz
      clear hz KR
      refine bodyPost_ret (v := .tuple #[.agg #[.slice lo L.length c, .int .i64 k2, .int .i64 d, .int .i64 bad2, .slice eo2 en2 ec2], .int .i64 kk]) (by simp [results, Try.results36, go_sem, q0, q1, q2, q3, q4]) rfl ?_
      rw [HRS.out]
      exact ⟨k2, eo2, en2, ec2, E, kk, rfl, hk2, rfl, HZ.out.row, HZ.out.kept⟩
theorem fac_all (W : World) (lo : Option Addr) (c : Nat) (L : List Tk) (hT : Toks W lo c L) (hL : L.length ≤ 10000) : ∀ N, ReadC .fac 78 W lo c L N
  | 0 => fun _ _ _ _ _ _ _ hN _ _ _ _ _ => absurd hN (Nat.not_lt_zero _)
  | N + 1 => factor_step W lo c L hT hL N (sum_step W lo c L hT hL N (product_step W lo c L hT hL N (fac_all W lo c L hT hL N))) (fac_all W lo c L hT hL N)
set_option maxRecDepth 100000 in
set_option maxHeartbeats 4000000 in
theorem rparse_any (lo : Option Addr) (c : Nat) (L : List Tk) (w : World) (hT : Toks w lo c L) (hL : L.length ≤ 10000) (res : Rs) (hR : Rd .sum 0 (L.map Tk.q) res) : Calls Try.prog 19 #[.slice lo L.length c] w (PSays (L.map Tk.q) w res) := by
  have HS := Lib.hid (sum_step w lo c L hT hL (L.length + 1) (product_step w lo c L hT hL (L.length + 1) (fac_all w lo c L hT hL (L.length + 1))) 0 0 [] none 0 res w (by omega) (Nat.zero_le _) (Nat.zero_le _) (by simp; omega) (grows_nil (Made.refl w) (Nat.le_refl _)) hR)
  have HWY := Lib.hid (rd_why hR)
  clear hT hR
  go_enter Try.func19, Try.ntmps19
  go_wp2_with (fail)
  refine HS.out.mono ?_
  intro x u1 hq
  cases res with
  | ok a r =>
    obtain ⟨k', eo, ec, rfl, hk, hr, hG, -⟩ := hq
    rewrite [show ([] : List Tm).length + a.size = a.size from Nat.zero_add _] at hG
    rewrite [show ([] : List Tm).length + a.size = a.size from Nat.zero_add _]
    obtain ⟨so, cp, hv, hrec⟩ := hG.recs tm_len (by decide)
    have hl : ([] ++ a.post ([] : List Tm).length).length = a.size := by rw [List.nil_append, post_len]
    rewrite [hl] at hv
    simp only [Value.slice.injEq] at hv
    obtain ⟨rfl, -, rfl⟩ := hv
    have HREC := Lib.hid hrec
    have HM := Lib.hid hG.made
    have HRK := Lib.hid (show ((L.map Tk.q).length : Int) - r.length = k' by rw [hr, List.length_drop, List.length_map]; omega)
    clear hG hr hrec hl
    have m1 : Made u1 (u1.alloc (.cells (SC lo L.length c k' 0 0 eo a.size ec).toArray TQ)) := (Made.refl u1).alloc (Nat.le_refl _) _
    have HX := Lib.hid (show Made u1 (u1.alloc (.cells (SC lo L.length c k' 0 0 eo a.size ec).toArray TQ)) ∧ (u1.alloc (.cells (SC lo L.length c k' 0 0 eo a.size ec).toArray TQ)).heap[u1.heap.size]? = some (.cells (SC lo L.length c k' 0 0 eo a.size ec).toArray TQ (0, 0)) from ⟨m1, heap_alloc_new _ _⟩)
    clear m1
    go_upto_region 2 with (fail)
    refine world_named (fun u => Made u1 u ∧ u.heap[u1.heap.size]? = some (.cells (SC lo L.length c k' 0 0 eo a.size ec).toArray TQ (0, 0))) HX.out ?_
    rintro u2 ⟨hm2, hb⟩
    have HM2 := Lib.hid hm2
    have a1 : u2.cell? ⟨u1.heap.size, 1, none⟩ = some (.int .i64 k') := cell_of_lit hb 1
    have a3 : u2.cell? ⟨u1.heap.size, 3, none⟩ = some (.int .i64 0) := cell_of_lit hb 3
    have a4 : u2.cell? ⟨u1.heap.size, 4, none⟩ = some (.slice eo a.size ec) := cell_of_lit hb 4
    clear hm2 hb HX
    go_wp2_with (fail)
    go_quiet (fail)
    go_wp2
    refine bodyPost_ret (v := .tuple #[.slice eo a.size ec, .int .i64 k', .int .i64 0]) (by simp [results, Try.results19, go_sem]) rfl ?_
    exact ⟨eo, ec, by rw [HRK.out], HREC.out.made tm_len (Made.trans HM2.out (below_drewN (Made.refl _) _)), below_drewN (Made.trans HM.out HM2.out) _⟩
  | bad r wy =>
    obtain ⟨k', eo, en, ec, E, kk, rfl, hk, hr, hG, -⟩ := hq
    have hwn : (wy != 0) = true := bne_iff_ne.2 (by have := HWY.out r wy rfl; omega)
    have HM := Lib.hid hG.made
    have HRK := Lib.hid (show ((L.map Tk.q).length : Int) - r.length = k' by rw [hr, List.length_drop, List.length_map]; omega)
    clear hG hr
    have m1 : Made u1 (u1.alloc (.cells (SC lo L.length c k' 0 wy eo en ec).toArray TQ)) := (Made.refl u1).alloc (Nat.le_refl _) _
    have HX := Lib.hid (show Made u1 (u1.alloc (.cells (SC lo L.length c k' 0 wy eo en ec).toArray TQ)) ∧ (u1.alloc (.cells (SC lo L.length c k' 0 wy eo en ec).toArray TQ)).heap[u1.heap.size]? = some (.cells (SC lo L.length c k' 0 wy eo en ec).toArray TQ (0, 0)) from ⟨m1, heap_alloc_new _ _⟩)
    clear m1
    go_upto_region 2 with (fail)
    refine world_named (fun u => Made u1 u ∧ u.heap[u1.heap.size]? = some (.cells (SC lo L.length c k' 0 wy eo en ec).toArray TQ (0, 0))) HX.out ?_
    rintro u2 ⟨hm2, hb⟩
    have HM2 := Lib.hid hm2
    have a1 : u2.cell? ⟨u1.heap.size, 1, none⟩ = some (.int .i64 k') := cell_of_lit hb 1
    have a3 : u2.cell? ⟨u1.heap.size, 3, none⟩ = some (.int .i64 wy) := cell_of_lit hb 3
    clear hm2 hb HX
    go_wp2_with (fail)
    go_quiet (fail)
    go_wp2
    refine bodyPost_ret (v := .tuple #[.slice none 0 0, .int .i64 k', .int .i64 wy]) (by simp [results, Try.results19, go_sem]) rfl ?_
    exact ⟨by rw [HRK.out], below_drewN (Made.trans HM.out HM2.out) _⟩
end
end Go.Proofs.Ytebpimjbjjmpaaa
