/- What factor of the document's answer for expr returns, from what its callees return on what is shorter; no condition but those named. -/
import Derived.Test.YtebpimjbjjmpaaaExprRefA
namespace Go.Proofs.Ytebpimjbjjmpaaa
open Go.ChangeShapes Go.WideShapes Go.ChangeAt Go.RowKit Go.Sort BigFrame

/-- What a reading tells. -/
def RdQ (W w : World) (lo : Option Addr) (c : Nat) (L : List Tk) (d : Nat) (e : List Tm) : Rs → Ending → World → Prop
  | .ok a r, x, w' => ∃ (k' : Nat) (eo : Option Addr) (ec : Nat), x = .returned (.tuple #[SV lo L.length c k' d 0 eo (e.length + a.size) ec, .int .i64 ((e.length : Int) + a.size - 1)]) ∧ k' ≤ L.length ∧ r = (L.map Tk.q).drop k' ∧
      Grows Tm.cells 5 TE W W.heap.size (.slice eo (e.length + a.size) ec) (e ++ a.post e.length) w' ∧ Kept w w'
  | .bad r why, x, w' => ∃ (k' : Nat) (eo : Option Addr) (en ec : Nat) (e' : List Tm) (kk : Int), x = .returned (.tuple #[SV lo L.length c k' d why eo en ec, .int .i64 kk]) ∧ k' ≤ L.length ∧ r = (L.map Tk.q).drop k' ∧
      Grows Tm.cells 5 TE W W.heap.size (.slice eo en ec) e' w' ∧ Kept w w'
def ReadC (m : Md) (fn : FuncId) (W : World) (lo : Option Addr) (c : Nat) (L : List Tk) (N : Nat) : Prop :=
  ∀ (k d : Nat) (e : List Tm) (eo : Option Addr) (ec : Nat) (res : Rs) (w : World), L.length - k < N → k ≤ L.length → d ≤ 16 → e.length + (L.length - k) ≤ 50000 → Grows Tm.cells 5 TE W W.heap.size (.slice eo e.length ec) e w → Rd m d ((L.map Tk.q).drop k) res →
    Calls Try.prog fn #[SV lo L.length c k d 0 eo e.length ec] w (RdQ W w lo c L d e res)
theorem drop_cons' {L : List Tk} {k : Nat} {t : Tq} {r : List Tq} (h : (L.map Tk.q).drop k = t :: r) : ∃ hk : k < L.length, L[k].q = t ∧ r = (L.map Tk.q).drop (k + 1) := by
  have hk : k < (L.map Tk.q).length := by
    rcases Nat.lt_or_ge k (L.map Tk.q).length with h' | h'
    · exact h'
    · rw [List.drop_eq_nil_of_le h'] at h
      cases h
  rw [List.drop_eq_getElem_cons hk] at h
  obtain ⟨h1, h2⟩ := List.cons.inj h
  exact ⟨by rwa [List.length_map] at hk, by rw [← h1, List.getElem_map], h2.symm⟩
section
attribute [local irreducible] World.cell?
set_option maxRecDepth 100000 in
set_option maxHeartbeats 32000000 in
theorem factor_step (W : World) (lo : Option Addr) (c : Nat) (L : List Tk) (hT : Toks W lo c L) (hL : L.length ≤ 10000) (N : Nat) (hsum : ReadC .sum 36 W lo c L N) (hfac : ReadC .fac 78 W lo c L N) : ReadC .fac 78 W lo c L (N + 1) := by
  intro k d e eo ec res w hN hk hd hen hG hR
  have HSEE := Lib.hid (fun u (hu : Made W u) (k : Nat) (d bad : Int) (eo : Option Addr) (en ec : Nat) => see_any u lo c L (toks_made hT hu) k d bad eo en ec u (Made.refl u))
  have HX := Lib.hid (sx_start hG (.slice lo L.length c) (.int .i64 k) (.int .i64 d) (.int .i64 0) (.slice eo e.length ec) (.slice none 0 0) (.int .i64 0) (.int .i64 0) (.int .i64 0) (.slice none 0 0))
  have HTT := Lib.hid hT
  have HSUM := Lib.hid hsum
  have HFAC := Lib.hid hfac
  have HG := Lib.hid hG
  have hsg := see_sg L k
  clear hsum hfac hG hT
  generalize hts : (L.map Tk.q).drop k = ts at hR hsg
  generalize hx : seeS L k 0 = X at hsg
  have HTS := Lib.hid hts
  have HXX := Lib.hid hx
  clear hts hx
  cases hR with
  | deepP h hd16 =>
    have g40 : (X == [40]) = true := by
      rw [hsg 40] at h
      exact beq_iff_eq.2 (of_decide_eq_true h)
    have g16 : ((d : Int) == 16) = true := beq_iff_eq.2 (by omega)
    clear hsg h hd16
    go_enter Try.func78, Try.ntmps78
    go_upto_region 1 with (fail)
    refine world_named (fun u => SX W w (.slice eo e.length ec) e w.heap.size _ (w.heap.size + 1) _ u) HX.out ?_
    intro u1 hu
    have K1 := Lib.hid hu
    obtain ⟨a0, a1, a2, a3, a4⟩ := hu.cellB
    clear hu HX
    go_wp2_with (fail)
    refine (HSEE.out u1 K1.out.made _ _ _ _ _ _).mono ?_
    rintro e1 u2 ⟨rfl, hm⟩
    have K2 := Lib.hid (K1.out.next hm)
    rewrite [HXX.out]
    clear K1 hm a0 a1 a2 a3 a4
    obtain ⟨a0, a1, a2, a3, a4⟩ := K2.out.cellB
    have ft := free_of_lit K2.out.blk
    have lt := heap_lt K2.out.blk
    go_wp2_with (fail)
    refine (wrong_any u2 lo L.length c k d 0 eo e.length ec 3 u2 (Made.refl u2)).mono ?_
    rintro e2 u3 ⟨rfl, hm⟩
    rewrite [if_pos rfl]
    have K3 := Lib.hid (K2.out.next hm)
    clear K2 hm a0 a1 a2 a3 a4 ft lt
    have KR := Lib.hid (K3.out.allR (.slice lo L.length c) (.int .i64 k) (.int .i64 d) (.int .i64 3) (.slice eo e.length ec))
    obtain ⟨b0, b1, b2, b3, b4⟩ := K3.out.cellR
    obtain ⟨a0, a1, a2, a3, a4⟩ := K3.out.cellB
    have fr := free_of_lit K3.out.res
    have lr := heap_lt K3.out.res
    go_wp2
    refine post_named (fun u => SX W w (.slice eo e.length ec) e w.heap.size _ (w.heap.size + 1) _ u) KR.out ?_
    intro z hz
    obtain ⟨q0, q1, q2, q3, q4⟩ := hz.cellR
    have HZ := Lib.hid hz
    clear hz KR
    refine bodyPost_ret (v := .tuple #[.agg #[.slice lo L.length c, .int .i64 k, .int .i64 d, .int .i64 3, .slice eo e.length ec], .int .i64 0]) (by simp [results, Try.results78, go_sem, q0, q1, q2, q3, q4]) rfl ?_
    exact ⟨k, eo, e.length, ec, e, 0, rfl, hk, HTS.out.symm, HZ.out.row, HZ.out.kept⟩
  | deepN h hd16 =>
    have g40 : (X == [40]) = false := by
      have h9 := sg_not (c' := 40) h (by decide)
      rw [hsg 40] at h9
      exact beq_eq_false_iff_ne.2 (of_decide_eq_false h9)
    have g45 : (X == [45]) = true := by
      rw [hsg 45] at h
      exact beq_iff_eq.2 (of_decide_eq_true h)
    have g16 : ((d : Int) == 16) = true := beq_iff_eq.2 (by omega)
    clear hsg h hd16
    go_enter Try.func78, Try.ntmps78
    go_upto_region 1 with (fail)
    refine world_named (fun u => SX W w (.slice eo e.length ec) e w.heap.size _ (w.heap.size + 1) _ u) HX.out ?_
    intro u1 hu
    have K1 := Lib.hid hu
    obtain ⟨a0, a1, a2, a3, a4⟩ := hu.cellB
    clear hu HX
    go_wp2_with (fail)
    refine (HSEE.out u1 K1.out.made _ _ _ _ _ _).mono ?_
    rintro e1 u2 ⟨rfl, hm⟩
    have K2 := Lib.hid (K1.out.next hm)
    rewrite [HXX.out]
    clear K1 hm a0 a1 a2 a3 a4
    obtain ⟨a0, a1, a2, a3, a4⟩ := K2.out.cellB
    have ft := free_of_lit K2.out.blk
    have lt := heap_lt K2.out.blk
    go_wp2_with (fail)
    refine (wrong_any u2 lo L.length c k d 0 eo e.length ec 3 u2 (Made.refl u2)).mono ?_
    rintro e2 u3 ⟨rfl, hm⟩
    rewrite [if_pos rfl]
    have K3 := Lib.hid (K2.out.next hm)
    clear K2 hm a0 a1 a2 a3 a4 ft lt
    have KR := Lib.hid (K3.out.allR (.slice lo L.length c) (.int .i64 k) (.int .i64 d) (.int .i64 3) (.slice eo e.length ec))
    obtain ⟨b0, b1, b2, b3, b4⟩ := K3.out.cellR
    obtain ⟨a0, a1, a2, a3, a4⟩ := K3.out.cellB
    have fr := free_of_lit K3.out.res
    have lr := heap_lt K3.out.res
    go_wp2
    refine post_named (fun u => SX W w (.slice eo e.length ec) e w.heap.size _ (w.heap.size + 1) _ u) KR.out ?_
    intro z hz
    obtain ⟨q0, q1, q2, q3, q4⟩ := hz.cellR
    have HZ := Lib.hid hz
    clear hz KR
    refine bodyPost_ret (v := .tuple #[.agg #[.slice lo L.length c, .int .i64 k, .int .i64 d, .int .i64 3, .slice eo e.length ec], .int .i64 0]) (by simp [results, Try.results78, go_sem, q0, q1, q2, q3, q4]) rfl ?_
    exact ⟨k, eo, e.length, ec, e, 0, rfl, hk, HTS.out.symm, HZ.out.row, HZ.out.kept⟩
  | @parOk _ t r a t2 r2 h hd16 hs hc =>
    have g40 : (X == [40]) = true := by
      rw [hsg 40] at h
      exact beq_iff_eq.2 (of_decide_eq_true h)
    have g45 : (X == [45]) = false := by
      have h9 := sg_not (c' := 45) h (by decide)
      rw [hsg 45] at h9
      exact beq_eq_false_iff_ne.2 (of_decide_eq_false h9)
    have g16 : ((d : Int) == 16) = false := beq_eq_false_iff_ne.2 (by omega)
    obtain ⟨hk1, -, hr⟩ := drop_cons' HTS.out
    rw [hr] at hs
    have ek : ((k + 1 : Nat) : Int) = (k : Int) + 1 := by omega
    have ed : ((d + 1 : Nat) : Int) = (d : Int) + 1 := by omega
    have HS := Lib.hid (fun u hu => HSUM.out (k + 1) (d + 1) e eo ec _ u (by omega) (by omega) (by omega) (by omega) hu hs)
    rewrite [ek, ed] at HS
    have hd1 : (d : Int) ≤ 16 := by omega
    have hkk : (k : Int) ≤ 10000 := by omega
    clear hsg h hr hs ek ed
    go_enter Try.func78, Try.ntmps78
    go_upto_region 1 with (fail)
    refine world_named (fun u => SX W w (.slice eo e.length ec) e w.heap.size _ (w.heap.size + 1) _ u) HX.out ?_
    intro u1 hu
    have K1 := Lib.hid hu
    obtain ⟨a0, a1, a2, a3, a4⟩ := hu.cellB
    clear hu HX
    go_wp2_with (fail)
    refine (HSEE.out u1 K1.out.made _ _ _ _ _ _).mono ?_
    rintro e1 u2 ⟨rfl, hm⟩
    have K2 := Lib.hid (K1.out.next hm)
    rewrite [HXX.out]
    clear K1 hm a0 a1 a2 a3 a4
    obtain ⟨a0, a1, a2, a3, a4⟩ := K2.out.cellB
    have ft := free_of_lit K2.out.blk
    have lt := heap_lt K2.out.blk
    have K3 := Lib.hid ((K2.out.setB 1 (.int .i64 ((k : Int) + 1)) (cs' := [.slice lo L.length c, .int .i64 ((k : Int) + 1), .int .i64 d, .int .i64 0, .slice eo e.length ec]) rfl).setB 2 (.int .i64 ((d : Int) + 1)) (cs' := [.slice lo L.length c, .int .i64 ((k : Int) + 1), .int .i64 ((d : Int) + 1), .int .i64 0, .slice eo e.length ec]) rfl)
    go_wp2_with (fail)
    refine (HS.out _ K3.out.row).mono ?_
    rintro e2 u3 ⟨k', eo2, ec2, rfl, hk', hr', hG2, hKP⟩
    have HR2 := Lib.hid hr'
    have K4 := Lib.hid (K3.out.call hKP hG2)
    clear hr' hG2 hKP K3 K2 a0 a1 a2 a3 a4 ft lt HS
    obtain ⟨a0, a1, a2, a3, a4⟩ := K4.out.cellB
    have ft := free_of_lit K4.out.blk
    have lt := heap_lt K4.out.blk
    have hkk' : (k' : Int) ≤ 10000 := by omega
    obtain ⟨E, hE⟩ : ∃ E, E = e ++ a.post e.length := ⟨_, rfl⟩
    have hEl : E.length = e.length + a.size := by rw [hE, List.length_append, post_len]
    rewrite [← hE, ← hEl] at K4
    have hidx : (e.length : Int) + (a.size : Int) - 1 = (E.length : Int) - 1 := by omega
    rewrite [← hEl, hidx]
    have HE := Lib.hid hE
    have HEL := Lib.hid hEl
    clear hE hEl hidx
    have K4b := Lib.hid (K4.out.allB (.slice lo L.length c) (.int .i64 k') (.int .i64 ((d : Int) + 1)) (.int .i64 0) (.slice eo2 E.length ec2))
    go_upto_region 13 with (fail)
    refine world_named (fun u => SX W w (.slice eo2 E.length ec2) E w.heap.size _ (w.heap.size + 1) _ u) K4b.out ?_
    intro u3 hu3
    have K4 := Lib.hid hu3
    clear hu3 K4b a0 a1 a2 a3 a4 ft lt
    obtain ⟨a0, a1, a2, a3, a4⟩ := K4.out.cellB
    have ft := free_of_lit K4.out.blk
    have lt := heap_lt K4.out.blk
    have K5 := Lib.hid (K4.out.setB 2 (.int .i64 d) (cs' := [.slice lo L.length c, .int .i64 k', .int .i64 d, .int .i64 0, .slice eo2 E.length ec2]) rfl)
    have g41 : (seeS L k' 0 == [41]) = true := by
      have h9 := see_sg L k' 41
      rw [← HR2.out, hc] at h9
      exact beq_iff_eq.2 (of_decide_eq_true h9.symm)
    obtain ⟨hk2, -, hr2⟩ := drop_cons' HR2.out.symm
    have HR3 := Lib.hid hr2
    obtain ⟨X2, hX2⟩ : ∃ X2, seeS L k' 0 = X2 := ⟨_, rfl⟩
    rewrite [hX2] at g41
    have HX2 := Lib.hid hX2
    clear hX2
    clear hr2 hc
    go_wp2_with (fail)
    refine (HSEE.out _ K5.out.made _ _ _ _ _ _).mono ?_
    rintro e3 u4 ⟨rfl, hm⟩
    rewrite [HX2.out]
    have K6 := Lib.hid (K5.out.next hm)
    clear hm K5 K4 a0 a1 a2 a3 a4 ft lt
    obtain ⟨a0, a1, a2, a3, a4⟩ := K6.out.cellB
    have ft := free_of_lit K6.out.blk
    have lt := heap_lt K6.out.blk
    have K7 := Lib.hid (K6.out.setB 1 (.int .i64 ((k' : Int) + 1)) (cs' := [.slice lo L.length c, .int .i64 ((k' : Int) + 1), .int .i64 d, .int .i64 0, .slice eo2 E.length ec2]) rfl)
    go_upto_region 17 with (fail)
    refine world_named (fun u => SX W w (.slice eo2 E.length ec2) E w.heap.size _ (w.heap.size + 1) _ u) K7.out ?_
    intro u5 hu5
    have K8 := Lib.hid hu5
    clear hu5 K7 K6 a0 a1 a2 a3 a4 ft lt
    have KR := Lib.hid (K8.out.allR (.slice lo L.length c) (.int .i64 ((k' : Int) + 1)) (.int .i64 d) (.int .i64 0) (.slice eo2 E.length ec2))
    obtain ⟨b0, b1, b2, b3, b4⟩ := K8.out.cellR
    obtain ⟨a0, a1, a2, a3, a4⟩ := K8.out.cellB
    have fr := free_of_lit K8.out.res
    have lr := heap_lt K8.out.res
    go_wp2
    refine post_named (fun u => SX W w (.slice eo2 E.length ec2) E w.heap.size _ (w.heap.size + 1) _ u) KR.out ?_
    intro z hz
    obtain ⟨q0, q1, q2, q3, q4⟩ := hz.cellR
    have HZ := Lib.hid hz
    clear hz KR
    refine bodyPost_ret (v := .tuple #[.agg #[.slice lo L.length c, .int .i64 ((k' : Int) + 1), .int .i64 d, .int .i64 0, .slice eo2 E.length ec2], .int .i64 ((E.length : Int) - 1)]) (by simp [results, Try.results78, go_sem, q0, q1, q2, q3, q4]) rfl ?_
    have ek2 : ((k' + 1 : Nat) : Int) = (k' : Int) + 1 := by omega
    refine ⟨k' + 1, eo2, ec2, ?_, hk2, HR3.out, ?_, HZ.out.kept⟩
    · rw [ek2, ← HEL.out, show (e.length : Int) + (a.size : Int) - 1 = (E.length : Int) - 1 by have := HEL.out; omega]
    · rw [← HE.out, ← HEL.out]
      exact HZ.out.row
  | @parOpen _ t r a r1 h hd16 hs hc =>
    have g40 : (X == [40]) = true := by
      rw [hsg 40] at h
      exact beq_iff_eq.2 (of_decide_eq_true h)
    have g45 : (X == [45]) = false := by
      have h9 := sg_not (c' := 45) h (by decide)
      rw [hsg 45] at h9
      exact beq_eq_false_iff_ne.2 (of_decide_eq_false h9)
    have g16 : ((d : Int) == 16) = false := beq_eq_false_iff_ne.2 (by omega)
    obtain ⟨hk1, -, hr⟩ := drop_cons' HTS.out
    rw [hr] at hs
    have ek : ((k + 1 : Nat) : Int) = (k : Int) + 1 := by omega
    have ed : ((d + 1 : Nat) : Int) = (d : Int) + 1 := by omega
    have HS := Lib.hid (fun u hu => HSUM.out (k + 1) (d + 1) e eo ec _ u (by omega) (by omega) (by omega) (by omega) hu hs)
    rewrite [ek, ed] at HS
    have hd1 : (d : Int) ≤ 16 := by omega
    have hkk : (k : Int) ≤ 10000 := by omega
    clear hsg h hr hs ek ed
    go_enter Try.func78, Try.ntmps78
    go_upto_region 1 with (fail)
    refine world_named (fun u => SX W w (.slice eo e.length ec) e w.heap.size _ (w.heap.size + 1) _ u) HX.out ?_
    intro u1 hu
    have K1 := Lib.hid hu
    obtain ⟨a0, a1, a2, a3, a4⟩ := hu.cellB
    clear hu HX
    go_wp2_with (fail)
    refine (HSEE.out u1 K1.out.made _ _ _ _ _ _).mono ?_
    rintro e1 u2 ⟨rfl, hm⟩
    have K2 := Lib.hid (K1.out.next hm)
    rewrite [HXX.out]
    clear K1 hm a0 a1 a2 a3 a4
    obtain ⟨a0, a1, a2, a3, a4⟩ := K2.out.cellB
    have ft := free_of_lit K2.out.blk
    have lt := heap_lt K2.out.blk
    have K3 := Lib.hid ((K2.out.setB 1 (.int .i64 ((k : Int) + 1)) (cs' := [.slice lo L.length c, .int .i64 ((k : Int) + 1), .int .i64 d, .int .i64 0, .slice eo e.length ec]) rfl).setB 2 (.int .i64 ((d : Int) + 1)) (cs' := [.slice lo L.length c, .int .i64 ((k : Int) + 1), .int .i64 ((d : Int) + 1), .int .i64 0, .slice eo e.length ec]) rfl)
    go_wp2_with (fail)
    refine (HS.out _ K3.out.row).mono ?_
    rintro e2 u3 ⟨k', eo2, ec2, rfl, hk', hr', hG2, hKP⟩
    have HR2 := Lib.hid hr'
    have K4 := Lib.hid (K3.out.call hKP hG2)
    clear hr' hG2 hKP K3 K2 a0 a1 a2 a3 a4 ft lt HS
    obtain ⟨a0, a1, a2, a3, a4⟩ := K4.out.cellB
    have ft := free_of_lit K4.out.blk
    have lt := heap_lt K4.out.blk
    have hkk' : (k' : Int) ≤ 10000 := by omega
    obtain ⟨E, hE⟩ : ∃ E, E = e ++ a.post e.length := ⟨_, rfl⟩
    have hEl : E.length = e.length + a.size := by rw [hE, List.length_append, post_len]
    rewrite [← hE, ← hEl] at K4
    have hidx : (e.length : Int) + (a.size : Int) - 1 = (E.length : Int) - 1 := by omega
    rewrite [← hEl, hidx]
    have HE := Lib.hid hE
    have HEL := Lib.hid hEl
    clear hE hEl hidx
    have K4b := Lib.hid (K4.out.allB (.slice lo L.length c) (.int .i64 k') (.int .i64 ((d : Int) + 1)) (.int .i64 0) (.slice eo2 E.length ec2))
    go_upto_region 13 with (fail)
    refine world_named (fun u => SX W w (.slice eo2 E.length ec2) E w.heap.size _ (w.heap.size + 1) _ u) K4b.out ?_
    intro u3 hu3
    have K4 := Lib.hid hu3
    clear hu3 K4b a0 a1 a2 a3 a4 ft lt
    obtain ⟨a0, a1, a2, a3, a4⟩ := K4.out.cellB
    have ft := free_of_lit K4.out.blk
    have lt := heap_lt K4.out.blk
    have K5 := Lib.hid (K4.out.setB 2 (.int .i64 d) (cs' := [.slice lo L.length c, .int .i64 k', .int .i64 d, .int .i64 0, .slice eo2 E.length ec2]) rfl)
    have g41 : (seeS L k' 0 == [41]) = false := by
      have h9 := see_sg L k' 41
      rw [← HR2.out, hc] at h9
      exact beq_eq_false_iff_ne.2 (of_decide_eq_false h9.symm)
    obtain ⟨X2, hX2⟩ : ∃ X2, seeS L k' 0 = X2 := ⟨_, rfl⟩
    rewrite [hX2] at g41
    have HX2 := Lib.hid hX2
    clear hX2
    clear hc
    go_wp2_with (fail)
    refine (HSEE.out _ K5.out.made _ _ _ _ _ _).mono ?_
    rintro e3 u4 ⟨rfl, hm⟩
    rewrite [HX2.out]
    have K6 := Lib.hid (K5.out.next hm)
    clear hm K5 K4 a0 a1 a2 a3 a4 ft lt
    obtain ⟨a0, a1, a2, a3, a4⟩ := K6.out.cellB
    have ft := free_of_lit K6.out.blk
    have lt := heap_lt K6.out.blk
    go_wp2_with (fail)
    refine (wrong_any _ lo L.length c k' d 0 eo2 E.length ec2 8 _ (Made.refl _)).mono ?_
    rintro e4 u5 ⟨rfl, hm⟩
    rewrite [if_pos rfl]
    have K8 := Lib.hid (K6.out.next hm)
    clear K6 hm a0 a1 a2 a3 a4 ft lt
    have KR := Lib.hid (K8.out.allR (.slice lo L.length c) (.int .i64 k') (.int .i64 d) (.int .i64 8) (.slice eo2 E.length ec2))
    obtain ⟨b0, b1, b2, b3, b4⟩ := K8.out.cellR
    obtain ⟨a0, a1, a2, a3, a4⟩ := K8.out.cellB
    have fr := free_of_lit K8.out.res
    have lr := heap_lt K8.out.res
    go_wp2
    refine post_named (fun u => SX W w (.slice eo2 E.length ec2) E w.heap.size _ (w.heap.size + 1) _ u) KR.out ?_
    intro z hz
    obtain ⟨q0, q1, q2, q3, q4⟩ := hz.cellR
    have HZ := Lib.hid hz
    clear hz KR
    refine bodyPost_ret (v := .tuple #[.agg #[.slice lo L.length c, .int .i64 k', .int .i64 d, .int .i64 8, .slice eo2 E.length ec2], .int .i64 0]) (by simp [results, Try.results78, go_sem, q0, q1, q2, q3, q4]) rfl ?_
    exact ⟨k', eo2, E.length, ec2, E, 0, rfl, hk', HR2.out, HZ.out.row, HZ.out.kept⟩
  | @parBad _ t r r1 wy h hd16 hs =>
    have hwy := rd_why hs r1 wy rfl
    have g40 : (X == [40]) = true := by
      rw [hsg 40] at h
      exact beq_iff_eq.2 (of_decide_eq_true h)
    have g45 : (X == [45]) = false := by
      have h9 := sg_not (c' := 45) h (by decide)
      rw [hsg 45] at h9
      exact beq_eq_false_iff_ne.2 (of_decide_eq_false h9)
    have g16 : ((d : Int) == 16) = false := beq_eq_false_iff_ne.2 (by omega)
    obtain ⟨hk1, -, hr⟩ := drop_cons' HTS.out
    rw [hr] at hs
    have ek : ((k + 1 : Nat) : Int) = (k : Int) + 1 := by omega
    have ed : ((d + 1 : Nat) : Int) = (d : Int) + 1 := by omega
    have HS := Lib.hid (fun u hu => HSUM.out (k + 1) (d + 1) e eo ec _ u (by omega) (by omega) (by omega) (by omega) hu hs)
    rewrite [ek, ed] at HS
    have hd1 : (d : Int) ≤ 16 := by omega
    have hkk : (k : Int) ≤ 10000 := by omega
    clear hsg h hr hs ek ed
    go_enter Try.func78, Try.ntmps78
    go_upto_region 1 with (fail)
    refine world_named (fun u => SX W w (.slice eo e.length ec) e w.heap.size _ (w.heap.size + 1) _ u) HX.out ?_
    intro u1 hu
    have K1 := Lib.hid hu
    obtain ⟨a0, a1, a2, a3, a4⟩ := hu.cellB
    clear hu HX
    go_wp2_with (fail)
    refine (HSEE.out u1 K1.out.made _ _ _ _ _ _).mono ?_
    rintro e1 u2 ⟨rfl, hm⟩
    have K2 := Lib.hid (K1.out.next hm)
    rewrite [HXX.out]
    clear K1 hm a0 a1 a2 a3 a4
    obtain ⟨a0, a1, a2, a3, a4⟩ := K2.out.cellB
    have ft := free_of_lit K2.out.blk
    have lt := heap_lt K2.out.blk
    have K3 := Lib.hid ((K2.out.setB 1 (.int .i64 ((k : Int) + 1)) (cs' := [.slice lo L.length c, .int .i64 ((k : Int) + 1), .int .i64 d, .int .i64 0, .slice eo e.length ec]) rfl).setB 2 (.int .i64 ((d : Int) + 1)) (cs' := [.slice lo L.length c, .int .i64 ((k : Int) + 1), .int .i64 ((d : Int) + 1), .int .i64 0, .slice eo e.length ec]) rfl)
    go_wp2_with (fail)
    refine (HS.out _ K3.out.row).mono ?_
    rintro e2 u3 ⟨k', eo2, en2, ec2, E, kk, rfl, hk', hr', hG2, hKP⟩
    have HR2 := Lib.hid hr'
    have K4 := Lib.hid (K3.out.call hKP hG2)
    clear hr' hG2 hKP K3 K2 a0 a1 a2 a3 a4 ft lt HS
    obtain ⟨a0, a1, a2, a3, a4⟩ := K4.out.cellB
    have ft := free_of_lit K4.out.blk
    have lt := heap_lt K4.out.blk
    have K4b := Lib.hid (K4.out.allB (.slice lo L.length c) (.int .i64 k') (.int .i64 ((d : Int) + 1)) (.int .i64 wy) (.slice eo2 en2 ec2))
    go_upto_region 13 with (fail)
    refine world_named (fun u => SX W w (.slice eo2 en2 ec2) E w.heap.size _ (w.heap.size + 1) _ u) K4b.out ?_
    intro u3 hu3
    have K4 := Lib.hid hu3
    clear hu3 K4b a0 a1 a2 a3 a4 ft lt
    obtain ⟨a0, a1, a2, a3, a4⟩ := K4.out.cellB
    have ft := free_of_lit K4.out.blk
    have lt := heap_lt K4.out.blk
    have K5 := Lib.hid (K4.out.setB 2 (.int .i64 d) (cs' := [.slice lo L.length c, .int .i64 k', .int .i64 d, .int .i64 wy, .slice eo2 en2 ec2]) rfl)
    have hwn : wy ≠ 0 := by omega
    have g41 : (seeS L k' wy == [41]) = false := by
      unfold seeS
      rw [if_neg hwn]
      rfl
    obtain ⟨X2, hX2⟩ : ∃ X2, seeS L k' wy = X2 := ⟨_, rfl⟩
    rewrite [hX2] at g41
    have HX2 := Lib.hid hX2
    clear hX2
    go_wp2_with (fail)
    refine (HSEE.out _ K5.out.made _ _ _ _ _ _).mono ?_
    rintro e3 u4 ⟨rfl, hm⟩
    rewrite [HX2.out]
    have K6 := Lib.hid (K5.out.next hm)
    clear hm K5 K4 a0 a1 a2 a3 a4 ft lt
    obtain ⟨a0, a1, a2, a3, a4⟩ := K6.out.cellB
    have ft := free_of_lit K6.out.blk
    have lt := heap_lt K6.out.blk
    go_wp2_with (fail)
    refine (wrong_any _ lo L.length c k' d wy eo2 en2 ec2 8 _ (Made.refl _)).mono ?_
    rintro e4 u5 ⟨rfl, hm⟩
    rewrite [if_neg hwn]
    have K8 := Lib.hid (K6.out.next hm)
    clear K6 hm a0 a1 a2 a3 a4 ft lt
    have KR := Lib.hid (K8.out.allR (.slice lo L.length c) (.int .i64 k') (.int .i64 d) (.int .i64 wy) (.slice eo2 en2 ec2))
    obtain ⟨b0, b1, b2, b3, b4⟩ := K8.out.cellR
    obtain ⟨a0, a1, a2, a3, a4⟩ := K8.out.cellB
    have fr := free_of_lit K8.out.res
    have lr := heap_lt K8.out.res
    go_wp2
    refine post_named (fun u => SX W w (.slice eo2 en2 ec2) E w.heap.size _ (w.heap.size + 1) _ u) KR.out ?_
    intro z hz
    obtain ⟨q0, q1, q2, q3, q4⟩ := hz.cellR
    have HZ := Lib.hid hz
    clear hz KR
    refine bodyPost_ret (v := .tuple #[.agg #[.slice lo L.length c, .int .i64 k', .int .i64 d, .int .i64 wy, .slice eo2 en2 ec2], .int .i64 0]) (by simp [results, Try.results78, go_sem, q0, q1, q2, q3, q4]) rfl ?_
    exact ⟨k', eo2, en2, ec2, E, 0, rfl, hk', HR2.out, HZ.out.row, HZ.out.kept⟩
  | @negOk _ t r a r1 h hd16 hs =>
    have g40 : (X == [40]) = false := by
      have h9 := sg_not (c' := 40) h (by decide)
      rw [hsg 40] at h9
      exact beq_eq_false_iff_ne.2 (of_decide_eq_false h9)
    have g45 : (X == [45]) = true := by
      rw [hsg 45] at h
      exact beq_iff_eq.2 (of_decide_eq_true h)
    have g16 : ((d : Int) == 16) = false := beq_eq_false_iff_ne.2 (by omega)
    obtain ⟨hk1, -, hr⟩ := drop_cons' HTS.out
    rw [hr] at hs
    have ek : ((k + 1 : Nat) : Int) = (k : Int) + 1 := by omega
    have ed : ((d + 1 : Nat) : Int) = (d : Int) + 1 := by omega
    have HS := Lib.hid (fun u hu => HFAC.out (k + 1) (d + 1) e eo ec _ u (by omega) (by omega) (by omega) (by omega) hu hs)
    rewrite [ek, ed] at HS
    have hd1 : (d : Int) ≤ 16 := by omega
    have hkk : (k : Int) ≤ 10000 := by omega
    have HRD := Lib.hid hs
    clear hsg h hr hs ek ed
    go_enter Try.func78, Try.ntmps78
    go_upto_region 1 with (fail)
    refine world_named (fun u => SX W w (.slice eo e.length ec) e w.heap.size _ (w.heap.size + 1) _ u) HX.out ?_
    intro u1 hu
    have K1 := Lib.hid hu
    obtain ⟨a0, a1, a2, a3, a4⟩ := hu.cellB
    clear hu HX
    go_wp2_with (fail)
    refine (HSEE.out u1 K1.out.made _ _ _ _ _ _).mono ?_
    rintro e1 u2 ⟨rfl, hm⟩
    have K2 := Lib.hid (K1.out.next hm)
    rewrite [HXX.out]
    clear K1 hm a0 a1 a2 a3 a4
    obtain ⟨a0, a1, a2, a3, a4⟩ := K2.out.cellB
    have ft := free_of_lit K2.out.blk
    have lt := heap_lt K2.out.blk
    have K3 := Lib.hid ((K2.out.setB 1 (.int .i64 ((k : Int) + 1)) (cs' := [.slice lo L.length c, .int .i64 ((k : Int) + 1), .int .i64 d, .int .i64 0, .slice eo e.length ec]) rfl).setB 2 (.int .i64 ((d : Int) + 1)) (cs' := [.slice lo L.length c, .int .i64 ((k : Int) + 1), .int .i64 ((d : Int) + 1), .int .i64 0, .slice eo e.length ec]) rfl)
    go_wp2_with (fail)
    refine (HS.out _ K3.out.row).mono ?_
    rintro e2 u3 ⟨k', eo2, ec2, rfl, hk', hr', hG2, hKP⟩
    have HR2 := Lib.hid hr'
    have K4 := Lib.hid (K3.out.call hKP hG2)
    clear hr' hG2 hKP K3 K2 a0 a1 a2 a3 a4 ft lt HS
    obtain ⟨a0, a1, a2, a3, a4⟩ := K4.out.cellB
    have ft := free_of_lit K4.out.blk
    have lt := heap_lt K4.out.blk
    have hkk' : (k' : Int) ≤ 10000 := by omega
    obtain ⟨E, hE⟩ : ∃ E, E = e ++ a.post e.length := ⟨_, rfl⟩
    have hEl : E.length = e.length + a.size := by rw [hE, List.length_append, post_len]
    rewrite [← hE, ← hEl] at K4
    have hidx : (e.length : Int) + (a.size : Int) - 1 = (E.length : Int) - 1 := by omega
    rewrite [← hEl, hidx]
    have HE := Lib.hid hE
    have HEL := Lib.hid hEl
    clear hE hEl hidx
    have K4b := Lib.hid (K4.out.allB (.slice lo L.length c) (.int .i64 k') (.int .i64 ((d : Int) + 1)) (.int .i64 0) (.slice eo2 E.length ec2))
    go_upto_region 10 with (fail)
    refine world_named (fun u => SX W w (.slice eo2 E.length ec2) E w.heap.size _ (w.heap.size + 1) _ u) K4b.out ?_
    intro u3 hu3
    have K4 := Lib.hid hu3
    clear hu3 K4b a0 a1 a2 a3 a4 ft lt
    obtain ⟨a0, a1, a2, a3, a4⟩ := K4.out.cellB
    have ft := free_of_lit K4.out.blk
    have lt := heap_lt K4.out.blk
    have K5 := Lib.hid (K4.out.setB 2 (.int .i64 d) (cs' := [.slice lo L.length c, .int .i64 k', .int .i64 d, .int .i64 0, .slice eo2 E.length ec2]) rfl)
    have hEn : E.length ≤ 100000 := by
      have h9 := rd_few HRD.out _ _ rfl
      have h8 := HEL.out
      simp only [List.length_drop, List.length_map] at h9
      omega
    go_wp2_with (fail)
    refine (add_ok W lo L.length c k' d eo2 ec2 E hEn ⟨6, 0, [], (E.length : Int) - 1, 0⟩ _ K5.out.row).mono ?_
    rintro e3 u4 ⟨eo3, ec3, rfl, hG3, hKP⟩
    have K6 := Lib.hid (K5.out.call hKP hG3)
    clear hG3 hKP K5 K4 a0 a1 a2 a3 a4 ft lt
    have KR := Lib.hid (K6.out.allR (.slice lo L.length c) (.int .i64 k') (.int .i64 d) (.int .i64 0) (.slice eo3 (E.length + 1) ec3))
    obtain ⟨b0, b1, b2, b3, b4⟩ := K6.out.cellR
    obtain ⟨a0, a1, a2, a3, a4⟩ := K6.out.cellB
    have fr := free_of_lit K6.out.res
    have lr := heap_lt K6.out.res
    go_wp2
    refine post_named (fun u => SX W w (.slice eo3 (E.length + 1) ec3) (E ++ [⟨6, 0, [], (E.length : Int) - 1, 0⟩]) w.heap.size _ (w.heap.size + 1) _ u) KR.out ?_
    intro z hz
    obtain ⟨q0, q1, q2, q3, q4⟩ := hz.cellR
    have HZ := Lib.hid hz
    clear hz KR
    refine bodyPost_ret (v := .tuple #[.agg #[.slice lo L.length c, .int .i64 k', .int .i64 d, .int .i64 0, .slice eo3 (E.length + 1) ec3], .int .i64 E.length]) (by simp [results, Try.results78, go_sem, q0, q1, q2, q3, q4]) rfl ?_
    have hs1 : e.length + (Ex.neg a).size = E.length + 1 := by have := HEL.out; simp only [Ex.size]; omega
    have hs2 : e ++ (Ex.neg a).post e.length = E ++ [⟨6, 0, [], (E.length : Int) - 1, 0⟩] := by
      simp only [Ex.post]
      rw [← List.append_assoc, ← HE.out, HEL.out]
      have : ((e.length + a.size : Nat) : Int) - 1 = (e.length : Int) + (a.size : Int) - 1 := by omega
      rw [this]
    refine ⟨k', eo3, ec3, ?_, hk', HR2.out, ?_, HZ.out.kept⟩
    · rw [hs1, show (e.length : Int) + ((Ex.neg a).size : Int) - 1 = (E.length : Int) by omega]
    · rw [hs1, hs2]
      exact HZ.out.row
  | @negBad _ t r r1 wy h hd16 hs =>
    have hwy := rd_why hs r1 wy rfl
    have g40 : (X == [40]) = false := by
      have h9 := sg_not (c' := 40) h (by decide)
      rw [hsg 40] at h9
      exact beq_eq_false_iff_ne.2 (of_decide_eq_false h9)
    have g45 : (X == [45]) = true := by
      rw [hsg 45] at h
      exact beq_iff_eq.2 (of_decide_eq_true h)
    have g16 : ((d : Int) == 16) = false := beq_eq_false_iff_ne.2 (by omega)
    obtain ⟨hk1, -, hr⟩ := drop_cons' HTS.out
    rw [hr] at hs
    have ek : ((k + 1 : Nat) : Int) = (k : Int) + 1 := by omega
    have ed : ((d + 1 : Nat) : Int) = (d : Int) + 1 := by omega
    have HS := Lib.hid (fun u hu => HFAC.out (k + 1) (d + 1) e eo ec _ u (by omega) (by omega) (by omega) (by omega) hu hs)
    rewrite [ek, ed] at HS
    have hd1 : (d : Int) ≤ 16 := by omega
    have hkk : (k : Int) ≤ 10000 := by omega
    clear hsg h hr hs ek ed
    go_enter Try.func78, Try.ntmps78
    go_upto_region 1 with (fail)
    refine world_named (fun u => SX W w (.slice eo e.length ec) e w.heap.size _ (w.heap.size + 1) _ u) HX.out ?_
    intro u1 hu
    have K1 := Lib.hid hu
    obtain ⟨a0, a1, a2, a3, a4⟩ := hu.cellB
    clear hu HX
    go_wp2_with (fail)
    refine (HSEE.out u1 K1.out.made _ _ _ _ _ _).mono ?_
    rintro e1 u2 ⟨rfl, hm⟩
    have K2 := Lib.hid (K1.out.next hm)
    rewrite [HXX.out]
    clear K1 hm a0 a1 a2 a3 a4
    obtain ⟨a0, a1, a2, a3, a4⟩ := K2.out.cellB
    have ft := free_of_lit K2.out.blk
    have lt := heap_lt K2.out.blk
    have K3 := Lib.hid ((K2.out.setB 1 (.int .i64 ((k : Int) + 1)) (cs' := [.slice lo L.length c, .int .i64 ((k : Int) + 1), .int .i64 d, .int .i64 0, .slice eo e.length ec]) rfl).setB 2 (.int .i64 ((d : Int) + 1)) (cs' := [.slice lo L.length c, .int .i64 ((k : Int) + 1), .int .i64 ((d : Int) + 1), .int .i64 0, .slice eo e.length ec]) rfl)
    go_wp2_with (fail)
    refine (HS.out _ K3.out.row).mono ?_
    rintro e2 u3 ⟨k', eo2, en2, ec2, E, kk, rfl, hk', hr', hG2, hKP⟩
    have HR2 := Lib.hid hr'
    have K4 := Lib.hid (K3.out.call hKP hG2)
    clear hr' hG2 hKP K3 K2 a0 a1 a2 a3 a4 ft lt HS
    obtain ⟨a0, a1, a2, a3, a4⟩ := K4.out.cellB
    have ft := free_of_lit K4.out.blk
    have lt := heap_lt K4.out.blk
    have K4b := Lib.hid (K4.out.allB (.slice lo L.length c) (.int .i64 k') (.int .i64 ((d : Int) + 1)) (.int .i64 wy) (.slice eo2 en2 ec2))
    go_upto_region 10 with (fail)
    refine world_named (fun u => SX W w (.slice eo2 en2 ec2) E w.heap.size _ (w.heap.size + 1) _ u) K4b.out ?_
    intro u3 hu3
    have K4 := Lib.hid hu3
    clear hu3 K4b a0 a1 a2 a3 a4 ft lt
    obtain ⟨a0, a1, a2, a3, a4⟩ := K4.out.cellB
    have ft := free_of_lit K4.out.blk
    have lt := heap_lt K4.out.blk
    have K5 := Lib.hid (K4.out.setB 2 (.int .i64 d) (cs' := [.slice lo L.length c, .int .i64 k', .int .i64 d, .int .i64 wy, .slice eo2 en2 ec2]) rfl)
    have hwn : wy ≠ 0 := by omega
    go_wp2_with (fail)
    refine (add_bad _ lo L.length c k' d wy hwn eo2 en2 ec2 ⟨6, 0, [], kk, 0⟩ _ (Made.refl _)).mono ?_
    rintro e3 u4 ⟨rfl, hm⟩
    have K6 := Lib.hid (K5.out.next hm)
    clear hm K5 K4 a0 a1 a2 a3 a4 ft lt
    have KR := Lib.hid (K6.out.allR (.slice lo L.length c) (.int .i64 k') (.int .i64 d) (.int .i64 wy) (.slice eo2 en2 ec2))
    obtain ⟨b0, b1, b2, b3, b4⟩ := K6.out.cellR
    obtain ⟨a0, a1, a2, a3, a4⟩ := K6.out.cellB
    have fr := free_of_lit K6.out.res
    have lr := heap_lt K6.out.res
    go_wp2
    refine post_named (fun u => SX W w (.slice eo2 en2 ec2) E w.heap.size _ (w.heap.size + 1) _ u) KR.out ?_
    intro z hz
    obtain ⟨q0, q1, q2, q3, q4⟩ := hz.cellR
    have HZ := Lib.hid hz
    clear hz KR
    refine bodyPost_ret (v := .tuple #[.agg #[.slice lo L.length c, .int .i64 k', .int .i64 d, .int .i64 wy, .slice eo2 en2 ec2], .int .i64 0]) (by simp [results, Try.results78, go_sem, q0, q1, q2, q3, q4]) rfl ?_
    exact ⟨k', eo2, en2, ec2, E, 0, rfl, hk', HR2.out, HZ.out.row, HZ.out.kept⟩
  | @number _ t r hk2 h0 h1 =>
    have g40 : (X == [40]) = false := by
      have h9 := hsg 40
      rw [show isSg 40 (t :: r) = false by simp [isSg, hk2]] at h9
      exact beq_eq_false_iff_ne.2 (of_decide_eq_false h9.symm)
    have g45 : (X == [45]) = false := by
      have h9 := hsg 45
      rw [show isSg 45 (t :: r) = false by simp [isSg, hk2]] at h9
      exact beq_eq_false_iff_ne.2 (of_decide_eq_false h9.symm)
    obtain ⟨hk1, hq, hr⟩ := drop_cons' HTS.out
    have HR1 := Lib.hid hr
    obtain ⟨t0, ht0⟩ : ∃ t0, L[k] = t0 := ⟨_, rfl⟩
    rw [ht0] at hq
    have HTK := Lib.hid (fun u (hu : Made W u) => toks_cells (toks_made HTT.out hu) hk1 t0 ht0)
    have hki : (k : Int) < (L.length : Int) := by omega
    have hkk : (k : Int) ≤ 10000 := by omega
    obtain ⟨tk, tt, tv, tl, tc⟩ := t0
    subst hq
    clear ht0 hr hsg
    have gk : (tk == 2) = true := beq_iff_eq.2 hk2
    have h0' : (0 : Int) ≤ tv := h0
    have h1' : tv ≤ 1099511627776 := h1
    clear hk2 h0 h1
    go_enter Try.func78, Try.ntmps78
    go_upto_region 1 with (fail)
    refine world_named (fun u => SX W w (.slice eo e.length ec) e w.heap.size _ (w.heap.size + 1) _ u) HX.out ?_
    intro u1 hu
    have K1 := Lib.hid hu
    obtain ⟨a0, a1, a2, a3, a4⟩ := hu.cellB
    clear hu HX
    go_wp2_with (fail)
    refine (HSEE.out u1 K1.out.made _ _ _ _ _ _).mono ?_
    rintro e1 u2 ⟨rfl, hm⟩
    have K2 := Lib.hid (K1.out.next hm)
    rewrite [HXX.out]
    clear K1 hm a0 a1 a2 a3 a4
    obtain ⟨a0, a1, a2, a3, a4⟩ := K2.out.cellB
    have ft := free_of_lit K2.out.blk
    have lt := heap_lt K2.out.blk
    obtain ⟨tb, o, rfl, e0, e1', e2', e3', e4'⟩ := HTK.out u2 K2.out.made
    have KT := Lib.hid (show SX W w (.slice eo e.length ec) e w.heap.size [.slice (some ⟨tb, o, none⟩) L.length c, .int .i64 k, .int .i64 d, .int .i64 0, .slice eo e.length ec] (w.heap.size + 1) [.slice none 0 0, .int .i64 0, .int .i64 0, .int .i64 0, .slice none 0 0] (u2.alloc (.cells #[.int .u8 tk, .string (strOf tt), .int .i64 tv, .int .i64 tl, .int .i64 tc] 50)) ∧ (u2.alloc (.cells #[.int .u8 tk, .string (strOf tt), .int .i64 tv, .int .i64 tl, .int .i64 tc] 50)).heap[u2.heap.size]? = some (.cells (Tk.cells ⟨tk, tt, tv, tl, tc⟩).toArray 50 (0, 0)) from ⟨K2.out.next ((Made.refl u2).alloc (Nat.le_refl _) _), heap_alloc_new u2 _⟩)
    have hne : w.heap.size ≠ u2.heap.size := by have := lt; omega
    go_upto_region 21 with (fail)
    refine world_named (fun u => SX W w (.slice eo e.length ec) e w.heap.size [.slice (some ⟨tb, o, none⟩) L.length c, .int .i64 k, .int .i64 d, .int .i64 0, .slice eo e.length ec] (w.heap.size + 1) [.slice none 0 0, .int .i64 0, .int .i64 0, .int .i64 0, .slice none 0 0] u ∧ u.heap[u2.heap.size]? = some (.cells (Tk.cells ⟨tk, tt, tv, tl, tc⟩).toArray 50 (0, 0))) KT.out ?_
    intro u3 hu3
    have K3 := Lib.hid hu3.1
    have B3 := Lib.hid hu3.2
    clear hu3 KT K2 a0 a1 a2 a3 a4 ft lt e0 e1' e2' e3' e4' HTK
    generalize u2.heap.size = tn at *
    clear u2
    obtain ⟨a0, a1, a2, a3, a4⟩ := K3.out.cellB
    have ft := free_of_lit K3.out.blk
    have lt := heap_lt K3.out.blk
    have t0 : u3.cell? ⟨tn, 0, none⟩ = some (.int .u8 tk) := cell_of_lit B3.out 0
    have t1 : u3.cell? ⟨tn, 1, none⟩ = some (.string (strOf tt)) := cell_of_lit B3.out 1
    have t2 : u3.cell? ⟨tn, 2, none⟩ = some (.int .i64 tv) := cell_of_lit B3.out 2
    go_upto_region 23 with (fail)
    refine world_named (fun u => SX W w (.slice eo e.length ec) e w.heap.size [.slice (some ⟨tb, o, none⟩) L.length c, .int .i64 ((k : Int) + 1), .int .i64 d, .int .i64 0, .slice eo e.length ec] (w.heap.size + 1) _ u ∧ u.heap[tn]? = some (.cells (Tk.cells ⟨tk, tt, tv, tl, tc⟩).toArray 50 (0, 0))) ⟨K3.out.setB 1 (.int .i64 ((k : Int) + 1)) rfl, (heap_setCell_other u3 ⟨w.heap.size, 1, none⟩ tn _ (Ne.symm hne)).trans B3.out⟩ ?_
    intro u4 hu4
    have K4 := Lib.hid hu4.1
    have t1' : u4.cell? ⟨tn, 1, none⟩ = some (.string (strOf tt)) := cell_of_lit hu4.2 1
    have t2' : u4.cell? ⟨tn, 2, none⟩ = some (.int .i64 tv) := cell_of_lit hu4.2 2
    clear hu4 K3 B3 a0 a1 a2 a3 a4 ft lt t0 t1 t2
    obtain ⟨a0, a1, a2, a3, a4⟩ := K4.out.cellB
    go_wp2_with (fail)
    refine (add_ok W (some ⟨tb, o, none⟩) L.length c ((k : Int) + 1) d eo ec e (by omega) ⟨1, tv, [], 0, 0⟩ _ K4.out.row).mono ?_
    rintro e3 u5 ⟨eo3, ec3, rfl, hG3, hKP⟩
    have K6 := Lib.hid (K4.out.call hKP hG3)
    clear hG3 hKP K4 a0 a1 a2 a3 a4
    have KR := Lib.hid (K6.out.allR (.slice (some ⟨tb, o, none⟩) L.length c) (.int .i64 ((k : Int) + 1)) (.int .i64 d) (.int .i64 0) (.slice eo3 (e.length + 1) ec3))
    obtain ⟨b0, b1, b2, b3, b4⟩ := K6.out.cellR
    obtain ⟨a0, a1, a2, a3, a4⟩ := K6.out.cellB
    have fr := free_of_lit K6.out.res
    have lr := heap_lt K6.out.res
    go_wp2
    refine post_named (fun u => SX W w (.slice eo3 (e.length + 1) ec3) (e ++ [⟨1, tv, [], 0, 0⟩]) w.heap.size _ (w.heap.size + 1) _ u) KR.out ?_
    intro z hz
    obtain ⟨q0, q1, q2, q3, q4⟩ := hz.cellR
    have HZ := Lib.hid hz
    clear hz KR
    refine bodyPost_ret (v := .tuple #[.agg #[.slice (some ⟨tb, o, none⟩) L.length c, .int .i64 ((k : Int) + 1), .int .i64 d, .int .i64 0, .slice eo3 (e.length + 1) ec3], .int .i64 e.length]) (by simp [results, Try.results78, go_sem, q0, q1, q2, q3, q4]) rfl ?_
    have ek2 : ((k + 1 : Nat) : Int) = (k : Int) + 1 := by omega
    refine ⟨k + 1, eo3, ec3, ?_, hk1, HR1.out, HZ.out.row, HZ.out.kept⟩
    rw [ek2]
    simp only [Ex.size]
    rw [show (e.length : Int) + ((1 : Nat) : Int) - 1 = (e.length : Int) by omega]
  | @name _ t r hk2 h0 =>
    have g40 : (X == [40]) = false := by
      have h9 := hsg 40
      rw [show isSg 40 (t :: r) = false by simp [isSg, hk2]] at h9
      exact beq_eq_false_iff_ne.2 (of_decide_eq_false h9.symm)
    have g45 : (X == [45]) = false := by
      have h9 := hsg 45
      rw [show isSg 45 (t :: r) = false by simp [isSg, hk2]] at h9
      exact beq_eq_false_iff_ne.2 (of_decide_eq_false h9.symm)
    obtain ⟨hk1, hq, hr⟩ := drop_cons' HTS.out
    have HR1 := Lib.hid hr
    obtain ⟨t0, ht0⟩ : ∃ t0, L[k] = t0 := ⟨_, rfl⟩
    rw [ht0] at hq
    have HTK := Lib.hid (fun u (hu : Made W u) => toks_cells (toks_made HTT.out hu) hk1 t0 ht0)
    have hki : (k : Int) < (L.length : Int) := by omega
    have hkk : (k : Int) ≤ 10000 := by omega
    obtain ⟨tk, tt, tv, tl, tc⟩ := t0
    subst hq
    clear ht0 hr hsg
    have gk : (tk == 2) = false := beq_eq_false_iff_ne.2 (by have h9 : tk = 1 := hk2; omega)
    have gk1 : (tk == 1) = true := beq_iff_eq.2 hk2
    have gt : (tt == []) = false := beq_eq_false_iff_ne.2 h0
    clear hk2 h0
    go_enter Try.func78, Try.ntmps78
    go_upto_region 1 with (fail)
    refine world_named (fun u => SX W w (.slice eo e.length ec) e w.heap.size _ (w.heap.size + 1) _ u) HX.out ?_
    intro u1 hu
    have K1 := Lib.hid hu
    obtain ⟨a0, a1, a2, a3, a4⟩ := hu.cellB
    clear hu HX
    go_wp2_with (fail)
    refine (HSEE.out u1 K1.out.made _ _ _ _ _ _).mono ?_
    rintro e1 u2 ⟨rfl, hm⟩
    have K2 := Lib.hid (K1.out.next hm)
    rewrite [HXX.out]
    clear K1 hm a0 a1 a2 a3 a4
    obtain ⟨a0, a1, a2, a3, a4⟩ := K2.out.cellB
    have ft := free_of_lit K2.out.blk
    have lt := heap_lt K2.out.blk
    obtain ⟨tb, o, rfl, e0, e1', e2', e3', e4'⟩ := HTK.out u2 K2.out.made
    have KT := Lib.hid (show SX W w (.slice eo e.length ec) e w.heap.size [.slice (some ⟨tb, o, none⟩) L.length c, .int .i64 k, .int .i64 d, .int .i64 0, .slice eo e.length ec] (w.heap.size + 1) [.slice none 0 0, .int .i64 0, .int .i64 0, .int .i64 0, .slice none 0 0] (u2.alloc (.cells #[.int .u8 tk, .string (strOf tt), .int .i64 tv, .int .i64 tl, .int .i64 tc] 50)) ∧ (u2.alloc (.cells #[.int .u8 tk, .string (strOf tt), .int .i64 tv, .int .i64 tl, .int .i64 tc] 50)).heap[u2.heap.size]? = some (.cells (Tk.cells ⟨tk, tt, tv, tl, tc⟩).toArray 50 (0, 0)) from ⟨K2.out.next ((Made.refl u2).alloc (Nat.le_refl _) _), heap_alloc_new u2 _⟩)
    have hne : w.heap.size ≠ u2.heap.size := by have := lt; omega
    go_upto_region 21 with (fail)
    refine world_named (fun u => SX W w (.slice eo e.length ec) e w.heap.size [.slice (some ⟨tb, o, none⟩) L.length c, .int .i64 k, .int .i64 d, .int .i64 0, .slice eo e.length ec] (w.heap.size + 1) [.slice none 0 0, .int .i64 0, .int .i64 0, .int .i64 0, .slice none 0 0] u ∧ u.heap[u2.heap.size]? = some (.cells (Tk.cells ⟨tk, tt, tv, tl, tc⟩).toArray 50 (0, 0))) KT.out ?_
    intro u3 hu3
    have K3 := Lib.hid hu3.1
    have B3 := Lib.hid hu3.2
    clear hu3 KT K2 a0 a1 a2 a3 a4 ft lt e0 e1' e2' e3' e4' HTK
    generalize u2.heap.size = tn at *
    clear u2
    obtain ⟨a0, a1, a2, a3, a4⟩ := K3.out.cellB
    have ft := free_of_lit K3.out.blk
    have lt := heap_lt K3.out.blk
    have t0 : u3.cell? ⟨tn, 0, none⟩ = some (.int .u8 tk) := cell_of_lit B3.out 0
    have t1 : u3.cell? ⟨tn, 1, none⟩ = some (.string (strOf tt)) := cell_of_lit B3.out 1
    have t2 : u3.cell? ⟨tn, 2, none⟩ = some (.int .i64 tv) := cell_of_lit B3.out 2
    go_upto_region 26 with (fail)
    refine world_named (fun u => SX W w (.slice eo e.length ec) e w.heap.size [.slice (some ⟨tb, o, none⟩) L.length c, .int .i64 ((k : Int) + 1), .int .i64 d, .int .i64 0, .slice eo e.length ec] (w.heap.size + 1) _ u ∧ u.heap[tn]? = some (.cells (Tk.cells ⟨tk, tt, tv, tl, tc⟩).toArray 50 (0, 0))) ⟨K3.out.setB 1 (.int .i64 ((k : Int) + 1)) rfl, (heap_setCell_other u3 ⟨w.heap.size, 1, none⟩ tn _ (Ne.symm hne)).trans B3.out⟩ ?_
    intro u4 hu4
    have K4 := Lib.hid hu4.1
    have t1' : u4.cell? ⟨tn, 1, none⟩ = some (.string (strOf tt)) := cell_of_lit hu4.2 1
    have t2' : u4.cell? ⟨tn, 2, none⟩ = some (.int .i64 tv) := cell_of_lit hu4.2 2
    clear hu4 K3 B3 a0 a1 a2 a3 a4 ft lt t0 t1 t2
    obtain ⟨a0, a1, a2, a3, a4⟩ := K4.out.cellB
    go_wp2_with (fail)
    refine (add_ok W (some ⟨tb, o, none⟩) L.length c ((k : Int) + 1) d eo ec e (by omega) ⟨2, 0, tt, 0, 0⟩ _ K4.out.row).mono ?_
    rintro e3 u5 ⟨eo3, ec3, rfl, hG3, hKP⟩
    have K6 := Lib.hid (K4.out.call hKP hG3)
    clear hG3 hKP K4 a0 a1 a2 a3 a4
    have KR := Lib.hid (K6.out.allR (.slice (some ⟨tb, o, none⟩) L.length c) (.int .i64 ((k : Int) + 1)) (.int .i64 d) (.int .i64 0) (.slice eo3 (e.length + 1) ec3))
    obtain ⟨b0, b1, b2, b3, b4⟩ := K6.out.cellR
    obtain ⟨a0, a1, a2, a3, a4⟩ := K6.out.cellB
    have fr := free_of_lit K6.out.res
    have lr := heap_lt K6.out.res
    go_wp2
    refine post_named (fun u => SX W w (.slice eo3 (e.length + 1) ec3) (e ++ [⟨2, 0, tt, 0, 0⟩]) w.heap.size _ (w.heap.size + 1) _ u) KR.out ?_
    intro z hz
    obtain ⟨q0, q1, q2, q3, q4⟩ := hz.cellR
    have HZ := Lib.hid hz
    clear hz KR
    refine bodyPost_ret (v := .tuple #[.agg #[.slice (some ⟨tb, o, none⟩) L.length c, .int .i64 ((k : Int) + 1), .int .i64 d, .int .i64 0, .slice eo3 (e.length + 1) ec3], .int .i64 e.length]) (by simp [results, Try.results78, go_sem, q0, q1, q2, q3, q4]) rfl ?_
    have ek2 : ((k + 1 : Nat) : Int) = (k : Int) + 1 := by omega
    refine ⟨k + 1, eo3, ec3, ?_, hk1, HR1.out, HZ.out.row, HZ.out.kept⟩
    rw [ek2]
    simp only [Ex.size]
    rw [show (e.length : Int) + ((1 : Nat) : Int) - 1 = (e.length : Int) by omega]
  | noneEnd =>
    have g40 : (X == [40]) = false := by
      have h9 := hsg 40
      rw [show isSg 40 [] = false from rfl] at h9
      exact beq_eq_false_iff_ne.2 (of_decide_eq_false h9.symm)
    have g45 : (X == [45]) = false := by
      have h9 := hsg 45
      rw [show isSg 45 [] = false from rfl] at h9
      exact beq_eq_false_iff_ne.2 (of_decide_eq_false h9.symm)
    have hkl : (L.length : Int) ≤ (k : Int) := by
      have h9 := congrArg List.length HTS.out
      simp only [List.length_drop, List.length_map, List.length_nil] at h9
      omega
    clear hsg
    go_enter Try.func78, Try.ntmps78
    go_upto_region 1 with (fail)
    refine world_named (fun u => SX W w (.slice eo e.length ec) e w.heap.size _ (w.heap.size + 1) _ u) HX.out ?_
    intro u1 hu
    have K1 := Lib.hid hu
    obtain ⟨a0, a1, a2, a3, a4⟩ := hu.cellB
    clear hu HX
    go_wp2_with (fail)
    refine (HSEE.out u1 K1.out.made _ _ _ _ _ _).mono ?_
    rintro e1 u2 ⟨rfl, hm⟩
    have K2 := Lib.hid (K1.out.next hm)
    rewrite [HXX.out]
    clear K1 hm a0 a1 a2 a3 a4
    obtain ⟨a0, a1, a2, a3, a4⟩ := K2.out.cellB
    have ft := free_of_lit K2.out.blk
    have lt := heap_lt K2.out.blk
    go_wp2_with (fail)
    refine (wrong_any u2 lo L.length c k d 0 eo e.length ec 8 u2 (Made.refl u2)).mono ?_
    rintro e2 u3 ⟨rfl, hm⟩
    rewrite [if_pos rfl]
    have K3 := Lib.hid (K2.out.next hm)
    clear K2 hm a0 a1 a2 a3 a4 ft lt
    have KR := Lib.hid (K3.out.allR (.slice lo L.length c) (.int .i64 k) (.int .i64 d) (.int .i64 8) (.slice eo e.length ec))
    obtain ⟨b0, b1, b2, b3, b4⟩ := K3.out.cellR
    obtain ⟨a0, a1, a2, a3, a4⟩ := K3.out.cellB
    have fr := free_of_lit K3.out.res
    have lr := heap_lt K3.out.res
    go_wp2
    refine post_named (fun u => SX W w (.slice eo e.length ec) e w.heap.size _ (w.heap.size + 1) _ u) KR.out ?_
    intro z hz
    obtain ⟨q0, q1, q2, q3, q4⟩ := hz.cellR
    have HZ := Lib.hid hz
    clear hz KR
    refine bodyPost_ret (v := .tuple #[.agg #[.slice lo L.length c, .int .i64 k, .int .i64 d, .int .i64 8, .slice eo e.length ec], .int .i64 0]) (by simp [results, Try.results78, go_sem, q0, q1, q2, q3, q4]) rfl ?_
    exact ⟨k, eo, e.length, ec, e, 0, rfl, hk, HTS.out.symm, HZ.out.row, HZ.out.kept⟩
  | @noneTok _ t r h0 h1 h2 h3 =>
    have g40 : (X == [40]) = false := by
      have h9 := hsg 40
      rw [h0] at h9
      exact beq_eq_false_iff_ne.2 (of_decide_eq_false h9.symm)
    have g45 : (X == [45]) = false := by
      have h9 := hsg 45
      rw [h1] at h9
      exact beq_eq_false_iff_ne.2 (of_decide_eq_false h9.symm)
    obtain ⟨hk1, hq, hr⟩ := drop_cons' HTS.out
    have HR1 := Lib.hid hr
    obtain ⟨t0, ht0⟩ : ∃ t0, L[k] = t0 := ⟨_, rfl⟩
    rw [ht0] at hq
    have HTK := Lib.hid (fun u (hu : Made W u) => toks_cells (toks_made HTT.out hu) hk1 t0 ht0)
    have hki : (k : Int) < (L.length : Int) := by omega
    have hkk : (k : Int) ≤ 10000 := by omega
    obtain ⟨tk, tt, tv, tl, tc⟩ := t0
    subst hq
    clear ht0 hr hsg
    have hways : ((tk == 2) = false ∧ (tk == 1) = false) ∨ ((tk == 2) = false ∧ (tk == 1) = true ∧ (tt == []) = true) ∨ ((tk == 2) = true ∧ (tk == 1) = false ∧ tv < 0) ∨ ((tk == 2) = true ∧ (tk == 1) = false ∧ 0 ≤ tv ∧ 1099511627776 < tv) := by
      have h2' : ¬ (tk = 2 ∧ 0 ≤ tv ∧ tv ≤ 1099511627776) := h2
      have h3' : ¬ (tk = 1 ∧ tt ≠ []) := h3
      by_cases hk2 : tk = 2
      · subst hk2
        by_cases hv : tv < 0
        · exact .inr (.inr (.inl ⟨rfl, rfl, hv⟩))
        · exact .inr (.inr (.inr ⟨rfl, rfl, by omega, by omega⟩))
      · by_cases hk3 : tk = 1
        · refine .inr (.inl ⟨beq_eq_false_iff_ne.2 hk2, beq_iff_eq.2 hk3, ?_⟩)
          exact beq_iff_eq.2 (Decidable.byContradiction fun h => h3' ⟨hk3, h⟩)
        · exact .inl ⟨beq_eq_false_iff_ne.2 hk2, beq_eq_false_iff_ne.2 hk3⟩
    clear h0 h1 h2 h3
    go_enter Try.func78, Try.ntmps78
    go_upto_region 1 with (fail)
    refine world_named (fun u => SX W w (.slice eo e.length ec) e w.heap.size _ (w.heap.size + 1) _ u) HX.out ?_
    intro u1 hu
    have K1 := Lib.hid hu
    obtain ⟨a0, a1, a2, a3, a4⟩ := hu.cellB
    clear hu HX
    go_wp2_with (fail)
    refine (HSEE.out u1 K1.out.made _ _ _ _ _ _).mono ?_
    rintro e1 u2 ⟨rfl, hm⟩
    have K2 := Lib.hid (K1.out.next hm)
    rewrite [HXX.out]
    clear K1 hm a0 a1 a2 a3 a4
    obtain ⟨a0, a1, a2, a3, a4⟩ := K2.out.cellB
    have ft := free_of_lit K2.out.blk
    have lt := heap_lt K2.out.blk
    obtain ⟨tb, o, rfl, e0, e1', e2', e3', e4'⟩ := HTK.out u2 K2.out.made
    have KT := Lib.hid (show SX W w (.slice eo e.length ec) e w.heap.size [.slice (some ⟨tb, o, none⟩) L.length c, .int .i64 k, .int .i64 d, .int .i64 0, .slice eo e.length ec] (w.heap.size + 1) [.slice none 0 0, .int .i64 0, .int .i64 0, .int .i64 0, .slice none 0 0] (u2.alloc (.cells #[.int .u8 tk, .string (strOf tt), .int .i64 tv, .int .i64 tl, .int .i64 tc] 50)) ∧ (u2.alloc (.cells #[.int .u8 tk, .string (strOf tt), .int .i64 tv, .int .i64 tl, .int .i64 tc] 50)).heap[u2.heap.size]? = some (.cells (Tk.cells ⟨tk, tt, tv, tl, tc⟩).toArray 50 (0, 0)) from ⟨K2.out.next ((Made.refl u2).alloc (Nat.le_refl _) _), heap_alloc_new u2 _⟩)
    have hne : w.heap.size ≠ u2.heap.size := by have := lt; omega
    go_upto_region 21 with (fail)
    refine world_named (fun u => SX W w (.slice eo e.length ec) e w.heap.size [.slice (some ⟨tb, o, none⟩) L.length c, .int .i64 k, .int .i64 d, .int .i64 0, .slice eo e.length ec] (w.heap.size + 1) [.slice none 0 0, .int .i64 0, .int .i64 0, .int .i64 0, .slice none 0 0] u ∧ u.heap[u2.heap.size]? = some (.cells (Tk.cells ⟨tk, tt, tv, tl, tc⟩).toArray 50 (0, 0))) KT.out ?_
    intro u3 hu3
    have K3 := Lib.hid hu3.1
    have B3 := Lib.hid hu3.2
    clear hu3 KT K2 a0 a1 a2 a3 a4 ft lt e0 e1' e2' e3' e4' HTK
    generalize u2.heap.size = tn at *
    clear u2
    obtain ⟨a0, a1, a2, a3, a4⟩ := K3.out.cellB
    have ft := free_of_lit K3.out.blk
    have lt := heap_lt K3.out.blk
    have t0 : u3.cell? ⟨tn, 0, none⟩ = some (.int .u8 tk) := cell_of_lit B3.out 0
    have t1 : u3.cell? ⟨tn, 1, none⟩ = some (.string (strOf tt)) := cell_of_lit B3.out 1
    have t2 : u3.cell? ⟨tn, 2, none⟩ = some (.int .i64 tv) := cell_of_lit B3.out 2
    rcases hways with ⟨gk, gk1⟩ | ⟨gk, gk1, gt⟩ | ⟨gk, gk1, gv⟩ | ⟨gk, gk1, gv, gv2⟩
    all_goals
      go_wp2_with (fail)
      refine (wrong_any u3 (some ⟨tb, o, none⟩) L.length c k d 0 eo e.length ec 8 u3 (Made.refl u3)).mono ?_
      rintro e2 u4 ⟨rfl, hm⟩
      rewrite [if_pos rfl]
      have K4 := Lib.hid (K3.out.next hm)
      clear K3 B3 hm a0 a1 a2 a3 a4 ft lt t0 t1 t2
      have KR := Lib.hid (K4.out.allR (.slice (some ⟨tb, o, none⟩) L.length c) (.int .i64 k) (.int .i64 d) (.int .i64 8) (.slice eo e.length ec))
      obtain ⟨b0, b1, b2, b3, b4⟩ := K4.out.cellR
      obtain ⟨a0, a1, a2, a3, a4⟩ := K4.out.cellB
      have fr := free_of_lit K4.out.res
      have lr := heap_lt K4.out.res
      go_wp2
      refine post_named (fun u => SX W w (.slice eo e.length ec) e w.heap.size _ (w.heap.size + 1) _ u) KR.out ?_
      intro z hz
      obtain ⟨q0, q1, q2, q3, q4⟩ := hz.cellR
      have HZ := Lib.hid hz
      clear hz KR
      refine bodyPost_ret (v := .tuple #[.agg #[.slice (some ⟨tb, o, none⟩) L.length c, .int .i64 k, .int .i64 d, .int .i64 8, .slice eo e.length ec], .int .i64 0]) (by simp [results, Try.results78, go_sem, q0, q1, q2, q3, q4]) rfl ?_
      exact ⟨k, eo, e.length, ec, e, 0, rfl, hk, HTS.out.symm, HZ.out.row, HZ.out.kept⟩
end
end Go.Proofs.Ytebpimjbjjmpaaa
