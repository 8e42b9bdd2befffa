/- What value, target, address and two of the parser of package parse do; conditions: the tokens are at most 5000, none longer than 100000; the table of names and strconv's errors stand where their variables lie. -/
import Derived.Test.YtnfmlmamgkpocaaGreatDoorParX2
namespace Go.Proofs.YtnfmlmamgkpocaaGreatDoor
open Go.ChangeShapes Go.WideShapes Go.ChangeAt Go.RowKit Go.Sort BigFrame

section
variable {W : BW} {lo : Option Addr} {n cap b : Nat} {k : Int} {x : Ln} {vo : Option Addr} {vc : Nat} {co : Option Addr} {cc : Nat} {u : World}
theorem ps_c2 (h : PSx W lo n cap b k x vo vc co cc u) : u.cell? ⟨b, 2, none⟩ = some (.int .u8 x.op) := cell_of_lit h.blk 2
theorem ps_c3 (h : PSx W lo n cap b k x vo vc co cc u) : u.cell? ⟨b, 3, none⟩ = some (.int .u8 x.d) := cell_of_lit h.blk 3
theorem ps_c4 (h : PSx W lo n cap b k x vo vc co cc u) : u.cell? ⟨b, 4, none⟩ = some (.int .u8 x.s) := cell_of_lit h.blk 4
theorem ps_c5 (h : PSx W lo n cap b k x vo vc co cc u) : u.cell? ⟨b, 5, none⟩ = some (.int .u8 x.t) := cell_of_lit h.blk 5
theorem ps_c6 (h : PSx W lo n cap b k x vo vc co cc u) : u.cell? ⟨b, 6, none⟩ = some (.int .u8 x.n) := cell_of_lit h.blk 6
theorem ps_c7 (h : PSx W lo n cap b k x vo vc co cc u) : u.cell? ⟨b, 7, none⟩ = some (.int .u8 x.pred) := cell_of_lit h.blk 7
theorem ps_c8 (h : PSx W lo n cap b k x vo vc co cc u) : u.cell? ⟨b, 8, none⟩ = some (.int .u8 x.mode) := cell_of_lit h.blk 8
theorem ps_c9 (h : PSx W lo n cap b k x vo vc co cc u) : u.cell? ⟨b, 9, none⟩ = some (.bool x.new) := cell_of_lit h.blk 9
theorem ps_c13 (h : PSx W lo n cap b k x vo vc co cc u) : u.cell? ⟨b, 13, none⟩ = some (.slice vo x.value.length vc) := cell_of_lit h.blk 13
theorem ps_c14 (h : PSx W lo n cap b k x vo vc co cc u) : u.cell? ⟨b, 14, none⟩ = some (.slice co x.count.length cc) := cell_of_lit h.blk 14
theorem ps_c15 (h : PSx W lo n cap b k x vo vc co cc u) : u.cell? ⟨b, 15, none⟩ = some (.bool x.forced) := cell_of_lit h.blk 15
theorem ps_c1 (h : PSx W lo n cap b k x vo vc co cc u) : u.cell? ⟨b, 1, none⟩ = some (.int .i64 k) := cell_of_lit h.blk 1
end
theorem spost_cases {W : BW} {lo : Option Addr} {n cap b : Nat} {vo : Option Addr} {vc : Nat} {co : Option Addr} {cc : Nat} {rv : Value} {r : PR} {e : Ending} {u : World} (h : SPost W lo n cap b vo vc co cc rv r e u) : (∃ k w, r = .bad k w ∧ k ≤ n ∧ e = .panicked (pChain w) ∧ ∃ x, PAt W lo n cap b (k : Nat) x u) ∨ ∃ k x, r = .ok k x ∧ k ≤ n ∧ e = .returned rv ∧ PSx W lo n cap b (k : Nat) x vo vc co cc u := by
  cases r with
  | ok k x => exact .inr ⟨k, x, rfl, h⟩
  | bad k w => exact .inl ⟨k, w, rfl, h⟩
theorem ppost_cases {W : BW} {lo : Option Addr} {n cap b : Nat} {rv : Value} {r : PR} {e : Ending} {u : World} (h : PPost W lo n cap b rv r e u) : (∃ k w, r = .bad k w ∧ k ≤ n ∧ e = .panicked (pChain w) ∧ ∃ x, PAt W lo n cap b (k : Nat) x u) ∨ ∃ k x, r = .ok k x ∧ k ≤ n ∧ e = .returned rv ∧ PAt W lo n cap b (k : Nat) x u := by
  cases r with
  | ok k x => exact .inr ⟨k, x, rfl, h⟩
  | bad k w => exact .inl ⟨k, w, rfl, h⟩
theorem ppost_ok {W : BW} {lo : Option Addr} {n cap b k : Nat} {x : Ln} {rv : Value} {r : PR} {u : World} (h : r = .ok k x) (hk : k ≤ n) (hp : PAt W lo n cap b (k : Nat) x u) : PPost W lo n cap b rv r (.returned rv) u := by subst h; exact ⟨hk, rfl, hp⟩
theorem ppost_bad {W : BW} {lo : Option Addr} {n cap b k : Nat} {w : Int} {rv : Value} {r : PR} {u : World} (h : r = .bad k w) (hk : k ≤ n) (hp : ∃ x, PAt W lo n cap b (k : Nat) x u) : PPost W lo n cap b rv r (.panicked (pChain w)) u := by subst h; exact ⟨hk, rfl, hp⟩
section
attribute [local irreducible] World.cell?
variable {W : BW} {lo : Option Addr} {cap b : Nat} {L : List Tk} {x : Ln} {vo : Option Addr} {vc : Nat} {co : Option Addr} {cc : Nat}
set_option maxRecDepth 100000 in
set_option maxHeartbeats 8000000 in
theorem value_any (hW : PW W lo cap L) (k : Nat) (hk : k ≤ L.length) (u : World) (hP : PSx W lo L.length cap b k x vo vc co cc u) : Calls Tryz.prog 145 #[psPtr b] u (PPost W lo L.length cap b (.tuple #[]) (immP L k x)) := by
  have HW := Lib.hid hW
  have HP := Lib.hid hP
  have HF := Lib.hid (show immP L k x = immP L k x from rfl)
  clear hW
  have HA := Lib.hid (accept_any HW.out.toks k hk (by have := HW.out.few; omega) [35, 35] u hP)
  clear hP
  go_enter Tryz.func145, Tryz.ntmps145
  go_wp2_with (fail)
  refine HA.out.mono ?_
  rintro e w1 (⟨hs, rfl, hp⟩ | ⟨hs, rfl, hp⟩)
  · have HF1 := Lib.hid (show immP L k x = exprP L pSetV (k + 1) (pSetF x true) from if_pos hs)
    have hk1 : k + 1 ≤ L.length := signR_lt (by rw [hs]; decide)
    have HP1 := Lib.hid hp
    have cs := ps_c15 hp
    have lt := heap_lt hp.blk
    have ft := free_of_lit hp.blk
    have HP2 := Lib.hid (hp.set 15 (.bool true) (x' := pSetF x true) rfl rfl rfl)
    clear hs hp HF HA HP
    go_wp2_with (fail)
    clear cs lt ft HP1
    refine (expression_any HW.out (k + 1) hk1 _ HP2.out).mono ?_
    rintro e w2 (⟨hv, hkv, so, sc, rfl, hts, hp⟩ | ⟨hv, hkv, rfl, hp⟩)
    rotate_left
    · have HB := Lib.hid (ppost_bad (rv := .tuple #[]) (show immP L k x = .bad (valueR L (k + 1)).2.1 (valueR L (k + 1)).2.2 from by rw [HF1.out]; exact if_neg hv) hkv ⟨_, _, _, _, _, hp⟩)
      clear hv hp HP2 HF1 HW
      go_wp2
      exact ⟨rfl, HB.out⟩
    have HR := Lib.hid (show immP L k x = .ok (valueR L (k + 1)).2.1 (pSetV (pSetF x true) (valueR L (k + 1)).1) from by rw [HF1.out]; exact if_pos hv)
    have HS := Lib.hid (hp.setV hts)
    have cs := ps_c13 hp
    have lt := heap_lt hp.blk
    have ft := free_of_lit hp.blk
    obtain ⟨E, hE⟩ : ∃ E, (valueR L (k + 1)).1 = E := ⟨_, rfl⟩
    obtain ⟨En, hEn⟩ : ∃ E, (valueR L (k + 1)).2.1 = E := ⟨_, rfl⟩
    rewrite [hE, hEn] at HR HS
    rewrite [hEn] at hkv
    rewrite [hE]
    clear hv hp hts hE hEn HP2 HF1 HW
    go_wp2
    go_end0
    exact ppost_ok HR.out hkv ⟨_, _, _, _, HS.out⟩
  · have HF1 := Lib.hid (show immP L k x = (signP L [35] k (pSetF x false)).bind fun a x => exprP L pSetV a x from if_neg hs)
    have HP1 := Lib.hid hp
    have cs := ps_c15 hp
    have lt := heap_lt hp.blk
    have ft := free_of_lit hp.blk
    have HP2 := Lib.hid (hp.set 15 (.bool false) (x' := pSetF x false) rfl rfl rfl)
    clear hs hp HF HA HP
    go_wp2_with (fail)
    clear cs lt ft HP1
    refine (expect_any HW.out k hk [35] (by decide) _ HP2.out).mono ?_
    intro e w3 h
    rcases spost_cases h with ⟨kb, wb, hr, hkb, rfl, hpb⟩ | ⟨k3, x3, hr, hk3, rfl, hp⟩
    · have HB := Lib.hid (ppost_bad (rv := .tuple #[]) (show immP L k x = .bad kb wb from by rw [HF1.out, hr]; try rfl) hkb hpb)
      clear h hr hpb HP2 HF1 HW
      go_wp2
      exact ⟨rfl, HB.out⟩
    have HF3 := Lib.hid (show immP L k x = exprP L pSetV k3 x3 from by rw [HF1.out, hr]; try rfl)
    have HP3 := Lib.hid hp
    clear h hr hp HP2 HF1
    go_wp2_with (fail)
    refine (expression_any HW.out k3 hk3 _ HP3.out).mono ?_
    rintro e w4 (⟨hv, hkv, so, sc, rfl, hts, hp⟩ | ⟨hv, hkv, rfl, hp⟩)
    rotate_left
    · have HB := Lib.hid (ppost_bad (rv := .tuple #[]) (show immP L k x = .bad (valueR L k3).2.1 (valueR L k3).2.2 from by rw [HF3.out]; exact if_neg hv) hkv ⟨_, _, _, _, _, hp⟩)
      clear hv hp HP3 HF3 HW
      go_wp2
      exact ⟨rfl, HB.out⟩
    have HR := Lib.hid (show immP L k x = .ok (valueR L k3).2.1 (pSetV x3 (valueR L k3).1) from by rw [HF3.out]; exact if_pos hv)
    have HS := Lib.hid (hp.setV hts)
    have cs := ps_c13 hp
    have lt := heap_lt hp.blk
    have ft := free_of_lit hp.blk
    obtain ⟨E, hE⟩ : ∃ E, (valueR L k3).1 = E := ⟨_, rfl⟩
    obtain ⟨En, hEn⟩ : ∃ E, (valueR L k3).2.1 = E := ⟨_, rfl⟩
    rewrite [hE, hEn] at HR HS
    rewrite [hEn] at hkv
    rewrite [hE]
    clear hv hp hts hE hEn HP3 HF3 HW
    go_wp2
    go_end0
    exact ppost_ok HR.out hkv ⟨_, _, _, _, HS.out⟩
set_option maxRecDepth 100000 in
set_option maxHeartbeats 8000000 in
theorem target_any16 (hW : PW W lo cap L) (k : Nat) (hk : k ≤ L.length) (u : World) (hP : PSx W lo L.length cap b k x vo vc co cc u) : Calls Tryz.prog 147 #[psPtr b] u (PPost W lo L.length cap b (.tuple #[]) (targetP L k x)) := by
  have HW := Lib.hid hW
  have HP := Lib.hid hP
  have HF := Lib.hid (show targetP L k x = targetP L k x from rfl)
  clear hW
  have HA := Lib.hid (accept_any HW.out.toks k hk (by have := HW.out.few; omega) [35, 35] u hP)
  clear hP
  go_enter Tryz.func147, Tryz.ntmps147
  go_wp2_with (fail)
  refine HA.out.mono ?_
  rintro e w1 (⟨hs, rfl, hp⟩ | ⟨hs, rfl, hp⟩)
  · have HF1 := Lib.hid (show targetP L k x = exprP L pSetV (k + 1) (pSetF x true) from if_pos hs)
    have hk1 : k + 1 ≤ L.length := signR_lt (by rw [hs]; decide)
    have HP1 := Lib.hid hp
    have cs := ps_c15 hp
    have lt := heap_lt hp.blk
    have ft := free_of_lit hp.blk
    have HP2 := Lib.hid (hp.set 15 (.bool true) (x' := pSetF x true) rfl rfl rfl)
    clear hs hp HF HA HP
    go_wp2_with (fail)
    clear cs lt ft HP1
    refine (expression_any HW.out (k + 1) hk1 _ HP2.out).mono ?_
    rintro e w2 (⟨hv, hkv, so, sc, rfl, hts, hp⟩ | ⟨hv, hkv, rfl, hp⟩)
    rotate_left
    · have HB := Lib.hid (ppost_bad (rv := .tuple #[]) (show targetP L k x = .bad (valueR L (k + 1)).2.1 (valueR L (k + 1)).2.2 from by rw [HF1.out]; exact if_neg hv) hkv ⟨_, _, _, _, _, hp⟩)
      clear hv hp HP2 HF1 HW
      go_wp2
      exact ⟨rfl, HB.out⟩
    have HR := Lib.hid (show targetP L k x = .ok (valueR L (k + 1)).2.1 (pSetV (pSetF x true) (valueR L (k + 1)).1) from by rw [HF1.out]; exact if_pos hv)
    have HS := Lib.hid (hp.setV hts)
    have cs := ps_c13 hp
    have lt := heap_lt hp.blk
    have ft := free_of_lit hp.blk
    obtain ⟨E, hE⟩ : ∃ E, (valueR L (k + 1)).1 = E := ⟨_, rfl⟩
    obtain ⟨En, hEn⟩ : ∃ E, (valueR L (k + 1)).2.1 = E := ⟨_, rfl⟩
    rewrite [hE, hEn] at HR HS
    rewrite [hEn] at hkv
    rewrite [hE]
    clear hv hp hts hE hEn HP2 HF1 HW
    go_wp2
    go_end0
    exact ppost_ok HR.out hkv ⟨_, _, _, _, HS.out⟩
  · have HF1 := Lib.hid (show targetP L k x = exprP L pSetV k (pSetF x false) from if_neg hs)
    have HP1 := Lib.hid hp
    have cs := ps_c15 hp
    have lt := heap_lt hp.blk
    have ft := free_of_lit hp.blk
    have HP2 := Lib.hid (hp.set 15 (.bool false) (x' := pSetF x false) rfl rfl rfl)
    clear hs hp HF HA HP
    go_wp2_with (fail)
    clear cs lt ft HP1
    refine (expression_any HW.out k hk _ HP2.out).mono ?_
    rintro e w2 (⟨hv, hkv, so, sc, rfl, hts, hp⟩ | ⟨hv, hkv, rfl, hp⟩)
    rotate_left
    · have HB := Lib.hid (ppost_bad (rv := .tuple #[]) (show targetP L k x = .bad (valueR L k).2.1 (valueR L k).2.2 from by rw [HF1.out]; exact if_neg hv) hkv ⟨_, _, _, _, _, hp⟩)
      clear hv hp HP2 HF1 HW
      go_wp2
      exact ⟨rfl, HB.out⟩
    have HR := Lib.hid (show targetP L k x = .ok (valueR L k).2.1 (pSetV (pSetF x false) (valueR L k).1) from by rw [HF1.out]; exact if_pos hv)
    have HS := Lib.hid (hp.setV hts)
    have cs := ps_c13 hp
    have lt := heap_lt hp.blk
    have ft := free_of_lit hp.blk
    obtain ⟨E, hE⟩ : ∃ E, (valueR L k).1 = E := ⟨_, rfl⟩
    obtain ⟨En, hEn⟩ : ∃ E, (valueR L k).2.1 = E := ⟨_, rfl⟩
    rewrite [hE, hEn] at HR HS
    rewrite [hEn] at hkv
    rewrite [hE]
    clear hv hp hts hE hEn HP2 HF1 HW
    go_wp2
    go_end0
    exact ppost_ok HR.out hkv ⟨_, _, _, _, HS.out⟩
set_option maxRecDepth 100000 in
set_option maxHeartbeats 8000000 in
theorem address_any (hW : PW W lo cap L) (k : Nat) (hk : k ≤ L.length) (u : World) (hP : PSx W lo L.length cap b k x vo vc co cc u) : Calls Tryz.prog 186 #[psPtr b] u (PPost W lo L.length cap b (.tuple #[]) (addressP L k x)) := by
  have HW := Lib.hid hW
  have HP := Lib.hid hP
  have HF := Lib.hid (show addressP L k x = (regP L pSetS k x).bind fun a x => (signP L [43] a x).bind fun a x => immP L a x from rfl)
  clear hW
  clear hP
  go_enter Tryz.func186, Tryz.ntmps186
  go_wp2_with (fail)
  refine (register_any HW.out k hk _ HP.out).mono ?_
  intro e w1 h
  rcases spost_cases h with ⟨kb, wb, hr, hkb, rfl, hpb⟩ | ⟨k1, x1, hr, hk1, rfl, hp⟩
  · have HB := Lib.hid (ppost_bad (rv := .tuple #[]) (show addressP L k x = .bad kb wb from by rw [HF.out, take_reg, hr]; try rfl) hkb hpb)
    clear h hr hpb HP HF HW
    go_wp2
    exact ⟨rfl, HB.out⟩
  have HF1 := Lib.hid (show addressP L k x = (signP L [43] k1 (pSetS x1 (regZ L k))).bind fun a x => immP L a x from by rw [HF.out, take_reg, hr]; try rfl)
  have HP1 := Lib.hid hp
  clear h hr hp HP HF
  have cs := ps_c4 HP1.out
  have lt := heap_lt HP1.out.blk
  have ft := free_of_lit HP1.out.blk
  go_wp2_with (fail)
  have HP1s := Lib.hid (HP1.out.set 4 (.int .u8 (regZ L k)) (x' := pSetS x1 (regZ L k)) rfl rfl rfl)
  clear cs lt ft HP1
  refine (expect_any HW.out k1 hk1 [43] (by decide) _ HP1s.out).mono ?_
  intro e w2 h
  rcases spost_cases h with ⟨kb, wb, hr, hkb, rfl, hpb⟩ | ⟨k2, x2, hr, hk2, rfl, hp⟩
  · have HB := Lib.hid (ppost_bad (rv := .tuple #[]) (show addressP L k x = .bad kb wb from by rw [HF1.out, hr]; try rfl) hkb hpb)
    clear h hr hpb HP1s HF1 HW
    go_wp2
    exact ⟨rfl, HB.out⟩
  have HF2 := Lib.hid (show addressP L k x = immP L k2 x2 from by rw [HF1.out, hr]; try rfl)
  have HP2 := Lib.hid hp
  clear h hr hp HP1s HF1
  go_wp2_with (fail)
  refine (value_any HW.out k2 hk2 _ HP2.out).mono ?_
  intro e w3 h
  rcases ppost_cases h with ⟨kb, wb, hr, hkb, rfl, hpb⟩ | ⟨k3, x3, hr, hk3, rfl, vo3, vc3, co3, cc3, hp⟩
  · have HB := Lib.hid (ppost_bad (rv := .tuple #[]) (show addressP L k x = .bad kb wb from by rw [HF2.out, hr]; try rfl) hkb hpb)
    clear h hr hpb HP2 HF2 HW
    go_wp2
    exact ⟨rfl, HB.out⟩
  have HR := Lib.hid (show addressP L k x = .ok k3 x3 from by rw [HF2.out, hr]; try rfl)
  have HP3 := Lib.hid hp
  clear h hr hp HP2 HF2
  go_wp2
  go_end0
  exact ppost_ok HR.out hk3 ⟨_, _, _, _, HP3.out⟩
set_option maxRecDepth 100000 in
set_option maxHeartbeats 8000000 in
theorem beginsV_any (hW : PW W lo cap L) (k : Nat) (hk : k ≤ L.length) (u : World) (hP : PSx W lo L.length cap b k x vo vc co cc u) : Makes Tryz.prog u 144 #[psPtr b] (.bool (beginsV L k)) := by
  intro w hm
  have HC := Lib.hid (psgn2_any hW.toks k hk u hP)
  have HM := Lib.hid hm
  have HB := Lib.hid (show beginsV L k = (decide (signR L k = [35]) || decide (signR L k = [35, 35])) from rfl)
  clear hm hP hW
  go_enter Tryz.func144, Tryz.ntmps144
  go_wp2_with (fail)
  refine (HC.out w HM.out).mono ?_
  rintro e w1 ⟨rfl, h1⟩
  have M1 := Lib.hid h1
  clear h1 HM
  by_cases hs : signR L k = [35]
  · have HV := Lib.hid (show beginsV L k = true by rw [HB.out, decide_eq_true hs]; rfl)
    have hb : (signR L k == [35]) = true := beq_iff_eq.2 hs
    clear hs HB HC
    go_wp2
    go_ret
    exact ⟨by rw [HV.out]; rfl, M1.out⟩
  · have hb : (signR L k == [35]) = false := beq_eq_false_iff_ne.2 hs
    go_wp2_with (fail)
    refine (HC.out w1 M1.out).mono ?_
    rintro e w2 ⟨rfl, h2⟩
    have M2 := Lib.hid h2
    clear h2 M1 HC
    by_cases hs2 : signR L k = [35, 35]
    · have HV := Lib.hid (show beginsV L k = true by rw [HB.out, decide_eq_true hs2, Bool.or_true])
      have hb2 : (signR L k == [35, 35]) = true := beq_iff_eq.2 hs2
      clear hs hs2 HB
      go_wp2
      go_ret
      exact ⟨by rw [HV.out]; rfl, M2.out⟩
    · have HV := Lib.hid (show beginsV L k = false by rw [HB.out, decide_eq_false hs2, decide_eq_false hs]; rfl)
      have hb2 : (signR L k == [35, 35]) = false := beq_eq_false_iff_ne.2 hs2
      clear hs hs2 HB
      go_wp2
      go_ret
      exact ⟨by rw [HV.out]; rfl, M2.out⟩
set_option maxRecDepth 100000 in
set_option maxHeartbeats 8000000 in
theorem opOf_any (op : Int) (w : World) : Calls Tryz.prog 204 #[.int .u8 op] w fun e w' => e = .returned (.int .u8 (valueOp op)) ∧ w = w' := by
  have HV := Lib.hid (show valueOp op = if op = 2 then 7 else if op = 10 then 13 else 0 from rfl)
  go_enter Tryz.func204, Tryz.ntmps204
  by_cases h2 : op = 2
  · have hb : (op == 2) = true := beq_iff_eq.2 h2
    have HR := Lib.hid (show valueOp op = 7 by rw [HV.out, if_pos h2])
    clear h2
    go_wp2
    go_ret
    exact ⟨by rw [HR.out]; rfl, rfl⟩
  · have hb : (op == 2) = false := beq_eq_false_iff_ne.2 h2
    by_cases h10 : op = 10
    · have hb2 : (op == 10) = true := beq_iff_eq.2 h10
      have HR := Lib.hid (show valueOp op = 13 by rw [HV.out, if_neg h2, if_pos h10])
      clear h2 h10
      go_wp2
      go_ret
      exact ⟨by rw [HR.out]; rfl, rfl⟩
    · have hb2 : (op == 10) = false := beq_eq_false_iff_ne.2 h10
      have HR := Lib.hid (show valueOp op = 0 by rw [HV.out, if_neg h2, if_neg h10])
      clear h2 h10
      go_wp2
      go_ret
      exact ⟨by rw [HR.out]; rfl, rfl⟩
theorem valueOp_small (op : Int) : ∃ n : Nat, valueOp op = (n : Int) ∧ n < 32 := by
  unfold valueOp
  split
  · exact ⟨7, rfl, by decide⟩
  split
  · exact ⟨13, rfl, by decide⟩
  · exact ⟨0, rfl, by decide⟩
set_option maxRecDepth 100000 in
set_option maxHeartbeats 8000000 in
theorem two_any (hW : PW W lo cap L) (k : Nat) (hk : k ≤ L.length) (u : World) (hP : PSx W lo L.length cap b k x vo vc co cc u) : Calls Tryz.prog 185 #[psPtr b] u (PPost W lo L.length cap b (.tuple #[]) (twoP L k x)) := by
  have HW := Lib.hid hW
  have HP := Lib.hid hP
  have HF := Lib.hid (show twoP L k x = (regP L pSetS k x).bind fun a x => (signP L [44] a x).bind fun a x => if beginsV L a = true then (chooseP (valueOp (x).op) a x).bind (immP L) else regP L pSetT a x from rfl)
  clear hW
  clear hP
  go_enter Tryz.func185, Tryz.ntmps185
  go_wp2_with (fail)
  refine (register_any HW.out k hk _ HP.out).mono ?_
  intro e w1 h
  rcases spost_cases h with ⟨kb, wb, hr, hkb, rfl, hpb⟩ | ⟨k1, x1, hr, hk1, rfl, hp⟩
  · have HB := Lib.hid (ppost_bad (rv := .tuple #[]) (show twoP L k x = .bad kb wb from by rw [HF.out, take_reg, hr]; try rfl) hkb hpb)
    clear h hr hpb HP HF HW
    go_wp2
    exact ⟨rfl, HB.out⟩
  have HF1 := Lib.hid (show twoP L k x = (signP L [44] k1 (pSetS x1 (regZ L k))).bind fun a x => if beginsV L a = true then (chooseP (valueOp (x).op) a x).bind (immP L) else regP L pSetT a x from by rw [HF.out, take_reg, hr]; try rfl)
  have HP1 := Lib.hid hp
  clear h hr hp HP HF
  have cs := ps_c4 HP1.out
  have lt := heap_lt HP1.out.blk
  have ft := free_of_lit HP1.out.blk
  go_wp2_with (fail)
  have HP1s := Lib.hid (HP1.out.set 4 (.int .u8 (regZ L k)) (x' := pSetS x1 (regZ L k)) rfl rfl rfl)
  clear cs lt ft HP1
  refine (expect_any HW.out k1 hk1 [44] (by decide) _ HP1s.out).mono ?_
  intro e w2 h
  rcases spost_cases h with ⟨kb, wb, hr, hkb, rfl, hpb⟩ | ⟨k2, x2, hr, hk2, rfl, hp⟩
  · have HB := Lib.hid (ppost_bad (rv := .tuple #[]) (show twoP L k x = .bad kb wb from by rw [HF1.out, hr]; try rfl) hkb hpb)
    clear h hr hpb HP1s HF1 HW
    go_wp2
    exact ⟨rfl, HB.out⟩
  have HF2 := Lib.hid (show twoP L k x = if beginsV L k2 = true then (chooseP (valueOp (x2).op) k2 x2).bind (immP L) else regP L pSetT k2 x2 from by rw [HF1.out, hr]; try rfl)
  have HP2 := Lib.hid hp
  clear h hr hp HP1s HF1
  go_wp2_with (fail)
  refine (beginsV_any HW.out k2 hk2 _ HP2.out _ (Made.refl _)).mono ?_
  rintro e w3 ⟨rfl, h3⟩
  have HP3 := Lib.hid (HP2.out.next h3)
  clear h3 HP2
  obtain ⟨q, hq⟩ : ∃ q, beginsV L k2 = q := ⟨_, rfl⟩
  rewrite [hq]
  have c2 := ps_c2 HP3.out
  cases q with
  | true =>
    obtain ⟨n, hn, hn32⟩ := valueOp_small x2.op
    have HF3 := Lib.hid (show twoP L k x = (chooseP (n : Int) k2 x2).bind (immP L) from by rw [HF2.out, if_pos hq, hn])
    clear HF2 hq
    go_wp2_with (fail)
    refine (opOf_any _ _).mono ?_
    rintro e w4 ⟨rfl, rfl⟩
    rewrite [hn]
    clear hn c2
    go_wp2_with (fail)
    refine (choose_any HW.out k2 hk2 n hn32 _ HP3.out).mono ?_
    intro e w5 h
    rcases spost_cases h with ⟨kb, wb, hr, hkb, rfl, hpb⟩ | ⟨k5, x5, hr, hk5, rfl, hp⟩
    · have HB := Lib.hid (ppost_bad (rv := .tuple #[]) (show twoP L k x = .bad kb wb from by rw [HF3.out, hr]; try rfl) hkb hpb)
      clear h hr hpb HP3 HF3 HW
      go_wp2
      exact ⟨rfl, HB.out⟩
    have HF5 := Lib.hid (show twoP L k x = immP L k5 x5 from by rw [HF3.out, hr]; try rfl)
    have HP5 := Lib.hid hp
    clear h hr hp HP3 HF3
    go_wp2_with (fail)
    refine (value_any HW.out k5 hk5 _ HP5.out).mono ?_
    intro e w6 h
    rcases ppost_cases h with ⟨kb, wb, hr, hkb, rfl, hpb⟩ | ⟨k6, x6, hr, hk6, rfl, vo6, vc6, co6, cc6, hp⟩
    · have HB := Lib.hid (ppost_bad (rv := .tuple #[]) (show twoP L k x = .bad kb wb from by rw [HF5.out, hr]; try rfl) hkb hpb)
      clear h hr hpb HP5 HF5 HW
      go_wp2
      exact ⟨rfl, HB.out⟩
    have HR := Lib.hid (show twoP L k x = .ok k6 x6 from by rw [HF5.out, hr]; try rfl)
    have HP6 := Lib.hid hp
    clear h hr hp HP5 HF5
    go_wp2
    go_end0
    exact ppost_ok HR.out hk6 ⟨_, _, _, _, HP6.out⟩
  | false =>
    have HF3 := Lib.hid (show twoP L k x = regP L pSetT k2 x2 from by rw [HF2.out]; exact if_neg (by rw [hq]; decide))
    clear HF2 hq c2
    go_wp2_with (fail)
    refine (register_any HW.out k2 hk2 _ HP3.out).mono ?_
    intro e w4 h
    rcases spost_cases h with ⟨kb, wb, hr, hkb, rfl, hpb⟩ | ⟨k4, x4, hr, hk4, rfl, hp⟩
    · have HB := Lib.hid (ppost_bad (rv := .tuple #[]) (show twoP L k x = .bad kb wb from by rw [HF3.out, take_reg, hr]; try rfl) hkb hpb)
      clear h hr hpb HP3 HF3 HW
      go_wp2
      exact ⟨rfl, HB.out⟩
    have HR := Lib.hid (show twoP L k x = .ok k4 (pSetT x4 (regZ L k2)) from by rw [HF3.out, take_reg, hr]; try rfl)
    have HP4 := Lib.hid hp
    clear h hr hp HP3 HF3
    have cs := ps_c5 HP4.out
    have lt := heap_lt HP4.out.blk
    have ft := free_of_lit HP4.out.blk
    go_wp2
    go_end0
    exact ppost_ok HR.out hk4 ⟨_, _, _, _, (HP4.out.set 5 (.int .u8 (regZ L k2)) (x' := pSetT x4 (regZ L k2)) rfl rfl rfl)⟩
end
end Go.Proofs.YtnfmlmamgkpocaaGreatDoor
