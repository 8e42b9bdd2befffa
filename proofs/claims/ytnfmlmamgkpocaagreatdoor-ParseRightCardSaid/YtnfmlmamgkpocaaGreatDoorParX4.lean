/- What operands, store and loop of the parser of package parse do; conditions: the tokens are at most 5000, none longer than 100000; the table of names and strconv's errors stand where their variables lie. -/
import Derived.Test.YtnfmlmamgkpocaaGreatDoorParX3
namespace Go.Proofs.YtnfmlmamgkpocaaGreatDoor
open Go.ChangeShapes Go.WideShapes Go.ChangeAt Go.RowKit Go.Sort BigFrame

section
attribute [local irreducible] World.cell?
variable {W : BW} {lo : Option Addr} {cap b : Nat} {L : List Tk} {x : Ln} {vo : Option Addr} {vc : Nat} {co : Option Addr} {cc : Nat}
set_option maxRecDepth 100000 in
set_option maxHeartbeats 8000000 in
theorem operands_any (hW : PW W lo cap L) (k : Nat) (hk : k ≤ L.length) (u : World) (hP : PSx W lo L.length cap b k x vo vc co cc u) : Calls Tryz.prog 146 #[psPtr b] u (PPost W lo L.length cap b (.tuple #[]) (operandsP L k x)) := by
  have HW := Lib.hid hW
  have HP := Lib.hid hP
  have HF := Lib.hid (show operandsP L k x = (signP L [40] k x).bind fun a x => (insideP L a x).bind (signP L [41]) from rfl)
  clear hW
  clear hP
  go_enter Tryz.func146, Tryz.ntmps146
  go_wp2_with (fail)
  refine (expect_any HW.out k hk [40] (by decide) _ HP.out).mono ?_
  intro e w1 h
  rcases spost_cases h with ⟨kb, wb, hr, hkb, rfl, hpb⟩ | ⟨k1, x1, hr, hk1, rfl, hp⟩
  · have HB := Lib.hid (ppost_bad (rv := .tuple #[]) (show operandsP L k x = .bad kb wb from by rw [HF.out, hr]; try rfl) hkb hpb)
    clear h hr hpb HP HF HW
    go_wp2
    exact ⟨rfl, HB.out⟩
  have HF1 := Lib.hid (show operandsP L k x = (insideP L k1 x1).bind (signP L [41]) from by rw [HF.out, hr]; try rfl)
  have HP1 := Lib.hid hp
  clear h hr hp HP HF
  have c2 := ps_c2 HP1.out
  by_cases h14 : x1.op = 14
  · have HF2 := Lib.hid (show operandsP L k x = ((predP L pSetPd k1 x1).bind fun a x => (signP L [44] a x).bind (twoP L)).bind (signP L [41]) from by rw [HF1.out]; exact congrArg (PR.bind · _) (by unfold insideP; simp [h14]))
    have b14 : (x1.op == 14) = true := beq_iff_eq.2 h14
    clear HF1 h14
    go_wp2_with (fail)
    clear c2
    refine (predicate_any HW.out k1 hk1 _ HP1.out).mono ?_
    intro e w3 h
    rcases spost_cases h with ⟨kb, wb, hr, hkb, rfl, hpb⟩ | ⟨k3, x3, hr, hk3, rfl, hp⟩
    · have HB := Lib.hid (ppost_bad (rv := .tuple #[]) (show operandsP L k x = .bad kb wb from by rw [HF2.out, take_pred, hr]; try rfl) hkb hpb)
      clear h hr hpb HP1 HF2 HW
      go_wp2
      exact ⟨rfl, HB.out⟩
    have HF3 := Lib.hid (show operandsP L k x = ((signP L [44] k3 (pSetPd x3 (predZ L k1))).bind (twoP L)).bind (signP L [41]) from by rw [HF2.out, take_pred, hr]; try rfl)
    have HP3 := Lib.hid hp
    clear h hr hp HP1 HF2
    have cs := ps_c7 HP3.out
    have lt := heap_lt HP3.out.blk
    have ft := free_of_lit HP3.out.blk
    go_wp2_with (fail)
    have HP3s := Lib.hid (HP3.out.set 7 (.int .u8 (predZ L k1)) (x' := pSetPd x3 (predZ L k1)) rfl rfl rfl)
    clear cs lt ft HP3
    refine (expect_any HW.out k3 hk3 [44] (by decide) _ HP3s.out).mono ?_
    intro e w4 h
    rcases spost_cases h with ⟨kb, wb, hr, hkb, rfl, hpb⟩ | ⟨k4, x4, hr, hk4, rfl, hp⟩
    · have HB := Lib.hid (ppost_bad (rv := .tuple #[]) (show operandsP L k x = .bad kb wb from by rw [HF3.out, hr]; try rfl) hkb hpb)
      clear h hr hpb HP3s HF3 HW
      go_wp2
      exact ⟨rfl, HB.out⟩
    have HF4 := Lib.hid (show operandsP L k x = (twoP L k4 x4).bind (signP L [41]) from by rw [HF3.out, hr]; try rfl)
    have HP4 := Lib.hid hp
    clear h hr hp HP3s HF3
    go_wp2_with (fail)
    refine (two_any HW.out k4 hk4 _ HP4.out).mono ?_
    intro e w5 h
    rcases ppost_cases h with ⟨kb, wb, hr, hkb, rfl, hpb⟩ | ⟨k5, x5, hr, hk5, rfl, vo5, vc5, co5, cc5, hp⟩
    · have HB := Lib.hid (ppost_bad (rv := .tuple #[]) (show operandsP L k x = .bad kb wb from by rw [HF4.out, hr]; try rfl) hkb hpb)
      clear h hr hpb HP4 HF4 HW
      go_wp2
      exact ⟨rfl, HB.out⟩
    have HF5 := Lib.hid (show operandsP L k x = signP L [41] k5 x5 from by rw [HF4.out, hr]; try rfl)
    have HP5 := Lib.hid hp
    clear h hr hp HP4 HF4
    go_wp2_with (fail)
    refine (expect_any HW.out k5 hk5 [41] (by decide) _ HP5.out).mono ?_
    intro e w6 h
    rcases spost_cases h with ⟨kb, wb, hr, hkb, rfl, hpb⟩ | ⟨k6, x6, hr, hk6, rfl, hp⟩
    · have HB := Lib.hid (ppost_bad (rv := .tuple #[]) (show operandsP L k x = .bad kb wb from by rw [HF5.out, hr]; try rfl) hkb hpb)
      clear h hr hpb HP5 HF5 HW
      go_wp2
      exact ⟨rfl, HB.out⟩
    have HR := Lib.hid (show operandsP L k x = .ok k6 x6 from by rw [HF5.out, hr]; try rfl)
    have HP6 := Lib.hid hp
    clear h hr hp HP5 HF5
    go_wp2
    go_end0
    exact ppost_ok HR.out hk6 ⟨_, _, _, _, HP6.out⟩
  by_cases h15 : x1.op = 15
  · have HF2 := Lib.hid (show operandsP L k x = (shiftP L k1 x1).bind (signP L [41]) from by rw [HF1.out]; exact congrArg (PR.bind · _) (by unfold insideP; simp [h15]))
    have b14 : (x1.op == 14) = false := beq_eq_false_iff_ne.2 h14
    have b15 : (x1.op == 15) = true := beq_iff_eq.2 h15
    clear HF1 h14 h15
    go_wp2_with (fail)
    clear c2
    have HF3 := Lib.hid (show operandsP L k x = ((regP L pSetS k1 x1).bind fun a x => (signP L [44] a x).bind fun a x => (signP L [35] a x).bind (exprP L pSetV)).bind (signP L [41]) from HF2.out)
    clear HF2
    refine (register_any HW.out k1 hk1 _ HP1.out).mono ?_
    intro e w4 h
    rcases spost_cases h with ⟨kb, wb, hr, hkb, rfl, hpb⟩ | ⟨k4, x4, hr, hk4, rfl, hp⟩
    · have HB := Lib.hid (ppost_bad (rv := .tuple #[]) (show operandsP L k x = .bad kb wb from by rw [HF3.out, take_reg, hr]; try rfl) hkb hpb)
      clear h hr hpb HP1 HF3 HW
      go_wp2
      exact ⟨rfl, HB.out⟩
    have HF4 := Lib.hid (show operandsP L k x = ((signP L [44] k4 (pSetS x4 (regZ L k1))).bind fun a x => (signP L [35] a x).bind (exprP L pSetV)).bind (signP L [41]) from by rw [HF3.out, take_reg, hr]; try rfl)
    have HP4 := Lib.hid hp
    clear h hr hp HP1 HF3
    have cs := ps_c4 HP4.out
    have lt := heap_lt HP4.out.blk
    have ft := free_of_lit HP4.out.blk
    go_wp2_with (fail)
    have HP4s := Lib.hid (HP4.out.set 4 (.int .u8 (regZ L k1)) (x' := pSetS x4 (regZ L k1)) rfl rfl rfl)
    clear cs lt ft HP4
    refine (expect_any HW.out k4 hk4 [44] (by decide) _ HP4s.out).mono ?_
    intro e w5 h
    rcases spost_cases h with ⟨kb, wb, hr, hkb, rfl, hpb⟩ | ⟨k5, x5, hr, hk5, rfl, hp⟩
    · have HB := Lib.hid (ppost_bad (rv := .tuple #[]) (show operandsP L k x = .bad kb wb from by rw [HF4.out, hr]; try rfl) hkb hpb)
      clear h hr hpb HP4s HF4 HW
      go_wp2
      exact ⟨rfl, HB.out⟩
    have HF5 := Lib.hid (show operandsP L k x = ((signP L [35] k5 x5).bind (exprP L pSetV)).bind (signP L [41]) from by rw [HF4.out, hr]; try rfl)
    have HP5 := Lib.hid hp
    clear h hr hp HP4s HF4
    go_wp2_with (fail)
    refine (expect_any HW.out k5 hk5 [35] (by decide) _ HP5.out).mono ?_
    intro e w6 h
    rcases spost_cases h with ⟨kb, wb, hr, hkb, rfl, hpb⟩ | ⟨k6, x6, hr, hk6, rfl, hp⟩
    · have HB := Lib.hid (ppost_bad (rv := .tuple #[]) (show operandsP L k x = .bad kb wb from by rw [HF5.out, hr]; try rfl) hkb hpb)
      clear h hr hpb HP5 HF5 HW
      go_wp2
      exact ⟨rfl, HB.out⟩
    have HF6 := Lib.hid (show operandsP L k x = (exprP L pSetV k6 x6).bind (signP L [41]) from by rw [HF5.out, hr]; try rfl)
    have HP6 := Lib.hid hp
    clear h hr hp HP5 HF5
    go_wp2_with (fail)
    refine (expression_any HW.out k6 hk6 _ HP6.out).mono ?_
    rintro e w7 (⟨hv, hkv, so, sc, rfl, hts, hp⟩ | ⟨hv, hkv, rfl, hp⟩)
    rotate_left
    · have HB := Lib.hid (ppost_bad (rv := .tuple #[]) (show operandsP L k x = .bad (valueR L k6).2.1 (valueR L k6).2.2 from by rw [HF6.out, show exprP L pSetV k6 x6 = .bad (valueR L k6).2.1 (valueR L k6).2.2 from if_neg hv]; try rfl) hkv ⟨_, _, _, _, _, hp⟩)
      clear hv hp HP6 HF6 HW
      go_wp2
      exact ⟨rfl, HB.out⟩
    have HF7r := Lib.hid (show operandsP L k x = signP L [41] (valueR L k6).2.1 (pSetV x6 (valueR L k6).1) from by rw [HF6.out, show exprP L pSetV k6 x6 = .ok (valueR L k6).2.1 (pSetV x6 (valueR L k6).1) from if_pos hv]; try rfl)
    have HS := Lib.hid (hp.setV hts)
    have cs := ps_c13 hp
    have lt := heap_lt hp.blk
    have ft := free_of_lit hp.blk
    obtain ⟨E, hE⟩ : ∃ E, (valueR L k6).1 = E := ⟨_, rfl⟩
    obtain ⟨k7, hEn⟩ : ∃ E, (valueR L k6).2.1 = E := ⟨_, rfl⟩
    rewrite [hE, hEn] at HF7r HS
    rewrite [hEn] at hkv
    rewrite [hE]
    clear hv hp hts hE hEn HP6 HF6
    go_wp2_with (fail)
    clear cs lt ft
    refine (expect_any HW.out k7 hkv [41] (by decide) _ HS.out).mono ?_
    intro e w8 h
    rcases spost_cases h with ⟨kb, wb, hr, hkb, rfl, hpb⟩ | ⟨k8, x8, hr, hk8, rfl, hp⟩
    · have HB := Lib.hid (ppost_bad (rv := .tuple #[]) (show operandsP L k x = .bad kb wb from by rw [HF7r.out, hr]; try rfl) hkb hpb)
      clear h hr hpb HS HF7r HW
      go_wp2
      exact ⟨rfl, HB.out⟩
    have HR := Lib.hid (show operandsP L k x = .ok k8 x8 from by rw [HF7r.out, hr]; try rfl)
    have HP8 := Lib.hid hp
    clear h hr hp HS HF7r
    go_wp2
    go_end0
    exact ppost_ok HR.out hk8 ⟨_, _, _, _, HP8.out⟩
  by_cases h16 : x1.op = 16
  · have HF2 := Lib.hid (show operandsP L k x = (shiftP L k1 x1).bind (signP L [41]) from by rw [HF1.out]; exact congrArg (PR.bind · _) (by unfold insideP; simp [h16]))
    have b14 : (x1.op == 14) = false := beq_eq_false_iff_ne.2 h14
    have b15 : (x1.op == 15) = false := beq_eq_false_iff_ne.2 h15
    have b16 : (x1.op == 16) = true := beq_iff_eq.2 h16
    clear HF1 h14 h15 h16
    go_wp2_with (fail)
    clear c2
    have HF3 := Lib.hid (show operandsP L k x = ((regP L pSetS k1 x1).bind fun a x => (signP L [44] a x).bind fun a x => (signP L [35] a x).bind (exprP L pSetV)).bind (signP L [41]) from HF2.out)
    clear HF2
    refine (register_any HW.out k1 hk1 _ HP1.out).mono ?_
    intro e w4 h
    rcases spost_cases h with ⟨kb, wb, hr, hkb, rfl, hpb⟩ | ⟨k4, x4, hr, hk4, rfl, hp⟩
    · have HB := Lib.hid (ppost_bad (rv := .tuple #[]) (show operandsP L k x = .bad kb wb from by rw [HF3.out, take_reg, hr]; try rfl) hkb hpb)
      clear h hr hpb HP1 HF3 HW
      go_wp2
      exact ⟨rfl, HB.out⟩
    have HF4 := Lib.hid (show operandsP L k x = ((signP L [44] k4 (pSetS x4 (regZ L k1))).bind fun a x => (signP L [35] a x).bind (exprP L pSetV)).bind (signP L [41]) from by rw [HF3.out, take_reg, hr]; try rfl)
    have HP4 := Lib.hid hp
    clear h hr hp HP1 HF3
    have cs := ps_c4 HP4.out
    have lt := heap_lt HP4.out.blk
    have ft := free_of_lit HP4.out.blk
    go_wp2_with (fail)
    have HP4s := Lib.hid (HP4.out.set 4 (.int .u8 (regZ L k1)) (x' := pSetS x4 (regZ L k1)) rfl rfl rfl)
    clear cs lt ft HP4
    refine (expect_any HW.out k4 hk4 [44] (by decide) _ HP4s.out).mono ?_
    intro e w5 h
    rcases spost_cases h with ⟨kb, wb, hr, hkb, rfl, hpb⟩ | ⟨k5, x5, hr, hk5, rfl, hp⟩
    · have HB := Lib.hid (ppost_bad (rv := .tuple #[]) (show operandsP L k x = .bad kb wb from by rw [HF4.out, hr]; try rfl) hkb hpb)
      clear h hr hpb HP4s HF4 HW
      go_wp2
      exact ⟨rfl, HB.out⟩
    have HF5 := Lib.hid (show operandsP L k x = ((signP L [35] k5 x5).bind (exprP L pSetV)).bind (signP L [41]) from by rw [HF4.out, hr]; try rfl)
    have HP5 := Lib.hid hp
    clear h hr hp HP4s HF4
    go_wp2_with (fail)
    refine (expect_any HW.out k5 hk5 [35] (by decide) _ HP5.out).mono ?_
    intro e w6 h
    rcases spost_cases h with ⟨kb, wb, hr, hkb, rfl, hpb⟩ | ⟨k6, x6, hr, hk6, rfl, hp⟩
    · have HB := Lib.hid (ppost_bad (rv := .tuple #[]) (show operandsP L k x = .bad kb wb from by rw [HF5.out, hr]; try rfl) hkb hpb)
      clear h hr hpb HP5 HF5 HW
      go_wp2
      exact ⟨rfl, HB.out⟩
    have HF6 := Lib.hid (show operandsP L k x = (exprP L pSetV k6 x6).bind (signP L [41]) from by rw [HF5.out, hr]; try rfl)
    have HP6 := Lib.hid hp
    clear h hr hp HP5 HF5
    go_wp2_with (fail)
    refine (expression_any HW.out k6 hk6 _ HP6.out).mono ?_
    rintro e w7 (⟨hv, hkv, so, sc, rfl, hts, hp⟩ | ⟨hv, hkv, rfl, hp⟩)
    rotate_left
    · have HB := Lib.hid (ppost_bad (rv := .tuple #[]) (show operandsP L k x = .bad (valueR L k6).2.1 (valueR L k6).2.2 from by rw [HF6.out, show exprP L pSetV k6 x6 = .bad (valueR L k6).2.1 (valueR L k6).2.2 from if_neg hv]; try rfl) hkv ⟨_, _, _, _, _, hp⟩)
      clear hv hp HP6 HF6 HW
      go_wp2
      exact ⟨rfl, HB.out⟩
    have HF7r := Lib.hid (show operandsP L k x = signP L [41] (valueR L k6).2.1 (pSetV x6 (valueR L k6).1) from by rw [HF6.out, show exprP L pSetV k6 x6 = .ok (valueR L k6).2.1 (pSetV x6 (valueR L k6).1) from if_pos hv]; try rfl)
    have HS := Lib.hid (hp.setV hts)
    have cs := ps_c13 hp
    have lt := heap_lt hp.blk
    have ft := free_of_lit hp.blk
    obtain ⟨E, hE⟩ : ∃ E, (valueR L k6).1 = E := ⟨_, rfl⟩
    obtain ⟨k7, hEn⟩ : ∃ E, (valueR L k6).2.1 = E := ⟨_, rfl⟩
    rewrite [hE, hEn] at HF7r HS
    rewrite [hEn] at hkv
    rewrite [hE]
    clear hv hp hts hE hEn HP6 HF6
    go_wp2_with (fail)
    clear cs lt ft
    refine (expect_any HW.out k7 hkv [41] (by decide) _ HS.out).mono ?_
    intro e w8 h
    rcases spost_cases h with ⟨kb, wb, hr, hkb, rfl, hpb⟩ | ⟨k8, x8, hr, hk8, rfl, hp⟩
    · have HB := Lib.hid (ppost_bad (rv := .tuple #[]) (show operandsP L k x = .bad kb wb from by rw [HF7r.out, hr]; try rfl) hkb hpb)
      clear h hr hpb HS HF7r HW
      go_wp2
      exact ⟨rfl, HB.out⟩
    have HR := Lib.hid (show operandsP L k x = .ok k8 x8 from by rw [HF7r.out, hr]; try rfl)
    have HP8 := Lib.hid hp
    clear h hr hp HS HF7r
    go_wp2
    go_end0
    exact ppost_ok HR.out hk8 ⟨_, _, _, _, HP8.out⟩
  by_cases h17 : x1.op = 17
  · have HF2 := Lib.hid (show operandsP L k x = (shiftP L k1 x1).bind (signP L [41]) from by rw [HF1.out]; exact congrArg (PR.bind · _) (by unfold insideP; simp [h17]))
    have b14 : (x1.op == 14) = false := beq_eq_false_iff_ne.2 h14
    have b15 : (x1.op == 15) = false := beq_eq_false_iff_ne.2 h15
    have b16 : (x1.op == 16) = false := beq_eq_false_iff_ne.2 h16
    have b17 : (x1.op == 17) = true := beq_iff_eq.2 h17
    clear HF1 h14 h15 h16 h17
    go_wp2_with (fail)
    clear c2
    have HF3 := Lib.hid (show operandsP L k x = ((regP L pSetS k1 x1).bind fun a x => (signP L [44] a x).bind fun a x => (signP L [35] a x).bind (exprP L pSetV)).bind (signP L [41]) from HF2.out)
    clear HF2
    refine (register_any HW.out k1 hk1 _ HP1.out).mono ?_
    intro e w4 h
    rcases spost_cases h with ⟨kb, wb, hr, hkb, rfl, hpb⟩ | ⟨k4, x4, hr, hk4, rfl, hp⟩
    · have HB := Lib.hid (ppost_bad (rv := .tuple #[]) (show operandsP L k x = .bad kb wb from by rw [HF3.out, take_reg, hr]; try rfl) hkb hpb)
      clear h hr hpb HP1 HF3 HW
      go_wp2
      exact ⟨rfl, HB.out⟩
    have HF4 := Lib.hid (show operandsP L k x = ((signP L [44] k4 (pSetS x4 (regZ L k1))).bind fun a x => (signP L [35] a x).bind (exprP L pSetV)).bind (signP L [41]) from by rw [HF3.out, take_reg, hr]; try rfl)
    have HP4 := Lib.hid hp
    clear h hr hp HP1 HF3
    have cs := ps_c4 HP4.out
    have lt := heap_lt HP4.out.blk
    have ft := free_of_lit HP4.out.blk
    go_wp2_with (fail)
    have HP4s := Lib.hid (HP4.out.set 4 (.int .u8 (regZ L k1)) (x' := pSetS x4 (regZ L k1)) rfl rfl rfl)
    clear cs lt ft HP4
    refine (expect_any HW.out k4 hk4 [44] (by decide) _ HP4s.out).mono ?_
    intro e w5 h
    rcases spost_cases h with ⟨kb, wb, hr, hkb, rfl, hpb⟩ | ⟨k5, x5, hr, hk5, rfl, hp⟩
    · have HB := Lib.hid (ppost_bad (rv := .tuple #[]) (show operandsP L k x = .bad kb wb from by rw [HF4.out, hr]; try rfl) hkb hpb)
      clear h hr hpb HP4s HF4 HW
      go_wp2
      exact ⟨rfl, HB.out⟩
    have HF5 := Lib.hid (show operandsP L k x = ((signP L [35] k5 x5).bind (exprP L pSetV)).bind (signP L [41]) from by rw [HF4.out, hr]; try rfl)
    have HP5 := Lib.hid hp
    clear h hr hp HP4s HF4
    go_wp2_with (fail)
    refine (expect_any HW.out k5 hk5 [35] (by decide) _ HP5.out).mono ?_
    intro e w6 h
    rcases spost_cases h with ⟨kb, wb, hr, hkb, rfl, hpb⟩ | ⟨k6, x6, hr, hk6, rfl, hp⟩
    · have HB := Lib.hid (ppost_bad (rv := .tuple #[]) (show operandsP L k x = .bad kb wb from by rw [HF5.out, hr]; try rfl) hkb hpb)
      clear h hr hpb HP5 HF5 HW
      go_wp2
      exact ⟨rfl, HB.out⟩
    have HF6 := Lib.hid (show operandsP L k x = (exprP L pSetV k6 x6).bind (signP L [41]) from by rw [HF5.out, hr]; try rfl)
    have HP6 := Lib.hid hp
    clear h hr hp HP5 HF5
    go_wp2_with (fail)
    refine (expression_any HW.out k6 hk6 _ HP6.out).mono ?_
    rintro e w7 (⟨hv, hkv, so, sc, rfl, hts, hp⟩ | ⟨hv, hkv, rfl, hp⟩)
    rotate_left
    · have HB := Lib.hid (ppost_bad (rv := .tuple #[]) (show operandsP L k x = .bad (valueR L k6).2.1 (valueR L k6).2.2 from by rw [HF6.out, show exprP L pSetV k6 x6 = .bad (valueR L k6).2.1 (valueR L k6).2.2 from if_neg hv]; try rfl) hkv ⟨_, _, _, _, _, hp⟩)
      clear hv hp HP6 HF6 HW
      go_wp2
      exact ⟨rfl, HB.out⟩
    have HF7r := Lib.hid (show operandsP L k x = signP L [41] (valueR L k6).2.1 (pSetV x6 (valueR L k6).1) from by rw [HF6.out, show exprP L pSetV k6 x6 = .ok (valueR L k6).2.1 (pSetV x6 (valueR L k6).1) from if_pos hv]; try rfl)
    have HS := Lib.hid (hp.setV hts)
    have cs := ps_c13 hp
    have lt := heap_lt hp.blk
    have ft := free_of_lit hp.blk
    obtain ⟨E, hE⟩ : ∃ E, (valueR L k6).1 = E := ⟨_, rfl⟩
    obtain ⟨k7, hEn⟩ : ∃ E, (valueR L k6).2.1 = E := ⟨_, rfl⟩
    rewrite [hE, hEn] at HF7r HS
    rewrite [hEn] at hkv
    rewrite [hE]
    clear hv hp hts hE hEn HP6 HF6
    go_wp2_with (fail)
    clear cs lt ft
    refine (expect_any HW.out k7 hkv [41] (by decide) _ HS.out).mono ?_
    intro e w8 h
    rcases spost_cases h with ⟨kb, wb, hr, hkb, rfl, hpb⟩ | ⟨k8, x8, hr, hk8, rfl, hp⟩
    · have HB := Lib.hid (ppost_bad (rv := .tuple #[]) (show operandsP L k x = .bad kb wb from by rw [HF7r.out, hr]; try rfl) hkb hpb)
      clear h hr hpb HS HF7r HW
      go_wp2
      exact ⟨rfl, HB.out⟩
    have HR := Lib.hid (show operandsP L k x = .ok k8 x8 from by rw [HF7r.out, hr]; try rfl)
    have HP8 := Lib.hid hp
    clear h hr hp HS HF7r
    go_wp2
    go_end0
    exact ppost_ok HR.out hk8 ⟨_, _, _, _, HP8.out⟩
  by_cases h21 : x1.op = 21
  · have HF2 := Lib.hid (show operandsP L k x = (addressP L k1 x1).bind (signP L [41]) from by rw [HF1.out]; exact congrArg (PR.bind · _) (by unfold insideP; simp [h21]))
    have b14 : (x1.op == 14) = false := beq_eq_false_iff_ne.2 h14
    have b15 : (x1.op == 15) = false := beq_eq_false_iff_ne.2 h15
    have b16 : (x1.op == 16) = false := beq_eq_false_iff_ne.2 h16
    have b17 : (x1.op == 17) = false := beq_eq_false_iff_ne.2 h17
    have b21 : (x1.op == 21) = true := beq_iff_eq.2 h21
    clear HF1 h14 h15 h16 h17 h21
    go_wp2_with (fail)
    clear c2
    refine (address_any HW.out k1 hk1 _ HP1.out).mono ?_
    intro e w3 h
    rcases ppost_cases h with ⟨kb, wb, hr, hkb, rfl, hpb⟩ | ⟨k3, x3, hr, hk3, rfl, vo3, vc3, co3, cc3, hp⟩
    · have HB := Lib.hid (ppost_bad (rv := .tuple #[]) (show operandsP L k x = .bad kb wb from by rw [HF2.out, hr]; try rfl) hkb hpb)
      clear h hr hpb HP1 HF2 HW
      go_wp2
      exact ⟨rfl, HB.out⟩
    have HF3 := Lib.hid (show operandsP L k x = signP L [41] k3 x3 from by rw [HF2.out, hr]; try rfl)
    have HP3 := Lib.hid hp
    clear h hr hp HP1 HF2
    go_wp2_with (fail)
    refine (expect_any HW.out k3 hk3 [41] (by decide) _ HP3.out).mono ?_
    intro e w4 h
    rcases spost_cases h with ⟨kb, wb, hr, hkb, rfl, hpb⟩ | ⟨k4, x4, hr, hk4, rfl, hp⟩
    · have HB := Lib.hid (ppost_bad (rv := .tuple #[]) (show operandsP L k x = .bad kb wb from by rw [HF3.out, hr]; try rfl) hkb hpb)
      clear h hr hpb HP3 HF3 HW
      go_wp2
      exact ⟨rfl, HB.out⟩
    have HR := Lib.hid (show operandsP L k x = .ok k4 x4 from by rw [HF3.out, hr]; try rfl)
    have HP4 := Lib.hid hp
    clear h hr hp HP3 HF3
    go_wp2
    go_end0
    exact ppost_ok HR.out hk4 ⟨_, _, _, _, HP4.out⟩
  by_cases h22 : x1.op = 22
  · have HF2 := Lib.hid (show operandsP L k x = (addressP L k1 x1).bind (signP L [41]) from by rw [HF1.out]; exact congrArg (PR.bind · _) (by unfold insideP; simp [h22]))
    have b14 : (x1.op == 14) = false := beq_eq_false_iff_ne.2 h14
    have b15 : (x1.op == 15) = false := beq_eq_false_iff_ne.2 h15
    have b16 : (x1.op == 16) = false := beq_eq_false_iff_ne.2 h16
    have b17 : (x1.op == 17) = false := beq_eq_false_iff_ne.2 h17
    have b21 : (x1.op == 21) = false := beq_eq_false_iff_ne.2 h21
    have b22 : (x1.op == 22) = true := beq_iff_eq.2 h22
    clear HF1 h14 h15 h16 h17 h21 h22
    go_wp2_with (fail)
    clear c2
    refine (address_any HW.out k1 hk1 _ HP1.out).mono ?_
    intro e w3 h
    rcases ppost_cases h with ⟨kb, wb, hr, hkb, rfl, hpb⟩ | ⟨k3, x3, hr, hk3, rfl, vo3, vc3, co3, cc3, hp⟩
    · have HB := Lib.hid (ppost_bad (rv := .tuple #[]) (show operandsP L k x = .bad kb wb from by rw [HF2.out, hr]; try rfl) hkb hpb)
      clear h hr hpb HP1 HF2 HW
      go_wp2
      exact ⟨rfl, HB.out⟩
    have HF3 := Lib.hid (show operandsP L k x = signP L [41] k3 x3 from by rw [HF2.out, hr]; try rfl)
    have HP3 := Lib.hid hp
    clear h hr hp HP1 HF2
    go_wp2_with (fail)
    refine (expect_any HW.out k3 hk3 [41] (by decide) _ HP3.out).mono ?_
    intro e w4 h
    rcases spost_cases h with ⟨kb, wb, hr, hkb, rfl, hpb⟩ | ⟨k4, x4, hr, hk4, rfl, hp⟩
    · have HB := Lib.hid (ppost_bad (rv := .tuple #[]) (show operandsP L k x = .bad kb wb from by rw [HF3.out, hr]; try rfl) hkb hpb)
      clear h hr hpb HP3 HF3 HW
      go_wp2
      exact ⟨rfl, HB.out⟩
    have HR := Lib.hid (show operandsP L k x = .ok k4 x4 from by rw [HF3.out, hr]; try rfl)
    have HP4 := Lib.hid hp
    clear h hr hp HP3 HF3
    go_wp2
    go_end0
    exact ppost_ok HR.out hk4 ⟨_, _, _, _, HP4.out⟩
  by_cases h23 : x1.op = 23
  · have HF2 := Lib.hid (show operandsP L k x = (addressP L k1 x1).bind (signP L [41]) from by rw [HF1.out]; exact congrArg (PR.bind · _) (by unfold insideP; simp [h23]))
    have b14 : (x1.op == 14) = false := beq_eq_false_iff_ne.2 h14
    have b15 : (x1.op == 15) = false := beq_eq_false_iff_ne.2 h15
    have b16 : (x1.op == 16) = false := beq_eq_false_iff_ne.2 h16
    have b17 : (x1.op == 17) = false := beq_eq_false_iff_ne.2 h17
    have b21 : (x1.op == 21) = false := beq_eq_false_iff_ne.2 h21
    have b22 : (x1.op == 22) = false := beq_eq_false_iff_ne.2 h22
    have b23 : (x1.op == 23) = true := beq_iff_eq.2 h23
    clear HF1 h14 h15 h16 h17 h21 h22 h23
    go_wp2_with (fail)
    clear c2
    refine (address_any HW.out k1 hk1 _ HP1.out).mono ?_
    intro e w3 h
    rcases ppost_cases h with ⟨kb, wb, hr, hkb, rfl, hpb⟩ | ⟨k3, x3, hr, hk3, rfl, vo3, vc3, co3, cc3, hp⟩
    · have HB := Lib.hid (ppost_bad (rv := .tuple #[]) (show operandsP L k x = .bad kb wb from by rw [HF2.out, hr]; try rfl) hkb hpb)
      clear h hr hpb HP1 HF2 HW
      go_wp2
      exact ⟨rfl, HB.out⟩
    have HF3 := Lib.hid (show operandsP L k x = signP L [41] k3 x3 from by rw [HF2.out, hr]; try rfl)
    have HP3 := Lib.hid hp
    clear h hr hp HP1 HF2
    go_wp2_with (fail)
    refine (expect_any HW.out k3 hk3 [41] (by decide) _ HP3.out).mono ?_
    intro e w4 h
    rcases spost_cases h with ⟨kb, wb, hr, hkb, rfl, hpb⟩ | ⟨k4, x4, hr, hk4, rfl, hp⟩
    · have HB := Lib.hid (ppost_bad (rv := .tuple #[]) (show operandsP L k x = .bad kb wb from by rw [HF3.out, hr]; try rfl) hkb hpb)
      clear h hr hpb HP3 HF3 HW
      go_wp2
      exact ⟨rfl, HB.out⟩
    have HR := Lib.hid (show operandsP L k x = .ok k4 x4 from by rw [HF3.out, hr]; try rfl)
    have HP4 := Lib.hid hp
    clear h hr hp HP3 HF3
    go_wp2
    go_end0
    exact ppost_ok HR.out hk4 ⟨_, _, _, _, HP4.out⟩
  have HF2 := Lib.hid (show operandsP L k x = (twoP L k1 x1).bind (signP L [41]) from by rw [HF1.out]; exact congrArg (PR.bind · _) (by unfold insideP; simp [h14, h15, h16, h17, h21, h22, h23]))
  have b14 : (x1.op == 14) = false := beq_eq_false_iff_ne.2 h14
  have b15 : (x1.op == 15) = false := beq_eq_false_iff_ne.2 h15
  have b16 : (x1.op == 16) = false := beq_eq_false_iff_ne.2 h16
  have b17 : (x1.op == 17) = false := beq_eq_false_iff_ne.2 h17
  have b21 : (x1.op == 21) = false := beq_eq_false_iff_ne.2 h21
  have b22 : (x1.op == 22) = false := beq_eq_false_iff_ne.2 h22
  have b23 : (x1.op == 23) = false := beq_eq_false_iff_ne.2 h23
  clear HF1 h14 h15 h16 h17 h21 h22 h23
  go_wp2_with (fail)
  clear c2
  refine (two_any HW.out k1 hk1 _ HP1.out).mono ?_
  intro e w3 h
  rcases ppost_cases h with ⟨kb, wb, hr, hkb, rfl, hpb⟩ | ⟨k3, x3, hr, hk3, rfl, vo3, vc3, co3, cc3, hp⟩
  · have HB := Lib.hid (ppost_bad (rv := .tuple #[]) (show operandsP L k x = .bad kb wb from by rw [HF2.out, hr]; try rfl) hkb hpb)
    clear h hr hpb HP1 HF2 HW
    go_wp2
    exact ⟨rfl, HB.out⟩
  have HF3 := Lib.hid (show operandsP L k x = signP L [41] k3 x3 from by rw [HF2.out, hr]; try rfl)
  have HP3 := Lib.hid hp
  clear h hr hp HP1 HF2
  go_wp2_with (fail)
  refine (expect_any HW.out k3 hk3 [41] (by decide) _ HP3.out).mono ?_
  intro e w4 h
  rcases spost_cases h with ⟨kb, wb, hr, hkb, rfl, hpb⟩ | ⟨k4, x4, hr, hk4, rfl, hp⟩
  · have HB := Lib.hid (ppost_bad (rv := .tuple #[]) (show operandsP L k x = .bad kb wb from by rw [HF3.out, hr]; try rfl) hkb hpb)
    clear h hr hpb HP3 HF3 HW
    go_wp2
    exact ⟨rfl, HB.out⟩
  have HR := Lib.hid (show operandsP L k x = .ok k4 x4 from by rw [HF3.out, hr]; try rfl)
  have HP4 := Lib.hid hp
  clear h hr hp HP3 HF3
  go_wp2
  go_end0
  exact ppost_ok HR.out hk4 ⟨_, _, _, _, HP4.out⟩
set_option maxRecDepth 100000 in
set_option maxHeartbeats 8000000 in
theorem store_any16 (hW : PW W lo cap L) (k : Nat) (hk : k ≤ L.length) (u : World) (hP : PSx W lo L.length cap b k x vo vc co cc u) : Calls Tryz.prog 150 #[psPtr b] u (PPost W lo L.length cap b (.tuple #[]) (storeP L k x)) := by
  have HW := Lib.hid hW
  have HP := Lib.hid hP
  have HF := Lib.hid (show storeP L k x = (signP L [40] k x).bind fun a x => (addressP L a x).bind fun a x => (signP L [41] a x).bind fun a x => (signP L [61] a x).bind fun a x => newP L a x from rfl)
  clear hW
  clear hP
  go_enter Tryz.func150, Tryz.ntmps150
  go_wp2_with (fail)
  refine (expect_any HW.out k hk [40] (by decide) _ HP.out).mono ?_
  intro e w1 h
  rcases spost_cases h with ⟨kb, wb, hr, hkb, rfl, hpb⟩ | ⟨k1, x1, hr, hk1, rfl, hp⟩
  · have HB := Lib.hid (ppost_bad (rv := .tuple #[]) (show storeP L k x = .bad kb wb from by rw [HF.out, hr]; try rfl) hkb hpb)
    clear h hr hpb HP HF HW
    go_wp2
    exact ⟨rfl, HB.out⟩
  have HF1 := Lib.hid (show storeP L k x = (addressP L k1 x1).bind fun a x => (signP L [41] a x).bind fun a x => (signP L [61] a x).bind fun a x => newP L a x from by rw [HF.out, hr]; try rfl)
  have HP1 := Lib.hid hp
  clear h hr hp HP HF
  go_wp2_with (fail)
  refine (address_any HW.out k1 hk1 _ HP1.out).mono ?_
  intro e w2 h
  rcases ppost_cases h with ⟨kb, wb, hr, hkb, rfl, hpb⟩ | ⟨k2, x2, hr, hk2, rfl, vo2, vc2, co2, cc2, hp⟩
  · have HB := Lib.hid (ppost_bad (rv := .tuple #[]) (show storeP L k x = .bad kb wb from by rw [HF1.out, hr]; try rfl) hkb hpb)
    clear h hr hpb HP1 HF1 HW
    go_wp2
    exact ⟨rfl, HB.out⟩
  have HF2 := Lib.hid (show storeP L k x = (signP L [41] k2 x2).bind fun a x => (signP L [61] a x).bind fun a x => newP L a x from by rw [HF1.out, hr]; try rfl)
  have HP2 := Lib.hid hp
  clear h hr hp HP1 HF1
  go_wp2_with (fail)
  refine (expect_any HW.out k2 hk2 [41] (by decide) _ HP2.out).mono ?_
  intro e w3 h
  rcases spost_cases h with ⟨kb, wb, hr, hkb, rfl, hpb⟩ | ⟨k3, x3, hr, hk3, rfl, hp⟩
  · have HB := Lib.hid (ppost_bad (rv := .tuple #[]) (show storeP L k x = .bad kb wb from by rw [HF2.out, hr]; try rfl) hkb hpb)
    clear h hr hpb HP2 HF2 HW
    go_wp2
    exact ⟨rfl, HB.out⟩
  have HF3 := Lib.hid (show storeP L k x = (signP L [61] k3 x3).bind fun a x => newP L a x from by rw [HF2.out, hr]; try rfl)
  have HP3 := Lib.hid hp
  clear h hr hp HP2 HF2
  go_wp2_with (fail)
  refine (expect_any HW.out k3 hk3 [61] (by decide) _ HP3.out).mono ?_
  intro e w4 h
  rcases spost_cases h with ⟨kb, wb, hr, hkb, rfl, hpb⟩ | ⟨k4, x4, hr, hk4, rfl, hp⟩
  · have HB := Lib.hid (ppost_bad (rv := .tuple #[]) (show storeP L k x = .bad kb wb from by rw [HF3.out, hr]; try rfl) hkb hpb)
    clear h hr hpb HP3 HF3 HW
    go_wp2
    exact ⟨rfl, HB.out⟩
  have HF4 := Lib.hid (show storeP L k x = newP L k4 x4 from by rw [HF3.out, hr]; try rfl)
  have HP4 := Lib.hid hp
  clear h hr hp HP3 HF3
  go_wp2_with (fail)
  refine (name_any HW.out.toks k4 hk4 _ HP4.out _ (Made.refl _)).mono ?_
  rintro e w5 ⟨rfl, h5⟩
  have HP5 := Lib.hid (HP4.out.next h5)
  clear h5 HP4
  go_wp2_with (fail)
  refine (bare_any (nameR L k4) (name_short HW.out k4) _).mono ?_
  rintro e w6 ⟨rfl, rfl⟩
  obtain ⟨B, hB⟩ : ∃ B, (bareR (nameR L k4)).1 = B := ⟨_, rfl⟩
  obtain ⟨q, hq⟩ : ∃ q, (bareR (nameR L k4)).2 = q := ⟨_, rfl⟩
  have hBl : B.length ≤ 100000 := by rw [← hB]; have := bare_len (nameR L k4); have := name_short HW.out k4; omega
  have hBn : 0 ≤ namedR 114 32 B → k4 < L.length := fun h => nameR_lt (bare_ne (by rw [hB]; exact named_ne h))
  rewrite [hB, hq]
  have HBQ := Lib.hid (And.intro hB hq)
  clear hB hq
  go_wp2_with (fail)
  refine (register_of B hBl _ (HW.out.errs.next HP5.out.made) _ (Made.refl _)).mono ?_
  rintro e w7 ⟨rfl, h7⟩
  have HP7 := Lib.hid (HP5.out.next h7)
  have HT := Lib.hid (takeN_any HW.out.few k4 hk4 (namedR 114 32 B) hBn _ HP7.out)
  have hv : numTup (namedR 114 32 B) = .tuple #[.int .u8 (if 0 ≤ namedR 114 32 B then namedR 114 32 B else 0), .bool (decide (0 ≤ namedR 114 32 B))] := rfl
  obtain ⟨v, hvv⟩ : ∃ v, (if 0 ≤ namedR 114 32 B then namedR 114 32 B else 0) = v := ⟨_, rfl⟩
  obtain ⟨qb, hqb⟩ : ∃ q, decide (0 ≤ namedR 114 32 B) = q := ⟨_, rfl⟩
  rewrite [hvv, hqb] at hv HT
  rewrite [hv]
  clear hv h7 hvv hqb hBn hBl HP5
  go_wp2_with (fail)
  refine HT.out.mono ?_
  intro e w8 h
  rcases spost_cases h with ⟨kb, wb, hr, hkb, rfl, hpb⟩ | ⟨k8, x8, hr, hk8, rfl, hp⟩
  · have HB := Lib.hid (ppost_bad (rv := .tuple #[]) (show storeP L k x = .bad kb wb from by
        rw [HF4.out]
        unfold newP
        rw [HBQ.out.1]
        unfold takeP at hr
        by_cases h0 : 0 ≤ namedR 114 32 B
        · rw [if_pos h0] at hr; cases hr
        · rw [if_neg h0] at hr; rw [if_neg h0]; exact hr) hkb hpb)
    clear h hr hpb HP7 HF4 HW HT HBQ
    go_wp2
    exact ⟨rfl, HB.out⟩
  have HR := Lib.hid (show storeP L k x = .ok k8 { x8 with t := namedR 114 32 B, new := q } from by
      rw [HF4.out]
      unfold newP
      rw [HBQ.out.1, HBQ.out.2]
      unfold takeP at hr
      by_cases h0 : 0 ≤ namedR 114 32 B
      · rw [if_pos h0] at hr; cases hr; rw [if_pos h0]
      · rw [if_neg h0] at hr; cases hr)
  have HS := Lib.hid ((hp.set 5 (.int .u8 (namedR 114 32 B)) (x' := { x8 with t := namedR 114 32 B }) rfl rfl rfl).set 9 (.bool q) (x' := { x8 with t := namedR 114 32 B, new := q }) rfl rfl rfl)
  have cs5 := ps_c5 hp
  have cs9 := ps_c9 hp
  have lt := heap_lt hp.blk
  have ft := free_of_lit hp.blk
  clear h hr hp HP7 HF4 HW HT HBQ
  go_wp2
  go_end0
  exact ppost_ok HR.out hk8 ⟨_, _, _, _, HS.out⟩
set_option maxRecDepth 100000 in
set_option maxHeartbeats 8000000 in
theorem loop_any16 (hW : PW W lo cap L) (k : Nat) (hk : k ≤ L.length) (u : World) (hP : PSx W lo L.length cap b k x vo vc co cc u) : Calls Tryz.prog 149 #[psPtr b] u (PPost W lo L.length cap b (.tuple #[]) (loopP L k x)) := by
  have HW := Lib.hid hW
  have HP := Lib.hid hP
  have HF := Lib.hid (show loopP L k x = (signP L [40] k x).bind fun a x => (targetP L a x).bind fun a x => (signP L [44] a x).bind fun a x => (countP L a x).bind (signP L [41]) from rfl)
  clear hW
  clear hP
  go_enter Tryz.func149, Tryz.ntmps149
  go_wp2_with (fail)
  refine (expect_any HW.out k hk [40] (by decide) _ HP.out).mono ?_
  intro e w1 h
  rcases spost_cases h with ⟨kb, wb, hr, hkb, rfl, hpb⟩ | ⟨k1, x1, hr, hk1, rfl, hp⟩
  · have HB := Lib.hid (ppost_bad (rv := .tuple #[]) (show loopP L k x = .bad kb wb from by rw [HF.out, hr]; try rfl) hkb hpb)
    clear h hr hpb HP HF HW
    go_wp2
    exact ⟨rfl, HB.out⟩
  have HF1 := Lib.hid (show loopP L k x = (targetP L k1 x1).bind fun a x => (signP L [44] a x).bind fun a x => (countP L a x).bind (signP L [41]) from by rw [HF.out, hr]; try rfl)
  have HP1 := Lib.hid hp
  clear h hr hp HP HF
  go_wp2_with (fail)
  refine (target_any16 HW.out k1 hk1 _ HP1.out).mono ?_
  intro e w2 h
  rcases ppost_cases h with ⟨kb, wb, hr, hkb, rfl, hpb⟩ | ⟨k2, x2, hr, hk2, rfl, vo2, vc2, co2, cc2, hp⟩
  · have HB := Lib.hid (ppost_bad (rv := .tuple #[]) (show loopP L k x = .bad kb wb from by rw [HF1.out, hr]; try rfl) hkb hpb)
    clear h hr hpb HP1 HF1 HW
    go_wp2
    exact ⟨rfl, HB.out⟩
  have HF2 := Lib.hid (show loopP L k x = (signP L [44] k2 x2).bind fun a x => (countP L a x).bind (signP L [41]) from by rw [HF1.out, hr]; try rfl)
  have HP2 := Lib.hid hp
  clear h hr hp HP1 HF1
  go_wp2_with (fail)
  refine (expect_any HW.out k2 hk2 [44] (by decide) _ HP2.out).mono ?_
  intro e w3 h
  rcases spost_cases h with ⟨kb, wb, hr, hkb, rfl, hpb⟩ | ⟨k3, x3, hr, hk3, rfl, hp⟩
  · have HB := Lib.hid (ppost_bad (rv := .tuple #[]) (show loopP L k x = .bad kb wb from by rw [HF2.out, hr]; try rfl) hkb hpb)
    clear h hr hpb HP2 HF2 HW
    go_wp2
    exact ⟨rfl, HB.out⟩
  have HF3 := Lib.hid (show loopP L k x = (countP L k3 x3).bind (signP L [41]) from by rw [HF2.out, hr]; try rfl)
  have HP3 := Lib.hid hp
  clear h hr hp HP2 HF2
  go_wp2_with (fail)
  refine (accept_any HW.out.toks k3 hk3 (by have := HW.out.few; omega) [35] _ HP3.out).mono ?_
  rintro e w4 (⟨hs, rfl, hp⟩ | ⟨hs, rfl, hp⟩)
  · have HF4 := Lib.hid (show loopP L k x = (exprP L pSetC (k3 + 1) x3).bind (signP L [41]) from by rw [HF3.out]; exact congrArg (PR.bind · _) (if_pos hs))
    have hk4 : k3 + 1 ≤ L.length := signR_lt (by rw [hs]; decide)
    have HP4 := Lib.hid hp
    clear hs hp HF3 HP3
    go_wp2_with (fail)
    refine (expression_any HW.out (k3 + 1) hk4 _ HP4.out).mono ?_
    rintro e w5 (⟨hv, hkv, so, sc, rfl, hts, hp⟩ | ⟨hv, hkv, rfl, hp⟩)
    rotate_left
    · have HB := Lib.hid (ppost_bad (rv := .tuple #[]) (show loopP L k x = .bad (valueR L (k3 + 1)).2.1 (valueR L (k3 + 1)).2.2 from by rw [HF4.out, show exprP L pSetC (k3 + 1) x3 = .bad (valueR L (k3 + 1)).2.1 (valueR L (k3 + 1)).2.2 from if_neg hv]; try rfl) hkv ⟨_, _, _, _, _, hp⟩)
      clear hv hp HP4 HF4 HW
      go_wp2
      exact ⟨rfl, HB.out⟩
    have HF5r := Lib.hid (show loopP L k x = signP L [41] (valueR L (k3 + 1)).2.1 (pSetC x3 (valueR L (k3 + 1)).1) from by rw [HF4.out, show exprP L pSetC (k3 + 1) x3 = .ok (valueR L (k3 + 1)).2.1 (pSetC x3 (valueR L (k3 + 1)).1) from if_pos hv]; try rfl)
    have HS := Lib.hid (hp.setC hts)
    have cs := ps_c14 hp
    have lt := heap_lt hp.blk
    have ft := free_of_lit hp.blk
    obtain ⟨E, hE⟩ : ∃ E, (valueR L (k3 + 1)).1 = E := ⟨_, rfl⟩
    obtain ⟨k5, hEn⟩ : ∃ E, (valueR L (k3 + 1)).2.1 = E := ⟨_, rfl⟩
    rewrite [hE, hEn] at HF5r HS
    rewrite [hEn] at hkv
    rewrite [hE]
    clear hv hp hts hE hEn HP4 HF4
    go_wp2_with (fail)
    clear cs lt ft
    refine (expect_any HW.out k5 hkv [41] (by decide) _ HS.out).mono ?_
    intro e w6 h
    rcases spost_cases h with ⟨kb, wb, hr, hkb, rfl, hpb⟩ | ⟨k6, x6, hr, hk6, rfl, hp⟩
    · have HB := Lib.hid (ppost_bad (rv := .tuple #[]) (show loopP L k x = .bad kb wb from by rw [HF5r.out, hr]; try rfl) hkb hpb)
      clear h hr hpb HS HF5r HW
      go_wp2
      exact ⟨rfl, HB.out⟩
    have HR := Lib.hid (show loopP L k x = .ok k6 x6 from by rw [HF5r.out, hr]; try rfl)
    have HP6 := Lib.hid hp
    clear h hr hp HS HF5r
    go_wp2
    go_end0
    exact ppost_ok HR.out hk6 ⟨_, _, _, _, HP6.out⟩
  · have HF4 := Lib.hid (show loopP L k x = ((chooseP ((31 : Nat) : Int) k3 x3).bind fun a x => regP L pSetS a x).bind (signP L [41]) from by rw [HF3.out]; exact congrArg (PR.bind · _) (if_neg hs))
    have HP4 := Lib.hid hp
    clear hs hp HF3 HP3
    go_wp2_with (fail)
    refine (choose_any HW.out k3 hk3 31 (by decide) _ HP4.out).mono ?_
    intro e w5 h
    rcases spost_cases h with ⟨kb, wb, hr, hkb, rfl, hpb⟩ | ⟨k5, x5, hr, hk5, rfl, hp⟩
    · have HB := Lib.hid (ppost_bad (rv := .tuple #[]) (show loopP L k x = .bad kb wb from by rw [HF4.out, hr]; try rfl) hkb hpb)
      clear h hr hpb HP4 HF4 HW
      go_wp2
      exact ⟨rfl, HB.out⟩
    have HF5 := Lib.hid (show loopP L k x = (regP L pSetS k5 x5).bind (signP L [41]) from by rw [HF4.out, hr]; try rfl)
    have HP5 := Lib.hid hp
    clear h hr hp HP4 HF4
    go_wp2_with (fail)
    refine (register_any HW.out k5 hk5 _ HP5.out).mono ?_
    intro e w6 h
    rcases spost_cases h with ⟨kb, wb, hr, hkb, rfl, hpb⟩ | ⟨k6, x6, hr, hk6, rfl, hp⟩
    · have HB := Lib.hid (ppost_bad (rv := .tuple #[]) (show loopP L k x = .bad kb wb from by rw [HF5.out, take_reg, hr]; try rfl) hkb hpb)
      clear h hr hpb HP5 HF5 HW
      go_wp2
      exact ⟨rfl, HB.out⟩
    have HF6 := Lib.hid (show loopP L k x = signP L [41] k6 (pSetS x6 (regZ L k5)) from by rw [HF5.out, take_reg, hr]; try rfl)
    have HP6 := Lib.hid hp
    clear h hr hp HP5 HF5
    have cs := ps_c4 HP6.out
    have lt := heap_lt HP6.out.blk
    have ft := free_of_lit HP6.out.blk
    go_wp2_with (fail)
    have HP6s := Lib.hid (HP6.out.set 4 (.int .u8 (regZ L k5)) (x' := pSetS x6 (regZ L k5)) rfl rfl rfl)
    clear cs lt ft HP6
    refine (expect_any HW.out k6 hk6 [41] (by decide) _ HP6s.out).mono ?_
    intro e w7 h
    rcases spost_cases h with ⟨kb, wb, hr, hkb, rfl, hpb⟩ | ⟨k7, x7, hr, hk7, rfl, hp⟩
    · have HB := Lib.hid (ppost_bad (rv := .tuple #[]) (show loopP L k x = .bad kb wb from by rw [HF6.out, hr]; try rfl) hkb hpb)
      clear h hr hpb HP6s HF6 HW
      go_wp2
      exact ⟨rfl, HB.out⟩
    have HR := Lib.hid (show loopP L k x = .ok k7 x7 from by rw [HF6.out, hr]; try rfl)
    have HP7 := Lib.hid hp
    clear h hr hp HP6s HF6
    go_wp2
    go_end0
    exact ppost_ok HR.out hk7 ⟨_, _, _, _, HP7.out⟩
end
end Go.Proofs.YtnfmlmamgkpocaaGreatDoor
