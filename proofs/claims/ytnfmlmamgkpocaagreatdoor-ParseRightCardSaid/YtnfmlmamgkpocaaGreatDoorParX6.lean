/- What named, action and condition of the parser of package parse do; conditions: the tokens are at most 5000, none longer than 100000; the table of names and strconv's errors stand where their variables lie. -/
import Derived.Test.YtnfmlmamgkpocaaGreatDoorParX5
namespace Go.Proofs.YtnfmlmamgkpocaaGreatDoor
open Go.ChangeShapes Go.WideShapes Go.ChangeAt Go.RowKit Go.Sort BigFrame

section
attribute [local irreducible] World.cell?
variable {W : BW} {lo : Option Addr} {cap b : Nat} {L : List Tk} {x : Ln} {vo : Option Addr} {vc : Nat} {co : Option Addr} {cc : Nat}
set_option maxRecDepth 100000 in
set_option maxHeartbeats 8000000 in
theorem named_any (hW : PW W lo cap L) (k : Nat) (hk : k ≤ L.length) (u : World) (hP : PSx W lo L.length cap b k x vo vc co cc u) : Calls Tryz.prog 99 #[psPtr b] u (PPost W lo L.length cap b (.tuple #[]) (namedP L k x)) := by
  have HW := Lib.hid hW
  have HP := Lib.hid hP
  have HF := Lib.hid (show namedP L k x = (chooseP (wdOf (nameR L k)).begins k x).bind fun b y => bodyP L (wdOf (nameR L k)).n (b + 1) y from rfl)
  clear hW
  have HN := Lib.hid (fun w (h : Made u w) => name_any HW.out.toks k hk w (hP.next h) w (Made.refl w))
  have hns := name_short HW.out k
  clear hP
  go_enter Tryz.func99, Tryz.ntmps99
  go_wp2_with (fail)
  refine (words_any _ _ (Made.refl _)).mono ?_
  rintro e w3 ⟨mm, rfl, hmp⟩
  have M3 := Lib.hid hmp.made
  have HMP3 := Lib.hid hmp
  clear hmp
  go_wp2_with (fail)
  refine (HN.out w3 M3.out).mono ?_
  rintro e w4 ⟨rfl, h4⟩
  have HP4 := Lib.hid (HP.out.next (Made.trans M3.out h4))
  have HMP := Lib.hid (HMP3.out.next h4)
  obtain ⟨i0, j0, c0, e1, e2, e3, l1, l2, l3⟩ := wd_small (nameR L k)
  obtain ⟨b0, b1, b2, b3, hb⟩ : ∃ b0 b1 b2 b3, wdOf (nameR L k) = ⟨b0, b1, b2, b3⟩ := ⟨_, _, _, _, rfl⟩
  have hs6 : (nameR L k).length ≤ 1000000 := by omega
  have HE := Lib.hid e1
  have HF4 := Lib.hid (show namedP L k x = (chooseP (i0 : Int) k x).bind fun b y => bodyP L b3 (b + 1) y from by rw [HF.out, e1, hb])
  have HB := Lib.hid hb
  have HI := Lib.hid (show b0 = (i0 : Int) from by rw [← e1, hb])
  have HX := Lib.hid (show PSx W lo L.length cap b (k : Nat) x vo vc co cc (w4.alloc (.cells #[.int .u8 b0, .int .u8 b1, .int .u8 b2, .int .u8 b3] 81)) ∧ (w4.alloc (.cells #[.int .u8 b0, .int .u8 b1, .int .u8 b2, .int .u8 b3] 81)).heap[w4.heap.size]? = some (.cells #[.int .u8 b0, .int .u8 b1, .int .u8 b2, .int .u8 b3] 81 (0, 0)) from ⟨HP4.out.next ((Made.refl w4).alloc (Nat.le_refl _) _), heap_alloc_new w4 _⟩)
  have lt4 := heap_lt HP4.out.blk
  clear e1 e2 e3 hb h4 HP HF HN HMP3 M3 HP4
  go_upto_region 2 with (at_lookup; refine wpList_look_mp rfl _ _ rfl (nameR L k) rfl rfl HMP.out hs6 ?_; rewrite [HB.out])
  refine world_named (fun y => PSx W lo L.length cap b (k : Nat) x vo vc co cc y ∧ y.heap[w4.heap.size]? = some (.cells #[.int .u8 b0, .int .u8 b1, .int .u8 b2, .int .u8 b3] 81 (0, 0))) HX.out ?_
  rintro y ⟨hy, hyf⟩
  have HP5 := Lib.hid hy
  have HY := Lib.hid hyf
  have f0 : y.cell? ⟨w4.heap.size, 0, none⟩ = some (.int .u8 b0) := cell_of_lit hyf 0
  obtain ⟨f, hf⟩ : ∃ f, w4.heap.size = f := ⟨_, rfl⟩
  have hfb : f ≠ b := by omega
  rewrite [hf] at f0 HY
  rewrite [hf]
  clear hf lt4 HX HMP hy hyf
  have HI2 := Lib.hid (show Value.int .u8 b0 = .int .u8 (i0 : Int) by rw [HI.out])
  rewrite [HI.out] at f0
  go_wp2_with (fail)
  refine (choose_frame HW.out k hk i0 l1 _ HP5.out).mono ?_
  rintro e w6 ⟨h, hfr⟩
  rcases spost_cases h with ⟨kb, wb, hr, hkb, rfl, hpb⟩ | ⟨k6, x6, hr, hk6, rfl, hp⟩
  · have HB := Lib.hid (ppost_bad (rv := .tuple #[]) (show namedP L k x = .bad kb wb from by rw [HF4.out, hr]; try rfl) hkb hpb)
    clear h hr hpb hfr HP5 HF4 HW HY HE HI HI2 f0
    go_wp2
    exact ⟨rfl, HB.out⟩
  obtain ⟨rfl, hx6, h0⟩ := choose_inv hr
  have hlt : k6 < L.length := choose_lt h0 (.inl HE.out.symm)
  have ho6 : x6.op = (i0 : Int) := by rw [hx6]; rfl
  have HY6 := Lib.hid ((hfr f hfb (heap_lt HY.out)).trans HY.out)
  have f3 : w6.cell? ⟨f, 3, none⟩ = some (.int .u8 b3) := cell_of_lit HY6.out 3
  have HF6 := Lib.hid (show namedP L k6 x = bodyP L b3 (k6 + 1) x6 from by rw [HF4.out, hr]; try rfl)
  have HP6 := Lib.hid hp
  have HPs := Lib.hid (hp.set 1 (.int .i64 ((k6 : Int) + 1)) (k' := ((k6 + 1 : Nat) : Int)) (x' := x6) rfl rfl rfl)
  have c1 := ps_c1 hp
  have c2 := ps_c2 hp
  have c6 := ps_c6 hp
  have lt := heap_lt hp.blk
  have ltf := heap_lt HY6.out
  have ft := free_of_lit hp.blk
  have hbf : b ≠ f := Ne.symm hfb
  have hk1 : (k6 : Int) + 1 ≤ 5001 := by have := HW.out.few; omega
  clear h hr hp hfr HP5 HF4 h0 HE HI HI2 f0 HY hx6
  by_cases h27 : x6.op = 27
  · have HF7 := Lib.hid (show namedP L k6 x = targetP L (k6 + 1) x6 from by rw [HF6.out]; unfold bodyP; simp [h27])
    have b27 : (x6.op == 27) = true := beq_iff_eq.2 h27
    clear ho6 HF6 h27
    go_wp2_with (fail)
    clear c1 c2 c6 lt ltf ft f3 HP6 HY6
    refine (target_any16 HW.out (k6 + 1) hlt _ HPs.out).mono ?_
    intro e w8 h
    rcases ppost_cases h with ⟨kb, wb, hr, hkb, rfl, hpb⟩ | ⟨k8, x8, hr, hk8, rfl, vo8, vc8, co8, cc8, hp⟩
    · have HB := Lib.hid (ppost_bad (rv := .tuple #[]) (show namedP L k6 x = .bad kb wb from by rw [HF7.out, hr]; try rfl) hkb hpb)
      clear h hr hpb HPs HF7 HW
      go_wp2
      exact ⟨rfl, HB.out⟩
    have HR := Lib.hid (show namedP L k6 x = .ok k8 x8 from by rw [HF7.out, hr]; try rfl)
    have HP8 := Lib.hid hp
    clear h hr hp HPs HF7
    go_wp2
    go_end0
    exact ppost_ok HR.out hk8 ⟨_, _, _, _, HP8.out⟩
  by_cases h29 : x6.op = 29
  · have HF7 := Lib.hid (show namedP L k6 x = targetP L (k6 + 1) x6 from by rw [HF6.out]; unfold bodyP; simp [h29])
    have b27 : (x6.op == 27) = false := beq_eq_false_iff_ne.2 h27
    have b29 : (x6.op == 29) = true := beq_iff_eq.2 h29
    clear ho6 HF6 h27 h29
    go_wp2_with (fail)
    clear c1 c2 c6 lt ltf ft f3 HP6 HY6
    refine (target_any16 HW.out (k6 + 1) hlt _ HPs.out).mono ?_
    intro e w8 h
    rcases ppost_cases h with ⟨kb, wb, hr, hkb, rfl, hpb⟩ | ⟨k8, x8, hr, hk8, rfl, vo8, vc8, co8, cc8, hp⟩
    · have HB := Lib.hid (ppost_bad (rv := .tuple #[]) (show namedP L k6 x = .bad kb wb from by rw [HF7.out, hr]; try rfl) hkb hpb)
      clear h hr hpb HPs HF7 HW
      go_wp2
      exact ⟨rfl, HB.out⟩
    have HR := Lib.hid (show namedP L k6 x = .ok k8 x8 from by rw [HF7.out, hr]; try rfl)
    have HP8 := Lib.hid hp
    clear h hr hp HPs HF7
    go_wp2
    go_end0
    exact ppost_ok HR.out hk8 ⟨_, _, _, _, HP8.out⟩
  by_cases h28 : x6.op = 28
  · have HF7 := Lib.hid (show namedP L k6 x = regP L pSetS (k6 + 1) x6 from by rw [HF6.out]; unfold bodyP; simp [h28])
    have b27 : (x6.op == 27) = false := beq_eq_false_iff_ne.2 h27
    have b29 : (x6.op == 29) = false := beq_eq_false_iff_ne.2 h29
    have b28 : (x6.op == 28) = true := beq_iff_eq.2 h28
    clear ho6 HF6 h27 h29 h28
    go_wp2_with (fail)
    clear c1 c2 c6 lt ltf ft f3 HP6 HY6
    refine (register_any HW.out (k6 + 1) hlt _ HPs.out).mono ?_
    intro e w8 h
    rcases spost_cases h with ⟨kb, wb, hr, hkb, rfl, hpb⟩ | ⟨k8, x8, hr, hk8, rfl, hp⟩
    · have HB := Lib.hid (ppost_bad (rv := .tuple #[]) (show namedP L k6 x = .bad kb wb from by rw [HF7.out, take_reg, hr]; try rfl) hkb hpb)
      clear h hr hpb HPs HF7 HW
      go_wp2
      exact ⟨rfl, HB.out⟩
    have HR := Lib.hid (show namedP L k6 x = .ok k8 (pSetS x8 (regZ L (k6 + 1))) from by rw [HF7.out, take_reg, hr]; try rfl)
    have HP8 := Lib.hid hp
    clear h hr hp HPs HF7
    have cs := ps_c4 HP8.out
    have lt := heap_lt HP8.out.blk
    have ft := free_of_lit HP8.out.blk
    go_wp2
    go_end0
    exact ppost_ok HR.out hk8 ⟨_, _, _, _, (HP8.out.set 4 (.int .u8 (regZ L (k6 + 1))) (x' := pSetS x8 (regZ L (k6 + 1))) rfl rfl rfl)⟩
  by_cases h30 : x6.op = 30
  · have HF7 := Lib.hid (show namedP L k6 x = loopP L (k6 + 1) { x6 with n := b3 } from by rw [HF6.out]; unfold bodyP; simp [h30])
    have b27 : (x6.op == 27) = false := beq_eq_false_iff_ne.2 h27
    have b29 : (x6.op == 29) = false := beq_eq_false_iff_ne.2 h29
    have b28 : (x6.op == 28) = false := beq_eq_false_iff_ne.2 h28
    have b30 : (x6.op == 30) = true := beq_iff_eq.2 h30
    clear ho6 HF6 h27 h29 h28 h30
    go_wp2_with (fail)
    have HPt := Lib.hid (HPs.out.set 6 (.int .u8 b3) (x' := { x6 with n := b3 }) rfl rfl rfl)
    clear c1 c2 c6 lt ltf ft f3 HP6 HY6
    refine (loop_any16 HW.out (k6 + 1) hlt _ HPt.out).mono ?_
    intro e w8 h
    rcases ppost_cases h with ⟨kb, wb, hr, hkb, rfl, hpb⟩ | ⟨k8, x8, hr, hk8, rfl, vo8, vc8, co8, cc8, hp⟩
    · have HB := Lib.hid (ppost_bad (rv := .tuple #[]) (show namedP L k6 x = .bad kb wb from by rw [HF7.out, hr]; try rfl) hkb hpb)
      clear h hr hpb HPt HF7 HW
      go_wp2
      exact ⟨rfl, HB.out⟩
    have HR := Lib.hid (show namedP L k6 x = .ok k8 x8 from by rw [HF7.out, hr]; try rfl)
    have HP8 := Lib.hid hp
    clear h hr hp HPt HF7
    go_wp2
    go_end0
    exact ppost_ok HR.out hk8 ⟨_, _, _, _, HP8.out⟩
  by_cases h24 : x6.op = 24
  · have HF7 := Lib.hid (show namedP L k6 x = storeP L (k6 + 1) x6 from by rw [HF6.out]; unfold bodyP; simp [h24])
    have b27 : (x6.op == 27) = false := beq_eq_false_iff_ne.2 h27
    have b29 : (x6.op == 29) = false := beq_eq_false_iff_ne.2 h29
    have b28 : (x6.op == 28) = false := beq_eq_false_iff_ne.2 h28
    have b30 : (x6.op == 30) = false := beq_eq_false_iff_ne.2 h30
    have b24 : (x6.op == 24) = true := beq_iff_eq.2 h24
    clear ho6 HF6 h27 h29 h28 h30 h24
    go_wp2_with (fail)
    clear c1 c2 c6 lt ltf ft f3 HP6 HY6
    refine (store_any16 HW.out (k6 + 1) hlt _ HPs.out).mono ?_
    intro e w8 h
    rcases ppost_cases h with ⟨kb, wb, hr, hkb, rfl, hpb⟩ | ⟨k8, x8, hr, hk8, rfl, vo8, vc8, co8, cc8, hp⟩
    · have HB := Lib.hid (ppost_bad (rv := .tuple #[]) (show namedP L k6 x = .bad kb wb from by rw [HF7.out, hr]; try rfl) hkb hpb)
      clear h hr hpb HPs HF7 HW
      go_wp2
      exact ⟨rfl, HB.out⟩
    have HR := Lib.hid (show namedP L k6 x = .ok k8 x8 from by rw [HF7.out, hr]; try rfl)
    have HP8 := Lib.hid hp
    clear h hr hp HPs HF7
    go_wp2
    go_end0
    exact ppost_ok HR.out hk8 ⟨_, _, _, _, HP8.out⟩
  by_cases h25 : x6.op = 25
  · have HF7 := Lib.hid (show namedP L k6 x = storeP L (k6 + 1) x6 from by rw [HF6.out]; unfold bodyP; simp [h25])
    have b27 : (x6.op == 27) = false := beq_eq_false_iff_ne.2 h27
    have b29 : (x6.op == 29) = false := beq_eq_false_iff_ne.2 h29
    have b28 : (x6.op == 28) = false := beq_eq_false_iff_ne.2 h28
    have b30 : (x6.op == 30) = false := beq_eq_false_iff_ne.2 h30
    have b24 : (x6.op == 24) = false := beq_eq_false_iff_ne.2 h24
    have b25 : (x6.op == 25) = true := beq_iff_eq.2 h25
    clear ho6 HF6 h27 h29 h28 h30 h24 h25
    go_wp2_with (fail)
    clear c1 c2 c6 lt ltf ft f3 HP6 HY6
    refine (store_any16 HW.out (k6 + 1) hlt _ HPs.out).mono ?_
    intro e w8 h
    rcases ppost_cases h with ⟨kb, wb, hr, hkb, rfl, hpb⟩ | ⟨k8, x8, hr, hk8, rfl, vo8, vc8, co8, cc8, hp⟩
    · have HB := Lib.hid (ppost_bad (rv := .tuple #[]) (show namedP L k6 x = .bad kb wb from by rw [HF7.out, hr]; try rfl) hkb hpb)
      clear h hr hpb HPs HF7 HW
      go_wp2
      exact ⟨rfl, HB.out⟩
    have HR := Lib.hid (show namedP L k6 x = .ok k8 x8 from by rw [HF7.out, hr]; try rfl)
    have HP8 := Lib.hid hp
    clear h hr hp HPs HF7
    go_wp2
    go_end0
    exact ppost_ok HR.out hk8 ⟨_, _, _, _, HP8.out⟩
  by_cases h26 : x6.op = 26
  · have HF7 := Lib.hid (show namedP L k6 x = storeP L (k6 + 1) x6 from by rw [HF6.out]; unfold bodyP; simp [h26])
    have b27 : (x6.op == 27) = false := beq_eq_false_iff_ne.2 h27
    have b29 : (x6.op == 29) = false := beq_eq_false_iff_ne.2 h29
    have b28 : (x6.op == 28) = false := beq_eq_false_iff_ne.2 h28
    have b30 : (x6.op == 30) = false := beq_eq_false_iff_ne.2 h30
    have b24 : (x6.op == 24) = false := beq_eq_false_iff_ne.2 h24
    have b25 : (x6.op == 25) = false := beq_eq_false_iff_ne.2 h25
    have b26 : (x6.op == 26) = true := beq_iff_eq.2 h26
    clear ho6 HF6 h27 h29 h28 h30 h24 h25 h26
    go_wp2_with (fail)
    clear c1 c2 c6 lt ltf ft f3 HP6 HY6
    refine (store_any16 HW.out (k6 + 1) hlt _ HPs.out).mono ?_
    intro e w8 h
    rcases ppost_cases h with ⟨kb, wb, hr, hkb, rfl, hpb⟩ | ⟨k8, x8, hr, hk8, rfl, vo8, vc8, co8, cc8, hp⟩
    · have HB := Lib.hid (ppost_bad (rv := .tuple #[]) (show namedP L k6 x = .bad kb wb from by rw [HF7.out, hr]; try rfl) hkb hpb)
      clear h hr hpb HPs HF7 HW
      go_wp2
      exact ⟨rfl, HB.out⟩
    have HR := Lib.hid (show namedP L k6 x = .ok k8 x8 from by rw [HF7.out, hr]; try rfl)
    have HP8 := Lib.hid hp
    clear h hr hp HPs HF7
    go_wp2
    go_end0
    exact ppost_ok HR.out hk8 ⟨_, _, _, _, HP8.out⟩
  have HF7 := Lib.hid (show namedP L k6 x = .ok (k6 + 1) x6 from by rw [HF6.out]; unfold bodyP; simp [h27, h29, h28, h30, h24, h25, h26])
  have b27 : (x6.op == 27) = false := beq_eq_false_iff_ne.2 h27
  have b29 : (x6.op == 29) = false := beq_eq_false_iff_ne.2 h29
  have b28 : (x6.op == 28) = false := beq_eq_false_iff_ne.2 h28
  have b30 : (x6.op == 30) = false := beq_eq_false_iff_ne.2 h30
  have b24 : (x6.op == 24) = false := beq_eq_false_iff_ne.2 h24
  have b25 : (x6.op == 25) = false := beq_eq_false_iff_ne.2 h25
  have b26 : (x6.op == 26) = false := beq_eq_false_iff_ne.2 h26
  clear ho6 HF6 h27 h29 h28 h30 h24 h25 h26
  go_wp2
  go_end0
  exact ppost_ok HF7.out hlt ⟨_, _, _, _, HPs.out⟩
set_option maxRecDepth 100000 in
set_option maxHeartbeats 8000000 in
theorem action_any (hW : PW W lo cap L) (k : Nat) (hk : k ≤ L.length) (u : World) (hP : PSx W lo L.length cap b k x vo vc co cc u) : Calls Tryz.prog 58 #[psPtr b] u (PPost W lo L.length cap b (.tuple #[]) (actionP L k x)) := by
  have HW := Lib.hid hW
  have HP := Lib.hid hP
  have HF := Lib.hid (show actionP L k x = actionP L k x from rfl)
  clear hW
  have HN := Lib.hid (fun w (h : Made u w) => name_any HW.out.toks k hk w (hP.next h) w (Made.refl w))
  have hns := name_short HW.out k
  clear hP
  go_enter Tryz.func58, Tryz.ntmps58
  go_wp2_with (fail)
  refine (HN.out _ (Made.refl _)).mono ?_
  rintro e w1 ⟨rfl, h1⟩
  have HP1 := Lib.hid (HP.out.next h1)
  have M1 := Lib.hid h1
  clear h1 HP
  go_wp2_with (fail)
  refine (register_of (nameR L k) hns _ (HW.out.errs.next HP1.out.made) _ (Made.refl _)).mono ?_
  rintro e w2 ⟨rfl, h2⟩
  have HP2 := Lib.hid (HP1.out.next h2)
  have M2 := Lib.hid (Made.trans M1.out h2)
  clear h2 HP1 M1
  have hv : numTup (namedR 114 32 (nameR L k)) = .tuple #[.int .u8 (if 0 ≤ regZ L k then regZ L k else 0), .bool (decide (0 ≤ regZ L k))] := rfl
  rewrite [hv]
  clear hv
  have hk1 : (k : Int) + 1 ≤ 5001 := by have := HW.out.few; omega
  by_cases hreg : 0 ≤ regZ L k
  · have HF1 := Lib.hid (show actionP L k x = (signP L [61] (k + 1) { x with d := regZ L k }).bind (assignP L) from if_pos hreg)
    have hlt : k < L.length := nameR_lt (named_ne hreg)
    rewrite [if_pos hreg, decide_eq_true hreg]
    have c1 := ps_c1 HP2.out
    have c3 := ps_c3 HP2.out
    have lt := heap_lt HP2.out.blk
    have ft := free_of_lit HP2.out.blk
    have HPs := Lib.hid ((HP2.out.set 1 (.int .i64 ((k : Int) + 1)) (k' := ((k + 1 : Nat) : Int)) (x' := x) rfl rfl rfl).set 3 (.int .u8 (regZ L k)) (x' := { x with d := regZ L k }) rfl rfl rfl)
    clear hreg HF HN M2
    go_wp2_with (fail)
    clear c1 c3 lt ft HP2
    refine (expect_any HW.out (k + 1) hlt [61] (by decide) _ HPs.out).mono ?_
    intro e w3 h
    rcases spost_cases h with ⟨kb, wb, hr, hkb, rfl, hpb⟩ | ⟨k3, x3, hr, hk3, rfl, hp⟩
    · have HB := Lib.hid (ppost_bad (rv := .tuple #[]) (show actionP L k x = .bad kb wb from by rw [HF1.out, hr]; try rfl) hkb hpb)
      clear h hr hpb HPs HF1 HW
      go_wp2
      exact ⟨rfl, HB.out⟩
    have HF3 := Lib.hid (show actionP L k x = assignP L k3 x3 from by rw [HF1.out, hr]; try rfl)
    have HP3 := Lib.hid hp
    clear h hr hp HPs HF1
    go_wp2_with (fail)
    refine (assignment_any HW.out k3 hk3 _ HP3.out).mono ?_
    intro e w4 h
    rcases ppost_cases h with ⟨kb, wb, hr, hkb, rfl, hpb⟩ | ⟨k4, x4, hr, hk4, rfl, vo4, vc4, co4, cc4, hp⟩
    · have HB := Lib.hid (ppost_bad (rv := .tuple #[]) (show actionP L k x = .bad kb wb from by rw [HF3.out, hr]; try rfl) hkb hpb)
      clear h hr hpb HP3 HF3 HW
      go_wp2
      exact ⟨rfl, HB.out⟩
    have HR := Lib.hid (show actionP L k x = .ok k4 x4 from by rw [HF3.out, hr]; try rfl)
    have HP4 := Lib.hid hp
    clear h hr hp HP3 HF3
    go_wp2
    go_end0
    exact ppost_ok HR.out hk4 ⟨_, _, _, _, HP4.out⟩
  have HF1 := Lib.hid (show actionP L k x = (if 0 ≤ predZ L k then (chooseP 10 k x).bind fun b y => (signP L [61] (b + 1) { y with d := predZ L b }).bind (compareP L) else namedP L k x) from by unfold actionP; rw [if_neg hreg]; by_cases hp : 0 ≤ predZ L k <;> simp only [hp, if_true, if_false] <;> (cases hc : chooseP 10 k x <;> simp only [PR.bind]) <;> (try (obtain ⟨rfl, -, -⟩ := choose_inv hc)) <;> rfl)
  rewrite [if_neg hreg, decide_eq_false hreg]
  clear hreg HF
  go_wp2_with (fail)
  refine (HN.out _ M2.out).mono ?_
  rintro e w3 ⟨rfl, h3⟩
  have HP3 := Lib.hid (HP2.out.next h3)
  clear h3 HP2 HN M2
  go_wp2_with (fail)
  refine (predicate_of (nameR L k) hns _ (HW.out.errs.next HP3.out.made) _ (Made.refl _)).mono ?_
  rintro e w4 ⟨rfl, h4⟩
  have HP4 := Lib.hid (HP3.out.next h4)
  clear h4 HP3
  have hv : numTup (namedR 112 4 (nameR L k)) = .tuple #[.int .u8 (if 0 ≤ predZ L k then predZ L k else 0), .bool (decide (0 ≤ predZ L k))] := rfl
  rewrite [hv]
  clear hv
  by_cases hpre : 0 ≤ predZ L k
  · have HF2 := Lib.hid (show actionP L k x = (chooseP ((10 : Nat) : Int) k x).bind fun b y => (signP L [61] (b + 1) { y with d := predZ L b }).bind (compareP L) from by rw [HF1.out, if_pos hpre]; rfl)
    have hlt : k < L.length := nameR_lt (named_ne hpre)
    rewrite [if_pos hpre, decide_eq_true hpre]
    clear hpre HF1
    go_wp2_with (fail)
    refine (choose_any HW.out k hk 10 (by decide) _ HP4.out).mono ?_
    intro e w5 h
    rcases spost_cases h with ⟨kb, wb, hr, hkb, rfl, hpb⟩ | ⟨k5, x5, hr, hk5, rfl, hp⟩
    · have HB := Lib.hid (ppost_bad (rv := .tuple #[]) (show actionP L k x = .bad kb wb from by rw [HF2.out, hr]; try rfl) hkb hpb)
      clear h hr hpb HP4 HF2 HW
      go_wp2
      exact ⟨rfl, HB.out⟩
    obtain ⟨rfl, -, -⟩ := choose_inv hr
    have HF5 := Lib.hid (show actionP L k5 x = (signP L [61] (k5 + 1) { x5 with d := predZ L k5 }).bind (compareP L) from by rw [HF2.out, hr]; try rfl)
    have c1 := ps_c1 hp
    have c3 := ps_c3 hp
    have lt := heap_lt hp.blk
    have ft := free_of_lit hp.blk
    have HPs := Lib.hid ((hp.set 1 (.int .i64 ((k5 : Int) + 1)) (k' := ((k5 + 1 : Nat) : Int)) (x' := x5) rfl rfl rfl).set 3 (.int .u8 (predZ L k5)) (x' := { x5 with d := predZ L k5 }) rfl rfl rfl)
    clear h hr hp HP4 HF2
    go_wp2_with (fail)
    clear c1 c3 lt ft
    refine (expect_any HW.out (k5 + 1) hlt [61] (by decide) _ HPs.out).mono ?_
    intro e w7 h
    rcases spost_cases h with ⟨kb, wb, hr, hkb, rfl, hpb⟩ | ⟨k7, x7, hr, hk7, rfl, hp⟩
    · have HB := Lib.hid (ppost_bad (rv := .tuple #[]) (show actionP L k5 x = .bad kb wb from by rw [HF5.out, hr]; try rfl) hkb hpb)
      clear h hr hpb HPs HF5 HW
      go_wp2
      exact ⟨rfl, HB.out⟩
    have HF7 := Lib.hid (show actionP L k5 x = compareP L k7 x7 from by rw [HF5.out, hr]; try rfl)
    have HP7 := Lib.hid hp
    clear h hr hp HPs HF5
    go_wp2_with (fail)
    refine (comparison_any HW.out k7 hk7 _ HP7.out).mono ?_
    intro e w8 h
    rcases ppost_cases h with ⟨kb, wb, hr, hkb, rfl, hpb⟩ | ⟨k8, x8, hr, hk8, rfl, vo8, vc8, co8, cc8, hp⟩
    · have HB := Lib.hid (ppost_bad (rv := .tuple #[]) (show actionP L k5 x = .bad kb wb from by rw [HF7.out, hr]; try rfl) hkb hpb)
      clear h hr hpb HP7 HF7 HW
      go_wp2
      exact ⟨rfl, HB.out⟩
    have HR := Lib.hid (show actionP L k5 x = .ok k8 x8 from by rw [HF7.out, hr]; try rfl)
    have HP8 := Lib.hid hp
    clear h hr hp HP7 HF7
    go_wp2
    go_end0
    exact ppost_ok HR.out hk8 ⟨_, _, _, _, HP8.out⟩
  have HF2 := Lib.hid (show actionP L k x = namedP L k x from by rw [HF1.out, if_neg hpre])
  rewrite [if_neg hpre, decide_eq_false hpre]
  clear hpre HF1
  go_wp2_with (fail)
  refine (named_any HW.out k hk _ HP4.out).mono ?_
  intro e w7 h
  rcases ppost_cases h with ⟨kb, wb, hr, hkb, rfl, hpb⟩ | ⟨k7, x7, hr, hk7, rfl, vo7, vc7, co7, cc7, hp⟩
  · have HB := Lib.hid (ppost_bad (rv := .tuple #[]) (show actionP L k x = .bad kb wb from by rw [HF2.out, hr]; try rfl) hkb hpb)
    clear h hr hpb HP4 HF2 HW
    go_wp2
    exact ⟨rfl, HB.out⟩
  have HR := Lib.hid (show actionP L k x = .ok k7 x7 from by rw [HF2.out, hr]; try rfl)
  have HP7 := Lib.hid hp
  clear h hr hp HP4 HF2
  go_wp2
  go_end0
  exact ppost_ok HR.out hk7 ⟨_, _, _, _, HP7.out⟩
set_option maxRecDepth 100000 in
set_option maxHeartbeats 8000000 in
theorem modeOf_any (isNot isNew : Bool) (w : World) : Calls Tryz.prog 95 #[.bool isNot, .bool isNew] w fun e w' => e = .returned (.int .u8 (modeZ isNot isNew)) ∧ w = w' := by
  cases isNot <;> cases isNew
  all_goals
    go_enter Tryz.func95, Tryz.ntmps95
    go_wp2
    go_ret
    exact ⟨rfl, rfl⟩
set_option maxRecDepth 100000 in
set_option maxHeartbeats 8000000 in
theorem condition_any (hW : PW W lo cap L) (k : Nat) (hk : k ≤ L.length) (u : World) (hP : PSx W lo L.length cap b k x vo vc co cc u) : Calls Tryz.prog 57 #[psPtr b] u (PPost W lo L.length cap b (.tuple #[]) (condP L k x)) := by
  have HW := Lib.hid hW
  have HP := Lib.hid hP
  have HF := Lib.hid (show condP L k x = condP L k x from rfl)
  clear hW
  have HN := Lib.hid (fun w (h : Made u w) => name_any HW.out.toks k hk w (hP.next h) w (Made.refl w))
  clear hP
  go_enter Tryz.func57, Tryz.ntmps57
  go_wp2_with (fail)
  refine (HN.out _ (Made.refl _)).mono ?_
  rintro e w1 ⟨rfl, h1⟩
  have HP1 := Lib.hid (HP.out.next h1)
  clear h1 HP HN
  by_cases hif : nameR L k = [105, 102]
  rotate_left
  · have HF1 := Lib.hid (show condP L k x = .ok k x from if_neg hif)
    have hb : (nameR L k == [105, 102]) = false := beq_eq_false_iff_ne.2 hif
    clear hif HF HW
    go_wp2
    go_end0
    exact ppost_ok HF1.out hk ⟨_, _, _, _, HP1.out⟩
  have HF1 := Lib.hid (show condP L k x = (signP L [40] (k + 1) x).bind fun a x => if signR L a = [33] then askP L true (a + 1) x else askP L false a x from if_pos hif)
  have hb : (nameR L k == [105, 102]) = true := beq_iff_eq.2 hif
  have hlt : k < L.length := nameR_lt (by rw [hif]; decide)
  have hk1 : (k : Int) + 1 ≤ 5001 := by have := HW.out.few; omega
  have c1 := ps_c1 HP1.out
  have lt := heap_lt HP1.out.blk
  have ft := free_of_lit HP1.out.blk
  have HPs := Lib.hid (HP1.out.set 1 (.int .i64 ((k : Int) + 1)) (k' := ((k + 1 : Nat) : Int)) (x' := x) rfl rfl rfl)
  clear hif HF
  go_wp2_with (fail)
  clear c1 lt ft HP1
  refine (expect_any HW.out (k + 1) hlt [40] (by decide) _ HPs.out).mono ?_
  intro e w2 h
  rcases spost_cases h with ⟨kb, wb, hr, hkb, rfl, hpb⟩ | ⟨k2, x2, hr, hk2, rfl, hp⟩
  · have HB := Lib.hid (ppost_bad (rv := .tuple #[]) (show condP L k x = .bad kb wb from by rw [HF1.out, hr]; try rfl) hkb hpb)
    clear h hr hpb HPs HF1 HW
    go_wp2
    exact ⟨rfl, HB.out⟩
  have HF2 := Lib.hid (show condP L k x = if signR L k2 = [33] then askP L true (k2 + 1) x2 else askP L false k2 x2 from by rw [HF1.out, hr]; try rfl)
  have HP2 := Lib.hid hp
  clear h hr hp HPs HF1
  go_wp2_with (fail)
  refine (accept_any HW.out.toks k2 hk2 (by have := HW.out.few; omega) [33] _ HP2.out).mono ?_
  intro e w3 h
  obtain ⟨q3, k3, hk3, rfl, hf3, hp3⟩ : ∃ (q3 : Bool) (k3 : Nat), k3 ≤ L.length ∧ e = .returned (.bool q3) ∧ condP L k x = askP L q3 k3 x2 ∧ PSx W lo L.length cap b (k3 : Nat) x2 vo vc co cc w3 := by
    rcases h with ⟨hs, rfl, hp⟩ | ⟨hs, rfl, hp⟩
    · exact ⟨true, k2 + 1, signR_lt (by rw [hs]; decide), rfl, by rw [HF2.out, if_pos hs], hp⟩
    · exact ⟨false, k2, hk2, rfl, by rw [HF2.out, if_neg hs], hp⟩
  have HF4 := Lib.hid hf3
  have HP4 := Lib.hid hp3
  clear h hf3 hp3 HF2 HP2
  go_wp2_with (fail)
  refine (name_any HW.out.toks k3 hk3 _ HP4.out _ (Made.refl _)).mono ?_
  rintro e w5 ⟨rfl, h5⟩
  have HP5 := Lib.hid (HP4.out.next h5)
  clear h5 HP4
  go_wp2_with (fail)
  refine (bare_any (nameR L k3) (name_short HW.out k3) _).mono ?_
  rintro e w6 ⟨rfl, rfl⟩
  obtain ⟨B, hB⟩ : ∃ B, (bareR (nameR L k3)).1 = B := ⟨_, rfl⟩
  obtain ⟨q, hq⟩ : ∃ q, (bareR (nameR L k3)).2 = q := ⟨_, rfl⟩
  have hBl : B.length ≤ 100000 := by rw [← hB]; have := bare_len (nameR L k3); have := name_short HW.out k3; omega
  have hBn : 0 ≤ namedR 112 4 B → k3 < L.length := fun h => nameR_lt (bare_ne (by rw [hB]; exact named_ne h))
  rewrite [hB, hq]
  have HBQ := Lib.hid (And.intro hB hq)
  clear hB hq
  go_wp2_with (fail)
  refine (predicate_of B hBl _ (HW.out.errs.next HP5.out.made) _ (Made.refl _)).mono ?_
  rintro e w7 ⟨rfl, h7⟩
  have HP7 := Lib.hid (HP5.out.next h7)
  have HT := Lib.hid (takeN_any HW.out.few k3 hk3 (namedR 112 4 B) hBn _ HP7.out)
  have hv : numTup (namedR 112 4 B) = .tuple #[.int .u8 (if 0 ≤ namedR 112 4 B then namedR 112 4 B else 0), .bool (decide (0 ≤ namedR 112 4 B))] := rfl
  obtain ⟨v, hvv⟩ : ∃ v, (if 0 ≤ namedR 112 4 B then namedR 112 4 B else 0) = v := ⟨_, rfl⟩
  obtain ⟨qb, hqb⟩ : ∃ q, decide (0 ≤ namedR 112 4 B) = q := ⟨_, rfl⟩
  rewrite [hvv, hqb] at hv HT
  rewrite [hv]
  clear hv h7 hvv hqb hBn hBl HP5
  go_wp2_with (fail)
  refine HT.out.mono ?_
  intro e w8 h
  rcases spost_cases h with ⟨kb, wb, hr, hkb, rfl, hpb⟩ | ⟨k8, x8, hr, hk8, rfl, hp⟩
  · have HB := Lib.hid (ppost_bad (rv := .tuple #[]) (show condP L k x = .bad kb wb from by
        rw [HF4.out]
        unfold askP
        rw [HBQ.out.1]
        unfold takeP at hr
        by_cases h0 : 0 ≤ namedR 112 4 B
        · rw [if_pos h0] at hr; cases hr
        · rw [if_neg h0] at hr; rw [if_neg h0]; exact hr) hkb hpb)
    clear h hr hpb HP7 HF4 HW HT HBQ
    go_wp2
    exact ⟨rfl, HB.out⟩
  have HF8 := Lib.hid (show condP L k x = signP L [41] k8 { x8 with pred := namedR 112 4 B, mode := modeZ q3 q } from by
      rw [HF4.out]
      unfold askP
      rw [HBQ.out.1, HBQ.out.2]
      unfold takeP at hr
      by_cases h0 : 0 ≤ namedR 112 4 B
      · rw [if_pos h0] at hr; cases hr; rw [if_pos h0]
      · rw [if_neg h0] at hr; cases hr)
  have HS := Lib.hid ((hp.set 7 (.int .u8 (namedR 112 4 B)) (x' := { x8 with pred := namedR 112 4 B }) rfl rfl rfl).set 8 (.int .u8 (modeZ q3 q)) (x' := { x8 with pred := namedR 112 4 B, mode := modeZ q3 q }) rfl rfl rfl)
  have cs7 := ps_c7 hp
  have cs8 := ps_c8 hp
  have lt := heap_lt hp.blk
  have ft := free_of_lit hp.blk
  clear h hr hp HP7 HF4 HT HBQ
  go_wp2_with (fail)
  refine (modeOf_any q3 q _).mono ?_
  rintro e w9 ⟨rfl, rfl⟩
  go_wp2_with (fail)
  clear cs7 cs8 lt ft
  refine (expect_any HW.out k8 hk8 [41] (by decide) _ HS.out).mono ?_
  intro e w10 h
  rcases spost_cases h with ⟨kb, wb, hr, hkb, rfl, hpb⟩ | ⟨k10, x10, hr, hk10, rfl, hp⟩
  · have HB := Lib.hid (ppost_bad (rv := .tuple #[]) (show condP L k x = .bad kb wb from by rw [HF8.out, hr]; try rfl) hkb hpb)
    clear h hr hpb HS HF8 HW
    go_wp2
    exact ⟨rfl, HB.out⟩
  have HR := Lib.hid (show condP L k x = .ok k10 x10 from by rw [HF8.out, hr]; try rfl)
  have HP10 := Lib.hid hp
  clear h hr hp HS HF8
  go_wp2
  go_end0
  exact ppost_ok HR.out hk10 ⟨_, _, _, _, HP10.out⟩
end
end Go.Proofs.YtnfmlmamgkpocaaGreatDoor
