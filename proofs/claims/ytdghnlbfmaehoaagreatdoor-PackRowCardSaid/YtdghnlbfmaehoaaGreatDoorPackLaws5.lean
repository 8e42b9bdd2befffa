/- PackRow of the laws of pack returns true, for any packet, address and turn, in every world that holds the tables. -/
import Derived.Test.YtdghnlbfmaehoaaGreatDoorPackTurn
import Derived.Test.YtdghnlbfmaehoaaGreatDoorGPack
import Derived.Deep.RegionLaw
namespace Go.Proofs.YtdghnlbfmaehoaaGreatDoor
open Go.ChangeShapes Go.WideShapes Go.ChangeAt Go.RowKit Go.Sort BigFrame

namespace packRow
section
attribute [local irreducible] World.cell?
set_option maxRecDepth 100000 in
set_option maxHeartbeats 32000000 in
theorem walk (W : World) (hT : Tabs W) (ao : Option Addr) (cap : Nat) (l : List In) (e0 e1 raw dup : Bool) (pc : Int) (t : Nat) (hI : Insts W ao cap l) (hpc : (Lit.int .u32 pc).wf = true) (ht : t < 256) :
    Calls Tryz.prog 6 #[pkV ao l.length cap e0 e1 raw dup, .int .u32 pc, .int .u8 t] W fun e w' => e = .returned (.bool true) ∧ Made W w' := by
  have hp := u32_lit hpc
  have HA := Lib.hid (fun (u : World) (hu : Made W u) => awake12_any u (hT.made hu) u (Made.refl u))
  have H := Lib.hid hI
  have HT := Lib.hid hT
  have HSM := Lib.hid hI.small
  have K0 := Lib.hid (box_start (Made.refl W) (boxL ao l.length cap e0 e1 raw dup))
  clear hI hT hpc
  by_cases hlen : 4 < l.length ∨ l.length = 0
  · have hway : decide ((l.length : Int) > 4) = true ∨ (decide ((l.length : Int) > 4) = false ∧ ((l.length : Int) == 0) = true) := by
      by_cases h : 4 < l.length
      · exact .inl (decide_eq_true (by omega))
      · exact .inr ⟨decide_eq_false (by omega), beq_iff_eq.2 (by omega)⟩
    clear hlen
    rcases hway with hb | ⟨hb, hb2⟩
    all_goals
      go_enter Tryz.func6, Tryz.ntmps6
      obtain ⟨p0, p1, p2, p3, p4⟩ := box_cells K0.out
      have lp := heap_lt K0.out.at_
      go_wp2_with (fail)
      refine (HA.out _ K0.out.made).mono ?_
      rintro e w1 ⟨rfl, h1⟩
      have M1 := Lib.hid (Made.trans K0.out.made h1)
      clear h1 p0 p1 p2 p3 p4 lp
      go_wp2
      go_ret
      exact ⟨rfl, M1.out⟩
  · have hb : decide ((l.length : Int) > 4) = false := decide_eq_false (by omega)
    have hb2 : ((l.length : Int) == 0) = false := beq_eq_false_iff_ne.2 (by omega)
    have hl4 : l.length ≤ 4 := by omega
    have hl0 : 0 < l.length := by omega
    obtain ⟨i0, hi0, hz0, hz1, hz2⟩ := info_parts inst_row
    clear hlen
    have R0 := Lib.hid (turned_start W ao l.length cap e0 e1 raw dup)
    go_enter Tryz.func6, Tryz.ntmps6
    obtain ⟨p0, p1, p2, p3, p4⟩ := box_cells K0.out
    have lp := heap_lt K0.out.at_
    go_upto_region 6 with (fail)
    refine name_world (fun u => RowAt W W.heap.size (W.heap.size + 1) (boxL ao l.length cap e0 e1 raw dup) none 0 0 e0 e1 raw dup [] u) R0.out ?_
    intro u hu
    have RU := Lib.hid hu
    clear hu R0 K0 p0 p1 p2 p3 p4 lp
    have HWB := Lib.hid (Nat.le_refl W.heap.size)
    generalize W.heap.size = B at *
    go_wp2_with (fail)
    go_loopw [9] (fun x wr => ∃ (i : Nat) (so : Option Addr) (c : Nat), i ≤ l.length ∧ x = .int .i64 i ∧ RowAt W B (B + 1) (boxL ao l.length cap e0 e1 raw dup) so i c e0 e1 raw dup ((turnL l t).take i) wr) (fun x _ => l.length - (intOf x).toNat)
    case atStart => exact ⟨0, none, 0, by omega, rfl, by rw [List.take_zero]; exact RU.out⟩
    case round =>
      obtain ⟨i, so, c, hi, rfl, hR⟩ := hrel
      have KR := Lib.hid hR
      clear hR
      by_cases hlt : i < l.length
      · obtain ⟨q0, q1, q2, q3, q4⟩ := pk5 KR.out.qk
        obtain ⟨p0, p1, p2, p3, p4⟩ := pk5 KR.out.pk
        have lp := heap_lt KR.out.pk
        have lq := heap_lt KR.out.qk
        have hk : (l.length - 1 - i + t) % l.length < l.length := Nat.mod_lt _ hl0
        obtain ⟨x, hx⟩ : ∃ x, l[(l.length - 1 - i + t) % l.length]'hk = x := ⟨_, rfl⟩
        have htn := turn_next (t := t) hlt x hx
        have hsx := HSM.out x (hx ▸ List.getElem_mem hk)
        have hka : ((l.length : Int) - 1 - (i : Int) + (t : Int)).tmod (l.length : Int) = (((l.length - 1 - i + t) % l.length : Nat) : Int) := by
          rw [Int.tmod_eq_emod_of_nonneg (by omega), show (l.length : Int) - 1 - (i : Int) + (t : Int) = ((l.length - 1 - i + t : Nat) : Int) by omega]
          simp
        have hw1 : IntKind.i64.wrap ((l.length : Int) - 1) = (l.length : Int) - 1 := by rw [IntKind.wrap_i64]; omega
        have hw2 : IntKind.i64.wrap ((l.length : Int) - 1 - (i : Int)) = (l.length : Int) - 1 - (i : Int) := by rw [IntKind.wrap_i64]; omega
        have hw3 : IntKind.i64.wrap (t : Int) = (t : Int) := by rw [IntKind.wrap_i64]; omega
        have hw4 : IntKind.i64.wrap ((l.length : Int) - 1 - (i : Int) + (t : Int)) = (l.length : Int) - 1 - (i : Int) + (t : Int) := by rw [IntKind.wrap_i64]; omega
        have hnil : ¬ l = [] := fun h => by rw [h] at hl0; simp at hl0
        generalize (l.length - 1 - i + t) % l.length = k at *
        obtain ⟨b, o, rfl, c0, c1, c2, c3, c4, c5, c6, c7, c8, c9, c10⟩ := insts_cells (insts_made H.out KR.out.made) hk x hx
        have lb := World.block_lt_of_cell? wr _ c0
        have m2 : Made wr ((wr.alloc (.cells (flatI [x]).toArray 42)).drew) := made_drew (made_alloc (Made.refl wr) _)
        have RA := Lib.hid (KR.out.next m2)
        have HI1 := Lib.hid (insts_olds (insts_made (one_lit wr x hsx) (made_drew (Made.refl _))) ⟨wr.heap.size, 0, none⟩ rfl)
        have hlen1 : (flatI [x]).length = 1 * 11 := flatI_len [x]
        have hmx : i + 1 ≤ maxLen := by unfold maxLen; omega
        have hby : (i + 1) * 24 ≤ 140737488355328 := by omega
        have hsz := Lib.hid (show B + 1 + 1 ≤ ((wr.alloc (.cells (flatI [x]).toArray 42)).drew).heap.size from Nat.le_trans lq m2.size)
        have hidx0 : (0 : Int) ≤ (k : Int) := by omega
        have hidx1 : (k : Int) < (l.length : Int) := by omega
        have HTN := Lib.hid htn
        have HSX := Lib.hid hsx
        clear htn hx hsx m2
        go_upto_region 9 with (fail)
        go_region_law (first
          | (refine step_append_each rfl (.tmp 38) (.tmp 52) 22 rfl (B + 1 + 1) 42 i0 (In.val inZero) 11 24 Tryz.underlying22 hi0 hz0 hz1 hz2 rfl (by decide) (.slice so i c) i (flatI ((turnL l t).take i)) (by simp [Act.eval]) RA.out.row ⟨wr.heap.size, 0, none⟩ 1 1 (flatI [x]) (by simp [Act.eval]) hlen1 HI1.out (flatI_one _) hmx hby hsz.out ?_
             intro v1 z1 own1 gr1 _
             have own2 := own1
             rewrite [← flatI_app] at own2
             obtain ⟨-, s1, c9', rfl, -⟩ := owns_insts own2 (fun y hy => (RA.out.grows_small HSX.out) y hy)
             have RG := Lib.hid (RA.out.grows HSX.out own1 gr1)
             have d0 := (pk5 (RA.out.box gr1)).1
             have f0 := free_of_lit (RA.out.box gr1)
             clear own1 own2 gr1))
        all_goals
          go_upto_region 8 with (fail)
          refine name_world (fun u => RowAt W B (B + 1) (boxL (some ⟨b, o, none⟩) l.length cap e0 e1 raw dup) s1 (i + 1) c9' e0 e1 raw dup ((turnL l t).take i ++ [x]) u) RG.out ?_
          intro u3 hu3
          rewrite [← HTN.out] at hu3
          have KS := Lib.hid hu3
          clear hu3 RG d0 f0 c0 c1 c2 c3 c4 c5 c6 c7 c8 c9 c10 lb p0 p1 p2 p3 p4 q0 q1 q2 q3 q4 lp lq RA HI1
          go_wp2
          go_roundw
          case rel => exact ⟨i + 1, s1, c9', by omega, by go_num, KS.out⟩
          case measure => simp [intOf]; omega
      · obtain rfl : i = l.length := by omega
        have hR2 := KR.out
        rewrite [turn_all] at hR2
        obtain ⟨hll, s2, c2, e2, hIQ⟩ := owns_insts hR2.row hR2.small
        obtain ⟨rfl, rfl⟩ : so = s2 ∧ c = c2 := by simpa using e2
        have HTP := Lib.hid (turn_perm l t)
        have hRR : ∃ rq u, (dup = true → rq = raw) ∧ u = (if dup then wr else wr.setCell ⟨B + 1, 3, none⟩ (.bool (!raw))) ∧ RowAt W B (B + 1) (boxL ao l.length cap e0 e1 raw dup) so l.length c e0 e1 rq dup (turnL l t) u := by
          cases dup with
          | true => exact ⟨raw, wr, fun _ => rfl, rfl, hR2⟩
          | false => exact ⟨!raw, _, (fun h => by cases h), rfl, hR2.raw (!raw)⟩
        obtain ⟨rq, u, hrq, hu, hRU⟩ := hRR
        have hl9 : l.length ≤ 1000 := by omega
        have HRO := Lib.hid (show ∀ er fr zs ys, IsOut pc ⟨l, e0, e1, raw, dup⟩ er zs → IsOut pc ⟨turnL l t, e0, e1, rq, dup⟩ fr ys → er = fr ∧ zs = ys from fun er fr zs ys h k => row_out HSM.out HTP.out hrq h k)
        have KU := Lib.hid hRU
        obtain ⟨q0, q1, q2, q3, q4⟩ := pk5 KR.out.qk
        obtain ⟨p0, p1, p2, p3, p4⟩ := pk5 KR.out.pk
        have lp := heap_lt KR.out.pk
        have lq := heap_lt KR.out.qk
        have f0 := free_of_lit KR.out.qk
        have HU := Lib.hid hu
        clear hR2 e2 hIQ hrq hRU hu
        cases dup
        case' false =>
          go_upto_region 12 with (fail)
          have hu := HU.out
          simp only [Bool.false_eq_true, if_false] at hu
          subst hu
        case' true =>
          go_upto_region 12 with (fail)
          have hu := HU.out
          simp only [if_true] at hu
          subst hu
        all_goals
          clear q0 q1 q2 q3 q4 p0 p1 p2 p3 p4 lp lq f0 HU KR
          refine name_world (fun u => RowAt W B (B + 1) (boxL ao l.length cap e0 e1 raw _) so l.length c e0 e1 rq _ (turnL l t) u) KU.out ?_
          clear KU
          intro u0 hu0
          have K0 := Lib.hid hu0
          clear hu0
          obtain ⟨p0, p1, p2, p3, p4⟩ := pk5 K0.out.pk
          have lp := heap_lt K0.out.pk
          go_wp2_with (fail)
          refine (pwords_any ao cap l e0 e1 raw _ u0 (HT.out.made K0.out.made) (insts_made H.out K0.out.made) hl9 pc hp).mono ?_
          rintro e w1 ⟨sz, n, c1, er, zs, rfl, hn, hws, h1, ho⟩
          subst hn
          have K1 := Lib.hid (K0.out.next h1)
          have Z1 := Lib.hid hws
          have OZ := Lib.hid ho
          clear h1 hws ho p0 p1 p2 p3 p4 lp K0
          obtain ⟨q0, q1, q2, q3, q4⟩ := pk5 K1.out.qk
          have lq := heap_lt K1.out.qk
          obtain ⟨-, s2, c2, e2, hIQ⟩ := owns_insts K1.out.row K1.out.small
          obtain ⟨rfl, rfl⟩ : so = s2 ∧ c = c2 := by simpa using e2
          have HIQ := Lib.hid hIQ
          clear hIQ e2
          go_wp2_with (fail)
          refine (words_at (turnL l t) l.length (turn_len l t) hl9 e0 e1 rq _ pc hp w1 (HT.out.made K1.out.made) so c HIQ.out).mono ?_
          rintro e w2 ⟨sy, n2, c2, fr, ys, rfl, hn, hws, h2, ho⟩
          obtain ⟨rfl, rfl⟩ := HRO.out _ _ _ _ OZ.out ho
          obtain rfl : n2 = zs.length := hn.symm
          have K2 := Lib.hid (K1.out.next h2)
          have Z2 := Lib.hid (Z1.out.made h2)
          have Y2 := Lib.hid hws
          have hz9 : zs.length ≤ 1000 := out_len OZ.out hl9
          clear h2 hws ho hn q0 q1 q2 q3 q4 lq K1 Z1 HIQ
          go_wp2_with (fail)
          refine (same_at zs zs zs.length zs.length rfl rfl hz9 true (decide_eq_true rfl) w2 _ _ _ _ Z2.out Y2.out).mono ?_
          rintro e w3 ⟨rfl, h3⟩
          have K3 := Lib.hid (K2.out.next h3)
          have Z3 := Lib.hid (Z2.out.made h3)
          have hee : (er != er) = false := by simp
          clear h3 K2 Z2 Y2
          rcases out_fine OZ.out with ⟨hne, rfl⟩ | ⟨rfl, hlg, hsy, hiw⟩
          · have g1 : (er != 0) = true := bne_iff_ne.2 hne
            clear hne
            go_wp2_with (fail)
            refine (HA.out _ K3.out.made).mono ?_
            rintro e w4 ⟨rfl, h4⟩
            have M4 := Lib.hid (Made.trans K3.out.made h4)
            clear h4
            go_wp2
            go_ret
            exact ⟨rfl, M4.out⟩
          · have HLG := Lib.hid hlg
            have HSY := Lib.hid hsy
            have HIW := Lib.hid hiw
            have HWL := Lib.hid (words_len hiw)
            have hz1' : 1 ≤ zs.length := words_pos hiw (legal_len hlg).2
            have hz4 : zs.length ≤ 4 := by
              have h1 := words_len hiw
              have h2 := ((legal_iff _).1 hlg).few
              omega
            clear hlg hsy hiw OZ
            obtain ⟨p0, p1, p2, p3, p4⟩ := pk5 K3.out.pk
            have lp := heap_lt K3.out.pk
            go_wp2_with (fail)
            refine (lwords_any ao cap l e0 e1 raw _ w3 (insts_made H.out K3.out.made) hl9).mono ?_
            rintro e w4 ⟨rfl, h4⟩
            rewrite [← HWL.out]
            have K4 := Lib.hid (K3.out.next h4)
            have Z4 := Lib.hid (Z3.out.made h4)
            have g1 : ((zs.length : Int) != (zs.length : Int)) = false := by simp
            have g2 : decide ((zs.length : Int) < 1) = false := decide_eq_false (by omega)
            have g3 : decide ((zs.length : Int) > 4) = false := decide_eq_false (by omega)
            clear h4 p0 p1 p2 p3 p4 lp K3 Z3
            go_wp2_with (fail)
            go_loopw [14] (fun x wr => ∃ k : Nat, k ≤ zs.length ∧ x = .int .i64 k ∧ Made w4 wr) (fun x _ => zs.length - (intOf x).toNat)
            case atStart => exact ⟨0, by omega, rfl, Made.refl _⟩
            case round =>
              obtain ⟨k, hk, rfl, hm⟩ := hrel
              have K5 := Lib.hid (K4.out.next hm)
              have Z5 := Lib.hid (Z4.out.made hm)
              have KM := Lib.hid hm
              clear hm g1 g2 g3
              obtain ⟨p0, p1, p2, p3, p4⟩ := pk5 K5.out.pk
              have lp := heap_lt K5.out.pk
              by_cases hlt : k < zs.length
              · obtain ⟨bz, oz, rfl, ck⟩ := Z5.out.cell k hlt
                have hq := parse_four (said_of HSM.out HSY.out) HIW.out hlt
                generalize zs[k] = z at *
                rcases hq with ⟨hkn, hd, hz⟩ | ⟨hkn, hd, hz⟩ | ⟨hkn, hz⟩ | ⟨hkn, hz⟩
                case' inl => have gl : ((k : Int) == (zs.length : Int) - 1) = true := beq_iff_eq.2 (by omega)
                case' inr.inl => have gl : ((k : Int) == (zs.length : Int) - 1) = true := beq_iff_eq.2 (by omega)
                case' inr.inr.inl => have gl : ((k : Int) == (zs.length : Int) - 1) = false := beq_eq_false_iff_ne.2 (by omega)
                case' inr.inr.inr => have gl : ((k : Int) == (zs.length : Int) - 1) = false := beq_eq_false_iff_ne.2 (by omega)
                all_goals
                  first
                    | (exact absurd hd (by decide))
                    | skip
                all_goals
                  clear hkn
                  go_wp2
                  go_roundw
                  case rel => exact ⟨k + 1, by omega, by go_num, KM.out⟩
                  case measure => simp [intOf]; omega
              · obtain rfl : k = zs.length := by omega
                have hob : orderB pc l = true := by
                  unfold orderB
                  rw [HSY.out, decide_eq_true hl4]
                  rfl
                have hrs : orderB pc (rowP pc l) = true := by
                  unfold orderB
                  rw [row_len, sayAll_perm (row_perm pc l), HSY.out, decide_eq_true hl4]
                  rfl
                have hrr : rowP pc (rowP pc l) = rowP pc l := row_row (said_of HSM.out HSY.out)
                have C1 := porder_any ao cap l wr (HT.out.made K5.out.made) (insts_made H.out K5.out.made) hl9 pc hp
                have hpm := row_perm pc l
                have hrl := row_len pc l
                have HOB := Lib.hid hob
                have HRS := Lib.hid hrs
                have HRW := Lib.hid hrr
                have HPM := Lib.hid hpm
                have HRL := Lib.hid hrl
                have HC1 := Lib.hid C1
                clear hob hrs hrr C1 hpm hrl
                go_wp2_with (fail)
                refine HC1.out.mono ?_
                rintro e w6 ⟨s6, n6, c6, rfl, hn6, hI6, h6⟩
                have K6 := Lib.hid (K5.out.next h6)
                rewrite [HOB.out]
                have ho6 : orderL pc l = rowP pc l := by unfold orderL; rw [HOB.out]; rfl
                rewrite [ho6] at hn6 hI6
                have I6 := Lib.hid hI6
                have C2 := porder_any s6 c6 (rowP pc l) w6 (HT.out.made K6.out.made) I6.out (by rw [HRL.out]; exact hl9) pc hp
                rewrite [hn6] at C2
                have HC2 := Lib.hid C2
                have HN6 := Lib.hid hn6
                clear h6 hI6 ho6 C2 hn6 p0 p1 p2 p3 p4 lp HC1
                go_wp2_with (fail)
                refine HC2.out.mono ?_
                rintro e w7 ⟨s7, n7, c7, rfl, hn7, hI7, h7⟩
                have K7 := Lib.hid (K6.out.next h7)
                rewrite [HRS.out]
                have ho7 : orderL pc (rowP pc l) = rowP pc l := by unfold orderL; rw [HRS.out]; exact HRW.out
                rewrite [ho7] at hn7 hI7
                have I7 := Lib.hid hI7
                have I67 := Lib.hid (insts_made I6.out h7)
                obtain rfl : n6 = n7 := HN6.out.symm.trans hn7
                have hn9 : n6 ≤ 1000 := by rw [← HN6.out, HRL.out]; exact hl9
                clear h7 hI7 ho7 hn7 HC2 K6 I6
                generalize rowP pc l = rw_ at *
                go_wp2_with (fail)
                refine (insts_at rw_ n6 HN6.out hn9 w7 _ _ _ _ I67.out I7.out).mono ?_
                rintro e w8 ⟨rfl, h8⟩
                have K8 := Lib.hid (K7.out.next h8)
                have I8 := Lib.hid (insts_made I67.out h8)
                clear h8 K7 I67 I7
                obtain ⟨p0, p1, p2, p3, p4⟩ := pk5 K8.out.pk
                have lp := heap_lt K8.out.pk
                have C3 := pmulti_any s6 ao c6 cap rw_ l w8 I8.out (insts_made H.out K8.out.made) (by rw [HN6.out]; exact hn9)
                rewrite [HN6.out] at C3
                have HC3 := Lib.hid C3
                clear C3
                go_wp2_with (fail)
                refine HC3.out.mono ?_
                rintro e w9 ⟨v, rfl, hv, h9⟩
                obtain rfl : v = true := hv.2 HPM.out
                have K9 := Lib.hid (K8.out.next h9)
                clear h9 hv p0 p1 p2 p3 p4 lp HC3
                go_wp2_with (fail)
                refine (HA.out _ K9.out.made).mono ?_
                rintro e wa ⟨rfl, ha⟩
                have M9 := Lib.hid (Made.trans K9.out.made ha)
                clear ha
                go_wp2
                go_ret
                exact ⟨rfl, M9.out⟩
end
theorem walkA (W : World) (hT : Tabs W) (ao : Option Addr) (cap : Nat) (l : List In) (e0 e1 raw dup : Bool) (pc a2 : Int) (hI : Insts W ao cap l) (hpc : (Lit.int .u32 pc).wf = true) (w2 : (Lit.int .u8 a2).wf = true) :
    Calls Tryz.prog 6 #[pkV ao l.length cap e0 e1 raw dup, .int .u32 pc, .int .u8 a2] W fun e w' => e = .returned (.bool true) ∧ Made W w' := by
  obtain ⟨t, rfl, ht⟩ : ∃ t : Nat, a2 = t ∧ t < 256 := by
    have k1 : IntKind.u8.min = 0 := rfl
    have k2 : IntKind.u8.max = 255 := rfl
    simp only [Lit.wf, Bool.and_eq_true, decide_eq_true_eq] at w2
    exact ⟨a2.toNat, by omega, by omega⟩
  exact walk W hT ao cap l e0 e1 raw dup pc t hI hpc ht
end packRow
end Go.Proofs.YtdghnlbfmaehoaaGreatDoor
