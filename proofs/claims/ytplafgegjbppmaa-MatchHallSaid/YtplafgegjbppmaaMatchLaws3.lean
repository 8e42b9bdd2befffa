/- MatchHall of match's laws returns true, whatever the masks. -/
import Derived.Test.YtplafgegjbppmaaMatchBits
namespace Go.Proofs.Ytplafgegjbppmaa
open Go.ChangeShapes Go.WideShapes Go.ChangeAt Go.RowKit Go.Sort BigFrame

namespace matchHall
/-- The words of the inner loops. -/
def hallTo (ns : List Nat) (p : Nat) : Bool := allBelow (okPick ns) p
section
attribute [local irreducible] World.cell?
set_option maxRecDepth 100000 in
set_option maxHeartbeats 8000000 in
theorem walk (W : World) (ao : Option Addr) (cap : Nat) (ns : List Nat) (hN : Nums .u8 W ao cap ns) (hB : ∀ t, ns.getD t 0 < 256) :
    Calls Try.prog 5 #[.slice ao ns.length cap] W fun e w' => e = .returned (.bool true) ∧ Made W w' := by
  have HA := Lib.hid (awake_any W)
  by_cases hlen : 8 < ns.length
  · have hmax := hN.room
    have hmax2 := hN.max
    unfold maxLen at hmax2
    clear hN hB
    go_enter Try.func5, Try.ntmps5
    go_wp2_with (fail)
    refine (HA.out _ (Made.refl W)).mono ?_
    rintro e w1 ⟨rfl, hm1⟩
    have K1 := Lib.hid hm1
    clear hm1
    go_wp2
    go_ret
    exact ⟨rfl, K1.out⟩
  · have HM := Lib.hid (show Masks W ao cap ns from ⟨hN, by omega, hB⟩)
    obtain ⟨M, hM0⟩ : ∃ M, 2 ^ ns.length = M := ⟨_, rfl⟩
    have hM := pow_8 (n := ns.length) (by omega)
    have hw : wrap64 ((2 : Int) ^ ns.length) = (M : Int) := by
      have e : ((2 : Int) ^ ns.length) = (M : Int) := by rw [← hM0]; simp
      rw [e]
      unfold wrap64; omega
    rewrite [hM0] at hM
    obtain ⟨hM1, hM2⟩ := hM
    have HP := Lib.hid hM0
    clear hN hB hM0
    go_enter Try.func5, Try.ntmps5
    go_wp2_with (fail)
    go_loopw [3, 4] (fun h x wr => ∃ p : Nat, p ≤ M ∧ h = .bool (allBelow (okPick ns) p) ∧ x = .int .i64 p ∧ wr = W) (fun _ x _ => M - (intOf x).toNat)
    case atStart => exact ⟨0, Nat.zero_le _, rfl, rfl, rfl⟩
    case round =>
      obtain ⟨p, hp, rfl, rfl, rfl⟩ := hrel
      by_cases hlt : p < M
      · go_upto_region 10 with (fail)
        go_loopw [5, 6, 7] (fun n a i wr2 => ∃ k n' a' : Nat, k ≤ ns.length ∧ n = .int .i64 n' ∧ a = .int .u8 a' ∧ i = .int .i64 k ∧ stF (ns.take k) p (0, 0) = (n', a') ∧ n' ≤ k ∧ a' < 16 ∧ wr2 = wr) (fun _ _ i _ => ns.length - (intOf i).toNat)
        case atStart => exact ⟨0, 0, 0, Nat.zero_le _, rfl, rfl, rfl, rfl, by omega, by omega, rfl⟩
        case round =>
          obtain ⟨k, n', a', hk, rfl, rfl, rfl, hst, hnk, ha16, rfl⟩ := hrel
          have HST := Lib.hid hst
          clear hst
          by_cases hlt2 : k < ns.length
          · obtain ⟨ad, rfl⟩ := HM.out.nums.some hlt2
            have hc := HM.out.nums.cell ad rfl k hlt2
            have hby := HM.out.byte k
            have hpc := pick_code p k (by omega)
            have hstep := stF_take hlt2 HST.out
            have HOC := Lib.hid (or_code a' (ns.getD k 0) ha16 hby)
            have h16 := or_16 (b := ns.getD k 0) ha16
            by_cases hbit : p / 2 ^ k % 2 = 1
            · rewrite [if_pos hbit] at hstep
              rewrite [hbit] at hpc
              have hpc2 : (bits .and .i64 ((p : Int) / 2 ^ k) 1 == 1) = true := hpc
              have HX := Lib.hid hstep
              generalize hE : (a' ||| ns.getD k 0 % 16) = a2 at *
              have hoc := HOC.out
              generalize ns.getD k 0 = mk at *
              clear hE hstep hbit hpc
              go_wp2
              go_roundw
              case rel => exact ⟨k + 1, n' + 1, a2, by omega, by go_num, by go_num, by go_num, HX.out, by omega, h16, trivial⟩
              case measure => simp [intOf]; omega
            · rewrite [if_neg hbit] at hstep
              have h0 : p / 2 ^ k % 2 = 0 := by omega
              rewrite [h0] at hpc
              have hpc2 : (bits .and .i64 ((p : Int) / 2 ^ k) 1 == 1) = false := hpc
              have HX := Lib.hid hstep
              clear hstep hbit hpc h0 h16 HOC
              go_wp2
              go_roundw
              case rel => exact ⟨k + 1, n', a', by omega, by go_num, by go_num, by go_num, HX.out, by omega, ha16, trivial⟩
              case measure => simp [intOf]; omega
          · obtain rfl : k = ns.length := by omega
            have hfull := HST.out
            rewrite [List.take_length] at hfull
            have HS2 := Lib.hid (show okPick ns p = decide (n' ≤ popTo a' 4) by unfold okPick; rw [hfull, popTo_4])
            clear hfull HST
            go_upto_region 17 with (fail)
            go_loopw [8, 9] (fun h s wr2 => ∃ s' : Nat, s' ≤ 4 ∧ h = .int .i64 (popTo a' s' : Nat) ∧ s = .int .i64 s' ∧ wr2 = wr) (fun _ s _ => 4 - (intOf s).toNat)
            case atStart => exact ⟨0, by omega, rfl, rfl, rfl⟩
            case round =>
              obtain ⟨s', hs', rfl, rfl, rfl⟩ := hrel
              have hpl := popTo_le a' s'
              by_cases hlt3 : s' < 4
              · have hbc := bit_code a' s' (by omega)
                have hX : popTo a' (s' + 1) = popTo a' s' + a' / 2 ^ s' % 2 := rfl
                have hlt01 : a' / 2 ^ s' % 2 < 2 := Nat.mod_lt _ (by omega)
                generalize a' / 2 ^ s' % 2 = bt at *
                generalize popTo a' s' = pn at *
                have HX := Lib.hid hX
                clear hX
                go_wp2
                go_roundw
                case rel => exact ⟨s' + 1, by omega, by rw [HX.out]; go_num, by go_num, trivial⟩
                case measure => simp [intOf]; omega
              · obtain rfl : s' = 4 := by omega
                have hstep : allBelow (okPick ns) (p + 1) = (okPick ns p && allBelow (okPick ns) p) := rfl
                rewrite [HS2.out] at hstep
                have HX := Lib.hid hstep
                generalize popTo a' 4 = pn at *
                generalize allBelow (okPick ns) p = ab at *
                clear hstep
                cases ab with
                | false =>
                  go_wp2
                  go_roundw
                  case rel => exact ⟨p + 1, by omega, by rw [HX.out]; simp, by go_num, trivial⟩
                  case measure => simp [intOf]; omega
                | true =>
                  go_wp2
                  go_roundw
                  case rel => exact ⟨p + 1, by omega, by rw [HX.out, Bool.and_true], by go_num, trivial⟩
                  case measure => simp [intOf]; omega
      · obtain rfl : p = M := by omega
        have hall := hall_all ns
        rewrite [HP.out] at hall
        have HL := Lib.hid hall
        generalize allBelow (okPick ns) p = ab at *
        clear hall
        cases hs : search ns [] with
        | none =>
          have HS := Lib.hid hs
          clear hs
          obtain rfl : ab = false := HL.out.trans (fits_none HS.out)
          go_wp2_with (fail)
          refine (slots_none HS.out ao cap _ HM.out).mono ?_
          rintro e w1 ⟨rfl, hm1⟩
          have K1 := Lib.hid hm1
          have HF := fits_any ns ao cap w1 (HM.out.made K1.out)
          rewrite [fits_none HS.out] at HF
          have HF2 := Lib.hid HF
          clear hm1 HF
          go_wp2_with (fail)
          refine HF2.out.mono ?_
          rintro e w2 ⟨rfl, hm2⟩
          have K2 := Lib.hid (Made.trans K1.out hm2)
          clear hm2 K1
          go_wp2_with (fail)
          refine wp_loop_rounds 1 ?_
          rewrite [rounds_succ]
          go_wp2_with (fail)
          refine (HA.out _ K2.out).mono ?_
          rintro e w3 ⟨rfl, hm3⟩
          have K3 := Lib.hid hm3
          clear hm3
          go_wp2
          go_ret
          exact ⟨rfl, K3.out⟩
        | some l =>
          have HS := Lib.hid hs
          clear hs
          obtain rfl : ab = true := HL.out.trans (fits_some HS.out)
          go_wp2_with (fail)
          refine (slots_some HS.out ao cap _ HM.out).mono ?_
          rintro e w1 ⟨so, rfl, hn1, hwh, hm1⟩
          have K1 := Lib.hid hm1
          have N1 := Lib.hid hn1
          have HW := Lib.hid hwh
          have hll := Lib.hid (good_len _ _ hwh.good)
          have HF := fits_any ns ao cap w1 (HM.out.made K1.out)
          rewrite [fits_some HS.out] at HF
          have HF2 := Lib.hid HF
          clear hm1 HF hn1 hwh
          go_wp2_with (fail)
          refine HF2.out.mono ?_
          rintro e w2 ⟨rfl, hm2⟩
          have N2 := Lib.hid (N1.out.made hm2)
          have K2 := Lib.hid (Made.trans K1.out hm2)
          clear hm2 K1 N1
          go_wp2_with (fail)
          go_loopw [12, 13] (fun sv x wr => ∃ (i sn nd : Nat), i ≤ ns.length ∧ sv = .int .i64 sn ∧ x = .int .i64 i ∧ sn < 16 ∧ (∀ t, t < 4 → hasN sn t = (l.take i).contains t) ∧ wr = w2.drewN nd) (fun _ x _ => ns.length - (intOf x).toNat)
          case atStart => exact ⟨0, 0, 0, by omega, rfl, rfl, by omega, seen_start, rfl⟩
          case round =>
            obtain ⟨i, sn, nd, hi, rfl, rfl, h16, hseen, hwr⟩ := hrel
            have HWR := Lib.hid hwr
            have hmw : Made w2 wr := hwr ▸ made_drewN w2 nd
            clear hwr
            have HSN := Lib.hid hseen
            clear hseen
            by_cases hlt3 : i < ns.length
            · obtain ⟨a, rfl⟩ := HM.out.nums.some hlt3
              obtain ⟨b, rfl⟩ := N2.out.some (t := i) (by rw [hll.out]; exact hlt3)
              have hlt4 : i < l.length := by rw [hll.out]; exact hlt3
              have hc1 := made_cell (Made.trans K2.out hmw) _ _ (HM.out.nums.cell a rfl i hlt3)
              have hc2 := made_cell hmw _ _ (N2.out.cell b rfl i hlt4)
              have hat := good_at _ _ HW.out.good i hlt3
              have hnx := seen_next h16 HSN.out hlt4 HW.out.nodup hat.1
              have hby := HM.out.byte i
              obtain ⟨h4, hal⟩ := hat
              obtain ⟨hz0, hz16, hz⟩ := hnx
              have HZ := Lib.hid hz
              clear hz hlt4
              generalize l.getD i 0 = li at *
              generalize ns.getD i 0 = mk at *
              have hb1 := has_code hby hal
              have hb2 := seen_code h16 hz0
              have hw2 := wrap_pow h4
              have hor := or_code64 sn li h16 h4 hz0
              have hd1 : decide ((li : Int) < 0) = false := decide_eq_false (by omega)
              have hd2 : decide ((3 : Int) < (li : Int)) = false := decide_eq_false (by omega)
              clear hal hz0
              go_upto_region 28 with (fail)
              go_quiet (fail)
              rename_i nq
              go_wp2
              go_roundw
              case rel => exact ⟨i + 1, sn + 2 ^ li, nd + nq, by omega, by simp, by go_num, hz16, HZ.out, by rw [HWR.out, World.drewN_drewN]⟩
              case measure => simp [intOf]; omega
            · have K3 := Lib.hid (Made.trans K2.out hmw)
              go_wp2_with (fail)
              refine (HA.out _ K3.out).mono ?_
              rintro e w3 ⟨rfl, hm3⟩
              have K4 := Lib.hid hm3
              clear hm3
              go_wp2
              go_ret
              exact ⟨rfl, K4.out⟩
end
end matchHall
end Go.Proofs.Ytplafgegjbppmaa
