/- PackWords of the laws of pack returns true, for any packet and address, in every world that holds the tables. -/
import Derived.Test.YtdghnlbfmaehoaaGreatDoorPackLaws
import Derived.Test.YtdghnlbfmaehoaaGreatDoorPackRefW
namespace Go.Proofs.YtdghnlbfmaehoaaGreatDoor
open Go.ChangeShapes Go.WideShapes Go.ChangeAt Go.RowKit Go.Sort BigFrame

namespace packWords
section
attribute [local irreducible] World.cell?
set_option maxRecDepth 100000 in
set_option maxHeartbeats 16000000 in
theorem walk (W : World) (hT : Tabs W) (ao : Option Addr) (cap : Nat) (l : List In) (e0 e1 raw dup : Bool) (pc : Int) (hI : Insts W ao cap l) (hpc : (Lit.int .u32 pc).wf = true) :
    Calls Tryz.prog 4 #[pkV ao l.length cap e0 e1 raw dup, .int .u32 pc] W fun e w' => e = .returned (.bool true) ∧ Made W w' := by
  have hp := u32_lit hpc
  have HA := Lib.hid (fun (u : World) (hu : Made W u) => awake12_any u (hT.made hu) u (Made.refl u))
  have K0 := Lib.hid (box_start (Made.refl W) (boxL ao l.length cap e0 e1 raw dup))
  have H := Lib.hid hI
  have HT := Lib.hid hT
  clear hI hT hpc
  by_cases hlen : 8 < l.length
  · have hb : decide ((l.length : Int) > 8) = true := decide_eq_true (by omega)
    go_enter Tryz.func4, Tryz.ntmps4
    obtain ⟨p0, p1, p2, p3, p4⟩ := box_cells K0.out
    have lp := heap_lt K0.out.at_
    go_wp2_with (fail)
    refine (HA.out _ K0.out.made).mono ?_
    rintro e w1 ⟨rfl, h1⟩
    have M1 := Lib.hid (Made.trans K0.out.made h1)
    clear h1 p0 p1 p2 p3 p4 lp
    go_wp2
    go_ret
    exact ⟨rfl, M1.out⟩
  · have hb : decide ((l.length : Int) > 8) = false := decide_eq_false (by omega)
    have hl9 : l.length ≤ 1000 := by omega
    go_enter Tryz.func4, Tryz.ntmps4
    obtain ⟨p0, p1, p2, p3, p4⟩ := box_cells K0.out
    have lp := heap_lt K0.out.at_
    go_wp2_with (fail)
    refine (pwords_any ao cap l e0 e1 raw dup _ (HT.out.made K0.out.made) (insts_made H.out K0.out.made) hl9 pc hp).mono ?_
    rintro e w1 ⟨so, n, c, er, zs, rfl, hn, hws, h1, ho⟩
    subst hn
    have K1 := Lib.hid (K0.out.next h1)
    have WS := Lib.hid hws
    have HO := Lib.hid ho
    clear h1 hws ho p0 p1 p2 p3 p4 lp K0
    obtain ⟨p0, p1, p2, p3, p4⟩ := box_cells K1.out
    have lp := heap_lt K1.out.at_
    go_wp2_with (fail)
    refine (lcheck_any ao cap l e0 e1 raw dup w1 (HT.out.made K1.out.made) (insts_made H.out K1.out.made) hl9).mono ?_
    rintro e w2 ⟨rfl, h2⟩
    have K2 := Lib.hid (K1.out.next h2)
    have WS2 := Lib.hid (WS.out.made h2)
    clear h2 p0 p1 p2 p3 p4 lp K1 WS
    obtain ⟨p0, p1, p2, p3, p4⟩ := box_cells K2.out
    have lp := heap_lt K2.out.at_
    by_cases h0 : legalP ⟨l, e0, e1, raw, dup⟩ = 0
    · have HL := Lib.hid h0
      rewrite [h0]
      clear h0
      go_wp2_with (fail)
      refine (rwords12_any ao cap l e0 e1 raw dup w2 (insts_made H.out K2.out.made) HL.out pc hp).mono ?_
      rintro e w3 ⟨so2, n2, c2, ys, rfl, hn2, hws2, h3, hno, hyes⟩
      subst hn2
      have K3 := Lib.hid (K2.out.next h3)
      have WS3 := Lib.hid (WS2.out.made h3)
      have YS3 := Lib.hid hws2
      clear h3 hws2 p0 p1 p2 p3 p4 lp K2 WS2
      cases hsy : sayAll pc l with
      | false =>
        obtain ⟨rfl, rfl⟩ := HO.out.far HL.out hsy
        have HSY := Lib.hid hsy
        clear hno hyes
        clear hsy
        go_wp2_with (fail)
        refine (HA.out _ K3.out.made).mono ?_
        rintro e w4 ⟨rfl, h4⟩
        have M4 := Lib.hid (Made.trans K3.out.made h4)
        clear h4
        go_wp2
        go_ret
        exact ⟨rfl, M4.out⟩
      | true =>
        obtain ⟨rfl, hz⟩ := HO.out.ok HL.out hsy
        obtain rfl : zs = ys := words_one hz (hyes hsy)
        have hz9 : zs.length ≤ 1000 := by
          have h1 := words_len hz
          have h2 := ((legal_iff _).1 HL.out).few
          omega
        clear hno hyes hz
        clear hsy
        go_wp2_with (fail)
        refine (same_at zs zs zs.length zs.length rfl rfl hz9 true (decide_eq_true rfl) w3 _ _ _ _ WS3.out YS3.out).mono ?_
        rintro e w4 ⟨rfl, h4⟩
        have M4 := Lib.hid (Made.trans K3.out.made h4)
        clear h4
        go_wp2_with (fail)
        refine (HA.out _ M4.out).mono ?_
        rintro e w5 ⟨rfl, h5⟩
        have M5 := Lib.hid (Made.trans M4.out h5)
        clear h5
        go_wp2
        go_ret
        exact ⟨rfl, M5.out⟩
    · obtain ⟨rfl, rfl⟩ := HO.out.bad h0
      have hne : (legalP ⟨l, e0, e1, raw, dup⟩ != 0) = true := bne_iff_ne.2 h0
      clear h0 HO
      generalize legalP ⟨l, e0, e1, raw, dup⟩ = lv at *
      have hee : (lv == lv) = true := by simp
      go_wp2_with (fail)
      refine (HA.out _ K2.out.made).mono ?_
      rintro e w3 ⟨rfl, h3⟩
      have M3 := Lib.hid (Made.trans K2.out.made h3)
      clear h3 p0 p1 p2 p3 p4 lp
      go_wp2
      go_ret
      exact ⟨rfl, M3.out⟩
end
end packWords
end Go.Proofs.YtdghnlbfmaehoaaGreatDoor
