/- MatchSlots and MatchKnown of match's laws return true, whatever the masks. -/
import Derived.Test.YtplafgegjbppmaaMatchLaws
namespace Go.Proofs.Ytplafgegjbppmaa
open Go.ChangeShapes Go.WideShapes Go.ChangeAt Go.RowKit Go.Sort BigFrame

theorem slots_none {ns : List Nat} (hs : search ns [] = none) (ao : Option Addr) (cap : Nat) (w : World) (hM : Masks w ao cap ns) : Calls Try.prog 8 #[.slice ao ns.length cap] w fun e w' => e = .returned (.tuple #[.slice none 0 0, .bool false]) ∧ Made w w' := by
  refine (slots_any ns ao cap w hM).mono ?_
  rintro e w' ⟨hm, ⟨_, rfl⟩ | ⟨so, l', h1, rfl, ha⟩⟩
  · exact ⟨rfl, hm⟩
  · rw [hs] at h1; exact absurd h1 (by simp)
theorem slots_some {ns l : List Nat} (hs : search ns [] = some l) (ao : Option Addr) (cap : Nat) (w : World) (hM : Masks w ao cap ns) :
    Calls Try.prog 8 #[.slice ao ns.length cap] w fun e w' => ∃ so, e = .returned (.tuple #[.slice so ns.length ns.length, .bool true]) ∧ Nums .i64 w' so ns.length l ∧ Whole ns l ∧ Made w w' := by
  refine (slots_any ns ao cap w hM).mono ?_
  rintro e w' ⟨hm, ⟨h0, _⟩ | ⟨so, l', h1, rfl, ha⟩⟩
  · rw [hs] at h0; exact absurd h0 (by simp)
  · rw [hs] at h1
    obtain rfl := Option.some.inj h1
    exact ⟨so, rfl, ha.nums, ha.whole, hm⟩
theorem slots9_none {ns : List Nat} (hs : search ns [] = none) (ao : Option Addr) (cap : Nat) (w : World) (hM : Masks w ao cap ns) : Calls Try.prog 9 #[.slice ao ns.length cap, .slice none 0 0] w fun e w' => e = .returned (.tuple #[.slice none 0 0, .bool false]) ∧ Made w w' := by
  refine (slots9_any ns ao cap ns.length [] none 0 w (by simp) hM (nums_nil _ w)).mono ?_
  rintro e w' ⟨hm, ⟨_, rfl⟩ | ⟨so, sc, l', h1, rfl, ha⟩⟩
  · exact ⟨rfl, hm⟩
  · have h2 : search ns [] = some l' := h1
    rw [hs] at h2; exact absurd h2 (by simp)
theorem slots9_some {ns l : List Nat} (hs : search ns [] = some l) (ao : Option Addr) (cap : Nat) (w : World) (hM : Masks w ao cap ns) :
    Calls Try.prog 9 #[.slice ao ns.length cap, .slice none 0 0] w fun e w' => ∃ so sc, e = .returned (.tuple #[.slice so l.length sc, .bool true]) ∧ Nums .i64 w' so sc l ∧ Made w w' := by
  refine (slots9_any ns ao cap ns.length [] none 0 w (by simp) hM (nums_nil _ w)).mono ?_
  rintro e w' ⟨hm, ⟨h0, _⟩ | ⟨so, sc, l', h1, rfl, ha⟩⟩
  · have h2 : search ns [] = none := h0
    rw [hs] at h2; exact absurd h2 (by simp)
  · have h2 : search ns [] = some l' := h1
    rw [hs] at h2
    obtain rfl := Option.some.inj h2
    exact ⟨so, sc, rfl, ha, hm⟩
theorem fits_none {ns : List Nat} (hs : search ns [] = none) : fitsN ns = false := by unfold fitsN; rw [hs]; rfl
theorem fits_some {ns l : List Nat} (hs : search ns [] = some l) : fitsN ns = true := by unfold fitsN; rw [hs]; rfl

namespace matchSlots
section
attribute [local irreducible] World.cell?
set_option maxHeartbeats 4000000 in
theorem walk (W : World) (ao : Option Addr) (cap : Nat) (ns : List Nat) (hN : Nums .u8 W ao cap ns) (hB : ∀ t, ns.getD t 0 < 256) :
    Calls Try.prog 3 #[.slice ao ns.length cap] W fun e w' => e = .returned (.bool true) ∧ Made W w' := by
  have HA := Lib.hid (awake_any W)
  by_cases hlen : 12 < ns.length
  · have hmax := hN.room
    have hmax2 := hN.max
    unfold maxLen at hmax2
    clear hN hB
    go_enter Try.func3, Try.ntmps3
    go_wp2_with (fail)
    refine (HA.out _ (Made.refl W)).mono ?_
    rintro e w1 ⟨rfl, hm1⟩
    have K1 := Lib.hid hm1
    clear hm1
    go_wp2
    go_ret
    exact ⟨rfl, K1.out⟩
  · have HM := Lib.hid (show Masks W ao cap ns from ⟨hN, by omega, hB⟩)
    clear hN hB
    cases hs : search ns [] with
    | none =>
      have HS := Lib.hid hs
      clear hs
      go_enter Try.func3, Try.ntmps3
      go_wp2_with (fail)
      refine (slots_none HS.out ao cap _ HM.out).mono ?_
      rintro e w1 ⟨rfl, hm1⟩
      have K1 := Lib.hid hm1
      clear hm1
      go_wp2_with (fail)
      refine (slots9_none HS.out ao cap _ (HM.out.made K1.out)).mono ?_
      rintro e w2 ⟨rfl, hm2⟩
      have K2 := Lib.hid (Made.trans K1.out hm2)
      clear hm2 K1
      go_wp2_with (fail)
      refine (same_any none none 0 0 [] [] _ (nums_nil _ _) (nums_nil _ _) (by simp)).mono ?_
      rintro e w3 ⟨rfl, hm3⟩
      have K3 := Lib.hid (Made.trans K2.out hm3)
      have HF := fits_any ns ao cap w3 (HM.out.made K3.out)
      rewrite [fits_none HS.out] at HF
      have HF2 := Lib.hid HF
      clear hm3 K2 HF
      go_wp2_with (fail)
      refine HF2.out.mono ?_
      rintro e w4 ⟨rfl, hm4⟩
      have K4 := Lib.hid (Made.trans K3.out hm4)
      clear hm4 K3
      go_wp2_with (fail)
      refine (HA.out _ K4.out).mono ?_
      rintro e w5 ⟨rfl, hm5⟩
      have K5 := Lib.hid hm5
      clear hm5
      go_wp2
      go_ret
      exact ⟨rfl, K5.out⟩
    | some l =>
      have HS := Lib.hid hs
      clear hs
      go_enter Try.func3, Try.ntmps3
      go_wp2_with (fail)
      refine (slots_some HS.out ao cap _ HM.out).mono ?_
      rintro e w1 ⟨so, rfl, hn1, hw, hm1⟩
      have K1 := Lib.hid hm1
      have N1 := Lib.hid hn1
      have HL := Lib.hid (good_len _ _ hw.good)
      clear hm1 hn1 hw
      go_wp2_with (fail)
      refine (slots9_some HS.out ao cap _ (HM.out.made K1.out)).mono ?_
      rintro e w2 ⟨so2, sc2, rfl, hn2, hm2⟩
      have K2 := Lib.hid (Made.trans K1.out hm2)
      have HC := same_any so so2 ns.length sc2 l l w2 (N1.out.made hm2) hn2 (by rw [HL.out]; omega)
      rewrite [HL.out, show (l == l) = true by simp] at HC
      have HC2 := Lib.hid HC
      clear hm2 hn2 K1 N1 HC
      rewrite [HL.out]
      go_wp2_with (fail)
      refine HC2.out.mono ?_
      rintro e w3 ⟨rfl, hm3⟩
      have K3 := Lib.hid (Made.trans K2.out hm3)
      have HF := fits_any ns ao cap w3 (HM.out.made K3.out)
      rewrite [fits_some HS.out] at HF
      have HF2 := Lib.hid HF
      clear hm3 K2 HF
      go_wp2_with (fail)
      refine HF2.out.mono ?_
      rintro e w4 ⟨rfl, hm4⟩
      have K4 := Lib.hid (Made.trans K3.out hm4)
      clear hm4 K3
      go_wp2_with (fail)
      refine (HA.out _ K4.out).mono ?_
      rintro e w5 ⟨rfl, hm5⟩
      have K5 := Lib.hid hm5
      clear hm5
      go_wp2
      go_ret
      exact ⟨rfl, K5.out⟩
end
end matchSlots

theorem slots_nil (w : World) : Calls Try.prog 8 #[.slice none 0 0] w fun e w' => ∃ so, e = .returned (.tuple #[.slice so 0 0, .bool true]) ∧ Made w w' := by
  refine (slots_some (ns := []) (l := []) rfl none 0 w ⟨nums_nil _ w, by simp, fun t => by simp⟩).mono ?_
  rintro e w' ⟨so, rfl, _, _, hm⟩
  exact ⟨so, rfl, hm⟩
namespace matchKnown
section
attribute [local irreducible] World.cell?
set_option maxHeartbeats 4000000 in
theorem walk (W : World) : Calls Try.prog 4 #[] W fun e w' => e = .returned (.bool true) ∧ Made W w' := by
  have HA := Lib.hid (awake_any W)
  go_enter Try.func4, Try.ntmps4
  go_wp2_with (fail)
  refine (slots_lit [12, 8, 3] [2, 3, 0] 3 rfl (by omega) (by decide) (by decide +kernel) _ _ 5 (by exact heap_alloc_new _ _)).mono ?_
  rintro e w1 ⟨so, rfl, hn1, hm1⟩
  have K1 := Lib.hid (Made.trans (made_new (Made.refl W) _) hm1)
  have N1 := Lib.hid hn1
  clear hn1 hm1
  go_wp2_with (fail)
  refine (slots_nil _).mono ?_
  rintro e w2 ⟨s2, rfl, hm2⟩
  have N2 := Lib.hid (N1.out.made hm2)
  have K2 := Lib.hid (Made.trans K1.out hm2)
  clear hm2 K1 N1
  go_wp2_with (fail)
  refine (slots_lit_none [0] 1 rfl (by omega) (by decide) (by decide +kernel) _ _ 5 (by exact heap_alloc_new _ _)).mono ?_
  rintro e w3 ⟨rfl, hm3⟩
  have N3 := Lib.hid ((N2.out.made (made_new (Made.refl _) _)).made hm3)
  have K3 := Lib.hid (Made.trans (made_new K2.out _) hm3)
  clear hm3 K2 N2
  go_wp2_with (fail)
  refine (slots_lit_none [15, 15, 15, 15, 15] 5 rfl (by omega) (by decide) (by decide +kernel) _ _ 5 (by exact heap_alloc_new _ _)).mono ?_
  rintro e w4 ⟨rfl, hm4⟩
  have N4 := Lib.hid ((N3.out.made (made_new (Made.refl _) _)).made hm4)
  have K4 := Lib.hid (Made.trans (made_new K3.out _) hm4)
  clear hm4 K3 N3
  go_wp2_with (fail)
  refine (slots_lit [243, 241, 12, 15] [1, 0, 2, 3] 4 rfl (by omega) (by decide) (by decide +kernel) _ _ 5 (by exact heap_alloc_new _ _)).mono ?_
  rintro e w5 ⟨s5, rfl, hn5, hm5⟩
  have N5 := Lib.hid ((N4.out.made (made_new (Made.refl _) _)).made hm5)
  have M5 := Lib.hid hn5
  have K5 := Lib.hid (Made.trans (made_new K4.out _) hm5)
  clear hm5 hn5 K4 N4
  go_wp2_with (fail)
  refine (same_lit [2, 3, 0] [2, 3, 0] 3 3 rfl rfl (by omega) (by omega) true (by decide) so 3 _ (N5.out.made (made_new (Made.refl _) _)) _ 3 (by exact heap_alloc_new _ _)).mono ?_
  rintro e w6 ⟨rfl, hm6⟩
  have M6 := Lib.hid ((M5.out.made (made_new (Made.refl _) _)).made hm6)
  have K6 := Lib.hid (Made.trans (made_new K5.out _) hm6)
  clear hm6 K5 M5 N5
  go_wp2_with (fail)
  refine (same_lit [1, 0, 2, 3] [1, 0, 2, 3] 4 4 rfl rfl (by omega) (by omega) true (by decide) s5 4 _ (M6.out.made (made_new (Made.refl _) _)) _ 3 (by exact heap_alloc_new _ _)).mono ?_
  rintro e w7 ⟨rfl, hm7⟩
  have K7 := Lib.hid (Made.trans (made_new K6.out _) hm7)
  clear hm7 K6 M6
  go_wp2_with (fail)
  refine (HA.out _ K7.out).mono ?_
  rintro e w8 ⟨rfl, hm8⟩
  have K8 := Lib.hid hm8
  clear hm8
  go_wp2
  go_ret
  exact ⟨rfl, K8.out⟩
end
end matchKnown
end Go.Proofs.Ytplafgegjbppmaa
