/- What Slots and Fits of package match return: the least assignment as the search finds it, in memory of its own, or none; whether there is one. -/
import Derived.Test.YtplafgegjbppmaaMatchLower
namespace Go.Proofs.Ytplafgegjbppmaa
open Go.ChangeShapes Go.WideShapes Go.ChangeAt Go.RowKit Go.Sort BigFrame

/-- What Slots hands back. -/
def Told (ns : List Nat) (w : World) (e : Ending) (w' : World) : Prop :=
  Made w w' ∧ ((search ns [] = none ∧ e = .returned (.tuple #[.slice none 0 0, .bool false])) ∨
    ∃ so l, search ns [] = some l ∧ e = .returned (.tuple #[.slice so ns.length ns.length, .bool true]) ∧ Assign w' so ns l)
theorem nums_nil (k : IntKind) (w : World) : Nums k w none 0 [] := ⟨Nat.le_refl _, Nat.zero_le _, fun _ => ⟨rfl, rfl⟩, fun a h => by cases h⟩
theorem search_end {ns l : List Nat} (h : Whole ns l) : search (ns.drop ns.length) (l.take ns.length) = some l := by
  have hl := good_len _ _ h.good
  rw [List.drop_length, ← hl, List.take_length]
  rfl
section
attribute [local irreducible] World.cell?
set_option maxHeartbeats 4000000 in
theorem slots_any (ns : List Nat) (ao : Option Addr) (cap : Nat) (w : World) (hM : Masks w ao cap ns) : Calls Try.prog 8 #[.slice ao ns.length cap] w (Told ns w) := by
  have HC := Lib.hid (complete_any ns [] ao none cap 0 w hM (nums_nil _ w) (fix_nil ns))
  have hfew := hM.few
  have HM := Lib.hid hM
  clear hM
  go_enter Try.func8, Try.ntmps8
  go_wp2_with (fail)
  refine HC.out.mono ?_
  rintro e w1 ⟨hm1, hr⟩
  have K1 := Lib.hid hm1
  clear hm1 HC
  rcases hr with ⟨hr, rfl⟩ | ⟨g, l, rfl, hw, -, hn⟩
  · have KX := Lib.hid (show Told ns w (.returned (.tuple #[.slice none 0 0, .bool false])) w1 from ⟨K1.out, .inl ⟨hr, rfl⟩⟩)
    clear hr
    go_wp2_with (fail)
    refine wp_loop_rounds 1 ?_
    rewrite [rounds_succ]
    go_wp2
    go_ret2
    exact KX.out
  · have KA := Lib.hid (show Assign w1 (some ⟨g, 0, none⟩) ns l from ⟨hn, hw⟩)
    clear hn hw
    go_wp2_with (fail)
    go_loopw [4, 14] (fun v x wr => ∃ (i : Nat) (so : Option Addr) (l : List Nat), i ≤ ns.length ∧ v = .slice so ns.length ns.length ∧ x = .int .i64 i ∧ Made w wr ∧ Assign wr so ns l ∧ search ns [] = search (ns.drop i) (l.take i)) (fun _ x _ => ns.length - (intOf x).toNat)
    case atStart => exact ⟨0, _, l, by omega, rfl, rfl, K1.out, KA.out, rfl⟩
    case round =>
      obtain ⟨i, so, l', hi, rfl, rfl, hm, ha, hs⟩ := hrel
      have KM := Lib.hid hm
      have KA2 := Lib.hid ha
      have KS := Lib.hid hs
      clear hm ha hs KA K1
      by_cases hlt : i < ns.length
      · obtain ⟨sa, rfl⟩ := KA2.out.nums.some (t := i) (by rw [good_len _ _ KA2.out.whole.good]; exact hlt)
        have HL := Lib.hid (lower_any ns l' ao sa cap i wr (HM.out.made KM.out) KA2.out hlt)
        go_wp2_with (fail)
        refine HL.out.mono ?_
        rintro e w2 ⟨hm2, so2, l2, rfl, ha2, hs2⟩
        have KM2 := Lib.hid (Made.trans KM.out hm2)
        have KA3 := Lib.hid ha2
        have KS2 := Lib.hid (KS.out.trans hs2)
        clear hm2 ha2 hs2
        go_wp2
        go_roundw
        case rel => exact ⟨i + 1, so2, l2, by omega, rfl, by go_num, KM2.out, KA3.out, KS2.out⟩
        case measure => simp [intOf]; omega
      · obtain rfl : i = ns.length := by omega
        have KX := Lib.hid (show Told ns w (.returned (.tuple #[.slice so ns.length ns.length, .bool true])) wr from ⟨KM.out, .inr ⟨so, l', KS.out.trans (search_end KA2.out.whole), rfl, KA2.out⟩⟩)
        go_wp2
        go_ret2
        exact KX.out
end
theorem fits_any (ns : List Nat) (ao : Option Addr) (cap : Nat) (w : World) (hM : Masks w ao cap ns) : Calls Try.prog 11 #[.slice ao ns.length cap] w fun e w' => e = .returned (.bool (fitsN ns)) ∧ Made w w' := by
  have HC := Lib.hid (complete_any ns [] ao none cap 0 w hM (nums_nil _ w) (fix_nil ns))
  clear hM
  go_enter Try.func11, Try.ntmps11
  go_wp2_with (fail)
  refine HC.out.mono ?_
  rintro e w1 ⟨hm1, hr⟩
  have K1 := Lib.hid hm1
  clear hm1 HC
  rcases hr with ⟨hr, rfl⟩ | ⟨g, l, rfl, hw, -, hn⟩
  · have KX := Lib.hid (show fitsN ns = false by unfold fitsN; rw [show search ns [] = none from hr]; rfl)
    clear hr
    go_wp2
    go_ret
    exact ⟨ret_bool KX.out.symm, K1.out⟩
  · have KX := Lib.hid (show fitsN ns = true from (fits_iff ns).2 ⟨l, hw.good, hw.nodup⟩)
    clear hw hn
    go_wp2
    go_ret
    exact ⟨ret_bool KX.out.symm, K1.out⟩
end Go.Proofs.Ytplafgegjbppmaa
