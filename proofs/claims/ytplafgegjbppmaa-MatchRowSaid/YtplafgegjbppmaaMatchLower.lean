/- What lower of package match returns: an assignment that agrees with the given one before an index and has the least slot there. -/
import Derived.Test.YtplafgegjbppmaaMatchComplete
import Derived.ArgAppend
namespace Go.Proofs.Ytplafgegjbppmaa
open Go.ChangeShapes Go.WideShapes Go.ChangeAt Go.RowKit Go.Sort BigFrame

/-- An assignment in memory. -/
structure Assign (w : World) (so : Option Addr) (ns l : List Nat) : Prop where
  nums : Nums .i64 w so ns.length l
  whole : Whole ns l
theorem Assign.made {w w' : World} {so : Option Addr} {ns l : List Nat} (h : Assign w so ns l) (hm : Made w w') : Assign w' so ns l := ⟨h.nums.made hm, h.whole⟩
/-- What lower hands back. -/
def Lowers (ns l : List Nat) (i : Nat) (w : World) (e : Ending) (w' : World) : Prop :=
  Made w w' ∧ ∃ so l', e = .returned (.slice so ns.length ns.length) ∧ Assign w' so ns l' ∧ search (ns.drop i) (l.take i) = search (ns.drop (i + 1)) (l'.take (i + 1))
theorem nums_take {k : IntKind} {w : World} {a : Addr} {cap : Nat} {zs : List Nat} (h : Nums k w (some a) cap zs) (i : Nat) (hi : i ≤ zs.length) : Nums k w (some a) i (zs.take i) := by
  have hl : (zs.take i).length = i := by rw [List.length_take]; omega
  refine ⟨by omega, Nat.le_trans hi (Nat.le_trans h.room h.max), fun h => by simp at h, fun b hb t ht => ?_⟩
  rw [h.cell b hb t (by omega)]
  have ht2 : t < i := by omega
  simp [List.getD, ht2]
theorem nums_olds {w : World} {ao : Option Addr} {cap : Nat} {zs : List Nat} (h : Nums .i64 w ao cap zs) : ∀ b, ao = some b → ∀ j u, (intsV zs)[j]? = some u → w.cell? (b.add j) = some u := by
  intro b hb j u hu
  obtain ⟨hj, rfl⟩ := List.getElem?_eq_some_iff.1 hu
  have hj2 : j < zs.length := by simpa [intsV] using hj
  rw [h.cell b hb j hj2]
  simp [intsV, List.getD, hj2]
theorem owns_shape {w : World} {B : Nat} {v : Value} {n : Nat} {xs : List Value} (h : w.ownsRow B 3 1 v (n + 1) xs) : ∃ g cap, v = .slice (some ⟨g, 0, none⟩) (n + 1) cap := by
  rcases h.2 with ⟨_, h'⟩ | ⟨g, cap, _, rfl, _⟩
  · omega
  · exact ⟨g, cap, rfl⟩
theorem grown_made {W w w' : World} (h : Made W w) (k : w.grownBy w' none) : Made W w' := Made.trans h ⟨k.os, k.tape, k.output, k.size, fun i hi => k.block i hi (by simp)⟩
theorem ints_snoc (zs : List Nat) (s : Nat) : intsV zs ++ [Value.int .i64 s] = intsV (zs ++ [s]) := by simp [intsV]
theorem none_search {k : List Nat → Option (List Nat)} {m s : Nat} {a : List Nat} (h : k (a ++ [s]) = none) : pickS k m a s = none := by
  unfold pickS
  split
  · exact h
  · rfl
theorem none_has {k : List Nat → Option (List Nat)} {m s : Nat} {a : List Nat} (h : hasN m s = false) : pickS k m a s = none := by unfold pickS; rw [if_neg (by simp [h])]
theorem none_used {k : List Nat → Option (List Nat)} {m s : Nat} {a : List Nat} (h : a.contains s = true) : pickS k m a s = none := by unfold pickS; rw [if_neg (by rw [h]; simp)]
theorem none_next {k : List Nat → Option (List Nat)} {m s : Nat} {a : List Nat} (h : ∀ j, j < s → pickS k m a j = none) (hs : pickS k m a s = none) : ∀ j, j < s + 1 → pickS k m a j = none := fun j hj => by
  rcases Nat.lt_or_ge j s with h1 | h1
  · exact h j h1
  · obtain rfl : j = s := by omega
    exact hs
section
attribute [local irreducible] World.cell?
set_option maxHeartbeats 4000000 in
theorem lower_any (ns l : List Nat) (ao : Option Addr) (sa : Addr) (cap i : Nat) (w : World) (hM : Masks w ao cap ns) (hS : Assign w (some sa) ns l) (hi : i < ns.length) :
    Calls Try.prog 13 #[.slice ao ns.length cap, .slice (some sa) ns.length ns.length, .int .i64 i] w (Lowers ns l i w) := by
  have hlen := good_len _ _ hS.whole.good
  have hfew := hM.few
  obtain ⟨a, rfl⟩ := hM.nums.some hi
  obtain ⟨i0, hi1, hz0, hz1, hz2⟩ := info_parts int_row
  have hcm := hM.nums.cell a rfl i hi
  have hcs := hS.nums.cell sa rfl i (by omega)
  have hat := good_at _ _ hS.whole.good i hi
  have hbyte := hM.byte i
  have hli : (l.take i).length = i := by rw [List.length_take]; omega
  have HF := Lib.hid (fix_take hS.whole i (by omega))
  have HNT := Lib.hid (nums_take hS.nums i (by omega))
  have HSame := Lib.hid (least_same hS.whole hi)
  have HStep := Lib.hid (fun l' s h1 => least_step (l := l) (l' := l') (i := i) (s := s) h1 hi)
  have HM := Lib.hid hM
  have HS := Lib.hid hS
  have hbm : (i + 1) * 8 ≤ 140737488355328 := by omega
  have hbx : i + 1 ≤ maxLen := by unfold maxLen; omega
  clear hM hS
  generalize hZ : l.getD i 0 = z at *
  generalize hK : ns.getD i 0 = mk at *
  have HZ := Lib.hid hZ
  have HK := Lib.hid hK
  have HLI := Lib.hid hli
  clear hZ hK hli
  go_enter Try.func13, Try.ntmps13
  go_wp2_with (fail)
  go_loopw [19] (fun x wr => ∃ s : Nat, s ≤ z ∧ x = .int .i64 s ∧ Made w wr ∧ ∀ j, j < s → pickS (search (ns.drop (i + 1))) mk (l.take i) j = none) (fun x _ => z - (intOf x).toNat)
  case atStart => exact ⟨0, by omega, rfl, Made.refl _, fun j hj => absurd hj (Nat.not_lt_zero j)⟩
  case round =>
    obtain ⟨s, hs, rfl, hm, hnone⟩ := hrel
    have KM := Lib.hid hm
    have KN := Lib.hid hnone
    clear hm hnone
    by_cases hlt : s < z
    · have hs4 : s < 4 := by omega
      have hcm2 := made_cell KM.out _ _ hcm
      have CA := Lib.hid (allows_any mk s hbyte hs4)
      have CC := Lib.hid (fun v (hv : Made w v) => contains_any (some sa) i (l.take i) s v (HNT.out.made hv) (by rw [HLI.out]; omega))
      rewrite [HLI.out] at CC
      have HNX := Lib.hid (fun h => none_next (k := search (ns.drop (i + 1))) (m := mk) (a := l.take i) (s := s) KN.out h)
      cases hh : hasN mk s with
      | false =>
        rewrite [hh] at CA
        have KX := Lib.hid (HNX.out (none_has hh))
        clear hh
        go_wp2_with (go_at_call 19; refine (CA.out _).mono ?_; rintro e w' ⟨rfl, rfl⟩)
        go_roundw
        case rel => exact ⟨s + 1, by omega, by go_num, KM.out, KX.out⟩
        case measure => simp [intOf]; omega
      | true =>
        rewrite [hh] at CA
        cases hu : (l.take i).contains s with
        | true =>
          rewrite [hu] at CC
          have KX := Lib.hid (HNX.out (none_used hu))
          clear hh hu
          go_wp2_with (first | (go_at_call 19; refine (CA.out _).mono ?_; rintro e w' ⟨rfl, rfl⟩) | (go_at_call 20; refine (CC.out _ KM.out).mono ?_; rintro e w' ⟨rfl, rfl⟩))
          go_roundw
          case rel =>
            exact ⟨s + 1, by omega, by go_num, KM.out, KX.out⟩
          case measure => simp [intOf]; omega
        | false =>
          rewrite [hu] at CC
          have HH := Lib.hid hh
          have HU := Lib.hid hu
          have HX := Lib.hid (fix_snoc (s := s) HF.out (by rw [HLI.out]; exact hi) hs4 (by rw [HLI.out, HK.out]; exact hh) hu)
          have m2 := KM.out.alloc KM.out.size (.cells #[.int .i64 s] 3)
          have K2 := Lib.hid m2
          have hold := Lib.hid (nums_olds (HNT.out.made m2))
          have hlo : (intsV (l.take i)).length = i * 1 := by simp only [intsV, List.length_map, HLI.out]; omega
          clear hh hu m2
          go_wp2_with (first
            | (go_at_call 19; refine (CA.out _).mono ?_; rintro e w' ⟨rfl, rfl⟩)
            | (go_at_call 20; refine (CC.out _ KM.out).mono ?_; rintro e w' ⟨rfl, rfl⟩)
            | (at_builtin; refine wpList_append_grows _ rfl (.tmp 36) (.tmp 38) 24 rfl 3 i0 (.int .i64 0) 1 8 Try.underlying24 hi1 hz0 hz1 hz2 rfl (by decide) (some sa) i i (intsV (l.take i)) rfl (fun h => by cases h) hlo hold.out ⟨wr.heap.size, 0, none⟩ 1 1 [.int .i64 s] rfl rfl (new_cell _ _ _) (by simp [Value.oneCell']) (Nat.lt_succ_self i) hbx hbm ?_; intro v' w1 hown hgr; obtain ⟨g, cap', rfl⟩ := owns_shape hown))
          have hm1 := grown_made K2.out hgr
          rewrite [ints_snoc] at hown
          obtain ⟨hl2, hnum⟩ := owns_nums hown
          have HC := complete_any ns (l.take i ++ [s]) (some a) (some ⟨g, 0, none⟩) cap cap' w1 (HM.out.made hm1) hnum HX.out
          have KM1 := Lib.hid hm1
          have HL2 := Lib.hid hl2
          rewrite [hl2] at HC
          clear hm1 hnum hown hgr hl2
          refine HC.mono ?_
          rintro e w2 ⟨hm2, hr⟩
          have KM2 := Lib.hid (Made.trans KM1.out hm2)
          clear hm2 HC
          rcases hr with ⟨hr, rfl⟩ | ⟨g2, l2, rfl, hw2, ht2, hn2⟩
          · rewrite [HL2.out] at hr
            have KX := Lib.hid (HNX.out (none_search hr))
            clear hr
            go_wp2
            go_roundw
            case rel => exact ⟨s + 1, by omega, by go_num, KM2.out, KX.out⟩
            case measure => simp [intOf]; omega
          · rewrite [HL2.out] at ht2
            have KX := Lib.hid (show Lowers ns l i w (.returned (.slice (some ⟨g2, 0, none⟩) ns.length ns.length)) w2 from ⟨KM2.out, _, l2, rfl, ⟨hn2, hw2⟩, HStep.out l2 s hw2 hs4 ht2 HH.out HU.out KN.out⟩)
            clear hw2 ht2 hn2
            go_wp2
            go_ret
            exact KX.out
    · obtain rfl : s = z := by omega
      have KX := Lib.hid (show Lowers ns l i w (.returned (.slice (some sa) ns.length ns.length)) wr from ⟨KM.out, _, l, rfl, HS.out.made KM.out, HSame.out KN.out⟩)
      go_wp2
      go_ret
      exact KX.out
end
end Go.Proofs.Ytplafgegjbppmaa
