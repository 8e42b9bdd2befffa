/- What Choose of the document's answer for legal returns: the first pair, for any instructions in memory. -/
import Derived.Test.YtdghnlbfmaehoaaGreatDoorLegalRef
import Derived.Test.YtdghnlbfmaehoaaGreatDoorGLegal
import Derived.Test.YtdghnlbfmaehoaaGreatDoorGRules
import Derived.Test.YtdghnlbfmaehoaaGreatDoorGSubRef
namespace Go.Proofs.YtdghnlbfmaehoaaGreatDoor
open Go.ChangeShapes Go.WideShapes Go.ChangeAt Go.RowKit Go.Sort BigFrame

/-- The others, as far as they are gathered. -/
structure OthersAt (W : World) (v : Value) (rl : List In) (w : World) : Prop where
  made : Made W w
  row : w.ownsRow W.heap.size 42 11 v rl.length (flatI rl)
theorem others_start (W : World) : OthersAt W (.slice none 0 0) [] W := ⟨Made.refl W, by
  refine ⟨by simp, .inl ⟨rfl, rfl⟩⟩⟩
theorem free_two : freeV 3 = .agg #[.bool false, .bool false, .bool true, .bool true] := rfl
section
attribute [local irreducible] World.cell?
set_option maxRecDepth 100000 in
set_option maxHeartbeats 32000000 in
theorem rchoose_any (ao : Option Addr) (cap : Nat) (l : List In) (w : World) (hI : Insts w ao cap l) (hl : l.length ≤ 1000) :
    Calls Tryz.prog 31 #[.slice ao l.length cap] w (Chosen l w) := by
  have hroom := hI.room
  have hmax := hI.max
  unfold maxLen at hmax
  have H := Lib.hid hI
  clear hI
  go_enter Tryz.func31, Tryz.ntmps31
  go_wp2_with (fail)
  go_loopw [5] (fun x wr => ∃ i : Nat, i ≤ l.length ∧ x = .int .i64 i ∧ NoneTo l i 0 ∧ Made w wr) (fun x _ => l.length - (intOf x).toNat)
  case atStart => exact ⟨0, by omega, rfl, none_start l, Made.refl w⟩
  case round =>
    obtain ⟨i, hi, rfl, hnone, hm⟩ := hrel
    have HN := Lib.hid hnone
    have HM := Lib.hid hm
    clear hnone hm
    by_cases hil : i < l.length
    · go_wp2_with (fail)
      go_loopw [6] (fun x wz => ∃ j : Nat, i < j ∧ j ≤ l.length ∧ x = .int .i64 j ∧ NoneTo l i j ∧ Made w wz) (fun x _ => l.length - (intOf x).toNat)
      case atStart => exact ⟨i + 1, by omega, by omega, by go_num, none_in HN.out, HM.out⟩
      case round =>
        obtain ⟨j, hij, hj, rfl, hnone, hm⟩ := hrel
        have HN2 := Lib.hid hnone
        have HM2 := Lib.hid hm
        clear hnone hm HM
        by_cases hjl : j < l.length
        · obtain ⟨x, hx⟩ : ∃ x, l[i] = x := ⟨_, rfl⟩
          obtain ⟨y, hy⟩ : ∃ y, l[j] = y := ⟨_, rfl⟩
          obtain ⟨b, o, rfl, c0, c1, c2, c3, c4, c5, c6, c7, c8, c9, c10⟩ := insts_cells (insts_made H.out HM2.out) hil x hx
          obtain ⟨b', o', e', d0, d1, d2, d3, d4, d5, d6, d7, d8, d9, d10⟩ := insts_cells (insts_made H.out HM2.out) hjl y hy
          obtain ⟨rfl, rfl⟩ : b = b' ∧ o = o' := by simpa using e'
          have hsx := H.out.small x (hx ▸ List.getElem_mem hil)
          have hsy := H.out.small y (hy ▸ List.getElem_mem hjl)
          have lb := World.block_lt_of_cell? wr _ c0
          have hgx : l.getD i inZero = x := by simp [List.getD, hil, hx]
          have hgy : l.getD j inZero = y := by simp [List.getD, hjl, hy]
          have hok : okAt l i j = ((pairP x y).2 && placeB (restOf l i j) 3) := by unfold okAt pairB; rw [hgx, hgy]
          have hD := pair8_any wr x y hsx hsy
          generalize pairP x y = pp at *
          obtain ⟨pv, pb⟩ := pp
          have HOK := Lib.hid (show okAt l i j = (pb && placeB (restOf l i j) 3) from hok)
          have HD := Lib.hid (show Makes Tryz.prog wr 33 #[x.val, y.val] (.tuple #[.int .u32 pv, .bool pb]) from hD)
          clear hok hD hgx hgy hsx hsy hx hy e'
          have gc0 := fun d os => cell_regrown c0 d os
          have gc1 := fun d os => cell_regrown c1 d os
          have gc2 := fun d os => cell_regrown c2 d os
          have gc3 := fun d os => cell_regrown c3 d os
          have gc4 := fun d os => cell_regrown c4 d os
          have gc5 := fun d os => cell_regrown c5 d os
          have gc6 := fun d os => cell_regrown c6 d os
          have gc7 := fun d os => cell_regrown c7 d os
          have gc8 := fun d os => cell_regrown c8 d os
          have gc9 := fun d os => cell_regrown c9 d os
          have gc10 := fun d os => cell_regrown c10 d os
          have gd0 := fun d os => cell_regrown d0 d os
          have gd1 := fun d os => cell_regrown d1 d os
          have gd2 := fun d os => cell_regrown d2 d os
          have gd3 := fun d os => cell_regrown d3 d os
          have gd4 := fun d os => cell_regrown d4 d os
          have gd5 := fun d os => cell_regrown d5 d os
          have gd6 := fun d os => cell_regrown d6 d os
          have gd7 := fun d os => cell_regrown d7 d os
          have gd8 := fun d os => cell_regrown d8 d os
          have gd9 := fun d os => cell_regrown d9 d os
          have gd10 := fun d os => cell_regrown d10 d os
          have hi0 : (0 : Int) ≤ (i : Int) := by omega
          have hi1 : (i : Int) < (l.length : Int) := by omega
          have hj0 : (0 : Int) ≤ (j : Int) := by omega
          have hj1 : (j : Int) < (l.length : Int) := by omega
          go_upto_region 7 with (fail)
          refine wp_region_quiet_below (by kernel_rfl) (by kernel_rfl) ?_
          repeat (go_big_quiet_step ((go_at_call 33; with_reducible exact HD.out.again _ _)))
          refine wpQuiet_nil ?_
          intro z hz
          have MZ := Lib.hid (made_regrown hz)
          have HZ := Lib.hid (Made.trans HM2.out MZ.out)
          clear hz lb HM2 HD gc0 c0 gc1 c1 gc2 c2 gc3 c3 gc4 c4 gc5 c5 gc6 c6 gc7 c7 gc8 c8 gc9 c9 gc10 c10 gd0 d0 gd1 d1 gd2 d2 gd3 d3 gd4 d4 gd5 d5 gd6 d6 gd7 d7 gd8 d8 gd9 d9 gd10 d10
          cases pb with
          | false =>
            have HNX := Lib.hid (nonep_next HN2.out (by rw [HOK.out]; rfl))
            go_wp2
            go_roundw
            case rel => exact ⟨j + 1, by omega, by omega, by go_num, HNX.out, HZ.out⟩
            case measure => simp [intOf]; omega
          | true =>
            obtain ⟨i0, hi0', hz0, hz1, hz2⟩ := info_parts inst_row
            go_wp2_with (fail)
            go_loopw [9, 10] (fun ov kk wk => ∃ (k : Nat) (v : Value), k ≤ l.length ∧ kk = .int .i64 k ∧ v = ov ∧ OthersAt z v (restOf (l.take k) i j) wk) (fun _ kk _ => l.length - (intOf kk).toNat)
            case atStart => exact ⟨0, _, by omega, rfl, rfl, by rw [rest_none]; exact others_start z⟩
            case round =>
              obtain ⟨k, v, hk, rfl, rfl, hO⟩ := hrel
              have KO := Lib.hid hO
              clear hO
              by_cases hkl : k < l.length
              · obtain ⟨x2, hx2⟩ : ∃ x, l[k] = x := ⟨_, rfl⟩
                have hrn := rest_next l hij hkl x2 hx2
                by_cases hskip : k = i ∨ k = j
                · rewrite [if_pos hskip] at hrn
                  have KN := Lib.hid (show OthersAt z v (restOf (l.take (k + 1)) i j) wr by rw [hrn]; exact KO.out)
                  have hway : ((k : Int) != (i : Int)) = false ∨ (((k : Int) != (i : Int)) = true ∧ ((k : Int) != (j : Int)) = false) := by
                    by_cases h : k = i
                    · exact .inl (by rw [h]; simp)
                    · exact .inr ⟨bne_iff_ne.2 (by omega), by rw [hskip.resolve_left h]; simp⟩
                  clear hrn hskip hx2
                  rcases hway with h1 | ⟨h1, h2⟩
                  all_goals
                    go_wp2
                    go_roundw
                    case rel => exact ⟨k + 1, _, by omega, by go_num, rfl, KN.out⟩
                    case measure => simp [intOf]; omega
                · rewrite [if_neg hskip] at hrn
                  have HRN := Lib.hid hrn
                  have h1 : ((k : Int) != (i : Int)) = true := bne_iff_ne.2 (by omega)
                  have h2 : ((k : Int) != (j : Int)) = true := bne_iff_ne.2 (by omega)
                  have hrl := rest_len l i j k
                  have HS := Lib.hid (H.out.small x2 (hx2 ▸ List.getElem_mem hkl))
                  obtain ⟨b', o', e', c0, c1, c2, c3, c4, c5, c6, c7, c8, c9, c10⟩ := insts_cells (insts_made H.out (Made.trans HZ.out KO.out.made)) hkl x2 hx2
                  obtain ⟨rfl, rfl⟩ : b = b' ∧ o = o' := by simpa using e'
                  have lb := World.block_lt_of_cell? wr _ c0
                  have m2 : Made wr (wr.alloc (.cells (flatI [x2]).toArray 42)) := (Made.refl wr).alloc (Nat.le_refl _) _
                  have K2 := Lib.hid (Made.trans KO.out.made m2)
                  have HO1 := Lib.hid (owns_made KO.out.row m2)
                  have HI1 := Lib.hid (insts_olds (ao := some ⟨wr.heap.size, 0, none⟩) (cap := 1) (l := [x2]) (w := wr.alloc (.cells (flatI [x2]).toArray 42))
                    ⟨by simp, by unfold maxLen; omega, fun y hy => by obtain rfl : y = x2 := (by simpa using hy); exact HS.out, fun h => by simp at h, fun t ht => ⟨wr.heap.size, 0, rfl, fun r hr => by
                      have h0 : t = 0 := by simpa using ht
                      subst h0
                      rw [show 0 + 0 * 11 + r = 0 * 11 + r by omega, cell_of_lit (heap_alloc_new wr (.cells (flatI [x2]).toArray 42)) (0 * 11 + r), flatI_at [x2] 0 r (by simp) (by omega)]⟩⟩)
                  have hbn : (some (⟨wr.heap.size, 0, none⟩ : Addr)) = none → (1 : Nat) = 0 ∧ (1 : Nat) = 0 := fun h => by simp at h
                  have hlen1 : (flatI [x2]).length = 1 * 11 := flatI_len [x2]
                  have hmx : (restOf (l.take k) i j).length + 1 ≤ maxLen := by unfold maxLen; omega
                  have hby : ((restOf (l.take k) i j).length + 1) * 24 ≤ 140737488355328 := by omega
                  have hsz := Lib.hid K2.out.size
                  clear e' hx2 hskip m2 hrn
                  go_upto_region 12 with (at_builtin; refine wpList_append_each rfl (.tmp 53) (.tmp 58) 22 rfl z.heap.size 42 i0 (In.val inZero) 11 24 Tryz.underlying22 hi0' hz0 hz1 hz2 rfl (by decide) v (restOf (l.take k) i j).length (flatI (restOf (l.take k) i j)) rfl HO1.out (some ⟨wr.heap.size, 0, none⟩) 1 1 (flatI [x2]) rfl hbn hlen1 HI1.out (flatI_one _) hmx hby hsz.out ?_; intro v1 w1 own1 gr1; rewrite [← flatI_app] at own1; have Q1 := Lib.hid (Below.grown K2.out gr1 hsz.out (fun t ht => (HO1.out.lt t ht).1)); have KO1 := Lib.hid own1; clear own1 gr1)
                  have KN := Lib.hid (show OthersAt z v1 (restOf (l.take (k + 1)) i j) w1 from ⟨Q1.out, by rw [HRN.out]; simpa using KO1.out⟩)
                  clear c0 c1 c2 c3 c4 c5 c6 c7 c8 c9 c10 lb
                  go_wp2
                  go_roundw
                  case rel => exact ⟨k + 1, _, by omega, by go_num, rfl, KN.out⟩
                  case measure => simp [intOf]; omega
              · obtain rfl : k = l.length := by omega
                have hO2 := KO.out.row
                rewrite [rest_whole] at hO2
                have hsr := rest_small H.out.small i j l.length
                rewrite [rest_whole] at hsr
                have hrl := rest_len l i j l.length
                rewrite [rest_whole] at hrl
                obtain ⟨-, so, sc, rfl, hIR⟩ := owns_insts hO2 hsr
                have HIR := Lib.hid hIR
                have KM := Lib.hid (Made.trans HZ.out KO.out.made)
                clear hO2 hsr hIR KO
                by_cases h3 : (restOf l i j).length < 3
                · have HF := rfits_any so sc (restOf l i j) (by omega) ((restOf l i j).length - 0) 0 3 wr HIR.out rfl (by omega) (by omega)
                  have hpl : searchN (((restOf l i j).drop 0).map slotN) 3 = placeB (restOf l i j) 3 := by rw [List.drop_zero]; rfl
                  rewrite [hpl, free_two] at HF
                  have HFF := Lib.hid HF
                  clear HF hpl
                  cases hpb : placeB (restOf l i j) 3 with
                  | true =>
                    have HCH := Lib.hid (choice_at HN2.out hij hjl (by rw [HOK.out, hpb]; rfl))
                    have HF2 := Lib.hid (show Calls Tryz.prog 62 #[.slice so (restOf l i j).length sc, .int .i64 0, .agg #[.bool false, .bool false, .bool true, .bool true]] wr fun e w' => e = .returned (.bool true) ∧ Made wr w' from by have h := HFF.out; rw [hpb] at h; exact h)
                    clear hpb HFF
                    go_wp2_with (fail)
                    refine HF2.out.mono ?_
                    rintro e w5 ⟨rfl, h5⟩
                    have M5 := Lib.hid (Made.trans KM.out h5)
                    clear h5
                    go_wp2
                    refine bodyPost_ret (v := .tuple #[.int .i64 i, .int .i64 j, .bool true]) (by simp [results, Tryz.results31, go_sem]) rfl ?_
                    exact ⟨i, j, true, rfl, HCH.out, M5.out⟩
                  | false =>
                    have HNX := Lib.hid (nonep_next HN2.out (by rw [HOK.out, hpb]; rfl))
                    have HF2 := Lib.hid (show Calls Tryz.prog 62 #[.slice so (restOf l i j).length sc, .int .i64 0, .agg #[.bool false, .bool false, .bool true, .bool true]] wr fun e w' => e = .returned (.bool false) ∧ Made wr w' from by have h := HFF.out; rw [hpb] at h; exact h)
                    clear hpb HFF
                    go_wp2_with (fail)
                    refine HF2.out.mono ?_
                    rintro e w5 ⟨rfl, h5⟩
                    have M5 := Lib.hid (Made.trans KM.out h5)
                    clear h5
                    go_wp2
                    go_roundw
                    case rel => exact ⟨j + 1, by omega, by omega, by go_num, HNX.out, M5.out⟩
                    case measure => simp [intOf]; omega
                · have HNX := Lib.hid (nonep_next HN2.out (by
                    rw [HOK.out]
                    cases hpb : placeB (restOf l i j) 3 with
                    | false => rfl
                    | true => exact absurd (place_two _ hpb) h3))
                  go_wp2
                  go_roundw
                  case rel => exact ⟨j + 1, by omega, by omega, by go_num, HNX.out, KM.out⟩
                  case measure => simp [intOf]; omega
        · obtain rfl : j = l.length := by omega
          have HO := Lib.hid (none_out HN2.out (Nat.le_refl _))
          go_wp2
          go_roundw
          case rel => exact ⟨i + 1, by omega, by go_num, HO.out, HM2.out⟩
          case measure => simp [intOf]; omega
    · obtain rfl : i = l.length := by omega
      have HO := Lib.hid (none_all HN.out (by omega))
      go_wp2
      refine bodyPost_ret (v := .tuple #[.int .i64 0, .int .i64 0, .bool false]) (by simp [results, Tryz.results31, go_sem]) rfl ?_
      exact ⟨0, 0, false, rfl, HO.out, HM.out⟩
end
end Go.Proofs.YtdghnlbfmaehoaaGreatDoor
