/- What without and mayBePaired of package legal return, for any instructions in memory. -/
import Derived.Test.YtaieiaopdbhjaaaGreatDoorLegalFit
import Derived.Test.YtaieiaopdbhjaaaGreatDoorLegalSay
import Derived.Test.YtaieiaopdbhjaaaGreatDoorGRules
import Derived.Test.YtaieiaopdbhjaaaGreatDoorGDup
namespace Go.Proofs.YtaieiaopdbhjaaaGreatDoor
open Go.ChangeShapes Go.WideShapes Go.ChangeAt Go.RowKit Go.Sort BigFrame

/-- The others, as far as they are gathered. -/
structure LeftAt (W : World) (v : Value) (rl : List In) (w : World) : Prop where
  made : Made W w
  row : w.ownsRow W.heap.size 34 11 v rl.length (flatI rl)
theorem left_start (W : World) : LeftAt W (.slice none 0 0) [] W := ⟨Made.refl W, by
  refine ⟨by simp, .inl ⟨rfl, rfl⟩⟩⟩
theorem LeftAt.next {W w w' : World} {v : Value} {rl : List In} (h : LeftAt W v rl w) (hm : Made w w') : LeftAt W v rl w' := ⟨Made.trans h.made hm, owns_made h.row hm⟩
section
attribute [local irreducible] World.cell?
set_option maxRecDepth 100000 in
set_option maxHeartbeats 16000000 in
theorem lwithout_any (ao : Option Addr) (cap : Nat) (l : List In) (w : World) (hI : Insts w ao cap l) (hl : l.length ≤ 1000) (i j : Nat) (hij : i < j) (hj : j < l.length) :
    Calls Tryz.prog 27 #[.slice ao l.length cap, .int .i64 i, .int .i64 j] w fun e w' => ∃ so sc, e = .returned (.slice so (restOf l i j).length sc) ∧ Made w w' ∧ Insts w' so sc (restOf l i j) := by
  obtain ⟨i0, hi0, hz0, hz1, hz2⟩ := info_parts inst_row
  have hroom := hI.room
  have hmax := hI.max
  unfold maxLen at hmax
  have H := Lib.hid hI
  have HIJ := Lib.hid hij
  clear hI hij
  have hib : (i : Int) ≤ 1000 := by have := HIJ.out; omega
  have hjb : (j : Int) ≤ 1000 := by omega
  go_enter Tryz.func27, Tryz.ntmps27
  go_wp2_with (fail)
  go_loopw [7, 12] (fun ov kk wk => ∃ (k : Nat) (v : Value), k ≤ l.length ∧ kk = .int .i64 k ∧ v = ov ∧ LeftAt w v (restOf (l.take k) i j) wk) (fun _ kk _ => l.length - (intOf kk).toNat)
  case atStart => exact ⟨0, _, by omega, rfl, rfl, by rw [rest_none]; exact left_start w⟩
  case round =>
    obtain ⟨k, v, hk, rfl, rfl, hO⟩ := hrel
    have KO := Lib.hid hO
    clear hO
    by_cases hkl : k < l.length
    · obtain ⟨x2, hx2⟩ : ∃ x, l[k] = x := ⟨_, rfl⟩
      have hrn := rest_next l HIJ.out hkl x2 hx2
      obtain ⟨b, o, rfl, c0, c1, c2, c3, c4, c5, c6, c7, c8, c9, c10⟩ := insts_cells (insts_made H.out KO.out.made) hkl x2 hx2
      have lb := World.block_lt_of_cell? wr _ c0
      have HS := Lib.hid (H.out.small x2 (hx2 ▸ List.getElem_mem hkl))
      have m1 : Made wr (wr.alloc (.cells x2.cells.toArray 34)) := (Made.refl wr).alloc (Nat.le_refl _) _
      have KA := Lib.hid (KO.out.next m1)
      have KB := Lib.hid (show InAt (wr.alloc (.cells x2.cells.toArray 34)) wr.heap.size x2 from heap_alloc_new wr _)
      clear hx2 m1
      go_upto_region 5 with (fail)
      refine world_named (fun u => LeftAt w v (restOf (l.take k) i j) u ∧ InAt u wr.heap.size x2) ⟨KA.out, KB.out⟩ ?_
      rintro u ⟨hu1, hu2⟩
      have KU := Lib.hid hu1
      obtain ⟨a0, a1, a2, a3, a4, a5, a6, a7, a8, a9, a10⟩ := in_cells hu2
      have lu := heap_lt hu2
      clear c0 c1 c2 c3 c4 c5 c6 c7 c8 c9 c10 lb hu1 hu2 KA KB KO
      by_cases hskip : k = i ∨ k = j
      · rewrite [if_pos hskip] at hrn
        have KN := Lib.hid (show LeftAt w v (restOf (l.take (k + 1)) i j) u by rw [hrn]; exact KU.out)
        have hway : ((k : Int) != (i : Int)) = false ∨ (((k : Int) != (i : Int)) = true ∧ ((k : Int) != (j : Int)) = false) := by
          by_cases h : k = i
          · exact .inl (by rw [h]; simp)
          · exact .inr ⟨bne_iff_ne.2 (by omega), by rw [hskip.resolve_left h]; simp⟩
        clear hrn hskip
        rcases hway with h1 | ⟨h1, h2⟩
        all_goals
          go_wp2
          go_roundw
          case rel => exact ⟨k + 1, _, by omega, by go_num, rfl, KN.out⟩
          case measure => simp [intOf]; omega
      · rewrite [if_neg hskip] at hrn
        have HRN := Lib.hid hrn
        have h1 : ((k : Int) != (i : Int)) = true := bne_iff_ne.2 (by omega)
        have h2 : ((k : Int) != (j : Int)) = true := bne_iff_ne.2 (by omega)
        have hrl := rest_len l i j k
        have m2 : Made u (u.alloc (.cells (flatI [x2]).toArray 34)) := (Made.refl u).alloc (Nat.le_refl _) _
        have K2 := Lib.hid (Made.trans KU.out.made m2)
        have HO1 := Lib.hid (owns_made KU.out.row m2)
        have HI1 := Lib.hid (insts_olds (ao := some ⟨u.heap.size, 0, none⟩) (cap := 1) (l := [x2]) (w := u.alloc (.cells (flatI [x2]).toArray 34))
          ⟨by simp, by unfold maxLen; omega, fun y hy => by obtain rfl : y = x2 := (by simpa using hy); exact HS.out, fun h => by simp at h, fun t ht => ⟨u.heap.size, 0, rfl, fun r hr => by
            have h0 : t = 0 := by simpa using ht
            subst h0
            rw [show 0 + 0 * 11 + r = 0 * 11 + r by omega, cell_of_lit (heap_alloc_new u (.cells (flatI [x2]).toArray 34)) (0 * 11 + r), flatI_at [x2] 0 r (by simp) (by omega)]⟩⟩)
        have hbn : (some (⟨u.heap.size, 0, none⟩ : Addr)) = none → (1 : Nat) = 0 ∧ (1 : Nat) = 0 := fun h => by simp at h
        have hlen1 : (flatI [x2]).length = 1 * 11 := flatI_len [x2]
        have hmx : (restOf (l.take k) i j).length + 1 ≤ maxLen := by unfold maxLen; omega
        have hby : ((restOf (l.take k) i j).length + 1) * 24 ≤ 140737488355328 := by omega
        have hsz := Lib.hid K2.out.size
        clear hskip m2 hrn
        go_upto_region 7 with (at_builtin; refine wpList_append_each rfl (.tmp 25) (.tmp 27) 22 rfl w.heap.size 34 i0 (In.val inZero) 11 24 Tryz.underlying22 hi0 hz0 hz1 hz2 rfl (by decide) v (restOf (l.take k) i j).length (flatI (restOf (l.take k) i j)) rfl HO1.out (some ⟨u.heap.size, 0, none⟩) 1 1 (flatI [x2]) rfl hbn hlen1 HI1.out (flatI_one _) hmx hby hsz.out ?_; intro v1 w1 own1 gr1; rewrite [← flatI_app] at own1; have Q1 := Lib.hid (Below.grown K2.out gr1 hsz.out (fun t ht => (HO1.out.lt t ht).1)); have KO1 := Lib.hid own1; clear own1 gr1)
        have KN := Lib.hid (show LeftAt w v1 (restOf (l.take (k + 1)) i j) w1 from ⟨Q1.out, by rw [HRN.out]; simpa using KO1.out⟩)
        clear a0 a1 a2 a3 a4 a5 a6 a7 a8 a9 a10 lu
        go_wp2
        go_roundw
        case rel => exact ⟨k + 1, _, by omega, by go_num, rfl, KN.out⟩
        case measure => simp [intOf]; omega
    · obtain rfl : k = l.length := by omega
      have hO2 := KO.out.row
      rewrite [rest_whole] at hO2
      have hsr := rest_small H.out.small i j l.length
      rewrite [rest_whole] at hsr
      obtain ⟨-, so, sc, rfl, hIR⟩ := owns_insts hO2 hsr
      have HIR := Lib.hid hIR
      have KM := Lib.hid KO.out.made
      clear hO2 hsr hIR KO
      go_wp2
      go_ret
      exact ⟨so, sc, rfl, KM.out, HIR.out⟩
set_option maxRecDepth 100000 in
set_option maxHeartbeats 16000000 in
theorem lmay_any (ao : Option Addr) (cap : Nat) (l : List In) (w : World) (hT : Tabs w) (hI : Insts w ao cap l) (hl : l.length ≤ 1000) (i j : Nat) (hij : i < j) (hj : j < l.length) :
    Calls Tryz.prog 16 #[.slice ao l.length cap, .int .i64 i, .int .i64 j] w fun e w' => e = .returned (.bool (okAt l i j)) ∧ Made w w' := by
  have hil : i < l.length := by omega
  have hroom := hI.room
  have hmax := hI.max
  unfold maxLen at hmax
  have HW := Lib.hid (fun (u : World) (hu : Made w u) => lwithout_any ao cap l u (insts_made hI hu) hl i j hij hj)
  have HF := Lib.hid (fun (u : World) (hu : Made w u) (so : Option Addr) (sc : Nat) (h : Insts u so sc (restOf l i j)) => lfit_any 12 (.inl rfl) so sc (restOf l i j) u (hT.made hu).names h (by have := rest_length l hij hj; omega))
  obtain ⟨x, hx⟩ : ∃ x, l[i] = x := ⟨_, rfl⟩
  obtain ⟨y, hy⟩ : ∃ y, l[j] = y := ⟨_, rfl⟩
  obtain ⟨b, o, rfl, c0, c1, c2, c3, c4, c5, c6, c7, c8, c9, c10⟩ := insts_cells hI hil x hx
  obtain ⟨b', o', e', d0, d1, d2, d3, d4, d5, d6, d7, d8, d9, d10⟩ := insts_cells hI hj y hy
  obtain ⟨rfl, rfl⟩ : b = b' ∧ o = o' := by simpa using e'
  have hsx := hI.small x (hx ▸ List.getElem_mem hil)
  have hsy := hI.small y (hy ▸ List.getElem_mem hj)
  have lb := World.block_lt_of_cell? w _ c0
  have hgx : l.getD i inZero = x := by simp [List.getD, hil, hx]
  have hgy : l.getD j inZero = y := by simp [List.getD, hj, hy]
  have hok : okAt l i j = ((pairP x y).2 && placeB (restOf l i j) 3) := by unfold okAt pairB; rw [hgx, hgy]
  rewrite [← fits_beside] at hok
  have hD := pair_any w hT x y hsx hsy
  generalize pairP x y = pp at *
  obtain ⟨pv, pb⟩ := pp
  generalize fitsN ((restOf l i j).map (outN 12)) = fv at *
  generalize okAt l i j = ov at *
  have HOK := Lib.hid (show ov = (pb && fv) from hok)
  have HD := Lib.hid (show Makes Tryz.prog w 25 #[x.val, y.val] (.tuple #[.int .u32 pv, .bool pb]) from hD)
  clear hok hD hgx hgy hsx hsy hx hy e' hI hT
  have gc0 := fun d os => cell_regrown c0 d os
  have gc1 := fun d os => cell_regrown c1 d os
  have gc2 := fun d os => cell_regrown c2 d os
  have gc3 := fun d os => cell_regrown c3 d os
  have gc4 := fun d os => cell_regrown c4 d os
  have gc5 := fun d os => cell_regrown c5 d os
  have gc6 := fun d os => cell_regrown c6 d os
  have gc7 := fun d os => cell_regrown c7 d os
  have gc8 := fun d os => cell_regrown c8 d os
  have gc9 := fun d os => cell_regrown c9 d os
  have gc10 := fun d os => cell_regrown c10 d os
  have gd0 := fun d os => cell_regrown d0 d os
  have gd1 := fun d os => cell_regrown d1 d os
  have gd2 := fun d os => cell_regrown d2 d os
  have gd3 := fun d os => cell_regrown d3 d os
  have gd4 := fun d os => cell_regrown d4 d os
  have gd5 := fun d os => cell_regrown d5 d os
  have gd6 := fun d os => cell_regrown d6 d os
  have gd7 := fun d os => cell_regrown d7 d os
  have gd8 := fun d os => cell_regrown d8 d os
  have gd9 := fun d os => cell_regrown d9 d os
  have gd10 := fun d os => cell_regrown d10 d os
  have hi0 : (0 : Int) ≤ (i : Int) := by omega
  have hi1 : (i : Int) < (l.length : Int) := by omega
  have hj0 : (0 : Int) ≤ (j : Int) := by omega
  have hj1 : (j : Int) < (l.length : Int) := by omega
  go_enter Tryz.func16, Tryz.ntmps16
  go_upto_region 1 with (fail)
  refine wp_region_quiet_below (by kernel_rfl) (by kernel_rfl) ?_
  repeat (go_big_quiet_step ((go_at_call 25; with_reducible exact HD.out.again _ _)))
  refine wpQuiet_nil ?_
  intro z hz
  have MZ := Lib.hid (made_regrown hz)
  clear hz lb HD gc0 c0 gc1 c1 gc2 c2 gc3 c3 gc4 c4 gc5 c5 gc6 c6 gc7 c7 gc8 c8 gc9 c9 gc10 c10 gd0 d0 gd1 d1 gd2 d2 gd3 d3 gd4 d4 gd5 d5 gd6 d6 gd7 d7 gd8 d8 gd9 d9 gd10 d10
  cases pb with
  | false =>
    go_wp2
    go_ret
    exact ⟨ret_bool (by rw [HOK.out]; rfl), MZ.out⟩
  | true =>
    go_wp2_with (fail)
    refine (HW.out _ MZ.out).mono ?_
    rintro e w1 ⟨so, sc, rfl, h1, hIR⟩
    have M1 := Lib.hid (Made.trans MZ.out h1)
    have HG := Lib.hid (HF.out _ M1.out so sc hIR)
    clear h1 hIR
    go_wp2_with (fail)
    refine HG.out.mono ?_
    rintro e w2 ⟨rfl, h2⟩
    have M2 := Lib.hid (Made.trans M1.out h2)
    clear h2
    go_wp2
    go_ret
    exact ⟨ret_bool (by rw [HOK.out]; rfl), M2.out⟩
end
end Go.Proofs.YtaieiaopdbhjaaaGreatDoor
