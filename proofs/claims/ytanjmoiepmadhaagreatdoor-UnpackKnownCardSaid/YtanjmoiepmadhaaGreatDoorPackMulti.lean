/- What Multiset beside the laws of pack returns: whether the instructions are the same, in any row. -/
import Derived.Test.YtanjmoiepmadhaaGreatDoorGPack
namespace Go.Proofs.YtanjmoiepmadhaaGreatDoor
open Go.ChangeShapes Go.WideShapes Go.ChangeAt Go.RowKit Go.Sort BigFrame

/-- Whether two rows hold the same instructions, and the world behind. -/
def SameRows (xs ys : List In) (w : World) (e : Ending) (w' : World) : Prop := ∃ v, e = .returned (.bool v) ∧ (v = true ↔ xs.Perm ys) ∧ Made w w'
section
attribute [local irreducible] World.cell?
set_option maxRecDepth 100000 in
set_option maxHeartbeats 16000000 in
theorem pmulti_any (ao bo : Option Addr) (ca cb : Nat) (xs ys : List In) (w : World) (h1 : Insts w ao ca xs) (h2 : Insts w bo cb ys) (hl : xs.length ≤ 1000) :
    Calls Tryz.prog 16 #[.slice ao xs.length ca, .slice bo ys.length cb] w (SameRows xs ys w) := by
  by_cases he : xs.length = ys.length
  · have hb : ((xs.length : Int) != (ys.length : Int)) = false := by rw [he]; simp
    have hbx : ((xs.length : Int) != (xs.length : Int)) = false := by simp
    obtain ⟨i0, hi0, hz0, hz1, hz2⟩ := info_parts inst_row
    have hroom := h2.room
    have hmax := h2.max
    unfold maxLen at hmax
    have HB := Lib.hid (show bo = none → ys.length = 0 ∧ cb = 0 from fun h => ⟨by rw [(h2.bare h).1]; rfl, (h2.bare h).2⟩)
    have hil := flatI_len ys
    have hb1 : (0 + ys.length) * 24 ≤ 140737488355328 := by omega
    have hx1 : 0 + ys.length ≤ maxLen := by unfold maxLen; omega
    have H1 := Lib.hid h1
    have H2 := Lib.hid h2
    have K2 := Lib.hid (made_empty (Made.refl w))
    have H0 := Lib.hid (empty_row (Nat.le_refl w.heap.size))
    have HO := Lib.hid (insts_olds (insts_made h2 (made_empty (Made.refl w))))
    have hsz := Lib.hid (made_empty (Made.refl w)).size
    have HE := Lib.hid he
    clear h1 h2 he
    go_enter Tryz.func16, Tryz.ntmps16
    go_upto_region 4 with (at_builtin; refine wpList_append_each rfl (.tmp 15) (.tmp 16) 27 rfl w.heap.size 40 i0 (In.val inZero) 11 24 Tryz.underlying27 hi0 hz0 hz1 hz2 rfl (by decide) (.slice (some ⟨w.heap.size, 0, none⟩) 0 0) 0 [] rfl H0.out bo ys.length cb (flatI ys) rfl HB.out hil HO.out (flatI_one ys) hx1 hb1 hsz.out ?_; intro v1 w1 hown1 hgr1; have G0 := Lib.hid (got_copy (Made.refl w) (Nat.le_refl _) H2.out.small rfl hown1 hgr1).1; clear hown1 hgr1)
    clear K2 H0 HO hsz HB hil
    go_wp2_with (fail)
    go_loopw [5, 6] (fun lv iv wr => ∃ (i : Nat) (left : List In), i ≤ xs.length ∧ iv = .int .i64 i ∧ left.length + i = xs.length ∧ ys.Perm (xs.take i ++ left) ∧ GotAt w w.heap.size lv left wr) (fun _ iv _ => xs.length - (intOf iv).toNat)
    case atStart => exact ⟨0, ys, by omega, rfl, by have := HE.out; omega, by simp, G0.out⟩
    case round =>
      obtain ⟨i, left, hi, rfl, hln, hP, hG⟩ := hrel
      obtain ⟨so, c, rfl, hI⟩ := hG.insts
      have HG := Lib.hid hG
      have HP := Lib.hid hP
      have HI := Lib.hid hI
      clear hG hP hI G0
      by_cases hlt : i < xs.length
      · obtain ⟨x, hx⟩ : ∃ x, xs[i] = x := ⟨_, rfl⟩
        have HX := Lib.hid hx
        clear hx
        go_wp2_with (fail)
        go_loopw [7, 8] (fun kv nv wz => ∃ (n : Nat) (K : Int), n ≤ left.length ∧ nv = .int .i64 n ∧ kv = .int .i64 K ∧ ((K = -1 ∧ ∀ t (ht : t < left.length), t < n → left[t] ≠ x) ∨ ∃ (k : Nat) (hk : k < left.length), K = k ∧ left[k] = x) ∧ Made wr wz) (fun _ nv _ => left.length - (intOf nv).toNat)
        case atStart => exact ⟨0, -1, Nat.zero_le _, rfl, rfl, .inl ⟨rfl, fun t _ h => absurd h (Nat.not_lt_zero t)⟩, Made.refl _⟩
        case round =>
          obtain ⟨n, K, hn, rfl, rfl, hK, hmz⟩ := hrel
          have HK := Lib.hid hK
          have HMZ := Lib.hid hmz
          clear hK hmz
          by_cases hnl : n < left.length
          · obtain ⟨y, hy⟩ : ∃ y, left[n] = y := ⟨_, rfl⟩
            obtain ⟨b, o, rfl, c0, c1, c2, c3, c4, c5, c6, c7, c8, c9, c10⟩ := insts_cells (insts_made HI.out HMZ.out) hnl y hy
            obtain ⟨b2, o2, rfl, d0, d1, d2, d3, d4, d5, d6, d7, d8, d9, d10⟩ := insts_cells (insts_made H1.out (Made.trans HG.out.made HMZ.out)) hlt x HX.out
            by_cases hxy : y = x
            · have hop := fun w => (run_in_eql y x w).trans (by rw [decide_eq_true hxy])
              have HN := Lib.hid (show left[n] = x from hy.trans hxy)
              clear hy hxy
              go_upto_region 11 with (fail)
              go_quiet (fail)
              rename_i nq
              go_wp2
              go_roundw
              case rel => exact ⟨n + 1, n, by omega, by go_num, rfl, .inr ⟨n, hnl, rfl, HN.out⟩, below_drewN HMZ.out _⟩
              case measure => simp [intOf]; omega
            · have hop := fun w => (run_in_eql y x w).trans (by rw [decide_eq_false hxy])
              have HN := Lib.hid (show left[n] ≠ x from fun h => hxy (hy.symm.trans h))
              clear hy hxy
              go_upto_region 11 with (fail)
              go_quiet (fail)
              rename_i nq
              go_wp2
              go_roundw
              case rel =>
                refine ⟨n + 1, K, by omega, by go_num, rfl, ?_, below_drewN HMZ.out _⟩
                rcases HK.out with ⟨h, hall⟩ | h
                · refine .inl ⟨h, fun t ht htn => ?_⟩
                  by_cases htx : t < n
                  · exact hall t ht htx
                  · obtain rfl : t = n := by omega
                    exact HN.out
                · exact .inr h
              case measure => simp [intOf]; omega
          · obtain rfl : n = left.length := by omega
            rcases HK.out with ⟨rfl, hall⟩ | ⟨k, hk, rfl, hkx⟩
            · have hneg : decide ((-1 : Int) < 0) = true := rfl
              have HX2 := Lib.hid (multi_none HP.out hlt (fun t ht => by rw [HX.out]; exact hall t ht ht))
              clear hall
              go_wp2
              go_ret
              exact ⟨false, rfl, ⟨fun h => by simp at h, fun h => absurd h HX2.out⟩, Made.trans HG.out.made HMZ.out⟩
            · have hneg : decide ((k : Int) < 0) = false := decide_eq_false (by omega)
              have HP2 := Lib.hid (multi_next HP.out hlt hk (hkx.trans HX.out.symm))
              obtain ⟨b, o, rfl, -⟩ := insts_cells HI.out hk _ rfl
              have hroom2 := HI.out.room
              have hmax2 := HI.out.max
              unfold maxLen at hmax2
              have hkcap : k ≤ c := by omega
              have hwr : IntKind.i64.wrap ((k : Int) + 1) = (k : Int) + 1 := by rw [IntKind.wrap_i64]; omega
              have hp0 : (0 : Int) ≤ (k : Int) + 1 := by omega
              have hp1 : (k : Int) + 1 ≤ (left.length : Int) := by omega
              have hp2 : ((k : Int) + 1).toNat = k + 1 := by omega
              have GZ := Lib.hid (HG.out.next HMZ.out)
              have HIZ := Lib.hid (insts_made HI.out HMZ.out)
              have H0 := Lib.hid (empty_row GZ.out.made.size)
              have hsz := Lib.hid (made_empty GZ.out.made).size
              have HC1 := Lib.hid (insts_olds (insts_first (insts_made HIZ.out (made_empty (Made.refl wr))) k))
              have HN1 := Lib.hid (show (some (⟨b, o, none⟩ : Addr)) = none → k = 0 ∧ c = 0 from fun h => by simp at h)
              have hl1 : (flatI (left.take k)).length = k * 11 := by rw [flatI_len, List.length_take]; omega
              have hl2 : (flatI (left.drop (k + 1))).length = (left.length - (k + 1)) * 11 := by rw [flatI_len, List.length_drop]
              have hb2 : (0 + k) * 24 ≤ 140737488355328 := by omega
              have hx2 : 0 + k ≤ maxLen := by unfold maxLen; omega
              have hb3 : (k + (left.length - (k + 1))) * 24 ≤ 140737488355328 := by omega
              have hx3 : k + (left.length - (k + 1)) ≤ maxLen := by unfold maxLen; omega
              have HS1 := Lib.hid (show ∀ x ∈ left.take k, x.small from fun x hx => GZ.out.small x (List.mem_of_mem_take hx))
              have HS2 := Lib.hid (show ∀ x ∈ left.drop (k + 1), x.small from fun x hx => GZ.out.small x (List.mem_of_mem_drop hx))
              have HT1 := Lib.hid (show (left.take k).length = k by rw [List.length_take]; omega)
              have HT2 := Lib.hid (show (left.take k).length + (left.drop (k + 1)).length = k + (left.length - (k + 1)) by rw [List.length_take, List.length_drop]; omega)
              obtain ⟨A, hA, hA2⟩ := rest_at HIZ.out hk
              have HA2 := Lib.hid hA2
              clear hA2 hkx HK
              go_upto_region 16 with (at_builtin; refine wpList_append_each rfl (.tmp 42) (.tmp 45) 27 rfl w.heap.size 40 i0 (In.val inZero) 11 24 Tryz.underlying27 hi0 hz0 hz1 hz2 rfl (by decide) (.slice (some ⟨wr.heap.size, 0, none⟩) 0 0) 0 [] rfl H0.out (some ⟨b, o, none⟩) k c (flatI (left.take k)) rfl HN1.out hl1 HC1.out (flatI_one _) hx2 hb2 hsz.out ?_; intro v2 w2 hown2 hgr2; have G1 := Lib.hid (got_copy GZ.out.made (Nat.le_refl _) HS1.out HT1.out hown2 hgr2); clear hown2 hgr2)
              obtain ⟨hG1, hm1⟩ := G1.out
              have G2 := Lib.hid hG1
              have M2 := Lib.hid hm1
              have hrow := hG1.row
              rewrite [HT1.out] at hrow
              have HR := Lib.hid hrow
              obtain ⟨s1, c1, rfl, -⟩ := hG1.insts
              rewrite [HT1.out] at HR G2 ⊢
              clear hG1 hm1 hrow G1
              go_upto_region 6 with (at_builtin; refine wpList_append_each rfl (.tmp 47) (.tmp 51) 27 rfl w.heap.size 40 i0 (In.val inZero) 11 24 Tryz.underlying27 hi0 hz0 hz1 hz2 rfl (by decide) (.slice s1 k c1) k (flatI (left.take k)) rfl HR.out (some A) (left.length - (k + 1)) (c - (k + 1)) (flatI (left.drop (k + 1))) rfl (fun h => by simp at h) hl2 (fun ad had => by obtain rfl := Option.some.inj had; exact HA2.out _ M2.out) (flatI_one _) hx3 hb3 G2.out.made.size ?_; intro v3 w3 hown3 hgr3; have G3 := Lib.hid (G2.out.grows HS2.out HT2.out hown3 hgr3); clear hown3 hgr3)
              go_wp2
              go_roundw
              case rel => exact ⟨i + 1, left.take k ++ left.drop (k + 1), by omega, by go_num, by rw [List.length_append, HT2.out]; omega, HP2.out, G3.out⟩
              case measure => simp [intOf]; omega
      · obtain rfl : i = xs.length := by omega
        have HX := Lib.hid (multi_end HP.out (by omega))
        go_wp2
        go_ret
        exact ⟨true, rfl, ⟨fun _ => HX.out, fun _ => rfl⟩, HG.out.made⟩
  · have hb : ((xs.length : Int) != (ys.length : Int)) = true := bne_iff_ne.2 (by omega)
    have HX := Lib.hid (show ¬ xs.Perm ys from fun h => he h.length_eq)
    clear he
    go_enter Tryz.func16, Tryz.ntmps16
    go_wp2
    go_ret
    exact ⟨false, rfl, ⟨fun h => by simp at h, fun h => absurd h HX.out⟩, Made.refl w⟩
end
end Go.Proofs.YtanjmoiepmadhaaGreatDoor
