/- PackOrder of the laws of pack returns true, for any instructions and address, in every world that holds the tables. -/
import Derived.Test.YtdghnlbfmaehoaaGreatDoorPackLaws
import Derived.Test.YtdghnlbfmaehoaaGreatDoorPackRef
namespace Go.Proofs.YtdghnlbfmaehoaaGreatDoor
open Go.ChangeShapes Go.WideShapes Go.ChangeAt Go.RowKit Go.Sort BigFrame

namespace packOrder
section
attribute [local irreducible] World.cell?
set_option maxRecDepth 100000 in
set_option maxHeartbeats 16000000 in
theorem walk (W : World) (hT : Tabs W) (ao : Option Addr) (cap : Nat) (l : List In) (pc : Int) (hI : Insts W ao cap l) (hpc : (Lit.int .u32 pc).wf = true) :
    Calls Tryz.prog 3 #[.slice ao l.length cap, .int .u32 pc] W fun e w' => e = .returned (.bool true) ∧ Made W w' := by
  have hp := u32_lit hpc
  have HA := Lib.hid (fun (u : World) (hu : Made W u) => awake12_any u (hT.made hu) u (Made.refl u))
  have H := Lib.hid hI
  have HT := Lib.hid hT
  have hmax := hI.max
  have hroom := hI.room
  unfold maxLen at hmax
  have HB := Lib.hid (show ao = none → l.length = 0 ∧ cap = 0 from fun h => ⟨by rw [(hI.bare h).1]; rfl, (hI.bare h).2⟩)
  clear hI hT hpc
  by_cases hlen : 8 < l.length
  · have hb : decide ((l.length : Int) > 8) = true := decide_eq_true (by omega)
    go_enter Tryz.func3, Tryz.ntmps3
    go_wp2_with (fail)
    refine (HA.out W (Made.refl W)).mono ?_
    rintro e w1 ⟨rfl, h1⟩
    have M1 := Lib.hid h1
    clear h1
    go_wp2
    go_ret
    exact ⟨rfl, M1.out⟩
  · have hb : decide ((l.length : Int) > 8) = false := decide_eq_false (by omega)
    obtain ⟨i0, hi0, hz0, hz1, hz2⟩ := info_parts inst_row
    have hil := flatI_len l
    have hb1 : (0 + l.length) * 24 ≤ 140737488355328 := by omega
    have hx1 : 0 + l.length ≤ maxLen := by unfold maxLen; omega
    have H0 := Lib.hid (empty_row (Nat.le_refl W.heap.size))
    have HO := Lib.hid (insts_olds (insts_made H.out (made_empty (Made.refl W))))
    have hsz := Lib.hid (made_empty (Made.refl W)).size
    have hl9 : l.length ≤ 1000 := by omega
    go_enter Tryz.func3, Tryz.ntmps3
    go_upto_region 4 with (at_builtin; refine wpList_append_each rfl (.tmp 14) (.tmp 15) 22 rfl W.heap.size 42 i0 (In.val inZero) 11 24 Tryz.underlying22 hi0 hz0 hz1 hz2 rfl (by decide) (.slice (some ⟨W.heap.size, 0, none⟩) 0 0) 0 [] rfl H0.out ao l.length cap (flatI l) rfl HB.out hil HO.out (flatI_one l) hx1 hb1 hsz.out ?_; intro v1 w1 hown1 hgr1; have G0 := Lib.hid (got_copy (Made.refl W) (Nat.le_refl _) H.out.small rfl hown1 hgr1).1; clear hown1 hgr1)
    obtain ⟨so1, c1, hv1, hI1⟩ := G0.out.insts
    subst hv1
    have I1 := Lib.hid hI1
    have M1 := Lib.hid G0.out.made
    clear H0 HO hsz HB hil hI1 G0
    go_wp2_with (fail)
    refine (porder_any ao cap l w1 (HT.out.made M1.out) (insts_made H.out M1.out) hl9 pc hp).mono ?_
    rintro e w2 ⟨so2, n2, c2, rfl, hn2, hI2, h2⟩
    have M2 := Lib.hid (Made.trans M1.out h2)
    have I2 := Lib.hid (insts_made I1.out h2)
    have O2 := Lib.hid hI2
    clear h2 hI2 M1 I1
    go_wp2_with (fail)
    refine (rorder_any ao cap l w2 (insts_made H.out M2.out) hl9 pc hp).mono ?_
    rintro e w3 ⟨so3, n3, c3, rfl, hn3, hI3, h3⟩
    have M3 := Lib.hid (Made.trans M2.out h3)
    have I3 := Lib.hid (insts_made I2.out h3)
    have O3 := Lib.hid (insts_made O2.out h3)
    have Q3 := Lib.hid hI3
    obtain rfl : n2 = n3 := hn2.symm.trans hn3
    have hn9 : n2 ≤ 1000 := by
      rw [← hn3]
      unfold orderL
      split
      · rw [row_len]; exact hl9
      · simp
    have HN := Lib.hid hn3
    clear h3 hI3 M2 I2 O2 hn2 hn3
    generalize orderL pc l = ol at *
    generalize orderB pc l = ob at *
    have hbb : (ob == ob) = true := by simp
    go_wp2_with (fail)
    refine (insts_at ol n2 HN.out hn9 w3 _ _ _ _ O3.out Q3.out).mono ?_
    rintro e w4 ⟨rfl, h4⟩
    have M4 := Lib.hid (Made.trans M3.out h4)
    have I4 := Lib.hid (insts_made I3.out h4)
    clear h4 M3 I3 O3 Q3
    go_wp2_with (fail)
    refine (insts_at l l.length rfl hl9 w4 _ _ _ _ (insts_made H.out M4.out) I4.out).mono ?_
    rintro e w5 ⟨rfl, h5⟩
    have M5 := Lib.hid (Made.trans M4.out h5)
    clear h5 M4 I4
    go_wp2_with (fail)
    refine (HA.out w5 M5.out).mono ?_
    rintro e w6 ⟨rfl, h6⟩
    have M6 := Lib.hid (Made.trans M5.out h6)
    clear h6
    go_wp2
    go_ret
    exact ⟨rfl, M6.out⟩
end
end packOrder
end Go.Proofs.YtdghnlbfmaehoaaGreatDoor
