/- LegalTells of the laws of legal returns true, for every packet, in every world that holds the tables. -/
import Derived.Test.YtaieiaopdbhjaaaGreatDoorLegalLaws
import Derived.Test.YtaieiaopdbhjaaaGreatDoorLegalRefD
namespace Go.Proofs.YtaieiaopdbhjaaaGreatDoor
open Go.ChangeShapes Go.WideShapes Go.ChangeAt Go.RowKit Go.Sort BigFrame

namespace legalTells
section
attribute [local irreducible] World.cell?
set_option maxRecDepth 100000 in
set_option maxHeartbeats 32000000 in
theorem walk (W : World) (hT : Tabs W) (ao : Option Addr) (cap : Nat) (l : List In) (e0 e1 raw dup : Bool) (hI : Insts W ao cap l) :
    Calls Tryz.prog 3 #[pkV ao l.length cap e0 e1 raw dup] W fun e w' => e = .returned (.bool true) ∧ Made W w' := by
  have HA := Lib.hid (fun (u : World) (hu : Made W u) => awake11_any u (hT.made hu) u (Made.refl u))
  have K0 := Lib.hid (box_start (Made.refl W) (boxL ao l.length cap e0 e1 raw dup))
  have H := Lib.hid hI
  have hmax := hI.max
  have hroom := hI.room
  have HS := Lib.hid hI.small
  have HB := Lib.hid (show ao = none → l.length = 0 ∧ cap = 0 from fun h => ⟨by rw [(hI.bare h).1]; rfl, (hI.bare h).2⟩)
  have HT := Lib.hid hT
  unfold maxLen at hmax
  clear hI hT
  by_cases hlen : 7 < l.length
  · go_enter Tryz.func3, Tryz.ntmps3
    go_wp2_with (fail)
    refine (HA.out _ K0.out.made).mono ?_
    rintro e w1 ⟨rfl, hm1⟩
    have K1 := Lib.hid (Made.trans K0.out.made hm1)
    clear hm1
    go_wp2
    go_ret
    exact ⟨rfl, K1.out⟩
  · have hl7 : l.length ≤ 1000 := by omega
    obtain ⟨i0, hi0, hz0, hz1, hz2⟩ := info_parts inst_row
    have hb1 : (0 + l.length) * 24 ≤ 140737488355328 := by omega
    have hx1 : 0 + l.length ≤ maxLen := by unfold maxLen; omega
    have hil := flatI_len l
    go_enter Tryz.func3, Tryz.ntmps3
    go_upto_region 3 with (fail)
    refine name_world (fun u => PkBox W W.heap.size (boxL ao l.length cap e0 e1 raw dup) u) K0.out ?_
    intro u hu
    have KU := Lib.hid hu
    clear hu K0
    obtain ⟨p0, p1, p2, p3, p4⟩ := box_cells KU.out
    have lp := heap_lt KU.out.at_
    have m2 := (Made.refl u).alloc (Nat.le_refl _) (.cells #[] 34)
    have hown0 := World.ownsRow_made (e := 34) (size := 11) (base := W.heap.size) u #[] 0 KU.out.made.size (Nat.zero_le _) rfl
    have H0 := Lib.hid hown0
    have HO := Lib.hid (insts_olds (insts_made H.out (Made.trans KU.out.made m2)))
    have K2 := Lib.hid m2
    have hsz := Lib.hid (Made.trans KU.out.made m2).size
    clear m2 hown0
    go_upto_region 4 with (at_builtin; refine wpList_append_each rfl (.tmp 16) (.tmp 18) 22 rfl W.heap.size 34 i0 (In.val inZero) 11 24 Tryz.underlying22 hi0 hz0 hz1 hz2 rfl (by decide) (.slice (some ⟨u.heap.size, 0, none⟩) 0 0) 0 [] rfl H0.out ao l.length cap (flatI l) rfl HB.out hil HO.out (flatI_one l) hx1 hb1 hsz.out ?_; intro v1 w1 hown1 hgr1; rewrite [List.nil_append, Nat.zero_add] at hown1; obtain ⟨-, s1, c1, rfl, hins1⟩ := owns_insts hown1 HS.out)
    have hum : Made u w1 := by
      refine Below.grown K2.out hgr1 K2.out.size (fun k hk => ?_)
      have h2 : u.heap.size = k := by simpa [Value.ownBlock] using hk
      omega
    have K3 := Lib.hid (KU.out.next hum)
    have I1 := Lib.hid hins1
    clear hown1 hgr1 hum hins1 p0 p1 p2 p3 p4 lp K2 H0 HO KU
    obtain ⟨p0, p1, p2, p3, p4⟩ := box_cells K3.out
    have lp := heap_lt K3.out.at_
    go_wp2_with (fail)
    refine (lchoose_any ao cap l w1 (HT.out.made K3.out.made) (insts_made H.out K3.out.made) hl7).mono ?_
    rintro e w2 ⟨i, j, ok, rfl, hch, h2⟩
    have K4 := Lib.hid (K3.out.next h2)
    have I2 := Lib.hid (insts_made I1.out h2)
    have HCH := Lib.hid hch
    clear h2 hch p0 p1 p2 p3 p4 lp K3 I1
    obtain ⟨p0, p1, p2, p3, p4⟩ := box_cells K4.out
    have lp := heap_lt K4.out.at_
    go_wp2_with (fail)
    refine (rchoose_any ao cap l w2 (insts_made H.out K4.out.made) hl7).mono ?_
    rintro e w3 ⟨i', j', ok', rfl, hch, h3⟩
    have K5 := Lib.hid (K4.out.next h3)
    have I3 := Lib.hid (insts_made I2.out h3)
    obtain ⟨rfl, rfl, rfl⟩ := choice_one HCH.out hch
    clear h3 hch HCH p0 p1 p2 p3 p4 lp K4 I2
    obtain ⟨p0, p1, p2, p3, p4⟩ := box_cells K5.out
    have lp := heap_lt K5.out.at_
    have D1 : Makes Tryz.prog w3 7 #[pkV ao l.length cap e0 e1 raw dup] (.int .i64 (legalP ⟨l, e0, e1, raw, dup⟩)) := fun z hz => (lcheck_any ao cap l e0 e1 raw dup z (HT.out.made (Made.trans K5.out.made hz)) (insts_made H.out (Made.trans K5.out.made hz)) hl7).mono fun _ _ ⟨he, hm⟩ => ⟨he, Made.trans hz hm⟩
    have D2 : Makes Tryz.prog w3 8 #[pkV ao l.length cap e0 e1 raw dup] (.int .i64 (legalP ⟨l, e0, e1, raw, dup⟩)) := fun z hz => (rlegal_any ao cap l e0 e1 raw dup z (insts_made H.out (Made.trans K5.out.made hz)) hl7).mono fun _ _ ⟨he, hm⟩ => ⟨he, Made.trans hz hm⟩
    have D3 : Makes Tryz.prog w3 9 #[pkV ao l.length cap e0 e1 raw dup] (.int .i64 (wordsP ⟨l, e0, e1, raw, dup⟩)) := fun z hz => (lwords_any ao cap l e0 e1 raw dup z (insts_made H.out (Made.trans K5.out.made hz)) hl7).mono fun _ _ ⟨he, hm⟩ => ⟨he, Made.trans hz hm⟩
    have D4 : Makes Tryz.prog w3 10 #[pkV ao l.length cap e0 e1 raw dup] (.int .i64 (wordsP ⟨l, e0, e1, raw, dup⟩)) := fun z hz => (rwords_any ao cap l e0 e1 raw dup z (insts_made H.out (Made.trans K5.out.made hz)) hl7).mono fun _ _ ⟨he, hm⟩ => ⟨he, Made.trans hz hm⟩
    have D5 : Makes Tryz.prog w3 11 #[pkV ao l.length cap e0 e1 raw dup] (.bool (takesP ⟨l, e0, e1, raw, dup⟩)) := fun z hz => (ltakes_any ao cap l e0 e1 raw dup z (HT.out.made (Made.trans K5.out.made hz)) (insts_made H.out (Made.trans K5.out.made hz)) hl7).mono fun _ _ ⟨he, hm⟩ => ⟨he, Made.trans hz hm⟩
    have D6 : Makes Tryz.prog w3 12 #[pkV ao l.length cap e0 e1 raw dup] (.bool (takesP ⟨l, e0, e1, raw, dup⟩)) := fun z hz => (rtakes_any ao cap l e0 e1 raw dup z (insts_made H.out (Made.trans K5.out.made hz)) hl7).mono fun _ _ ⟨he, hm⟩ => ⟨he, Made.trans hz hm⟩
    have DA := Lib.hid D1
    have DB := Lib.hid D2
    have DC := Lib.hid D3
    have DD := Lib.hid D4
    have DE := Lib.hid D5
    have DF := Lib.hid D6
    clear D1 D2 D3 D4 D5 D6
    generalize legalP ⟨l, e0, e1, raw, dup⟩ = cv at *
    generalize wordsP ⟨l, e0, e1, raw, dup⟩ = wv at *
    generalize takesP ⟨l, e0, e1, raw, dup⟩ = tv at *
    have g0 := fun d os => cell_regrown p0 d os
    have g1 := fun d os => cell_regrown p1 d os
    have g2 := fun d os => cell_regrown p2 d os
    have g3 := fun d os => cell_regrown p3 d os
    have g4 := fun d os => cell_regrown p4 d os
    have hne1 : (cv != cv) = false := by simp
    have hne2 : (wv != wv) = false := by simp
    have hne3 : (tv != tv) = false := by simp
    have hne4 : ((i : Int) != (i : Int)) = false := by simp
    have hne5 : ((j : Int) != (j : Int)) = false := by simp
    have hne6 : (ok != ok) = false := by simp
    go_upto_region 6 with (fail)
    refine wp_region_quiet_below (by kernel_rfl) (by kernel_rfl) ?_
    repeat (go_big_quiet_step ((first
      | (go_at_call 7; with_reducible exact DA.out.again _ _)
      | (go_at_call 8; with_reducible exact DB.out.again _ _)
      | (go_at_call 9; with_reducible exact DC.out.again _ _)
      | (go_at_call 10; with_reducible exact DD.out.again _ _)
      | (go_at_call 11; with_reducible exact DE.out.again _ _)
      | (go_at_call 12; with_reducible exact DF.out.again _ _))))
    refine wpQuiet_nil ?_
    intro z3 hw9
    have K6 := Lib.hid (K5.out.next (made_regrown hw9))
    have I4 := Lib.hid (insts_made I3.out (made_regrown hw9))
    clear hw9 g0 p0 g1 p1 g2 p2 g3 p3 g4 p4 lp hne1 hne2 hne3 hne4 hne5 hne6 DA DB DC DD DE DF K5 I3
    go_wp2_with (fail)
    go_loopw [10] (fun x wr => ∃ k : Nat, k ≤ l.length ∧ x = .int .i64 k ∧ Made z3 wr) (fun x _ => l.length - (intOf x).toNat)
    case atStart => exact ⟨0, by omega, rfl, Made.refl _⟩
    case round =>
      obtain ⟨k, hk, rfl, hm⟩ := hrel
      have K7 := Lib.hid (K6.out.next hm)
      have I5 := Lib.hid (insts_made I4.out hm)
      have KM := Lib.hid hm
      clear hm
      by_cases hlt : k < l.length
      · obtain ⟨x, hx⟩ : ∃ x, l[k] = x := ⟨_, rfl⟩
        obtain ⟨p0, p1, p2, p3, p4⟩ := box_cells K7.out
        have lp := heap_lt K7.out.at_
        obtain ⟨b, o, rfl, c0, c1, c2, c3, c4, c5, c6, c7, c8, c9, c10⟩ := insts_cells (insts_made H.out K7.out.made) hlt x hx
        obtain ⟨b2, o2, rfl, d0, d1, d2, d3, d4, d5, d6, d7, d8, d9, d10⟩ := insts_cells I5.out hlt x hx
        have hop := run_neq_same x
        clear hx
        go_upto_region 11 with (fail)
        go_quiet (fail)
        rename_i nq
        go_wp2
        go_roundw
        case rel => exact ⟨k + 1, by omega, by go_num, below_drewN KM.out _⟩
        case measure => simp [intOf]; omega
      · go_wp2_with (fail)
        refine (HA.out _ K7.out.made).mono ?_
        rintro e w4 ⟨rfl, hm3⟩
        have K8 := Lib.hid (Made.trans K7.out.made hm3)
        clear hm3
        go_wp2
        go_ret
        exact ⟨rfl, K8.out⟩
end
end legalTells
end Go.Proofs.YtaieiaopdbhjaaaGreatDoor
