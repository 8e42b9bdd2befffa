/- PackKnown of the laws of pack returns true, in every world that holds the tables. -/
import Derived.Test.YtdghnlbfmaehoaaGreatDoorPackTurn
namespace Go.Proofs.YtdghnlbfmaehoaaGreatDoor
open Go.ChangeShapes Go.WideShapes Go.ChangeAt Go.RowKit Go.Sort BigFrame

abbrev nopL : List In := [⟨1, 0, 0, 0, 0, 0, 0, false, false, 0, 0⟩]
abbrev longL : List In := [⟨8, 1, 0, 0, 0, 0, 0, false, true, 0, 305419896⟩]
abbrev farL : List In := [⟨27, 0, 0, 0, 0, 0, 0, false, false, 0, 1073741824⟩]
abbrev dupL : List In := [⟨8, 2, 0, 0, 0, 0, 0, false, false, 0, 6⟩, ⟨8, 1, 0, 0, 0, 0, 0, false, false, 0, 5⟩]
abbrev rowL : List In := [⟨24, 0, 1, 2, 0, 0, 0, false, false, 0, 0⟩, ⟨21, 3, 1, 0, 0, 0, 0, false, false, 0, 0⟩, ⟨27, 0, 0, 0, 0, 0, 0, false, false, 0, 8⟩]
theorem nop_out {er : Int} {zs : List Int} (h : IsOut 0 ⟨nopL, false, false, false, false⟩ er zs) : er = 0 ∧ zs = [67158016] := by
  obtain ⟨h1, h2⟩ := out_lit (r := nopL) h (by decide +kernel) (by decide +kernel) (by decide +kernel) (List.Perm.refl _) (by decide +kernel)
  exact ⟨h1, h2.trans (by decide +kernel)⟩
theorem long_out {er : Int} {zs : List Int} (h : IsOut 0 ⟨longL, false, false, false, false⟩ er zs) : er = 0 ∧ zs = [4748374, 536985720] := by
  obtain ⟨h1, h2⟩ := out_lit (r := longL) h (by decide +kernel) (by decide +kernel) (by decide +kernel) (List.Perm.refl _) (by decide +kernel)
  exact ⟨h1, h2.trans (by decide +kernel)⟩
theorem far_out {er : Int} {zs : List Int} (h : IsOut 0 ⟨farL, false, false, false, false⟩ er zs) : er = 6 ∧ zs = [] := h.far (by decide +kernel) (by decide +kernel)
theorem empty_out {er : Int} {zs : List Int} (h : IsOut 0 ⟨[], false, false, false, false⟩ er zs) : er = 8 ∧ zs = [] := by
  obtain ⟨h1, h2⟩ := h.bad (by decide +kernel)
  exact ⟨h1.trans (by decide +kernel), h2⟩
theorem dup_out {er : Int} {zs : List Int} (h : IsOut 0 ⟨dupL, false, false, false, true⟩ er zs) : er = 0 ∧ ∃ z, zs = [z] ∧ bits .and .u32 (z / 16384) 3 = 0 := by
  obtain ⟨h1, h2⟩ := h.ok (by decide +kernel) (by decide +kernel)
  have h3 : (zs.length : Int) = 1 := (words_len h2).trans (by decide +kernel)
  obtain ⟨z, rfl⟩ : ∃ z, zs = [z] := List.length_eq_one_iff.1 (by omega)
  refine ⟨h1, z, rfl, ?_⟩
  rcases parse_four (lit_said (by decide +kernel) (by decide +kernel)) h2 (k := 0) (by simp) with ⟨-, -, h4⟩ | ⟨-, h4, -⟩ | ⟨h4, -⟩ | ⟨h4, -⟩
  · exact h4
  · exact absurd h4 (by decide)
  · exact absurd rfl h4
  · exact absurd rfl h4
theorem row_lit {er : Int} {zs : List Int} (h : IsOut 0 ⟨rowL, false, false, false, false⟩ er zs) : er = 0 ∧ zs = [1811955714, 1415659520, 1612824576] := by
  obtain ⟨h1, h2⟩ := out_lit (r := [⟨27, 0, 0, 0, 0, 0, 0, false, false, 0, 8⟩, ⟨21, 3, 1, 0, 0, 0, 0, false, false, 0, 0⟩, ⟨24, 0, 1, 2, 0, 0, 0, false, false, 0, 0⟩]) h (by decide +kernel) (by decide +kernel) (by decide +kernel) (by decide +kernel) (by decide +kernel)
  exact ⟨h1, h2.trans (by decide +kernel)⟩
namespace packKnown
theorem no_insts (w : World) : Insts w none 0 [] := ⟨Nat.le_refl _, Nat.zero_le _, fun x hx => by simp at hx, fun _ => ⟨rfl, rfl⟩, fun t ht => absurd ht (Nat.not_lt_zero t)⟩
section
attribute [local irreducible] World.cell?
set_option maxRecDepth 100000 in
set_option maxHeartbeats 32000000 in
theorem walk (W : World) (hT : Tabs W) : Calls Tryz.prog 5 #[] W fun e w' => e = .returned (.bool true) ∧ Made W w' := by
  have HA := Lib.hid (fun (u : World) (hu : Made W u) => awake12_any u (hT.made hu) u (Made.refl u))
  have HT := Lib.hid hT
  have M := Lib.hid (Made.refl W)
  obtain ⟨w, hw⟩ : ∃ u, u = W := ⟨_, rfl⟩
  have M0 := Lib.hid (show Made W w by rw [hw]; exact Made.refl W)
  clear hT M
  subst hw
  go_enter Tryz.func5, Tryz.ntmps5
  go_wp2_with (fail)
  have MA := Lib.hid (made_alloc M0.out (.cells (nopL.flatMap In.cells).toArray 42))
  have IA := Lib.hid (insts_lit (l := nopL) (n := 1) (T := 42) (heap_alloc_new w (.cells (nopL.flatMap In.cells).toArray 42)) rfl (by omega) (fun x hx => small_of (List.all_eq_true.1 (show nopL.all smallB = true by decide +kernel) x hx)))
  refine (words_at nopL 1 rfl (by omega) false false false false 0 (by unfold isU32; omega) _ (HT.out.made MA.out) _ _ IA.out).mono ?_
  rintro e w1 ⟨sa, na, ca, ea, za, rfl, hn, hws, hm, ho⟩
  obtain ⟨rfl, rfl⟩ := nop_out ho
  obtain rfl : na = 1 := hn.symm
  have M1 := Lib.hid (Made.trans MA.out hm)
  have Za := Lib.hid hws
  clear hn hws hm ho MA IA M0
  go_wp2_with (fail)
  have MA := Lib.hid (made_alloc M1.out (.cells (longL.flatMap In.cells).toArray 42))
  have IA := Lib.hid (insts_lit (l := longL) (n := 1) (T := 42) (heap_alloc_new w1 (.cells (longL.flatMap In.cells).toArray 42)) rfl (by omega) (fun x hx => small_of (List.all_eq_true.1 (show longL.all smallB = true by decide +kernel) x hx)))
  refine (words_at longL 1 rfl (by omega) false false false false 0 (by unfold isU32; omega) _ (HT.out.made MA.out) _ _ IA.out).mono ?_
  rintro e w2 ⟨sb, nb, cb, eb, zb, rfl, hn, hws, hm, ho⟩
  obtain ⟨rfl, rfl⟩ := long_out ho
  obtain rfl : nb = 2 := hn.symm
  have M2 := Lib.hid (Made.trans MA.out hm)
  have T := Lib.hid ((Za.out.made (made_alloc (Made.refl w1) (.cells (longL.flatMap In.cells).toArray 42))).made hm)
  clear Za
  have Za := Lib.hid T.out
  clear T
  have Zb := Lib.hid hws
  clear hn hws hm ho MA IA M1
  go_wp2_with (fail)
  have MA := Lib.hid (made_alloc M2.out (.cells (farL.flatMap In.cells).toArray 42))
  have IA := Lib.hid (insts_lit (l := farL) (n := 1) (T := 42) (heap_alloc_new w2 (.cells (farL.flatMap In.cells).toArray 42)) rfl (by omega) (fun x hx => small_of (List.all_eq_true.1 (show farL.all smallB = true by decide +kernel) x hx)))
  refine (words_at farL 1 rfl (by omega) false false false false 0 (by unfold isU32; omega) _ (HT.out.made MA.out) _ _ IA.out).mono ?_
  rintro e w3 ⟨sg, ng, cg, eg, zg, rfl, hn, hws, hm, ho⟩
  obtain ⟨rfl, rfl⟩ := far_out ho
  obtain rfl : ng = 0 := hn.symm
  have M3 := Lib.hid (Made.trans MA.out hm)
  have T := Lib.hid ((Za.out.made (made_alloc (Made.refl w2) (.cells (farL.flatMap In.cells).toArray 42))).made hm)
  clear Za
  have Za := Lib.hid T.out
  clear T
  have T := Lib.hid ((Zb.out.made (made_alloc (Made.refl w2) (.cells (farL.flatMap In.cells).toArray 42))).made hm)
  clear Zb
  have Zb := Lib.hid T.out
  clear T
  clear hn hws hm ho MA IA M2
  go_wp2_with (fail)
  have MA := Lib.hid M3.out
  refine (words_at [] 0 rfl (by omega) false false false false 0 (by unfold isU32; omega) _ (HT.out.made MA.out) _ _ (no_insts _)).mono ?_
  rintro e w4 ⟨sh, nh, ch, eh, zh, rfl, hn, hws, hm, ho⟩
  obtain ⟨rfl, rfl⟩ := empty_out ho
  obtain rfl : nh = 0 := hn.symm
  have M4 := Lib.hid (Made.trans MA.out hm)
  have T := Lib.hid (Za.out.made hm)
  clear Za
  have Za := Lib.hid T.out
  clear T
  have T := Lib.hid (Zb.out.made hm)
  clear Zb
  have Zb := Lib.hid T.out
  clear T
  clear hn hws hm ho MA M3
  go_wp2_with (fail)
  have MA := Lib.hid (made_alloc M4.out (.cells (dupL.flatMap In.cells).toArray 42))
  have IA := Lib.hid (insts_lit (l := dupL) (n := 2) (T := 42) (heap_alloc_new w4 (.cells (dupL.flatMap In.cells).toArray 42)) rfl (by omega) (fun x hx => small_of (List.all_eq_true.1 (show dupL.all smallB = true by decide +kernel) x hx)))
  refine (words_at dupL 2 rfl (by omega) false false false true 0 (by unfold isU32; omega) _ (HT.out.made MA.out) _ _ IA.out).mono ?_
  rintro e w5 ⟨sc, nc, cc, ec, zc, rfl, hn, hws, hm, ho⟩
  obtain ⟨rfl, zz, rfl, hzz⟩ := dup_out ho
  obtain rfl : nc = 1 := hn.symm
  have M5 := Lib.hid (Made.trans MA.out hm)
  have T := Lib.hid ((Za.out.made (made_alloc (Made.refl w4) (.cells (dupL.flatMap In.cells).toArray 42))).made hm)
  clear Za
  have Za := Lib.hid T.out
  clear T
  have T := Lib.hid ((Zb.out.made (made_alloc (Made.refl w4) (.cells (dupL.flatMap In.cells).toArray 42))).made hm)
  clear Zb
  have Zb := Lib.hid T.out
  clear T
  have Zc := Lib.hid hws
  clear hn hws hm ho MA IA M4
  go_wp2_with (fail)
  have MA := Lib.hid (made_alloc M5.out (.cells (rowL.flatMap In.cells).toArray 42))
  have IA := Lib.hid (insts_lit (l := rowL) (n := 3) (T := 42) (heap_alloc_new w5 (.cells (rowL.flatMap In.cells).toArray 42)) rfl (by omega) (fun x hx => small_of (List.all_eq_true.1 (show rowL.all smallB = true by decide +kernel) x hx)))
  refine (words_at rowL 3 rfl (by omega) false false false false 0 (by unfold isU32; omega) _ (HT.out.made MA.out) _ _ IA.out).mono ?_
  rintro e w6 ⟨sd, nd, cd, ed, zd, rfl, hn, hws, hm, ho⟩
  obtain ⟨rfl, rfl⟩ := row_lit ho
  obtain rfl : nd = 3 := hn.symm
  have M6 := Lib.hid (Made.trans MA.out hm)
  have T := Lib.hid ((Za.out.made (made_alloc (Made.refl w5) (.cells (rowL.flatMap In.cells).toArray 42))).made hm)
  clear Za
  have Za := Lib.hid T.out
  clear T
  have T := Lib.hid ((Zb.out.made (made_alloc (Made.refl w5) (.cells (rowL.flatMap In.cells).toArray 42))).made hm)
  clear Zb
  have Zb := Lib.hid T.out
  clear T
  have T := Lib.hid ((Zc.out.made (made_alloc (Made.refl w5) (.cells (rowL.flatMap In.cells).toArray 42))).made hm)
  clear Zc
  have Zc := Lib.hid T.out
  clear T
  have Zd := Lib.hid hws
  clear hn hws hm ho MA IA M5
  go_wp2_with (fail)
  refine (same_at [67158016] [67158016] 1 1 rfl rfl (by omega) true (by decide +kernel) _ sa _ ca 1 (Za.out.made (made_alloc (Made.refl w6) _)) (ws_lit (zs := [67158016]) (T := 23) (heap_alloc_new w6 _) rfl (by omega))).mono ?_
  rintro e xa ⟨rfl, hm⟩
  have Ma := Lib.hid (Made.trans (made_alloc M6.out _) hm)
  have T := Lib.hid ((Zb.out.made (made_alloc (Made.refl w6) (.cells (wordsV [67158016]).toArray 23))).made hm)
  clear Zb
  have Zb := Lib.hid T.out
  clear T
  have T := Lib.hid ((Zc.out.made (made_alloc (Made.refl w6) (.cells (wordsV [67158016]).toArray 23))).made hm)
  clear Zc
  have Zc := Lib.hid T.out
  clear T
  have T := Lib.hid ((Zd.out.made (made_alloc (Made.refl w6) (.cells (wordsV [67158016]).toArray 23))).made hm)
  clear Zd
  have Zd := Lib.hid T.out
  clear T
  clear hm M6 Za
  go_wp2_with (fail)
  refine (same_at [4748374, 536985720] [4748374, 536985720] 2 2 rfl rfl (by omega) true (by decide +kernel) _ sb _ cb 2 (Zb.out.made (made_alloc (Made.refl xa) _)) (ws_lit (zs := [4748374, 536985720]) (T := 23) (heap_alloc_new xa _) rfl (by omega))).mono ?_
  rintro e xb ⟨rfl, hm⟩
  have Mb := Lib.hid (Made.trans (made_alloc Ma.out _) hm)
  have T := Lib.hid ((Zc.out.made (made_alloc (Made.refl xa) (.cells (wordsV [4748374, 536985720]).toArray 23))).made hm)
  clear Zc
  have Zc := Lib.hid T.out
  clear T
  have T := Lib.hid ((Zd.out.made (made_alloc (Made.refl xa) (.cells (wordsV [4748374, 536985720]).toArray 23))).made hm)
  clear Zd
  have Zd := Lib.hid T.out
  clear T
  clear hm Ma Zb
  obtain ⟨b1, o1, rfl, k0⟩ := Zc.out.cell 0 (by simp)
  obtain ⟨b2, o2, rfl, d0⟩ := Zd.out.cell 0 (by simp)
  obtain ⟨b2', o2', e2, d1⟩ := Zd.out.cell 1 (by simp)
  obtain ⟨rfl, rfl⟩ : b2 = b2' ∧ o2 = o2' := by simpa using e2
  obtain ⟨b2', o2', e3, d2⟩ := Zd.out.cell 2 (by simp)
  obtain ⟨rfl, rfl⟩ : b2 = b2' ∧ o2 = o2' := by simpa using e3
  simp only [List.getElem_cons_zero, List.getElem_cons_succ, Nat.add_zero] at k0 d0 d1 d2
  clear e2 e3
  go_wp2_with (fail)
  refine (HA.out _ Mb.out).mono ?_
  rintro e y ⟨rfl, hm⟩
  have MY := Lib.hid (Made.trans Mb.out hm)
  clear hm k0 d0 d1 d2
  go_wp2
  go_ret
  exact ⟨rfl, MY.out⟩
end
end packKnown
end Go.Proofs.YtdghnlbfmaehoaaGreatDoor
