/- What Words of package pack returns, for every packet in memory, in every world that holds the three tables. -/
import Derived.Test.YtdghnlbfmaehoaaGreatDoorPackWd
namespace Go.Proofs.YtdghnlbfmaehoaaGreatDoor
open Go.ChangeShapes Go.WideShapes Go.ChangeAt Go.RowKit Go.Sort BigFrame

theorem thirty_put {z q : Int} (hz : isU32 z) : fromThirtyZ (thirtyZ z) q = putZ z 14 2 q := by
  rw [put_parse]
  unfold fromThirtyZ thirtyZ
  unfold isU32 at hz
  omega
theorem thirty_u32 (z : Int) : isU32 (thirtyZ z) := by
  unfold thirtyZ isU32
  omega
theorem worded_bad {pc : Int} {p : Pk} {w w' : World} {er : Int} (h : legalP p ≠ 0) (he : er = legalP p) (hm : Made w w') : Worded pc p w (.returned (.tuple #[.slice none 0 0, .int .i64 er])) w' :=
  ⟨none, 0, 0, er, [], rfl, rfl, ws_nil w', hm, fun _ => ⟨he, rfl⟩, fun h0 => absurd h0 h, fun h0 => absurd h0 h⟩
theorem worded_far {pc : Int} {p : Pk} {w w' : World} (h : legalP p = 0) (hs : sayAll pc p.insts = false) (hm : Made w w') : Worded pc p w (.returned (.tuple #[.slice none 0 0, .int .i64 6])) w' :=
  ⟨none, 0, 0, 6, [], rfl, rfl, ws_nil w', hm, fun h0 => absurd h h0, fun _ _ => ⟨rfl, rfl⟩, fun _ h0 => by rw [hs] at h0; cases h0⟩
theorem worded_ok {pc : Int} {p : Pk} {w w' : World} {so : Option Addr} {c : Nat} {zs : List Int} (h : legalP p = 0) (hs : sayAll pc p.insts = true) (hw : IsWords pc p zs) (hz : Ws w' so c zs) (hm : Made w w') {n : Nat} (hn : zs.length = n) : Worded pc p w (.returned (.tuple #[.slice so n c, .int .i64 0])) w' :=
  ⟨so, n, c, 0, zs, rfl, hn, hz, hm, fun h0 => absurd h h0, fun _ h0 => (by rw [hs] at h0; cases h0), fun _ _ => ⟨rfl, hw⟩⟩
theorem dup_u32 {pc : Int} {r : List In} {i j : Nat} (hs : Said pc r) (hc : IsChoice r i j true) : ∀ z ∈ dupW pc r i j, isU32 z := fun z hz => by
  obtain ⟨hij, hj, hoab, -⟩ := hc.some rfl
  unfold okAt at hoab
  rw [Bool.and_eq_true] at hoab
  unfold dupW at hz
  rcases List.mem_append.1 hz with h | h
  · exact (bareW_ok (fun x hx => hs x (List.mem_of_mem_eraseIdx (List.mem_of_mem_eraseIdx hx))) z h).u
  · obtain rfl : z = (pairP (r.getD i inZero) (r.getD j inZero)).1 := by simpa using h
    exact (paired _ _ _ (Prod.ext rfl hoab.1)).u32
section
attribute [local irreducible] World.cell?
set_option maxRecDepth 100000 in
set_option maxHeartbeats 32000000 in
theorem pwords_any (ao : Option Addr) (cap : Nat) (l : List In) (e0 e1 raw dup : Bool) (w : World) (hT : Tabs w) (hI : Insts w ao cap l) (hl : l.length ≤ 1000) (pc : Int) (_hp : isU32 pc) :
    Calls Tryz.prog 12 #[pkV ao l.length cap e0 e1 raw dup, .int .u32 pc] w (Worded pc ⟨l, e0, e1, raw, dup⟩ w) := by
  have K := Lib.hid (box_start (Made.refl w) (boxL ao l.length cap e0 e1 raw dup))
  have LK := Lib.hid (fun (u : World) (hu : Made w u) => lcheck_any ao cap l e0 e1 raw dup u (hT.made hu) (insts_made hI hu) hl)
  have RK := Lib.hid (fun (u : World) (hu : Made w u) => prow_any ao cap l u (hT.made hu) (insts_made hI hu) hl pc)
  have HT := Lib.hid (fun (u : World) (hu : Made w u) => hT.made hu)
  have HSM := Lib.hid hI.small
  have HLG := Lib.hid (fun h : legalP ⟨l, e0, e1, raw, dup⟩ = 0 => And.intro (legal_len h).1 (And.intro (order_legal (pc := pc) h) (fun hd : dup = true => show anyP l = true from by
    subst hd
    exact ((legal_iff _).1 h).placed)))
  obtain ⟨lv, hlv⟩ : ∃ v, v = legalP ⟨l, e0, e1, raw, dup⟩ := ⟨_, rfl⟩
  have HLV := Lib.hid hlv
  clear hT hI
  rewrite [← hlv] at LK
  clear hlv
  go_enter Tryz.func12, Tryz.ntmps12
  obtain ⟨p0, p1, p2, p3, p4⟩ := box_cells K.out
  have lp := heap_lt K.out.at_
  go_wp2_with (fail)
  refine (LK.out _ K.out.made).mono ?_
  rintro e w1 ⟨rfl, h1⟩
  have K1 := Lib.hid (K.out.next h1)
  clear h1 p0 p1 p2 p3 p4 lp K LK
  obtain ⟨p0, p1, p2, p3, p4⟩ := box_cells K1.out
  have lp := heap_lt K1.out.at_
  by_cases hz : lv = 0
  rotate_left
  · have hb : (lv != 0) = true := bne_iff_ne.2 hz
    have HZ := Lib.hid (show legalP ⟨l, e0, e1, raw, dup⟩ ≠ 0 from fun h => hz (HLV.out.trans h))
    clear hz
    go_wp2
    refine bodyPost_ret (v := .tuple #[.slice none 0 0, .int .i64 lv]) (by simp [results, Tryz.results12, go_sem]) rfl ?_
    exact worded_bad HZ.out HLV.out K1.out.made
  have HZ := Lib.hid (show legalP ⟨l, e0, e1, raw, dup⟩ = 0 from HLV.out.symm.trans hz)
  subst hz
  obtain ⟨hl4, hos, hdp⟩ := HLG.out HZ.out
  have HOS := Lib.hid hos
  have HDP := Lib.hid hdp
  clear hos hdp HLG
  go_wp2_with (fail)
  refine (RK.out _ K1.out.made).mono ?_
  rintro e w2 ⟨h2, ⟨ho, rfl⟩ | ⟨ho, so, c, rfl, hE⟩⟩
  · have HS := Lib.hid (HOS.out.symm.trans ho)
    have K2 := Lib.hid (K1.out.next h2)
    clear h2 ho p0 p1 p2 p3 p4 lp
    go_wp2
    refine bodyPost_ret (v := .tuple #[.slice none 0 0, .int .i64 6]) (by simp [results, Tryz.results12, go_sem]) rfl ?_
    exact worded_far HZ.out HS.out K2.out.made
  have HS := Lib.hid (HOS.out.symm.trans ho)
  have K2 := Lib.hid (K1.out.next h2)
  have HE := Lib.hid hE
  have hsd := said_of HSM.out HS.out
  have hrl : (rowP pc l).length = l.length := row_len pc l
  have HSR := Lib.hid (show Said pc (rowP pc l) from fun x hx => hsd x ((row_perm pc l).mem_iff.1 hx))
  have HAN := Lib.hid (show dup = true → anyP (rowP pc l) = true from fun h => (any_perm (row_perm pc l)).trans (HDP.out h))
  have HW := Lib.hid (show ∀ i j : Nat, (dup = true → IsChoice (rowP pc l) i j true) → (dup = false → i = 0 ∧ j = 0) → IsWords pc ⟨l, e0, e1, raw, dup⟩ (endsL e0 e1 dup (bareP pc ⟨l, e0, e1, raw, dup⟩ i j)) from fun i j h h' => ⟨i, j, h, h', rfl⟩)
  have HBP := Lib.hid (show ∀ i j : Nat, bareP pc ⟨l, e0, e1, raw, dup⟩ i j = if dup then dupW pc (rowP pc l) i j else bareW pc (rowP pc l) from fun i j => rfl)
  rewrite [← hrl]
  rewrite [← hrl] at hl4
  clear h2 ho hE hsd hrl HOS HDP HSM RK HLV p0 p1 p2 p3 p4 lp K1
  generalize rowP pc l = r at *
  obtain ⟨p0, p1, p2, p3, p4⟩ := box_cells K2.out
  have lp := heap_lt K2.out.at_
  cases dup
  case false =>
    have hml : (r.map (entP pc)).length = r.length := List.length_map _
    have hsi := psingly_any so c (r.map (entP pc)) w2 (HT.out w2 K2.out.made).pieces HE.out (fun e he => by
      obtain ⟨x, hx, rfl⟩ := List.mem_map.1 he
      exact upP_u32 x pc) (by rw [hml]; omega)
    rewrite [hml, bareE_ent] at hsi
    have HSI := Lib.hid hsi
    clear hsi hml
    go_wp2_with (fail)
    refine HSI.out.mono ?_
    rintro e w3 ⟨v, rfl, hW3⟩
    have K3 := Lib.hid (K2.out.next hW3.made)
    have KV := Lib.hid (show WordsAt w2 v (bareW pc r) w3 from hW3)
    have HWS := Lib.hid (show IsWords pc ⟨l, e0, e1, raw, false⟩ (endsL e0 e1 false (bareW pc r)) from by
      have h := HW.out 0 0 (fun h => by cases h) (fun _ => ⟨rfl, rfl⟩)
      rwa [HBP.out] at h)
    have HWU := Lib.hid (fun z hz => (bareW_ok HSR.out z hz).u)
    have HLN := Lib.hid (show (bareW pc r).length ≤ 16 by have := bareW_le pc r; omega)
    clear hW3 HW HBP HSI HAN HE HSR
    generalize bareW pc r = ws at *
    have hwl : ws.length ≤ 16 := HLN.out
    clear HLN
    obtain ⟨so2, c2, hv2, -⟩ := KV.out.ws
    subst hv2
    go_wp2_with (fail)
    go_loopw [34] (fun kk wk => ∃ k : Nat, k ≤ ws.length ∧ kk = .int .i64 k ∧ WordsAt w2 (.slice so2 ws.length c2) (endsTo e0 e1 false ws k) wk) (fun kk _ => ws.length - (intOf kk).toNat)
    case atStart => exact ⟨0, by omega, rfl, by rw [endsTo_none]; exact KV.out⟩
    case round =>
      clear p0 p1 p2 p3 p4 lp K3 KV
      obtain ⟨k, hk, rfl, hO⟩ := hrel
      have KR := Lib.hid hO
      have KB := Lib.hid (K2.out.next hO.made)
      clear hO
      by_cases hkl : k < ws.length
      · obtain ⟨g, rfl⟩ := words_some KR.out (by rw [endsTo_len]; omega)
        have ck := words_cell KR.out (k := k) (by rw [endsTo_len]; exact hkl)
        rewrite [endsTo_at e0 e1 false ws hkl] at ck
        have HZU := Lib.hid (HWU.out ws[k] (List.getElem_mem hkl))
        have HSET := Lib.hid (show ∀ u : World, WordsAt w2 (.slice (some ⟨g, 0, none⟩) ws.length c2) (endsTo e0 e1 false ws k) u → WordsAt w2 (.slice (some ⟨g, 0, none⟩) ws.length c2) (endsTo e0 e1 false ws (k + 1)) (u.setCell ⟨g, k, none⟩ (.int .u32 (putZ ws[k] 14 2 (parseAt e0 e1 false ws.length k)))) from fun u hu => by
          have h := hu.put k (putZ ws[k] 14 2 (parseAt e0 e1 false ws.length k))
          rwa [← endsTo_put e0 e1 false ws hkl] at h)
        have HQ := Lib.hid (parseAt_code e0 e1 false ws.length k)
        have HPA := Lib.hid (pparse_any wr ao l.length cap e0 e1 raw false ws.length k hkl (by omega))
        have HPI := Lib.hid (HT.out wr (Made.trans K2.out.made KR.out.made)).pieces
        have HTH := Lib.hid (thirty_made wr HPI.out ws[k] HZU.out)
        have HFT := Lib.hid (show Makes Tryz.prog wr 25 #[.int .u32 (thirtyZ ws[k]), .int .u8 (parseAt e0 e1 false ws.length k)] (.int .u32 (putZ ws[k] 14 2 (parseAt e0 e1 false ws.length k))) from by
          have h := fromThirty_made wr HPI.out (thirtyZ ws[k]) (parseAt e0 e1 false ws.length k) (thirty_u32 _) (by have := HQ.out; unfold isU8; omega)
          rwa [thirty_put HZU.out] at h)
        generalize parseAt e0 e1 false ws.length k = q at *
        generalize putZ ws[k] 14 2 q = pz at *
        generalize thirtyZ ws[k] = tz at *
        generalize ws[k] = z at *
        have lg0 := (KR.out.row.lt g rfl).2
        obtain ⟨p0, p1, p2, p3, p4⟩ := box_cells KB.out
        have lp := heap_lt KB.out.at_
        have gp0 := fun d os => cell_regrown p0 d os
        have gp1 := fun d os => cell_regrown p1 d os
        have gp2 := fun d os => cell_regrown p2 d os
        have gp3 := fun d os => cell_regrown p3 d os
        have gp4 := fun d os => cell_regrown p4 d os
        have ki0 : (0 : Int) ≤ (k : Int) := by omega
        have ki1 : (k : Int) < (ws.length : Int) := by omega
        go_upto_region 14 with (fail)
        refine wp_region_made 11 [] [0, 1, 2, 3, 4, 5, 6, 7, 8, 9, 10] (by kernel_rfl) (by kernel_rfl) (by intro c a d v w h; cases d <;> exact h) ?_
        simp only [moved, picked, List.foldr_cons, List.foldr_nil, Option.elim_some, List.getElem?_toArray, List.getElem?_cons_zero, List.getElem?_cons_succ, List.drop_succ_cons, List.drop_zero]
        repeat (go_big_quiet_step ((first
          | (go_at_call 26; with_reducible exact HTH.out.again _ _)
          | (go_at_call 27; with_reducible exact HPA.out.again _ _)
          | (go_at_call 25; with_reducible exact HFT.out.again _ _))))
        refine wpQuiet_nil ?_
        intro u hu
        have KR2 := Lib.hid (KR.out.next hu)
        have cz := (World.cell?_of_block (hu.block g lg0)).trans ck
        have fr := (words_row KR2.out).frozenAt
        have lg := (KR2.out.row.lt g rfl).2
        have KN := Lib.hid (HSET.out u KR2.out)
        clear hu p0 p1 p2 p3 p4 lp gp0 gp1 gp2 gp3 gp4 ck lg0 HTH HPA HFT HSET HQ
        go_wp2
        go_roundw
        case rel => exact ⟨k + 1, by omega, by go_num, KN.out⟩
        case measure => simp [intOf]; omega
      · obtain rfl : k = ws.length := by omega
        have hfin := KR.out
        rewrite [endsTo_all] at hfin
        obtain ⟨so3, c3, hv3, hws⟩ := hfin.ws
        rewrite [endsL_len] at hv3
        simp only [Value.slice.injEq] at hv3
        obtain ⟨rfl, -, rfl⟩ := hv3
        have HF := Lib.hid hws
        have HM := Lib.hid (Made.trans K2.out.made hfin.made)
        clear hfin hws
        go_wp2
        refine bodyPost_ret (v := .tuple #[.slice so2 ws.length c2, .int .i64 0]) (by simp [results, Tryz.results12, go_sem]) rfl ?_
        exact worded_ok HZ.out HS.out HWS.out HF.out HM.out (endsL_len _ _ _ _)
  case true =>
    have hpd := ppaired_any so c pc r w2 (HT.out w2 K2.out.made) HE.out HSR.out (HAN.out rfl) hl4
    have HPD := Lib.hid hpd
    clear hpd
    go_wp2_with (fail)
    refine HPD.out.mono ?_
    rintro e w3 ⟨v, i, j, rfl, hch, hW3⟩
    have K3 := Lib.hid (K2.out.next hW3.made)
    have KV := Lib.hid (show WordsAt w2 v (dupW pc r i j) w3 from hW3)
    have HWS := Lib.hid (show IsWords pc ⟨l, e0, e1, raw, true⟩ (endsL e0 e1 true (dupW pc r i j)) from by
      have h := HW.out i j (fun _ => hch) (fun h => by cases h)
      rwa [HBP.out] at h)
    have HWU := Lib.hid (dup_u32 HSR.out hch)
    have HLN := Lib.hid (show (dupW pc r i j).length ≤ 16 by
      unfold dupW
      rw [List.length_append, List.length_singleton]
      have h1 := bareW_le pc (restOf r i j)
      have h2 := rest_len r i j r.length
      rw [rest_whole] at h2
      omega)
    clear hW3 HW HBP HPD HAN HE HSR hch
    generalize dupW pc r i j = ws at *
    have hwl : ws.length ≤ 16 := HLN.out
    clear HLN
    obtain ⟨so2, c2, hv2, -⟩ := KV.out.ws
    subst hv2
    go_wp2_with (fail)
    go_loopw [34] (fun kk wk => ∃ k : Nat, k ≤ ws.length ∧ kk = .int .i64 k ∧ WordsAt w2 (.slice so2 ws.length c2) (endsTo e0 e1 true ws k) wk) (fun kk _ => ws.length - (intOf kk).toNat)
    case atStart => exact ⟨0, by omega, rfl, by rw [endsTo_none]; exact KV.out⟩
    case round =>
      clear p0 p1 p2 p3 p4 lp K3 KV
      obtain ⟨k, hk, rfl, hO⟩ := hrel
      have KR := Lib.hid hO
      have KB := Lib.hid (K2.out.next hO.made)
      clear hO
      by_cases hkl : k < ws.length
      · obtain ⟨g, rfl⟩ := words_some KR.out (by rw [endsTo_len]; omega)
        have ck := words_cell KR.out (k := k) (by rw [endsTo_len]; exact hkl)
        rewrite [endsTo_at e0 e1 true ws hkl] at ck
        have HZU := Lib.hid (HWU.out ws[k] (List.getElem_mem hkl))
        have HSET := Lib.hid (show ∀ u : World, WordsAt w2 (.slice (some ⟨g, 0, none⟩) ws.length c2) (endsTo e0 e1 true ws k) u → WordsAt w2 (.slice (some ⟨g, 0, none⟩) ws.length c2) (endsTo e0 e1 true ws (k + 1)) (u.setCell ⟨g, k, none⟩ (.int .u32 (putZ ws[k] 14 2 (parseAt e0 e1 true ws.length k)))) from fun u hu => by
          have h := hu.put k (putZ ws[k] 14 2 (parseAt e0 e1 true ws.length k))
          rwa [← endsTo_put e0 e1 true ws hkl] at h)
        have HQ := Lib.hid (parseAt_code e0 e1 true ws.length k)
        have HPA := Lib.hid (pparse_any wr ao l.length cap e0 e1 raw true ws.length k hkl (by omega))
        have HPI := Lib.hid (HT.out wr (Made.trans K2.out.made KR.out.made)).pieces
        have HTH := Lib.hid (thirty_made wr HPI.out ws[k] HZU.out)
        have HFT := Lib.hid (show Makes Tryz.prog wr 25 #[.int .u32 (thirtyZ ws[k]), .int .u8 (parseAt e0 e1 true ws.length k)] (.int .u32 (putZ ws[k] 14 2 (parseAt e0 e1 true ws.length k))) from by
          have h := fromThirty_made wr HPI.out (thirtyZ ws[k]) (parseAt e0 e1 true ws.length k) (thirty_u32 _) (by have := HQ.out; unfold isU8; omega)
          rwa [thirty_put HZU.out] at h)
        generalize parseAt e0 e1 true ws.length k = q at *
        generalize putZ ws[k] 14 2 q = pz at *
        generalize thirtyZ ws[k] = tz at *
        generalize ws[k] = z at *
        have lg0 := (KR.out.row.lt g rfl).2
        obtain ⟨p0, p1, p2, p3, p4⟩ := box_cells KB.out
        have lp := heap_lt KB.out.at_
        have gp0 := fun d os => cell_regrown p0 d os
        have gp1 := fun d os => cell_regrown p1 d os
        have gp2 := fun d os => cell_regrown p2 d os
        have gp3 := fun d os => cell_regrown p3 d os
        have gp4 := fun d os => cell_regrown p4 d os
        have ki0 : (0 : Int) ≤ (k : Int) := by omega
        have ki1 : (k : Int) < (ws.length : Int) := by omega
        go_upto_region 14 with (fail)
        refine wp_region_made 11 [] [0, 1, 2, 3, 4, 5, 6, 7, 8, 9, 10] (by kernel_rfl) (by kernel_rfl) (by intro c a d v w h; cases d <;> exact h) ?_
        simp only [moved, picked, List.foldr_cons, List.foldr_nil, Option.elim_some, List.getElem?_toArray, List.getElem?_cons_zero, List.getElem?_cons_succ, List.drop_succ_cons, List.drop_zero]
        repeat (go_big_quiet_step ((first
          | (go_at_call 26; with_reducible exact HTH.out.again _ _)
          | (go_at_call 27; with_reducible exact HPA.out.again _ _)
          | (go_at_call 25; with_reducible exact HFT.out.again _ _))))
        refine wpQuiet_nil ?_
        intro u hu
        have KR2 := Lib.hid (KR.out.next hu)
        have cz := (World.cell?_of_block (hu.block g lg0)).trans ck
        have fr := (words_row KR2.out).frozenAt
        have lg := (KR2.out.row.lt g rfl).2
        have KN := Lib.hid (HSET.out u KR2.out)
        clear hu p0 p1 p2 p3 p4 lp gp0 gp1 gp2 gp3 gp4 ck lg0 HTH HPA HFT HSET HQ
        go_wp2
        go_roundw
        case rel => exact ⟨k + 1, by omega, by go_num, KN.out⟩
        case measure => simp [intOf]; omega
      · obtain rfl : k = ws.length := by omega
        have hfin := KR.out
        rewrite [endsTo_all] at hfin
        obtain ⟨so3, c3, hv3, hws⟩ := hfin.ws
        rewrite [endsL_len] at hv3
        simp only [Value.slice.injEq] at hv3
        obtain ⟨rfl, -, rfl⟩ := hv3
        have HF := Lib.hid hws
        have HM := Lib.hid (Made.trans K2.out.made hfin.made)
        clear hfin hws
        go_wp2
        refine bodyPost_ret (v := .tuple #[.slice so2 ws.length c2, .int .i64 0]) (by simp [results, Tryz.results12, go_sem]) rfl ?_
        exact worded_ok HZ.out HS.out HWS.out HF.out HM.out (endsL_len _ _ _ _)
end
end Go.Proofs.YtdghnlbfmaehoaaGreatDoor
