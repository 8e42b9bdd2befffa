/- What Words of the document's answer for pack returns, for a packet that is legal. -/
import Derived.Test.YtdghnlbfmaehoaaGreatDoorGPack
import Derived.Test.YtdghnlbfmaehoaaGreatDoorPackRef
import Derived.Test.YtdghnlbfmaehoaaGreatDoorLegalRefC
namespace Go.Proofs.YtdghnlbfmaehoaaGreatDoor
open Go.ChangeShapes Go.WideShapes Go.ChangeAt Go.RowKit Go.Sort BigFrame

/-- What Words of the document's answer tells. -/
def WordedR (pc : Int) (p : Pk) (w : World) (e : Ending) (w' : World) : Prop :=
  ∃ so n cap zs, e = .returned (.tuple #[.slice so n cap, .bool (sayAll pc p.insts)]) ∧ zs.length = n ∧ Ws w' so cap zs ∧ Made w w' ∧ (sayAll pc p.insts = false → zs = []) ∧ (sayAll pc p.insts = true → IsWords pc p zs)
theorem empty_refW (pc : Int) (p : Pk) (w w' : World) (h : sayAll pc p.insts = false) (hm : Made w w') : WordedR pc p w (.returned (.tuple #[.slice none 0 0, .bool false])) w' :=
  ⟨none, 0, 0, [], by rw [h], rfl, ws_nil w', hm, fun _ => rfl, fun k => by rw [h] at k; cases k⟩
section
attribute [local irreducible] World.cell?
set_option maxRecDepth 100000 in
set_option maxHeartbeats 64000000 in
theorem rwords12_dup (ao : Option Addr) (cap : Nat) (l : List In) (e0 e1 raw : Bool) (w : World) (hI : Insts w ao cap l) (hlg : legalP ⟨l, e0, e1, raw, true⟩ = 0) (pc : Int) (hp : isU32 pc) :
    Calls Tryz.prog 14 #[pkV ao l.length cap e0 e1 raw true, .int .u32 pc] w (WordedR pc ⟨l, e0, e1, raw, true⟩ w) := by
  have hl4 : l.length ≤ 4 := (legal_len hlg).1
  have hobs : orderB pc l = sayAll pc l := order_legal hlg
  have hpl : anyP l = true := by
    have h1 := ((legal_iff _).1 hlg).placed
    exact h1
  have K0 := Lib.hid (box_start (Made.refl w) (boxL ao l.length cap e0 e1 raw true))
  have HR := Lib.hid (fun (u : World) (hu : Made w u) => rorder_any ao cap l u (insts_made hI hu) (by omega) pc hp)
  have HSM := Lib.hid hI.small
  have HOB := Lib.hid hobs
  have HL4 := Lib.hid hl4
  obtain ⟨i0, hi0, hz0, hz1, hz2⟩ := info_parts word_row
  have HPL := Lib.hid hpl
  clear hpl
  clear hI hlg hobs
  go_enter Tryz.func14, Tryz.ntmps14
  obtain ⟨p0, p1, p2, p3, p4⟩ := box_cells K0.out
  have lp := heap_lt K0.out.at_
  go_wp2_with (fail)
  refine (HR.out _ K0.out.made).mono ?_
  rintro e w1 ⟨so, n, c, rfl, hn, hir, h1⟩
  have K1 := Lib.hid (K0.out.next h1)
  rewrite [HOB.out]
  cases hsy : sayAll pc l with
  | false =>
    have HSY := Lib.hid hsy
    clear h1 hir hn p0 p1 p2 p3 p4 lp K0
    clear hsy
    go_wp2
    refine bodyPost_ret (v := .tuple #[.slice none 0 0, .bool false]) (by simp [results, Tryz.results14, go_sem]) rfl ?_
    exact empty_refW pc _ w _ HSY.out K1.out.made
  | true =>
    have hso : orderL pc l = rowP pc l := order_some (by rw [HOB.out]; exact hsy)
    rewrite [hso] at hn hir
    subst hn
    have HSY := Lib.hid hsy
    have hsd := said_of HSM.out hsy
    have hrl : (rowP pc l).length ≤ 4 := by rw [row_len]; exact HL4.out
    have HIR := Lib.hid hir
    have HSR := Lib.hid (show Said pc (rowP pc l) from fun x hx => hsd x ((row_perm pc l).mem_iff.1 hx))
    have HAN := Lib.hid (show anyP (rowP pc l) = true from (any_perm (row_perm pc l)).trans HPL.out)
    have HW := Lib.hid (show ∀ i j : Nat, IsChoice (rowP pc l) i j true → IsWords pc ⟨l, e0, e1, raw, true⟩ (endsL e0 e1 true (dupW pc (rowP pc l) i j)) from fun i j h => ⟨i, j, fun _ => h, (fun h => by cases h), rfl⟩)
    clear h1 hir hso hsy hsd HPL p0 p1 p2 p3 p4 lp K0
    generalize rowP pc l = r at *
    obtain ⟨p0, p1, p2, p3, p4⟩ := box_cells K1.out
    have lp := heap_lt K1.out.at_
    go_wp2_with (fail)
    refine (rchoose_any so c r w1 HIR.out (by omega)).mono ?_
    rintro e w2 ⟨i, j, ok, rfl, hch, h2⟩
    obtain rfl : ok = true := by rw [choice_any hch]; exact HAN.out
    obtain ⟨hij, hj, hoab, -⟩ := hch.some rfl
    have hi : i < r.length := by omega
    have HWW := Lib.hid (HW.out i j hch)
    have K2 := Lib.hid (K1.out.next h2)
    have I2 := Lib.hid (insts_made HIR.out h2)
    obtain ⟨x0, hx0⟩ : ∃ x, r[i] = x := ⟨_, rfl⟩
    obtain ⟨y0, hy0⟩ : ∃ x, r[j] = x := ⟨_, rfl⟩
    have hgx : r.getD i inZero = x0 := by simp [List.getD, hi, hx0]
    have hgy : r.getD j inZero = y0 := by simp [List.getD, hj, hy0]
    have hpb : pairB x0 y0 = true := by
      unfold okAt at hoab
      rw [hgx, hgy, Bool.and_eq_true] at hoab
      exact hoab.1
    obtain ⟨pv, hpv⟩ : ∃ v, pairP x0 y0 = (v, true) := ⟨(pairP x0 y0).1, Prod.ext rfl hpb⟩
    have HPU := Lib.hid (paired x0 y0 pv hpv).u32
    have HDW := Lib.hid (show dupW pc r i j = bareW pc (restOf r i j) ++ [pv] by unfold dupW; rw [hgx, hgy, hpv])
    have HPR := Lib.hid (fun u => (show Makes Tryz.prog u 33 #[x0.val, y0.val] (.tuple #[.int .u32 pv, .bool true]) from by
      have h := pair8_any u x0 y0 (HSR.out _ (hx0 ▸ List.getElem_mem hi)).1 (HSR.out _ (hy0 ▸ List.getElem_mem hj)).1
      rw [hpv] at h
      exact h))
    have HX0 := Lib.hid hx0
    have HY0 := Lib.hid hy0
    obtain ⟨kept, hkept⟩ : ∃ f : Nat → List In, f = fun k => restOf (r.take k) i j := ⟨_, rfl⟩
    have HK := Lib.hid (show Kept r i j kept by rw [hkept]; exact kept_pair r hij)
    have HKE := Lib.hid (show kept r.length = restOf r i j by rw [hkept]; exact rest_whole r i j)
    clear h2 hch hoab hgx hgy hpb hpv hx0 hy0 hkept HAN HW p0 p1 p2 p3 p4 lp K1 HIR
    obtain ⟨p0, p1, p2, p3, p4⟩ := box_cells K2.out
    have lp := heap_lt K2.out.at_
    go_wp2_with (fail)
    go_loopw [10, 11] (fun ov kk wk => ∃ (k : Nat) (v : Value), k ≤ r.length ∧ kk = .int .i64 k ∧ v = ov ∧ WordsAt w2 v (bareW pc (kept k)) wk) (fun _ kk _ => r.length - (intOf kk).toNat)
    case atStart => exact ⟨0, _, by omega, rfl, rfl, by rw [HK.out.zero]; exact words_nil (Made.refl _)⟩
    case round =>
      clear p0 p1 p2 p3 p4 lp
      obtain ⟨k, v, hk, rfl, rfl, hO⟩ := hrel
      have KV := Lib.hid hO
      clear hO
      by_cases hkl : k < r.length
      · have hkk := kept_len HK.out k hk
        have hLL := bareW_le pc (kept k)
        have hL8 : (bareW pc (kept k)).length ≤ 8 := by omega
        rcases HK.out.ways k hkl with ⟨g1, hnx⟩ | ⟨g1, g2, hnx⟩ | ⟨g1, g2, hnx⟩
        · have KN := Lib.hid (show WordsAt w2 v (bareW pc (kept (k + 1))) wr by rw [hnx]; exact KV.out)
          clear hnx hkk hLL hL8
          go_wp2
          go_roundw
          case rel => exact ⟨k + 1, _, by omega, by go_num, rfl, KN.out⟩
          case measure => simp [intOf]; omega
        · have KN := Lib.hid (show WordsAt w2 v (bareW pc (kept (k + 1))) wr by rw [hnx]; exact KV.out)
          clear hnx hkk hLL hL8
          go_wp2
          go_roundw
          case rel => exact ⟨k + 1, _, by omega, by go_num, rfl, KN.out⟩
          case measure => simp [intOf]; omega
        · obtain ⟨x, hx⟩ : ∃ x, r[k] = x := ⟨_, rfl⟩
          rewrite [hx] at hnx
          have hbn := bareW_one pc (kept k) x
          rewrite [← hnx] at hbn
          obtain ⟨hsx, hsay⟩ := HSR.out x (hx ▸ List.getElem_mem hkl)
          have hwd := refWord6_any wr x hsx pc hp wr (Made.refl wr)
          rewrite [hsay] at hwd
          have hup : isU32 (upP x pc) := upP_u32 x pc
          have hone : (x.ext = true ∧ bareW pc (kept (k + 1)) = bareW pc (kept k) ++ [wordZ 0 (upP x pc) 0] ++ [wordP x pc]) ∨ (x.ext = false ∧ bareW pc (kept (k + 1)) = bareW pc (kept k) ++ [wordP x pc]) := by
            unfold oneW at hbn
            cases hxe : x.ext with
            | true => rw [hxe] at hbn; exact .inl ⟨rfl, by rw [hbn]; simp⟩
            | false => rw [hxe] at hbn; exact .inr ⟨rfl, by rw [hbn]; simp⟩
          have HWD := Lib.hid hwd
          have HON := Lib.hid hone
          have HX := Lib.hid hx
          clear hnx hbn hkk hLL hwd hone hsay hsx
          generalize bareW pc (kept k) = L at *
          generalize upP x pc = up at *
          generalize wordP x pc = wd at *
          have HUW := Lib.hid (refWord_any 0 up 0 (by unfold isU8; omega) hup (by unfold isU8; omega))
          clear hup
          obtain ⟨b, o, rfl, c0, c1, c2, c3, c4, c5, c6, c7, c8, c9, c10⟩ := insts_cells (insts_made I2.out KV.out.made) hkl x hx
          clear hx
          go_wp2_with (fail)
          refine HWD.out.mono ?_
          rintro e w3 ⟨rfl, h3⟩
          have KV3 := Lib.hid (KV.out.next h3)
          clear h3 c0 c1 c2 c3 c4 c5 c6 c7 c8 c9 c10 KV
          have KV := Lib.hid KV3.out
          clear KV3
          obtain ⟨b', o', e', c0, c1, c2, c3, c4, c5, c6, c7, c8, c9, c10⟩ := insts_cells (insts_made I2.out KV.out.made) hkl x HX.out
          obtain ⟨rfl, rfl⟩ : b = b' ∧ o = o' := by simpa using e'
          have lb := World.block_lt_of_cell? w3 _ c0
          rcases HON.out with ⟨hxe, hbk⟩ | ⟨hxe, hbk⟩
          · rewrite [hxe] at c8
            have HBK := Lib.hid hbk
            clear hxe hbk HON e'
            go_wp2_with (fail)
            refine (HUW.out w3).mono ?_
            rintro e w4 ⟨rfl, hw4⟩
            subst hw4
            clear c0 c1 c2 c3 c4 c5 c6 c7 c8 c9 c10 lb
            generalize wordZ 0 up 0 = ew at *
            have m2 : Made w3 (w3.alloc (.cells (wordsV [ew]).toArray 23)) := (Made.refl w3).alloc (Nat.le_refl _) _
            have KA := Lib.hid (KV.out.next m2)
            have hone2 := Lib.hid (one_word w3 (ew))
            have hsz := Lib.hid KA.out.made.size
            have hmx : (L).length + 1 ≤ maxLen := by unfold maxLen; omega
            have hby : ((L).length + 1) * 4 ≤ 140737488355328 := by omega
            clear m2
            go_upto_region 15 with (at_builtin; refine wpList_append_each rfl (.tmp 65) (.tmp 68) 31 rfl w2.heap.size 23 i0 (.int .u32 0) 1 4 Tryz.underlying31 hi0 hz0 hz1 hz2 rfl (by decide) v (L).length (wordsV (L)) rfl KA.out.row (some ⟨w3.heap.size, 0, none⟩) 1 1 (wordsV [ew]) rfl (fun h => by simp at h) rfl hone2.out (words_one_cell _) hmx hby hsz.out ?_; intro v7 w9 own1 gr1; have KG := Lib.hid (KA.out.grows own1 gr1); clear own1 gr1)
            clear hone2 hsz hmx hby KA
            have KV1 := Lib.hid KG.out
            clear KG KV
            have KV := Lib.hid KV1.out
            clear KV1
            have hL9 : (L ++ [ew]).length ≤ 9 := by rw [List.length_append, List.length_singleton]; omega
            have m2 : Made w9 (w9.alloc (.cells (wordsV [wd]).toArray 23)) := (Made.refl w9).alloc (Nat.le_refl _) _
            have KA := Lib.hid (KV.out.next m2)
            have hone2 := Lib.hid (one_word w9 (wd))
            have hsz := Lib.hid KA.out.made.size
            have hmx : (L ++ [ew]).length + 1 ≤ maxLen := by unfold maxLen; omega
            have hby : ((L ++ [ew]).length + 1) * 4 ≤ 140737488355328 := by omega
            clear m2
            go_upto_region 10 with (at_builtin; refine wpList_append_each rfl (.tmp 70) (.tmp 72) 31 rfl w2.heap.size 23 i0 (.int .u32 0) 1 4 Tryz.underlying31 hi0 hz0 hz1 hz2 rfl (by decide) v7 (L ++ [ew]).length (wordsV (L ++ [ew])) rfl KA.out.row (some ⟨w9.heap.size, 0, none⟩) 1 1 (wordsV [wd]) rfl (fun h => by simp at h) rfl hone2.out (words_one_cell _) hmx hby hsz.out ?_; intro v8 w10 own1 gr1; have KG := Lib.hid (KA.out.grows own1 gr1); clear own1 gr1)
            clear hone2 hsz hmx hby KA
            have KN := Lib.hid (show WordsAt w2 v8 (bareW pc (kept (k + 1))) w10 by rw [HBK.out]; exact KG.out)
            go_wp2
            go_roundw
            case rel => exact ⟨k + 1, _, by omega, by go_num, rfl, KN.out⟩
            case measure => simp [intOf]; omega
          · rewrite [hxe] at c8
            have HBK := Lib.hid hbk
            clear hxe hbk HON e'
            go_upto_region 15 with (fail)
            clear c0 c1 c2 c3 c4 c5 c6 c7 c8 c9 c10 lb
            have m2 : Made w3 (w3.alloc (.cells (wordsV [wd]).toArray 23)) := (Made.refl w3).alloc (Nat.le_refl _) _
            have KA := Lib.hid (KV.out.next m2)
            have hone2 := Lib.hid (one_word w3 (wd))
            have hsz := Lib.hid KA.out.made.size
            have hmx : (L).length + 1 ≤ maxLen := by unfold maxLen; omega
            have hby : ((L).length + 1) * 4 ≤ 140737488355328 := by omega
            clear m2
            go_upto_region 10 with (at_builtin; refine wpList_append_each rfl (.tmp 70) (.tmp 72) 31 rfl w2.heap.size 23 i0 (.int .u32 0) 1 4 Tryz.underlying31 hi0 hz0 hz1 hz2 rfl (by decide) v (L).length (wordsV (L)) rfl KA.out.row (some ⟨w3.heap.size, 0, none⟩) 1 1 (wordsV [wd]) rfl (fun h => by simp at h) rfl hone2.out (words_one_cell _) hmx hby hsz.out ?_; intro v7 w9 own1 gr1; have KG := Lib.hid (KA.out.grows own1 gr1); clear own1 gr1)
            clear hone2 hsz hmx hby KA
            have KN := Lib.hid (show WordsAt w2 v7 (bareW pc (kept (k + 1))) w9 by rw [HBK.out]; exact KG.out)
            go_wp2
            go_roundw
            case rel => exact ⟨k + 1, _, by omega, by go_num, rfl, KN.out⟩
            case measure => simp [intOf]; omega
      · obtain rfl : k = r.length := by omega
        have KV1 := Lib.hid (show WordsAt w2 v (bareW pc (restOf r i j)) wr by rw [← HKE.out]; exact KV.out)
        clear KV
        have KV := Lib.hid KV1.out
        clear KV1
        have hn1 : decide ((i : Int) < 0) = false := decide_eq_false (by omega)
        have hn2 : decide ((j : Int) < 0) = false := decide_eq_false (by omega)
        have K3 := Lib.hid (K2.out.next KV.out.made)
        obtain ⟨p0, p1, p2, p3, p4⟩ := box_cells K3.out
        have lp := heap_lt K3.out.at_
        obtain ⟨b, o, rfl, c0, c1, c2, c3, c4, c5, c6, c7, c8, c9, c10⟩ := insts_cells (insts_made I2.out KV.out.made) hi x0 HX0.out
        obtain ⟨b', o', e', d0, d1, d2, d3, d4, d5, d6, d7, d8, d9, d10⟩ := insts_cells (insts_made I2.out KV.out.made) hj y0 HY0.out
        obtain ⟨rfl, rfl⟩ : b = b' ∧ o = o' := by simpa using e'
        have lb := World.block_lt_of_cell? wr _ c0
        have HPW := Lib.hid (HPR.out wr)
        have hWS : IsWords pc ⟨l, e0, e1, raw, true⟩ (endsL e0 e1 true (bareW pc (restOf r i j) ++ [pv])) := by rw [← HDW.out]; exact HWW.out
        have hWU : ∀ z ∈ bareW pc (restOf r i j) ++ [pv], isU32 z := fun z hz => by
          rcases List.mem_append.1 hz with h | h
          · exact (bareW_ok (fun x hx => HSR.out x (List.mem_of_mem_eraseIdx (List.mem_of_mem_eraseIdx hx))) z h).u
          · obtain rfl : z = pv := by simpa using h
            exact HPU.out
        have hLL := bareW_le pc (restOf r i j)
        have hLR : (restOf r i j).length ≤ 4 := by
          have h1 := rest_len r i j r.length
          rw [rest_whole] at h1
          omega
        have hL8 : (bareW pc (restOf r i j)).length ≤ 8 := by omega
        have HWS := Lib.hid hWS
        have HWU := Lib.hid hWU
        clear hWS hWU hLL hLR e'
        generalize bareW pc (restOf r i j) = L at *
        have gc0 := fun d os => cell_regrown c0 d os
        have gc1 := fun d os => cell_regrown c1 d os
        have gc2 := fun d os => cell_regrown c2 d os
        have gc3 := fun d os => cell_regrown c3 d os
        have gc4 := fun d os => cell_regrown c4 d os
        have gc5 := fun d os => cell_regrown c5 d os
        have gc6 := fun d os => cell_regrown c6 d os
        have gc7 := fun d os => cell_regrown c7 d os
        have gc8 := fun d os => cell_regrown c8 d os
        have gc9 := fun d os => cell_regrown c9 d os
        have gc10 := fun d os => cell_regrown c10 d os
        have gd0 := fun d os => cell_regrown d0 d os
        have gd1 := fun d os => cell_regrown d1 d os
        have gd2 := fun d os => cell_regrown d2 d os
        have gd3 := fun d os => cell_regrown d3 d os
        have gd4 := fun d os => cell_regrown d4 d os
        have gd5 := fun d os => cell_regrown d5 d os
        have gd6 := fun d os => cell_regrown d6 d os
        have gd7 := fun d os => cell_regrown d7 d os
        have gd8 := fun d os => cell_regrown d8 d os
        have gd9 := fun d os => cell_regrown d9 d os
        have gd10 := fun d os => cell_regrown d10 d os
        have hi0' : (0 : Int) ≤ (i : Int) := by omega
        have hi1' : (i : Int) < (r.length : Int) := by omega
        have hj0' : (0 : Int) ≤ (j : Int) := by omega
        have hj1' : (j : Int) < (r.length : Int) := by omega
        go_upto_region 19 with (fail)
        refine wp_region_quiet_below (by kernel_rfl) (by kernel_rfl) ?_
        repeat (go_big_quiet_step ((go_at_call 33; with_reducible exact HPW.out.again _ _)))
        refine wpQuiet_nil ?_
        intro w3 hz
        have KV1 := Lib.hid (KV.out.next (made_regrown hz))
        clear hz lb HPW p0 p1 p2 p3 p4 lp K3 gc0 c0 gc1 c1 gc2 c2 gc3 c3 gc4 c4 gc5 c5 gc6 c6 gc7 c7 gc8 c8 gc9 c9 gc10 c10 gd0 d0 gd1 d1 gd2 d2 gd3 d3 gd4 d4 gd5 d5 gd6 d6 gd7 d7 gd8 d8 gd9 d9 gd10 d10 KV
        have KV := Lib.hid KV1.out
        clear KV1
        have m2 : Made w3 (w3.alloc (.cells (wordsV [pv]).toArray 23)) := (Made.refl w3).alloc (Nat.le_refl _) _
        have KA := Lib.hid (KV.out.next m2)
        have hone2 := Lib.hid (one_word w3 (pv))
        have hsz := Lib.hid KA.out.made.size
        have hmx : (L).length + 1 ≤ maxLen := by unfold maxLen; omega
        have hby : ((L).length + 1) * 4 ≤ 140737488355328 := by omega
        clear m2
        go_upto_region 23 with (at_builtin; refine wpList_append_each rfl (.tmp 96) (.tmp 98) 31 rfl w2.heap.size 23 i0 (.int .u32 0) 1 4 Tryz.underlying31 hi0 hz0 hz1 hz2 rfl (by decide) v (L).length (wordsV (L)) rfl KA.out.row (some ⟨w3.heap.size, 0, none⟩) 1 1 (wordsV [pv]) rfl (fun h => by simp at h) rfl hone2.out (words_one_cell _) hmx hby hsz.out ?_; intro v7 w9 own1 gr1; have KG := Lib.hid (KA.out.grows own1 gr1); clear own1 gr1)
        clear hone2 hsz hmx hby KA
        clear KV
        have KV := Lib.hid KG.out
        clear KG
        have hwl : (L ++ [pv]).length ≤ 9 := by rw [List.length_append, List.length_singleton]; omega
        generalize L ++ [pv] = ws at *
        obtain ⟨so2, c2, hv2, -⟩ := KV.out.ws
        subst hv2
        have K3 := Lib.hid (K2.out.next KV.out.made)
        obtain ⟨p0, p1, p2, p3, p4⟩ := box_cells K3.out
        have lp := heap_lt K3.out.at_
        go_wp2_with (fail)
        go_loopw [17] (fun kk wk => ∃ k : Nat, k ≤ ws.length ∧ kk = .int .i64 k ∧ WordsAt w2 (.slice so2 ws.length c2) (endsTo e0 e1 true ws k) wk) (fun kk _ => ws.length - (intOf kk).toNat)
        case atStart => exact ⟨0, by omega, rfl, by rw [endsTo_none]; exact KV.out⟩
        case round =>
          clear p0 p1 p2 p3 p4 lp K3 KV
          obtain ⟨k, hk, rfl, hO⟩ := hrel
          have KR := Lib.hid hO
          clear hO
          by_cases hkl : k < ws.length
          · obtain ⟨g, rfl⟩ := words_some KR.out (by rw [endsTo_len]; omega)
            have ck := words_cell KR.out (k := k) (by rw [endsTo_len]; exact hkl)
            rewrite [endsTo_at e0 e1 true ws hkl] at ck
            have hset := KR.out.put k (putZ ws[k] 14 2 (parseAt e0 e1 true ws.length k))
            rewrite [← endsTo_put e0 e1 true ws hkl] at hset
            have hzu := HWU.out ws[k] (List.getElem_mem hkl)
            have fr := (words_row KR.out).frozenAt
            have lg := (KR.out.row.lt g rfl).2
            have K3 := Lib.hid (K2.out.next KR.out.made)
            obtain ⟨p0, p1, p2, p3, p4⟩ := box_cells K3.out
            have lp := heap_lt K3.out.at_
            generalize ws[k] = z at *
            have HPUT := Lib.hid (fun q (hq : isU32 q) => refPut_any z 14 2 q hzu hq (by unfold isI; omega) (by unfold isI; omega))
            have HSET := Lib.hid (show ∀ q, parseAt e0 e1 true ws.length k = q → WordsAt w2 (.slice (some ⟨g, 0, none⟩) ws.length c2) (endsTo e0 e1 true ws (k + 1)) (wr.setCell ⟨g, k, none⟩ (.int .u32 (putZ z 14 2 q))) from fun q hq => by rw [← hq]; exact hset)
            clear hset hzu
            by_cases hlast : k + 1 = ws.length
            · have gl : ((k : Int) == (ws.length : Int) - 1) = true := beq_iff_eq.2 (by omega)
              have HQ := Lib.hid (fun a b => parse_last a b true hlast)
              rcases bit_ways e0 e1 k with ⟨g0, rfl, -⟩ | ⟨g0, rfl, g1, -⟩ | ⟨g0, g1, rfl, -⟩ | ⟨g0, g1, rfl, -⟩ | ⟨g0, g1, -⟩
              all_goals
                go_wp2_with (fail)
                refine (HPUT.out _ (by unfold isU32; omega) wr).mono ?_
                rintro e w5 ⟨rfl, hw5⟩
                subst hw5
                have KN := Lib.hid (HSET.out _ (HQ.out _ _))
                go_wp2
                go_roundw
                case rel => exact ⟨k + 1, by omega, by go_num, KN.out⟩
                case measure => simp [intOf]; omega
            · have gl : ((k : Int) == (ws.length : Int) - 1) = false := beq_eq_false_iff_ne.2 (by omega)
              have HL := Lib.hid hlast
              clear hlast
              rcases bit_ways e0 e1 k with ⟨g0, rfl, hb⟩ | ⟨g0, rfl, g1, hb⟩ | ⟨g0, g1, rfl, hb⟩ | ⟨g0, g1, rfl, hb⟩ | ⟨g0, g1, hb⟩
              case' inl => have KN := Lib.hid (HSET.out _ (parse_two _ _ _ HL.out hb))
              case' inr.inl => have KN := Lib.hid (HSET.out _ (parse_one _ _ _ HL.out hb))
              case' inr.inr.inl => have KN := Lib.hid (HSET.out _ (parse_two _ _ _ HL.out hb))
              case' inr.inr.inr.inl => have KN := Lib.hid (HSET.out _ (parse_one _ _ _ HL.out hb))
              case' inr.inr.inr.inr => have KN := Lib.hid (HSET.out _ (parse_one _ _ _ HL.out hb))
              all_goals
                clear hb
                go_wp2_with (fail)
                refine (HPUT.out _ (by unfold isU32; omega) wr).mono ?_
                rintro e w5 ⟨rfl, hw5⟩
                subst hw5
                go_wp2
                go_roundw
                case rel => exact ⟨k + 1, by omega, by go_num, KN.out⟩
                case measure => simp [intOf]; omega
          · obtain rfl : k = ws.length := by omega
            have hfin := KR.out
            rewrite [endsTo_all] at hfin
            have HF := Lib.hid hfin
            clear hfin KR
            go_wp2
            refine bodyPost_ret (v := .tuple #[.slice so2 ws.length c2, .bool true]) (by simp [results, Tryz.results14, go_sem]) rfl ?_
            obtain ⟨so3, c3, e3, hws⟩ := HF.out.ws
            rewrite [endsL_len] at e3
            obtain ⟨rfl, rfl⟩ : so2 = so3 ∧ c2 = c3 := by simpa using e3
            exact ⟨so2, ws.length, c2, endsL e0 e1 true ws, by rw [HSY.out], endsL_len _ _ _ _, hws, Made.trans K2.out.made HF.out.made, (fun h => by rw [HSY.out] at h; cases h), fun _ => HWS.out⟩
set_option maxRecDepth 100000 in
set_option maxHeartbeats 64000000 in
theorem rwords12_plain (ao : Option Addr) (cap : Nat) (l : List In) (e0 e1 raw : Bool) (w : World) (hI : Insts w ao cap l) (hlg : legalP ⟨l, e0, e1, raw, false⟩ = 0) (pc : Int) (hp : isU32 pc) :
    Calls Tryz.prog 14 #[pkV ao l.length cap e0 e1 raw false, .int .u32 pc] w (WordedR pc ⟨l, e0, e1, raw, false⟩ w) := by
  have hl4 : l.length ≤ 4 := (legal_len hlg).1
  have hobs : orderB pc l = sayAll pc l := order_legal hlg
  have K0 := Lib.hid (box_start (Made.refl w) (boxL ao l.length cap e0 e1 raw false))
  have HR := Lib.hid (fun (u : World) (hu : Made w u) => rorder_any ao cap l u (insts_made hI hu) (by omega) pc hp)
  have HSM := Lib.hid hI.small
  have HOB := Lib.hid hobs
  have HL4 := Lib.hid hl4
  obtain ⟨i0, hi0, hz0, hz1, hz2⟩ := info_parts word_row
  clear hI hlg hobs
  go_enter Tryz.func14, Tryz.ntmps14
  obtain ⟨p0, p1, p2, p3, p4⟩ := box_cells K0.out
  have lp := heap_lt K0.out.at_
  go_wp2_with (fail)
  refine (HR.out _ K0.out.made).mono ?_
  rintro e w1 ⟨so, n, c, rfl, hn, hir, h1⟩
  have K1 := Lib.hid (K0.out.next h1)
  rewrite [HOB.out]
  cases hsy : sayAll pc l with
  | false =>
    have HSY := Lib.hid hsy
    clear h1 hir hn p0 p1 p2 p3 p4 lp K0
    clear hsy
    go_wp2
    refine bodyPost_ret (v := .tuple #[.slice none 0 0, .bool false]) (by simp [results, Tryz.results14, go_sem]) rfl ?_
    exact empty_refW pc _ w _ HSY.out K1.out.made
  | true =>
    have hso : orderL pc l = rowP pc l := order_some (by rw [HOB.out]; exact hsy)
    rewrite [hso] at hn hir
    subst hn
    have HSY := Lib.hid hsy
    have hsd := said_of HSM.out hsy
    have hrl : (rowP pc l).length ≤ 4 := by rw [row_len]; exact HL4.out
    have HIR := Lib.hid hir
    have HSR := Lib.hid (show Said pc (rowP pc l) from fun x hx => hsd x ((row_perm pc l).mem_iff.1 hx))
    have HWW := Lib.hid (show IsWords pc ⟨l, e0, e1, raw, false⟩ (endsL e0 e1 false (bareW pc (rowP pc l))) from ⟨0, 0, (fun h => by cases h), fun _ => ⟨rfl, rfl⟩, rfl⟩)
    clear h1 hir hso hsy hsd p0 p1 p2 p3 p4 lp K0
    generalize rowP pc l = r at *
    obtain ⟨w2, hw2⟩ : ∃ u, u = w1 := ⟨_, rfl⟩
    subst hw2
    have K2 := Lib.hid K1.out
    have I2 := Lib.hid HIR.out
    obtain ⟨kept, hkept⟩ : ∃ f : Nat → List In, f = fun k => r.take k := ⟨_, rfl⟩
    have HK := Lib.hid (show Kept r (-1) (-1) kept by rw [hkept]; exact kept_plain r)
    have HKE := Lib.hid (show kept r.length = r by rw [hkept]; exact List.take_length)
    clear hkept K1 HIR
    have hdum : True := trivial
    obtain ⟨p0, p1, p2, p3, p4⟩ := box_cells K2.out
    have lp := heap_lt K2.out.at_
    go_wp2_with (fail)
    go_loopw [10, 11] (fun ov kk wk => ∃ (k : Nat) (v : Value), k ≤ r.length ∧ kk = .int .i64 k ∧ v = ov ∧ WordsAt w2 v (bareW pc (kept k)) wk) (fun _ kk _ => r.length - (intOf kk).toNat)
    case atStart => exact ⟨0, _, by omega, rfl, rfl, by rw [HK.out.zero]; exact words_nil (Made.refl _)⟩
    case round =>
      clear p0 p1 p2 p3 p4 lp
      obtain ⟨k, v, hk, rfl, rfl, hO⟩ := hrel
      have KV := Lib.hid hO
      clear hO
      by_cases hkl : k < r.length
      · have hkk := kept_len HK.out k hk
        have hLL := bareW_le pc (kept k)
        have hL8 : (bareW pc (kept k)).length ≤ 8 := by omega
        rcases HK.out.ways k hkl with ⟨g1, hnx⟩ | ⟨g1, g2, hnx⟩ | ⟨g1, g2, hnx⟩
        · have KN := Lib.hid (show WordsAt w2 v (bareW pc (kept (k + 1))) wr by rw [hnx]; exact KV.out)
          clear hnx hkk hLL hL8
          go_wp2
          go_roundw
          case rel => exact ⟨k + 1, _, by omega, by go_num, rfl, KN.out⟩
          case measure => simp [intOf]; omega
        · exact absurd (g1.symm.trans g2) (by decide)
        · obtain ⟨x, hx⟩ : ∃ x, r[k] = x := ⟨_, rfl⟩
          rewrite [hx] at hnx
          have hbn := bareW_one pc (kept k) x
          rewrite [← hnx] at hbn
          obtain ⟨hsx, hsay⟩ := HSR.out x (hx ▸ List.getElem_mem hkl)
          have hwd := refWord6_any wr x hsx pc hp wr (Made.refl wr)
          rewrite [hsay] at hwd
          have hup : isU32 (upP x pc) := upP_u32 x pc
          have hone : (x.ext = true ∧ bareW pc (kept (k + 1)) = bareW pc (kept k) ++ [wordZ 0 (upP x pc) 0] ++ [wordP x pc]) ∨ (x.ext = false ∧ bareW pc (kept (k + 1)) = bareW pc (kept k) ++ [wordP x pc]) := by
            unfold oneW at hbn
            cases hxe : x.ext with
            | true => rw [hxe] at hbn; exact .inl ⟨rfl, by rw [hbn]; simp⟩
            | false => rw [hxe] at hbn; exact .inr ⟨rfl, by rw [hbn]; simp⟩
          have HWD := Lib.hid hwd
          have HON := Lib.hid hone
          have HX := Lib.hid hx
          clear hnx hbn hkk hLL hwd hone hsay hsx
          generalize bareW pc (kept k) = L at *
          generalize upP x pc = up at *
          generalize wordP x pc = wd at *
          have HUW := Lib.hid (refWord_any 0 up 0 (by unfold isU8; omega) hup (by unfold isU8; omega))
          clear hup
          obtain ⟨b, o, rfl, c0, c1, c2, c3, c4, c5, c6, c7, c8, c9, c10⟩ := insts_cells (insts_made I2.out KV.out.made) hkl x hx
          clear hx
          go_wp2_with (fail)
          refine HWD.out.mono ?_
          rintro e w3 ⟨rfl, h3⟩
          have KV3 := Lib.hid (KV.out.next h3)
          clear h3 c0 c1 c2 c3 c4 c5 c6 c7 c8 c9 c10 KV
          have KV := Lib.hid KV3.out
          clear KV3
          obtain ⟨b', o', e', c0, c1, c2, c3, c4, c5, c6, c7, c8, c9, c10⟩ := insts_cells (insts_made I2.out KV.out.made) hkl x HX.out
          obtain ⟨rfl, rfl⟩ : b = b' ∧ o = o' := by simpa using e'
          have lb := World.block_lt_of_cell? w3 _ c0
          rcases HON.out with ⟨hxe, hbk⟩ | ⟨hxe, hbk⟩
          · rewrite [hxe] at c8
            have HBK := Lib.hid hbk
            clear hxe hbk HON e'
            go_wp2_with (fail)
            refine (HUW.out w3).mono ?_
            rintro e w4 ⟨rfl, hw4⟩
            subst hw4
            clear c0 c1 c2 c3 c4 c5 c6 c7 c8 c9 c10 lb
            generalize wordZ 0 up 0 = ew at *
            have m2 : Made w3 (w3.alloc (.cells (wordsV [ew]).toArray 23)) := (Made.refl w3).alloc (Nat.le_refl _) _
            have KA := Lib.hid (KV.out.next m2)
            have hone2 := Lib.hid (one_word w3 (ew))
            have hsz := Lib.hid KA.out.made.size
            have hmx : (L).length + 1 ≤ maxLen := by unfold maxLen; omega
            have hby : ((L).length + 1) * 4 ≤ 140737488355328 := by omega
            clear m2
            go_upto_region 15 with (at_builtin; refine wpList_append_each rfl (.tmp 65) (.tmp 68) 31 rfl w2.heap.size 23 i0 (.int .u32 0) 1 4 Tryz.underlying31 hi0 hz0 hz1 hz2 rfl (by decide) v (L).length (wordsV (L)) rfl KA.out.row (some ⟨w3.heap.size, 0, none⟩) 1 1 (wordsV [ew]) rfl (fun h => by simp at h) rfl hone2.out (words_one_cell _) hmx hby hsz.out ?_; intro v7 w9 own1 gr1; have KG := Lib.hid (KA.out.grows own1 gr1); clear own1 gr1)
            clear hone2 hsz hmx hby KA
            have KV1 := Lib.hid KG.out
            clear KG KV
            have KV := Lib.hid KV1.out
            clear KV1
            have hL9 : (L ++ [ew]).length ≤ 9 := by rw [List.length_append, List.length_singleton]; omega
            have m2 : Made w9 (w9.alloc (.cells (wordsV [wd]).toArray 23)) := (Made.refl w9).alloc (Nat.le_refl _) _
            have KA := Lib.hid (KV.out.next m2)
            have hone2 := Lib.hid (one_word w9 (wd))
            have hsz := Lib.hid KA.out.made.size
            have hmx : (L ++ [ew]).length + 1 ≤ maxLen := by unfold maxLen; omega
            have hby : ((L ++ [ew]).length + 1) * 4 ≤ 140737488355328 := by omega
            clear m2
            go_upto_region 10 with (at_builtin; refine wpList_append_each rfl (.tmp 70) (.tmp 72) 31 rfl w2.heap.size 23 i0 (.int .u32 0) 1 4 Tryz.underlying31 hi0 hz0 hz1 hz2 rfl (by decide) v7 (L ++ [ew]).length (wordsV (L ++ [ew])) rfl KA.out.row (some ⟨w9.heap.size, 0, none⟩) 1 1 (wordsV [wd]) rfl (fun h => by simp at h) rfl hone2.out (words_one_cell _) hmx hby hsz.out ?_; intro v8 w10 own1 gr1; have KG := Lib.hid (KA.out.grows own1 gr1); clear own1 gr1)
            clear hone2 hsz hmx hby KA
            have KN := Lib.hid (show WordsAt w2 v8 (bareW pc (kept (k + 1))) w10 by rw [HBK.out]; exact KG.out)
            go_wp2
            go_roundw
            case rel => exact ⟨k + 1, _, by omega, by go_num, rfl, KN.out⟩
            case measure => simp [intOf]; omega
          · rewrite [hxe] at c8
            have HBK := Lib.hid hbk
            clear hxe hbk HON e'
            go_upto_region 15 with (fail)
            clear c0 c1 c2 c3 c4 c5 c6 c7 c8 c9 c10 lb
            have m2 : Made w3 (w3.alloc (.cells (wordsV [wd]).toArray 23)) := (Made.refl w3).alloc (Nat.le_refl _) _
            have KA := Lib.hid (KV.out.next m2)
            have hone2 := Lib.hid (one_word w3 (wd))
            have hsz := Lib.hid KA.out.made.size
            have hmx : (L).length + 1 ≤ maxLen := by unfold maxLen; omega
            have hby : ((L).length + 1) * 4 ≤ 140737488355328 := by omega
            clear m2
            go_upto_region 10 with (at_builtin; refine wpList_append_each rfl (.tmp 70) (.tmp 72) 31 rfl w2.heap.size 23 i0 (.int .u32 0) 1 4 Tryz.underlying31 hi0 hz0 hz1 hz2 rfl (by decide) v (L).length (wordsV (L)) rfl KA.out.row (some ⟨w3.heap.size, 0, none⟩) 1 1 (wordsV [wd]) rfl (fun h => by simp at h) rfl hone2.out (words_one_cell _) hmx hby hsz.out ?_; intro v7 w9 own1 gr1; have KG := Lib.hid (KA.out.grows own1 gr1); clear own1 gr1)
            clear hone2 hsz hmx hby KA
            have KN := Lib.hid (show WordsAt w2 v7 (bareW pc (kept (k + 1))) w9 by rw [HBK.out]; exact KG.out)
            go_wp2
            go_roundw
            case rel => exact ⟨k + 1, _, by omega, by go_num, rfl, KN.out⟩
            case measure => simp [intOf]; omega
      · obtain rfl : k = r.length := by omega
        have KV1 := Lib.hid (show WordsAt w2 v (bareW pc r) wr by have h := KV.out; rw [HKE.out] at h; exact h)
        clear KV
        have KV := Lib.hid KV1.out
        clear KV1
        have HWS := Lib.hid HWW.out
        have HWU := Lib.hid (show ∀ z ∈ bareW pc r, isU32 z from fun z hz => (bareW_ok HSR.out z hz).u)
        have hLL := bareW_le pc r
        have hwl : (bareW pc r).length ≤ 9 := by omega
        clear hLL HWW
        generalize bareW pc r = ws at *
        obtain ⟨so2, c2, hv2, -⟩ := KV.out.ws
        subst hv2
        have K3 := Lib.hid (K2.out.next KV.out.made)
        obtain ⟨p0, p1, p2, p3, p4⟩ := box_cells K3.out
        have lp := heap_lt K3.out.at_
        go_wp2_with (fail)
        go_loopw [17] (fun kk wk => ∃ k : Nat, k ≤ ws.length ∧ kk = .int .i64 k ∧ WordsAt w2 (.slice so2 ws.length c2) (endsTo e0 e1 false ws k) wk) (fun kk _ => ws.length - (intOf kk).toNat)
        case atStart => exact ⟨0, by omega, rfl, by rw [endsTo_none]; exact KV.out⟩
        case round =>
          clear p0 p1 p2 p3 p4 lp K3 KV
          obtain ⟨k, hk, rfl, hO⟩ := hrel
          have KR := Lib.hid hO
          clear hO
          by_cases hkl : k < ws.length
          · obtain ⟨g, rfl⟩ := words_some KR.out (by rw [endsTo_len]; omega)
            have ck := words_cell KR.out (k := k) (by rw [endsTo_len]; exact hkl)
            rewrite [endsTo_at e0 e1 false ws hkl] at ck
            have hset := KR.out.put k (putZ ws[k] 14 2 (parseAt e0 e1 false ws.length k))
            rewrite [← endsTo_put e0 e1 false ws hkl] at hset
            have hzu := HWU.out ws[k] (List.getElem_mem hkl)
            have fr := (words_row KR.out).frozenAt
            have lg := (KR.out.row.lt g rfl).2
            have K3 := Lib.hid (K2.out.next KR.out.made)
            obtain ⟨p0, p1, p2, p3, p4⟩ := box_cells K3.out
            have lp := heap_lt K3.out.at_
            generalize ws[k] = z at *
            have HPUT := Lib.hid (fun q (hq : isU32 q) => refPut_any z 14 2 q hzu hq (by unfold isI; omega) (by unfold isI; omega))
            have HSET := Lib.hid (show ∀ q, parseAt e0 e1 false ws.length k = q → WordsAt w2 (.slice (some ⟨g, 0, none⟩) ws.length c2) (endsTo e0 e1 false ws (k + 1)) (wr.setCell ⟨g, k, none⟩ (.int .u32 (putZ z 14 2 q))) from fun q hq => by rw [← hq]; exact hset)
            clear hset hzu
            by_cases hlast : k + 1 = ws.length
            · have gl : ((k : Int) == (ws.length : Int) - 1) = true := beq_iff_eq.2 (by omega)
              have HQ := Lib.hid (fun a b => parse_last a b false hlast)
              rcases bit_ways e0 e1 k with ⟨g0, rfl, -⟩ | ⟨g0, rfl, g1, -⟩ | ⟨g0, g1, rfl, -⟩ | ⟨g0, g1, rfl, -⟩ | ⟨g0, g1, -⟩
              all_goals
                go_wp2_with (fail)
                refine (HPUT.out _ (by unfold isU32; omega) wr).mono ?_
                rintro e w5 ⟨rfl, hw5⟩
                subst hw5
                have KN := Lib.hid (HSET.out _ (HQ.out _ _))
                go_wp2
                go_roundw
                case rel => exact ⟨k + 1, by omega, by go_num, KN.out⟩
                case measure => simp [intOf]; omega
            · have gl : ((k : Int) == (ws.length : Int) - 1) = false := beq_eq_false_iff_ne.2 (by omega)
              have HL := Lib.hid hlast
              clear hlast
              rcases bit_ways e0 e1 k with ⟨g0, rfl, hb⟩ | ⟨g0, rfl, g1, hb⟩ | ⟨g0, g1, rfl, hb⟩ | ⟨g0, g1, rfl, hb⟩ | ⟨g0, g1, hb⟩
              case' inl => have KN := Lib.hid (HSET.out _ (parse_two _ _ _ HL.out hb))
              case' inr.inl => have KN := Lib.hid (HSET.out _ (parse_one _ _ _ HL.out hb))
              case' inr.inr.inl => have KN := Lib.hid (HSET.out _ (parse_two _ _ _ HL.out hb))
              case' inr.inr.inr.inl => have KN := Lib.hid (HSET.out _ (parse_one _ _ _ HL.out hb))
              case' inr.inr.inr.inr => have KN := Lib.hid (HSET.out _ (parse_one _ _ _ HL.out hb))
              all_goals
                clear hb
                go_wp2_with (fail)
                refine (HPUT.out _ (by unfold isU32; omega) wr).mono ?_
                rintro e w5 ⟨rfl, hw5⟩
                subst hw5
                go_wp2
                go_roundw
                case rel => exact ⟨k + 1, by omega, by go_num, KN.out⟩
                case measure => simp [intOf]; omega
          · obtain rfl : k = ws.length := by omega
            have hfin := KR.out
            rewrite [endsTo_all] at hfin
            have HF := Lib.hid hfin
            clear hfin KR
            go_wp2
            refine bodyPost_ret (v := .tuple #[.slice so2 ws.length c2, .bool true]) (by simp [results, Tryz.results14, go_sem]) rfl ?_
            obtain ⟨so3, c3, e3, hws⟩ := HF.out.ws
            rewrite [endsL_len] at e3
            obtain ⟨rfl, rfl⟩ : so2 = so3 ∧ c2 = c3 := by simpa using e3
            exact ⟨so2, ws.length, c2, endsL e0 e1 false ws, by rw [HSY.out], endsL_len _ _ _ _, hws, Made.trans K2.out.made HF.out.made, (fun h => by rw [HSY.out] at h; cases h), fun _ => HWS.out⟩
theorem rwords12_any (ao : Option Addr) (cap : Nat) (l : List In) (e0 e1 raw dup : Bool) (w : World) (hI : Insts w ao cap l) (hlg : legalP ⟨l, e0, e1, raw, dup⟩ = 0) (pc : Int) (hp : isU32 pc) :
    Calls Tryz.prog 14 #[pkV ao l.length cap e0 e1 raw dup, .int .u32 pc] w (WordedR pc ⟨l, e0, e1, raw, dup⟩ w) := by
  cases dup
  · exact rwords12_plain ao cap l e0 e1 raw w hI hlg pc hp
  · exact rwords12_dup ao cap l e0 e1 raw w hI hlg pc hp
end
end Go.Proofs.YtdghnlbfmaehoaaGreatDoor
