/- ExprAsks walked, of any rows of terms and names; no condition but the values' ranges. -/
import Derived.Test.YtebpimjbjjmpaaaExprLaws2
import Derived.Test.YtebpimjbjjmpaaaExprAskI
import Derived.Test.YtebpimjbjjmpaaaExprAskM
namespace Go.Proofs.Ytebpimjbjjmpaaa
open Go.ChangeShapes Go.WideShapes Go.ChangeAt Go.RowKit Go.Sort BigFrame

theorem nm_one (l : List Nm) : ∀ u ∈ l.flatMap Nm.cells, u.oneCell' = true := by
  intro u hu
  obtain ⟨x, _, h⟩ := List.mem_flatMap.1 hu
  simp only [List.mem_cons, List.not_mem_nil, or_false] at h
  rcases h with h | h | h <;> rw [h] <;> rfl
theorem nm_olds (w : World) (t : Nm) : ∀ ad, (some ⟨w.heap.size, 0, none⟩ : Option Addr) = some ad → ∀ j u, ([t].flatMap Nm.cells)[j]? = some u → (w.alloc (.cells ([t].flatMap Nm.cells).toArray 38)).cell? (ad.add j) = some u :=
  recs_olds nm_len (by decide) (recs_lit (l := [t]) (n := 1) nm_len (heap_alloc_new w _) rfl (by omega))
abbrev Nm.val (t : Nm) : Value := .agg #[.string (strOf t.name), .int .i64 t.v, .int .i64 t.e]
theorem nm_row : (Try.prog.info? 38).map (fun i => (i.zero, i.size, i.bytes)) = some (some (Nm.val ⟨[], 0, 0⟩), 3, 32) := by kernel_rfl
/-- Behind Eval: what was asked, in its box, and the function value of the names. -/
structure AU (W : World) (pb vb c : Nat) (T : TypeId) (so : Option Addr) (cp : Nat) (L : List (List UInt8)) (no : Option Addr) (m nc : Nat) (u : World) : Prop where
  made : Made W u
  row : Txs u so cp L
  box : u.heap[pb]? = some (.cells #[.slice so L.length cp] 22 (0, 0))
  fn : u.heap[vb]? = some (.cells #[.func (.func 33) #[] #[.pointer (some ⟨c, 0, none⟩)]] 32 (0, 0))
  nm : u.heap[c]? = some (.cells #[.slice no m nc] T (0, 0))
theorem AU.next {W u u1 : World} {pb vb c cp m nc : Nat} {T : TypeId} {so no : Option Addr} {L : List (List UInt8)} (h : AU W pb vb c T so cp L no m nc u) (hm : Made u u1) : AU W pb vb c T so cp L no m nc u1 :=
  ⟨Made.trans h.made hm, h.row.made tx_len hm, hm.heap h.box, hm.heap h.fn, hm.heap h.nm⟩
theorem au_of {W W3 u : World} {pb vb c m nc : Nat} {T : TypeId} {no : Option Addr} {L : List (List UInt8)} {F : Nat → Prop} (hW : Made W W3) (hpl : W.heap.size ≤ pb) (hvb : W3.heap[vb]? = some (.cells #[.func (.func 33) #[] #[.pointer (some ⟨c, 0, none⟩)]] 32 (0, 0))) (hvp : vb ≠ pb)
    (hc : W3.heap[c]? = some (.cells #[.slice no m nc] T (0, 0))) (hcp : c ≠ pb) (h : RA W3 pb L F u) : ∃ so cp, AU W pb vb c T so cp L no m nc u := by
  obtain ⟨v, h⟩ := h
  obtain ⟨so, cp, rfl, hr⟩ := (owns_recs tx_len (by decide) h.row).2
  refine ⟨so, cp, ⟨h.os.trans hW.os, h.tape.trans hW.tape, h.output.trans hW.output, Nat.le_trans hW.size h.size, fun g hg => (h.old g (Nat.lt_of_lt_of_le hg hW.size) (by omega)).trans (hW.block g hg)⟩, hr, h.box, (h.old vb (heap_lt hvb) hvp).trans hvb, (h.old c (heap_lt hc) hcp).trans hc⟩
section
attribute [local irreducible] World.cell?
@[local go_sem] theorem run_store_fn7 (P : Program) (w : World) (a : Addr) (m : Mode) (fn : Fn) (first captured : Array Value) : (store a (.func fn first captured) m).run P w = stored P w a (.func fn first captured) m := run_store P w a _ m rfl
set_option maxRecDepth 100000 in
set_option maxHeartbeats 8000000 in
theorem by_quiet (W : World) (ao : Option Addr) (cap : Nat) (l : List Nm) (hT : Nms W ao cap l) (hl : l.length ≤ 100000) (c : Nat) (T : TypeId) (hc : W.heap[c]? = some (.cells #[.slice ao l.length cap] T (0, 0))) (s : List UInt8) : Calls Try.prog 33 #[.string (strOf s), .pointer (some ⟨c, 0, none⟩)] W fun x u => x = .returned (.tuple #[.int .i64 (askL l s).1, .int .i64 (askL l s).2]) ∧ ∃ nd, u = W.drewN nd := by
  have HT := Lib.hid hT
  have HC := Lib.hid hc
  clear hT hc
  go_enter Try.func33, Try.ntmps33
  go_wp2_with (fail)
  go_loopw [5] (fun iv wr => ∃ k nd : Nat, k ≤ l.length ∧ iv = .int .i64 k ∧ askL (l.drop k) s = askL l s ∧ wr = W.drewN nd) (fun iv _ => l.length - (intOf iv).toNat)
  case atStart => exact ⟨0, 0, Nat.zero_le _, rfl, rfl, rfl⟩
  case round =>
    obtain ⟨k, nd, hk, rfl, hok, hwq⟩ := hrel
    have hmr : Made W wr := hwq ▸ below_drewN (Made.refl W) nd
    have HW := Lib.hid hwq
    have MR := Lib.hid hmr
    have HOK := Lib.hid hok
    have cc : wr.cell? ⟨c, 0, none⟩ = some (.slice ao l.length cap) := cell_of_lit (cs := [.slice ao l.length cap]) (hmr.heap HC.out) 0
    clear hok hmr hwq
    by_cases hlt : k < l.length
    rotate_left
    · obtain rfl : k = l.length := by omega
      have HR := Lib.hid (show askL l s = (0, 4) by rw [← HOK.out, List.drop_length]; rfl)
      go_wp2
      refine bodyPost_ret (v := .tuple #[.int .i64 0, .int .i64 4]) (by simp [results, Try.results33, go_sem]) rfl ?_
      exact ⟨by rw [HR.out], nd, HW.out⟩
    · obtain ⟨x, hx⟩ : ∃ x, l[k] = x := ⟨_, rfl⟩
      obtain ⟨b, o, rfl, c0, c1, c2⟩ := nms_cells (HT.out.made nm_len MR.out) hlt x hx
      have HST := Lib.hid (show askL l s = if x.name = s then (x.v, x.e) else askL (l.drop (k + 1)) s by rw [← HOK.out, List.drop_eq_getElem_cons hlt, hx]; rfl)
      have hki : (k : Int) < (l.length : Int) := by omega
      clear hx HOK
      obtain ⟨xn, xv, xe⟩ := x
      by_cases hn : xn = s
      · have g : (xn == s) = true := beq_iff_eq.2 hn
        have HR := Lib.hid (show askL l s = (xv, xe) by rw [HST.out]; exact if_pos hn)
        clear hn
        go_upto_region 5 with (fail)
        go_quiet (fail)
        rename_i nq
        go_wp2
        refine bodyPost_ret (v := .tuple #[.int .i64 xv, .int .i64 xe]) (by simp [results, Try.results33, go_sem]) rfl ?_
        exact ⟨by rw [HR.out], nd + nq, by rw [HW.out, World.drewN_drewN]⟩
      · have g : (xn == s) = false := beq_eq_false_iff_ne.2 hn
        have HR := Lib.hid (show askL (l.drop (k + 1)) s = askL l s by rw [HST.out]; exact (if_neg hn).symm)
        clear hn
        go_wp2
        go_roundw
        case rel => exact ⟨k + 1, nd, by omega, by go_num, HR.out, HW.out⟩
        case measure => simp [intOf]; omega
set_option maxRecDepth 100000 in
set_option maxHeartbeats 32000000 in
theorem asks_any (W : World) (ao : Option Addr) (cap : Nat) (e : List Tm) (hT : Tms W ao cap e) (hNM : ∀ t ∈ e, t.name.length ≤ 140737488351232) (no : Option Addr) (nc : Nat) (l : List Nm) (hN : Nms W no nc l) (h64 : ∀ s, -9223372036854775808 ≤ (askL l s).1 ∧ (askL l s).1 ≤ 9223372036854775807) (n m : Nat) (hn : e.length = n) (hm : l.length = m) :
    Calls Try.prog 8 #[.slice ao n cap, .slice no m nc] W fun x w' => x = .returned (.bool true) ∧ Made W w' := by
  have HA := Lib.hid (awake15_any W)
  by_cases hbig : 60 < n ∨ 10 < m
  · clear hT hN h64 hn hm
    go_enter Try.func8, Try.ntmps8
    by_cases h60 : 60 < n
    · have g : (60 : Int) < (n : Int) := by omega
      clear hbig
      go_wp2_with (fail)
      refine (HA.out W (Made.refl W)).mono ?_
      rintro x w1 ⟨rfl, h1⟩
      have M1 := Lib.hid h1
      clear h1
      go_wp2
      go_ret
      exact ⟨rfl, M1.out⟩
    · have g : (n : Int) ≤ 60 := by omega
      have g2 : (10 : Int) < (m : Int) := by omega
      clear hbig h60
      go_wp2_with (fail)
      refine (HA.out W (Made.refl W)).mono ?_
      rintro x w1 ⟨rfl, h1⟩
      have M1 := Lib.hid h1
      clear h1
      go_wp2
      go_ret
      exact ⟨rfl, M1.out⟩
  · have hn60 : n ≤ 60 := by omega
    have hm10 : m ≤ 10 := by omega
    have gn : (n : Int) ≤ 60 := by omega
    have gm : (m : Int) ≤ 10 := by omega
    have HT := Lib.hid hT
    have HN := Lib.hid hN
    have HNM := Lib.hid hNM
    have H64 := Lib.hid h64
    have HL := Lib.hid (And.intro hn hm)
    clear hbig hT hN hNM h64 hn hm
    go_enter Try.func8, Try.ntmps8
    go_wp2_with (fail)
    obtain ⟨W1, hW1⟩ : ∃ W1, W1 = W.alloc (.cells #[.slice none 0 0] 22 (0, 0)) := ⟨_, rfl⟩
    refine (mkby_any _ _ _ _).mono ?_
    rintro x w2 ⟨hx, hw2⟩
    rewrite [← hW1] at hx hw2
    subst hx
    have m1 : Made W W1 := by rw [hW1]; exact (Made.refl W).alloc (Nat.le_refl _) _
    have m2 : Made W1 w2 := by rw [hw2]; exact (Made.refl W1).alloc (Nat.le_refl _) _
    have hpb : w2.heap[W.heap.size]? = some (.cells #[.slice none 0 0] 22 (0, 0)) := m2.heap (by rw [hW1]; exact heap_alloc_new W _)
    have hcb : w2.heap[W1.heap.size]? = some (.cells #[.slice no m nc] 39 (0, 0)) := by rw [hw2]; exact heap_alloc_new W1 _
    have hcp : W1.heap.size ≠ W.heap.size := by rw [hW1]; simp
    have H2 := Lib.hid (And.intro (Made.trans m1 m2) (And.intro hpb hcb))
    have HCP := Lib.hid hcp
    have lpb := heap_lt hpb
    have lcb := heap_lt hcb
    generalize W1.heap.size = c at *
    clear hW1 hw2 m1 m2 hpb hcb hcp
    have hnew := heap_alloc_new w2 (.cells #[.nilFunc] 32 (0, 0))
    have cnv := cell_of_lit (cs := [.nilFunc]) hnew 0
    have fnv := free_of_lit hnew
    have lnv := heap_lt hnew
    clear hnew
    go_upto_region 5 with (fail)
    obtain ⟨vb, hvb⟩ : ∃ vb, vb = w2.heap.size := ⟨_, rfl⟩
    have m3 : Made w2 (w2.alloc (.cells #[.func (.func 33) #[] #[.pointer (some ⟨c, 0, none⟩)]] 32 (0, 0))) := (Made.refl w2).alloc (Nat.le_refl _) _
    refine world_named (fun y => Made W y ∧ W.heap.size < y.heap.size ∧ y.heap[W.heap.size]? = some (.cells #[.slice none 0 0] 22 (0, 0)) ∧ y.heap[c]? = some (.cells #[.slice no m nc] 39 (0, 0)) ∧ y.heap[vb]? = some (.cells #[.func (.func 33) #[] #[.pointer (some ⟨c, 0, none⟩)]] 32 (0, 0))) ⟨Made.trans H2.out.1 m3, Nat.lt_of_lt_of_le lpb m3.size, m3.heap H2.out.2.1, m3.heap H2.out.2.2, by rw [hvb]; exact heap_alloc_new w2 _⟩ ?_
    rewrite [← hvb]
    have hvp : vb ≠ W.heap.size := by omega
    clear m3 hvb lcb cnv fnv lnv lpb H2
    rintro y ⟨hmy, hsy, hpy, hcy, hvy⟩
    have hEB := xevalB_any y ao cap e (HT.out.made tm_len hmy) (by rw [HL.out.1]; omega) _ _ _ _ _ (gather_asks W y hmy W.heap.size vb c (Nat.le_refl _) hsy _ hvy hvp no nc l HN.out (by rw [HL.out.2]; omega) (by rw [HL.out.2]; exact hcy) HCP.out) (ra_start hpy) H64.out
    have HEB := Lib.hid hEB
    rewrite [HL.out.1] at HEB
    have HAU := Lib.hid (fun (L : List (List UInt8)) (F : Nat → Prop) (u : World) (h : RA y W.heap.size L F u) => au_of hmy (Nat.le_refl _) hvy hvp hcy HCP.out h)
    clear hEB hmy hsy hpy hcy hvy
    obtain ⟨ev, ee, hev⟩ : ∃ ev ee, evL (askL l) e = (ev, ee) := ⟨_, _, rfl⟩
    have HEVL := Lib.hid hev
    go_wp2_with (fail)
    refine HEB.out.mono ?_
    rintro x u1 ⟨hx, F', hR, -, -⟩
    rewrite [hev] at hx
    subst hx
    obtain ⟨so, cp, hau⟩ := HAU.out _ _ _ hR
    have KU := Lib.hid hau
    clear hau hR HEB HAU hev
    have HAF := Lib.hid (asked_few (askL l) e)
    have HAN := Lib.hid (asked_names (askL l) e)
    have HRT := Lib.hid (xright_any u1 ao cap e (HT.out.made tm_len KU.out.made) (by rw [HL.out.1]; omega) u1 (Made.refl u1))
    rewrite [HL.out.1] at HRT HAF
    go_wp2_with (fail)
    refine HRT.out.mono ?_
    cases hr : rightB e with
    | false =>
      rintro x u2 ⟨rfl, hm2⟩
      have hev1 : ev = 0 ∧ ee = 1 := by
        have h9 := HEVL.out
        unfold evL at h9
        rw [if_neg (by simp [hr])] at h9
        simpa [eq_comm] using h9
      obtain ⟨rfl, rfl⟩ := hev1
      have hl0 : (askedL (askL l) e) = [] := by unfold askedL; rw [if_neg (by simp [hr])]
      have HNL := Lib.hid (show namesL e = [] by unfold namesL; rw [hr]; rfl)
      rewrite [hl0] at KU
      have cb := cell_of_lit (cs := [.slice so ([] : List (List UInt8)).length cp]) (KU.out.next hm2).box 0
      have KV := Lib.hid (KU.out.next hm2)
      have HN1 := Lib.hid (xnames_any ao cap e u2 (HT.out.made tm_len KV.out.made) (by rw [HL.out.1]; omega) HNM.out)
      rewrite [HL.out.1, HNL.out] at HN1
      clear hm2 KU hl0 HAF HAN hr HEVL HRT
      go_wp2_with (fail)
      refine HN1.out.mono ?_
      rintro x u3 ⟨so3, c3, rfl, -, h3⟩
      have K3 := Lib.hid (KV.out.next h3)
      clear h3 HN1
      go_wp2_with (fail)
      refine (HA.out u3 K3.out.made).mono ?_
      rintro x u4 ⟨rfl, h4⟩
      have M4 := Lib.hid h4
      clear h4
      go_wp2
      go_ret
      exact ⟨rfl, M4.out⟩
    | true =>
      rintro x u2 ⟨rfl, hm2⟩
      have hAN := HAN.out hr
      have HAN2 := Lib.hid hAN
      have KV := Lib.hid (KU.out.next hm2)
      have HI := Lib.hid (info_parts str_row)
      have HI2 := Lib.hid (info_parts nm_row)
      have HSAME := Lib.hid (fun ask' (h : ∀ s ∈ namesL e, askL l s = ask' s) => ev_same (askL l) ask' e hr h)
      clear hm2 KU hAN HAN hr HRT
      generalize askedL (askL l) e = L at *
      have hLn := HAF.out
      have K0 := Lib.hid (show Grows txC 1 9 u2 u2.heap.size (.slice none 0 0) (dd (L.take 0)) u2 from grows_nil (Made.refl u2) (Nat.le_refl _))
      go_wp2_with (fail)
      go_loopw [9, 10] (fun fv iv wr => ∃ k : Nat, k ≤ L.length ∧ iv = .int .i64 k ∧ Grows txC 1 9 u2 u2.heap.size fv (dd (L.take k)) wr) (fun _ iv _ => L.length - (intOf iv).toNat)
      case atStart => exact ⟨0, Nat.zero_le _, rfl, K0.out⟩
      case round =>
        clear K0
        obtain ⟨k, hk, rfl, hN⟩ := hrel
        obtain ⟨sf, cf, rfl, hrec⟩ := hN.recs tx_len (by decide)
        have KN := Lib.hid hN
        have HRC := Lib.hid hrec
        have hfew := dd_few (L.take k)
        rewrite [List.length_take, Nat.min_eq_left hk] at hfew
        have KW := Lib.hid (KV.out.next hN.made)
        have cbx := cell_of_lit (cs := [.slice so L.length cp]) KW.out.box 0
        clear hN hrec
        by_cases hk1 : k < L.length
        rotate_left
        · obtain rfl : k = L.length := by omega
          rewrite [List.take_length] at HRC hfew
          rewrite [List.take_length]
          have hdl := HAN2.out.2
          have hnl : (namesL e).length ≤ n := by have := names_most e; have := HL.out.1; omega
          have HNE := Lib.hid HAN2.out.1
          clear KN HAF HAN2 HI
          generalize dd L = D at *
          have HN1 := Lib.hid (xnames_any ao cap e wr (HT.out.made tm_len KW.out.made) (by rw [HL.out.1]; omega) HNM.out)
          rewrite [HL.out.1] at HN1
          go_wp2_with (fail)
          refine HN1.out.mono ?_
          rintro x w5 ⟨sn, cn, rfl, hX, h5⟩
          have HX := Lib.hid hX
          have K5 := Lib.hid (KW.out.next h5)
          have HD := Lib.hid (HRC.out.made tx_len h5)
          have hle : (D.length : Int) ≤ ((namesL e).length : Int) := by omega
          clear hX h5 HN1 HRC KW
          have hln : ((namesL e).length : Int) ≤ 10000 := by omega
          clear cbx
          obtain ⟨NL, hNL⟩ : ∃ NL, namesL e = NL := ⟨_, rfl⟩
          have HNLE := Lib.hid hNL
          rewrite [hNL] at HX HNE HSAME hnl hle hln hdl
          rewrite [hNL]
          clear hNL
          have gle : D.length ≤ NL.length := hdl
          have HND := Lib.hid (show (ee = 0) → NL = D from fun h => HNE.out (by rw [HEVL.out]; exact h))
          have HLN := Lib.hid hnl
          have HVP := Lib.hid hvp
          clear hle hln HNE hvp hLn hfew hdl hnl hk hk1
          cases g0 : (ee == 0)
          case' false =>
            obtain ⟨w6, hw6⟩ : ∃ w6, w6 = w5 := ⟨_, rfl⟩
            subst hw6
            have HX6 := Lib.hid HX.out
            have K6 := Lib.hid K5.out
            clear HX K5 HD HND
            go_wp2_with (fail)
          case' true =>
            have hnd := HND.out (beq_iff_eq.1 g0)
            have HTX := Lib.hid (texts15_any sn sf cn cf NL w5 HX.out (by rw [hnd]; exact HD.out) (by have := HLN.out; omega) _ D.length rfl (by rw [hnd]))
            clear hnd
            go_wp2_with (fail)
            refine HTX.out.mono ?_
            rintro x w6 ⟨rfl, h6⟩
            have HX6 := Lib.hid (HX.out.made tx_len h6)
            have K6 := Lib.hid (K5.out.next h6)
            clear h6 HX K5 HD HND HTX
            go_wp2_with (fail)
          all_goals
            have hln : (NL.length : Int) ≤ 10000 := by have := HLN.out; omega
            have O0 := Lib.hid (show Grows Nm.cells 3 38 w6 w6.heap.size (.slice none 0 0) (ownL (askL l) (NL.take 0)) w6 from grows_nil (Made.refl w6) (Nat.le_refl _))
            have hq : (NL.length < D.length) = False := eq_false (by omega)
            simp only [hq, decide_false]
            clear gle hq
            go_loopw [14, 15] (fun ov iv wz => ∃ k : Nat, k ≤ NL.length ∧ iv = .int .i64 k ∧ Grows Nm.cells 3 38 w6 w6.heap.size ov (ownL (askL l) (NL.take k)) wz) (fun _ iv _ => NL.length - (intOf iv).toNat)
            case atStart => exact ⟨0, Nat.zero_le _, rfl, O0.out⟩
            case round =>
              clear O0
              obtain ⟨k, hk, rfl, hG⟩ := hrel
              obtain ⟨sg, cg, rfl, hrec⟩ := hG.recs nm_len (by decide)
              have KG0 := Lib.hid hG
              have HREC := Lib.hid hrec
              have hlo : (ownL (askL l) (NL.take k)).length = k := by simp only [ownL, List.length_map, List.length_take]; omega
              have K7 := Lib.hid (K6.out.next hG.made)
              have HX7 := Lib.hid (HX6.out.made tx_len hG.made)
              clear hG hrec
              have HLO := Lib.hid hlo
              rewrite [hlo]
              clear hlo
              by_cases hk1 : k < NL.length
              rotate_left
              · obtain rfl : k = NL.length := by omega
                rewrite [List.take_length] at HREC HLO
                have hev2 : evL (askL (ownL (askL l) NL)) e = (ev, ee) := (HSAME.out _ (fun s hs => (ask_own (askL l) NL s hs).symm)).symm.trans HEVL.out
                have HEV2 := Lib.hid hev2
                clear hev2 KG0 HSAME HEVL hk hk1
                go_wp2_with (fail)
                refine (mkby_any _ _ _ _).mono ?_
                rintro x w8 ⟨rfl, hw8⟩
                have hc8 : w8.heap[wr.heap.size]? = some (.cells #[.slice sg NL.length cg] 39 (0, 0)) := by rw [hw8]; exact heap_alloc_new wr _
                have m8 : Made wr w8 := by rw [hw8]; exact (Made.refl wr).alloc (Nat.le_refl _) _
                have HAS := Lib.hid (by_asks w8 sg cg (ownL (askL l) NL) (HREC.out.made nm_len m8) (by rw [HLO.out]; have := HLN.out; omega) _ _ (by rw [HLO.out]; exact hc8))
                have HEV := Lib.hid (xeval_any w8 ao cap e (HT.out.made tm_len (Made.trans K7.out.made m8)) (by rw [HL.out.1]; omega) _ _ _ _ (fun _ => False) HAS.out ⟨fun _ h => h, Made.refl w8⟩ (own_64 (askL l) H64.out NL))
                rewrite [HL.out.1] at HEV
                have M8 := Lib.hid (Made.trans K7.out.made m8)
                clear hw8 hc8 m8 HAS
                go_wp2_with (fail)
                refine HEV.out.mono ?_
                rintro x w9 ⟨hx, F2, ⟨hF2, hm9⟩, -, -⟩
                rewrite [HEV2.out] at hx
                subst hx
                have M9 := Lib.hid (Made.trans M8.out hm9)
                clear hm9 HEV
                have hbb : (ev == ev) = true := by simp
                have hbe : (ee == ee) = true := by simp
                go_wp2_with (fail)
                refine (HA.out w9 M9.out).mono ?_
                rintro x wa ⟨rfl, ha⟩
                have MA := Lib.hid ha
                clear ha
                go_wp2
                go_ret
                exact ⟨rfl, MA.out⟩
              · obtain ⟨t, ht⟩ : ∃ t, NL[k] = t := ⟨_, rfl⟩
                obtain ⟨b', o', rfl, cy⟩ := txs_cell HX7.out hk1 t ht
                have cvb := cell_of_lit (cs := [.func (.func 33) #[] #[.pointer (some ⟨c, 0, none⟩)]]) K7.out.fn 0
                have HBQ := Lib.hid (show ∀ nd, Calls Try.prog 33 #[.string (strOf t), .pointer (some ⟨c, 0, none⟩)] (wr.drewN nd) fun x u => x = .returned (.tuple #[.int .i64 (askL l t).1, .int .i64 (askL l t).2]) ∧ ∃ n, u = wr.drewN n from fun nd =>
                  (by_quiet (wr.drewN nd) no nc l (HN.out.made nm_len (below_drewN K7.out.made nd)) (by rw [HL.out.2]; omega) c _ (by rw [HL.out.2]; exact K7.out.nm) t).mono fun x u h => by
                    obtain ⟨he, nd2, hk⟩ := h
                    exact ⟨he, nd + nd2, by rw [hk, World.drewN_drewN]⟩)
                have HST := Lib.hid (show ownL (askL l) (NL.take (k + 1)) = ownL (askL l) (NL.take k) ++ [⟨t, (askL l t).1, (askL l t).2⟩] by rw [List.take_succ_eq_append_getElem hk1, ht]; simp [ownL])
                have hki : (k : Int) < (NL.length : Int) := by omega
                clear ht
                obtain ⟨av, hav⟩ : ∃ av, (askL l t).1 = av := ⟨_, rfl⟩
                obtain ⟨ae, hae⟩ : ∃ ae, (askL l t).2 = ae := ⟨_, rfl⟩
                rewrite [hav, hae] at HST HBQ
                clear hav hae
                go_upto_region 26 with (fail)
                go_quiet ((exact HBQ.out _))
                rename_i nq
                have KA := Lib.hid (KG0.out.next (Made.trans (below_drewN (Made.refl wr) nq) ((Made.refl (wr.drewN nq)).alloc (Nat.le_refl _) (.cells ([(⟨t, av, ae⟩ : Nm)].flatMap Nm.cells).toArray 38))))
                have HOL := Lib.hid (nm_olds (wr.drewN nq) ⟨t, av, ae⟩)
                have hsz := Lib.hid KA.out.made.size
                have hmx : k + 1 ≤ maxLen := by unfold maxLen; have := HLN.out; omega
                have hby : (k + 1) * 32 ≤ 140737488355328 := by have := HLN.out; omega
                have HOW := Lib.hid (show (_ : World).ownsRow w6.heap.size 38 3 (.slice sg k cg) k ((ownL (askL l) (NL.take k)).flatMap Nm.cells) from by have h9 := KA.out.row; rwa [HLO.out] at h9)
                obtain ⟨i0, hi0, hz0, hz1, hz2⟩ := HI2.out
                go_wp2_with (at_builtin; refine wpList_append_each rfl (.tmp 121) (.tmp 129) 39 rfl w6.heap.size 38 i0 (Nm.val ⟨[], 0, 0⟩) 3 32 Try.underlying39 hi0 hz0 hz1 hz2 rfl (by decide) (.slice sg k cg) k ((ownL (askL l) (NL.take k)).flatMap Nm.cells) rfl HOW.out (some ⟨wr.heap.size, 0, none⟩) 1 1 ([(⟨t, av, ae⟩ : Nm)].flatMap Nm.cells) rfl (fun h => by simp at h) rfl HOL.out (nm_one _) hmx hby hsz.out ?_; intro v7 w9 own1 gr1; have KG := Lib.hid (KA.out.more (l2 := [⟨t, av, ae⟩]) (n := k + 1) (by rw [HLO.out]; rfl) own1 (by rw [HLO.out]; exact gr1)); clear own1 gr1)
                go_roundw
                case rel => exact ⟨k + 1, by omega, by go_num, by rw [HST.out]; exact KG.out⟩
                case measure => simp [intOf]; omega
        · obtain ⟨t, ht⟩ : ∃ t, L[k] = t := ⟨_, rfl⟩
          have HTM := Lib.hid (fun u (hu : Made wr u) => txs_cell ((KW.out.next hu).row) hk1 t ht)
          have HST := Lib.hid (show dd (L.take (k + 1)) = if t ∈ dd (L.take k) then dd (L.take k) else dd (L.take k) ++ [t] by rw [List.take_succ_eq_append_getElem hk1, ht, dd_snoc])
          have hki : (k : Int) < (L.length : Int) := by omega
          have hen : (L.length : Int) ≤ 10000 := by omega
          obtain ⟨tb, o, rfl, -⟩ := HTM.out wr (Made.refl wr)
          clear ht
          generalize dd (L.take k) = D at *
          obtain ⟨wo, hwo⟩ : ∃ wo, wo = wr := ⟨_, rfl⟩
          subst hwo
          go_wp2_with (fail)
          go_loopw [11, 12] (fun bv jv wz => ∃ (j nd : Nat) (b : Bool), j ≤ D.length ∧ bv = .bool b ∧ jv = .int .i64 j ∧ b = decide (t ∈ D.take j) ∧ wz = wo.drewN nd) (fun _ jv _ => D.length - (intOf jv).toNat)
          case atStart => exact ⟨0, 0, false, Nat.zero_le _, rfl, rfl, by simp, rfl⟩
          case round =>
            obtain ⟨j, nd, b, hj, rfl, rfl, hb, hwq⟩ := hrel
            have HB := Lib.hid hb
            have HW := Lib.hid hwq
            have MQ := Lib.hid (show Made wo wr from hwq ▸ below_drewN (Made.refl wo) nd)
            clear hb hwq cbx
            have cbx := cell_of_lit (cs := [.slice (some ⟨tb, o, none⟩) L.length cp]) (KW.out.next MQ.out).box 0
            by_cases hj1 : j < D.length
            · obtain ⟨y, hy⟩ : ∃ y, D[j] = y := ⟨_, rfl⟩
              obtain ⟨nb, no, rfl, cy⟩ := txs_cell (HRC.out.made tx_len MQ.out) hj1 y hy
              obtain ⟨b', o', e', c2⟩ := HTM.out wr MQ.out
              obtain ⟨rfl, rfl⟩ : tb = b' ∧ o = o' := by simpa using e'
              clear e'
              have hji : (j : Int) < (D.length : Int) := by omega
              have HNX := Lib.hid (show decide (t ∈ D.take (j + 1)) = (b || (y == t)) by
                rw [HB.out, List.take_succ_eq_append_getElem hj1, hy, Bool.eq_iff_iff]
                simp only [List.mem_append, List.mem_singleton, decide_eq_true_eq, Bool.or_eq_true, beq_iff_eq]
                exact ⟨fun h => h.imp id Eq.symm, fun h => h.imp id Eq.symm⟩)
              cases b with
              | true =>
                go_upto_region 16 with (fail)
                go_quiet (fail)
                rename_i nq
                go_wp2
                go_roundw
                case rel => exact ⟨j + 1, nd + nq, true, by omega, rfl, by go_num, by rw [HNX.out]; rfl, by rw [HW.out, World.drewN_drewN]⟩
                case measure => simp [intOf]; omega
              | false =>
                cases hyt : (y == t) with
                | true =>
                  go_upto_region 16 with (fail)
                  go_quiet (fail)
                  rename_i nq
                  go_wp2
                  go_roundw
                  case rel => exact ⟨j + 1, nd + nq, true, by omega, rfl, by go_num, by rw [HNX.out, hyt]; rfl, by rw [HW.out, World.drewN_drewN]⟩
                  case measure => simp [intOf]; omega
                | false =>
                  go_upto_region 16 with (fail)
                  go_quiet (fail)
                  rename_i nq
                  go_wp2
                  go_roundw
                  case rel => exact ⟨j + 1, nd + nq, false, by omega, rfl, by go_num, by rw [HNX.out, hyt]; rfl, by rw [HW.out, World.drewN_drewN]⟩
                  case measure => simp [intOf]; omega
            · obtain rfl : j = D.length := by omega
              have KQ := Lib.hid (KN.out.next MQ.out)
              have KWQ := Lib.hid (KW.out.next MQ.out)
              have hbm : b = decide (t ∈ D) := by rw [HB.out, List.take_length]
              have HBM := Lib.hid hbm
              obtain ⟨b', o', e', c2⟩ := HTM.out wr MQ.out
              obtain ⟨rfl, rfl⟩ : tb = b' ∧ o = o' := by simpa using e'
              clear e' hbm KN MQ HB HW
              cases b with
              | true =>
                have hin : t ∈ D := of_decide_eq_true HBM.out.symm
                have HE := Lib.hid (show dd (L.take (k + 1)) = D by rw [HST.out]; exact if_pos hin)
                clear hin
                go_wp2
                go_roundw
                case rel => exact ⟨k + 1, by omega, by go_num, by rw [HE.out]; exact KQ.out⟩
                case measure => simp [intOf]; omega
              | false =>
                have hin : t ∉ D := of_decide_eq_false HBM.out.symm
                have HE := Lib.hid (show dd (L.take (k + 1)) = D ++ [t] by rw [HST.out]; exact if_neg hin)
                clear hin
                have KA := Lib.hid (KQ.out.next ((Made.refl wr).alloc (Nat.le_refl _) (.cells ([t].flatMap txC).toArray 9)))
                have HOL := Lib.hid (tx_olds wr t)
                have hsz := Lib.hid KA.out.made.size
                have hmx : D.length + 1 ≤ maxLen := by unfold maxLen; omega
                have hby : (D.length + 1) * 16 ≤ 140737488355328 := by omega
                obtain ⟨i0, hi0, hz0, hz1, hz2⟩ := HI.out
                go_wp2_with (at_builtin; refine wpList_append_each rfl (.tmp 82) (.tmp 87) 22 rfl u2.heap.size 9 i0 (.string ⟨#[]⟩) 1 16 Try.underlying22 hi0 hz0 hz1 hz2 rfl (by decide) (.slice sf D.length cf) D.length (D.flatMap txC) rfl KA.out.row (some ⟨wr.heap.size, 0, none⟩) 1 1 ([t].flatMap txC) rfl (fun h => by simp at h) rfl HOL.out (tx_one _) hmx hby hsz.out ?_; intro v7 w9 own1 gr1; have KG := Lib.hid (KA.out.more rfl own1 gr1); clear own1 gr1)
                go_roundw
                case rel => exact ⟨k + 1, by omega, by go_num, by rw [HE.out]; exact KG.out⟩
                case measure => simp [intOf]; omega
end
namespace exprAsks
theorem walk (W : World) (ao : Option Addr) (c : Nat) (e : List Tm) (no : Option Addr) (nc : Nat) (l : List Nm) (w : TmIn W ao c e) (w2 : NmIn W no nc l) : Calls Try.prog 8 #[.slice ao e.length c, .slice no l.length nc] W fun x w' => x = .returned (.bool true) ∧ Made W w' :=
  asks_any W ao c e w.row w.nm no nc l w2.row w2.v64 _ _ rfl rfl
end exprAsks
end Go.Proofs.Ytebpimjbjjmpaaa
