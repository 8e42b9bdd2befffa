/- ExprAll walked, of any text; no condition. -/
import Derived.Test.YtebpimjbjjmpaaaExprLaws3
import Derived.Test.YtebpimjbjjmpaaaExprRefU
import Derived.Test.YtebpimjbjjmpaaaExprUse
import Derived.Test.YtebpimjbjjmpaaaLexTwo
import Derived.Test.YtebpimjbjjmpaaaExprRun
namespace Go.Proofs.Ytebpimjbjjmpaaa
open Go.ChangeShapes Go.WideShapes Go.ChangeAt Go.RowKit Go.Sort BigFrame

theorem int15_row : (Try.prog.info? 3).map (fun i => (i.zero, i.size, i.bytes)) = some (some (Value.int .i64 0), 1, 8) := by kernel_rfl
/-- A row of counts of the call's own. -/
structure CAt (W : World) (g : Nat) (c : Nat → Nat) (n : Nat) (u : World) : Prop where
  made : Made W u
  blk : u.heap[g]? = some (.cells (useC n c).toArray 3 (0, 0))
  low : W.heap.size ≤ g
theorem CAt.next {W u u1 : World} {g n : Nat} {c : Nat → Nat} (h : CAt W g c n u) (hm : Made u u1) : CAt W g c n u1 := ⟨Made.trans h.made hm, hm.heap h.blk, h.low⟩
theorem CAt.set {W u : World} {g n : Nat} {c d : Nat → Nat} (h : CAt W g c n u) (j : Nat) (v : Value) (hd : (useC n c).set j v = useC n d) : CAt W g d n (u.setCell ⟨g, j, none⟩ v) := by
  refine ⟨Below.setCell h.made (p := ⟨g, j, none⟩) h.low _, ?_, h.low⟩
  have := heap_setCell_same u g j (useC n c).toArray 3 v h.blk
  rwa [List.setIfInBounds_toArray, hd] at this
theorem CAt.cell {W u : World} {g n : Nat} {c : Nat → Nat} (h : CAt W g c n u) {j : Nat} (hj : j < n) : u.cell? ⟨g, j, none⟩ = some (.int .i64 (c j : Int)) := (cell_of_lit h.blk j).trans (use_at c hj)
theorem CAt.turn {W u : World} {g n : Nat} {c d : Nat → Nat} (h : CAt W g c n u) (hd : useC n c = useC n d) : CAt W g d n u := ⟨h.made, by rw [← hd]; exact h.blk, h.low⟩
theorem cnt_small : ∀ (e : List Tm) (j : Nat), cntR e j ≤ 2 * e.length
  | [], _ => Nat.zero_le _
  | x :: r, j => by
    have := cnt_small r j
    simp only [cntR, List.map_cons, List.sum_cons, List.length_cons] at this ⊢
    split <;> split <;> omega
namespace exprAll
section
attribute [local irreducible] World.cell?
set_option maxRecDepth 100000 in
set_option maxHeartbeats 64000000 in
theorem walk (W : World) (a0 : ByteArray) (w0 : a0.size ≤ maxLen) : Calls Try.prog 7 #[.string a0] W fun e w' => e = .returned (.bool true) ∧ Made W w' := by
  have HA := Lib.hid (fun (u : World) (hu : Made W u) => awake15_any W u hu)
  unfold maxLen at w0
  obtain ⟨i0, hi0, hz0, hz1, hz2⟩ := info_parts int15_row
  obtain ⟨S, l, hS, hl, hways⟩ := xcut_text a0 500
  have HL := Lib.hid (fun (u : World) => cut_any S l hS (by omega) u)
  have hfT := cutT_few l
  have htx : ∀ t ∈ cutT l, t.text.length ≤ l.length := fun t ht => lex_text l t (List.mem_of_mem_take ht)
  clear hS
  generalize hT : cutT l = T at *
  have HTXT := Lib.hid (show ∀ t ∈ T, t.text.length ≤ 140737488351232 from fun t ht => by have := htx t ht; omega)
  clear htx
  obtain ⟨res, hres⟩ := rd_total (T.map Tk.q)
  have HRR := Lib.hid hres
  have HP := Lib.hid (fun so c u (h : Toks u so c T) => xparse_any so c T u h (by omega) HTXT.out res hres)
  have HT := Lib.hid hT
  clear hT hres
  have hcut : ((a0.size : Int) ≤ 500 ∧ S = a0) ∨ ((500 : Int) < (a0.size : Int) ∧ S = a0.extract 0 500) := by
    rcases hways with ⟨h1, h2⟩ | ⟨h1, h2⟩
    · exact .inl ⟨h2, h1⟩
    · exact .inr ⟨h2, h1⟩
  clear hways
  go_enter Try.func7, Try.ntmps7
  go_upto_if 15 with (fail)
  go_cut [0] from 16 to 17 (fun v wc => v = .string S ∧ W = wc)
  case first =>
    rcases hcut with ⟨hs, rfl⟩ | ⟨hs, rfl⟩
    · go_wp2
      go_meet
      case rel => exact ⟨rfl, rfl⟩
    · go_wp2
      go_meet
      case rel => exact ⟨rfl, rfl⟩
  case rest =>
    obtain ⟨rfl, rfl⟩ := hcut
    clear hcut
    go_wp2_with (fail)
    refine (HL.out _).mono ?_
    rintro e w1 ⟨so, c, rfl, hT1, h1⟩
    rewrite [HT.out] at hT1
    rewrite [HT.out]
    have KT := Lib.hid hT1
    have M1 := Lib.hid h1
    clear hT1 h1
    go_wp2_with (fail)
    refine (HP.out so c _ KT.out).mono ?_
    intro x w2 hq
    have hTl : (((T.map Tk.q).length : Nat) : Int) = (T.length : Int) := by rw [List.length_map]
    cases res with
    | bad r wy =>
      obtain ⟨rfl, hm2⟩ := hq
      have M2 := Lib.hid (Made.trans M1.out hm2)
      have hrl := (rd_len HRR.out).1
      have hwy := rd_why HRR.out r wy rfl
      simp only [Rs.rest, List.length_map] at hrl
      rewrite [hTl]
      obtain ⟨nn, hnn⟩ : ∃ nn : Nat, (T.length : Int) - (r.length : Int) = (nn : Int) := ⟨T.length - r.length, by omega⟩
      have g1 : (0 : Int) ≤ (nn : Int) := by omega
      have g2 : (nn : Int) ≤ (T.length : Int) := by omega
      rewrite [hnn]
      clear hm2 hTl hrl hnn
      rcases hwy with rfl | rfl
      · go_wp2_with (fail)
        refine (HA.out _ M2.out).mono ?_
        rintro x wz ⟨rfl, hmz⟩
        have MZ := Lib.hid hmz
        clear hmz
        go_wp2
        go_ret
        exact ⟨rfl, MZ.out⟩
      · go_wp2_with (fail)
        refine (HA.out _ M2.out).mono ?_
        rintro x wz ⟨rfl, hmz⟩
        have MZ := Lib.hid hmz
        clear hmz
        go_wp2
        go_ret
        exact ⟨rfl, MZ.out⟩
    | ok a r =>
      obtain ⟨s1, c1, rfl, hE, hm2⟩ := hq
      have M2 := Lib.hid (Made.trans M1.out hm2)
      have KT2 := Lib.hid (toks_made KT.out hm2)
      have HE := Lib.hid hE
      have hrl := (rd_len HRR.out).2 a r rfl
      have hfew := rd_few HRR.out a r rfl
      have hfine := rd_fine HRR.out a r rfl trivial
      have hpl := post_len a 0
      simp only [Md.eats, List.length_map] at hrl hfew
      rewrite [hTl]
      obtain ⟨nn, hnn⟩ : ∃ nn : Nat, (T.length : Int) - (r.length : Int) = (nn : Int) := ⟨T.length - r.length, by omega⟩
      have g1 : (0 : Int) < (nn : Int) := by omega
      have g2 : (nn : Int) ≤ (T.length : Int) := by omega
      have HNN := Lib.hid hnn
      rewrite [hnn]
      have HF := Lib.hid hfine
      have HPL := Lib.hid hpl
      have hsz : a.size ≤ 500 := by omega
      have HXR := Lib.hid (show Makes Try.prog w2 22 #[.slice s1 a.size c1] (.bool true) from by
        have h := xright_any w2 s1 c1 (a.post 0) hE (by rw [hpl]; omega)
        rwa [hpl, post_right hfine] at h)
      clear hm2 hTl hrl hE hfew hfine hpl hnn
      go_wp2_with (fail)
      refine (HXR.out _ (Made.refl _)).mono ?_
      rintro x w3 ⟨rfl, hm3⟩
      have M3 := Lib.hid (Made.trans M2.out hm3)
      have HE3 := Lib.hid (HE.out.made tm_len hm3)
      have KT3 := Lib.hid (toks_made KT2.out hm3)
      have hap : 0 < a.size := by have := post_ne a 0; have h9 := HPL.out; exact Nat.pos_of_ne_zero fun h0 => this (List.eq_nil_of_length_eq_zero (h9.trans h0))
      obtain ⟨z, hz⟩ : ∃ z, z = a.size := ⟨_, rfl⟩
      rewrite [← hz] at hap hsz
      rewrite [← hz]
      have HZ := Lib.hid hz
      obtain ⟨Q, hQ⟩ : ∃ Q, Q = madeCells (Value.int .i64 0).cells (((z : Nat) : Int).toNat * i0.size) := ⟨_, rfl⟩
      have hQl : Q = (useC z (cntR ((a.post 0).take 0))).toArray := by
        rw [hQ, hz1, Nat.mul_one, Int.toNat_natCast]
        apply Array.toList_inj.1
        rw [show (Value.int .i64 0).cells = #[Value.int .i64 0] from rfl, toList_madeCells_one]
        unfold useC
        refine List.ext_getElem (by simp) fun i h1 h2 => ?_
        simp [cntR]
      have hmk : ∀ u : World, (Instr.makeSlice 23 (.int .i64 (z : Int)) (.int .i64 (z : Int))).run Try.prog u = .ok (.slice (some ⟨u.heap.size, 0, none⟩) z z) (u.alloc (.cells Q 3)) := fun u => by
        have h := run_make (P := Try.prog) u 23 3 i0 (.int .i64 0) Try.underlying23 hi0 hz0 .i64 .i64 (z : Int) (z : Int) (by omega) (by omega) (by rw [hz2]; omega) (by omega)
        rw [← hQ] at h
        simpa using h
      have HX := Lib.hid (show CAt w3 w3.heap.size (cntR ((a.post 0).take 0)) z (w3.alloc (.cells Q 3)) from ⟨(Made.refl w3).alloc (Nat.le_refl _) _, by rw [hQl]; exact heap_alloc_new w3 _, Nat.le_refl _⟩)
      have hn0 : ((nn : Int) == 0) = false := beq_eq_false_iff_ne.2 (by omega)
      clear hQ hQl hm3 hz hi0 hz0 hz1 hz2
      go_wp2_with (fail)
      clear hmk
      go_loopw [8] (fun iv wr => ∃ k : Nat, k ≤ z ∧ iv = .int .i64 k ∧ CAt w3 w3.heap.size (cntR ((a.post 0).take k)) z wr) (fun iv _ => z - (intOf iv).toNat)
      case atStart => exact ⟨0, Nat.zero_le _, rfl, HX.out⟩
      case round =>
        clear HX
        obtain ⟨k, hk, rfl, hU⟩ := hrel
        have KU := Lib.hid hU
        clear hU
        generalize hg : w3.heap.size = g at *
        have HG := Lib.hid hg
        clear hg
        by_cases hlt : k < z
        · have hkl : k < (a.post 0).length := by rw [HPL.out, ← HZ.out]; exact hlt
          obtain ⟨x, hx⟩ : ∃ x, (a.post 0)[k] = x := ⟨_, rfl⟩
          have hok := ok_at (a.post 0) 0 k (by have h := post_right HF.out; unfold rightB at h; exact (Bool.and_eq_true_iff.1 h).1) hkl
          rw [Nat.zero_add, hx] at hok
          obtain ⟨oa, ob⟩ := ok_refs hok
          obtain ⟨b, o, rfl, c0, c1, c2, c3, c4⟩ := tms_cells (HE3.out.made tm_len KU.out.made) hkl x hx
          have hgb : b ≠ g := by
            obtain ⟨b', o', e', d0, -⟩ := tms_cells HE3.out hkl x hx
            obtain ⟨rfl, rfl⟩ : b = b' ∧ o = o' := by simpa using e'
            have h9 := World.block_lt_of_cell? w3 _ d0
            have h8 := HG.out
            simp only [] at h9
            omega
          have ft0 := free_of_lit KU.out.blk
          have lt0 := heap_lt KU.out.blk
          have hkz : (k : Int) < (z : Int) := by omega
          have hz5 : (z : Int) ≤ 500 := by omega
          have HX := Lib.hid hx
          have HOA := Lib.hid oa
          have HOB := Lib.hid ob
          clear hok oa ob hx
          obtain ⟨tk, tv, tn, ta, tb⟩ := x
          simp only [] at c0 c1 c2 c3 c4
          by_cases h3 : tk < 3
          · have KN := Lib.hid (KU.out.turn (use_zero hkl _ HX.out h3))
            have g3 : ¬ (3 ≤ tk) := by omega
            have g3d : decide (3 ≤ tk) = false := decide_eq_false g3
            go_wp2
            go_roundw
            case rel => exact ⟨k + 1, by omega, by go_num, KN.out⟩
            case measure => simp [intOf]; omega
          · have h3' : 3 ≤ tk := by omega
            obtain ⟨ja, hja⟩ : ∃ ja : Nat, ta = (ja : Int) := ⟨ta.toNat, by have : 0 ≤ ta := (HOA.out h3').1; omega⟩
            have hjz : ja < z := by have : 0 ≤ ta ∧ ta < (k : Int) := HOA.out h3'; omega
            have hjz1 : (ja : Int) < (z : Int) := by omega
            subst hja
            have cu := KU.out.cell hjz
            have hsm := cnt_small ((a.post 0).take k) ja
            rewrite [List.length_take] at hsm
            have hsm2 : cntR ((a.post 0).take k) ja ≤ 1000 := by omega
            clear hsm
            obtain ⟨cv, hcv⟩ : ∃ cv, cv = cntR ((a.post 0).take k) ja := ⟨_, rfl⟩
            rewrite [← hcv] at cu hsm2
            have HCV := Lib.hid hcv
            clear hcv h3
            have g3d : decide (3 ≤ tk) = true := decide_eq_true h3'
            by_cases h6 : 6 ≤ tk
            · have KN := Lib.hid (KU.out.set ja (.int .i64 ((cv : Int) + 1)) (by rw [HCV.out]; exact use_one hkl _ HX.out h3' h6 rfl hjz))
              have g6 : ¬ (tk ≤ 5) := by omega
              go_wp2
              go_roundw
              case rel => exact ⟨k + 1, by omega, by go_num, KN.out⟩
              case measure => simp [intOf]; omega
            · have h6' : tk ≤ 5 := by omega
              have g6d : decide (tk ≤ 5) = true := decide_eq_true h6'
              obtain ⟨jb, hjb⟩ : ∃ jb : Nat, tb = (jb : Int) := ⟨tb.toNat, by have : 0 ≤ tb := (HOB.out h3' (show tk < 6 by omega)).1; omega⟩
              have hjbz : jb < z := by have : 0 ≤ tb ∧ tb < (k : Int) := HOB.out h3' (show tk < 6 by omega); omega
              have hjbz1 : (jb : Int) < (z : Int) := by omega
              subst hjb
              have KM := Lib.hid (KU.out.set ja (.int .i64 ((cv : Int) + 1)) (by rw [HCV.out]; exact use_set _ hjz))
              go_upto_region 17 with (fail)
              refine world_named (fun u => CAt w3 g (fun j => cntR ((a.post 0).take k) j + if ja = j then 1 else 0) z u) KM.out ?_
              intro u hu
              have KV := Lib.hid hu
              have cu2 := hu.cell hjbz
              have hsm3 := cnt_small ((a.post 0).take k) jb
              rewrite [List.length_take] at hsm3
              obtain ⟨cw, hcw⟩ : ∃ cw : Nat, cw = cntR ((a.post 0).take k) jb + if ja = jb then 1 else 0 := ⟨_, rfl⟩
              have hsm4 : cw ≤ 1001 := by rw [hcw]; split <;> omega
              have KN := Lib.hid (hu.set jb (.int .i64 ((cw : Int) + 1)) (by rw [hcw]; exact use_two hkl _ HX.out h3' (show tk < 6 by omega) rfl rfl hjbz))
              rewrite [← hcw] at cu2
              obtain ⟨b', o', e', c0, c1, c2, c3, c4⟩ := tms_cells (HE3.out.made tm_len KV.out.made) hkl _ HX.out
              obtain ⟨rfl, rfl⟩ : b = b' ∧ o = o' := by simpa using e'
              have ft1 := free_of_lit KV.out.blk
              have lt1 := heap_lt KV.out.blk
              clear e' hu KM KU cu hsm3 hcw ft0 lt0
              go_wp2
              go_roundw
              case rel => exact ⟨k + 1, by omega, by go_num, KN.out⟩
              case measure => simp [intOf]; omega
        · obtain rfl : k = z := by omega
          have KF := Lib.hid (KU.out.turn (d := cntR (a.post 0)) (by rw [List.take_of_length_le (by rw [HPL.out, ← HZ.out]; exact Nat.le_refl _)]))
          clear KU hlt
          go_wp2_with (fail)
          go_loopw [9] (fun iv wq => ∃ j : Nat, j ≤ k - 1 ∧ iv = .int .i64 j ∧ CAt w3 g (cntR (a.post 0)) k wq) (fun iv _ => k - 1 - (intOf iv).toNat)
          case atStart => exact ⟨0, Nat.zero_le _, rfl, KF.out⟩
          case round =>
            obtain ⟨j, hj, rfl, hC⟩ := hrel
            have KC := Lib.hid hC
            clear hC KF
            by_cases hj1 : j < k - 1
            · have hji : (j : Int) < (k : Int) - 1 := by omega
              have hjk : (j : Int) < (k : Int) := by omega
              have cj := KC.out.cell (j := j) (by omega)
              rewrite [use_post HF.out (by rw [← HZ.out]; omega)] at cj
              go_wp2
              go_roundw
              case rel => exact ⟨j + 1, by omega, by go_num, KC.out⟩
              case measure => simp [intOf]; omega
            · obtain rfl : j = k - 1 := by omega
              obtain ⟨m, hm⟩ : ∃ m : Nat, m + 1 = k := ⟨k - 1, by omega⟩
              have hm1 : (k : Int) - 1 = (m : Int) := by omega
              have hmk : (m : Int) < (k : Int) := by omega
              have hge : ¬ (((k - 1 : Nat) : Int) < (m : Int)) := by omega
              have cl := KC.out.cell (j := m) (by omega)
              rewrite [show cntR (a.post 0) m = 0 from by have h9 := use_last HF.out; rwa [show a.size - 1 = m by have := HZ.out; omega] at h9] at cl
              obtain ⟨j0, hj0, hy0, hy1, hy2⟩ := info_parts tkA_row
              have hnT : nn ≤ T.length := by omega
              have hlT : (T.take nn).length = nn := by rw [List.length_take]; omega
              obtain ⟨b0, o0, hso, -⟩ := KT3.out.cell 0 (by omega)
              subst hso
              have hroom := KT3.out.room
              have hnc : (nn : Int) ≤ (c : Int) := by omega
              have m9 : Made wr (wr.alloc (.cells #[] 41)) := (Made.refl wr).alloc (Nat.le_refl _) _
              have HOL := Lib.hid (recs_olds tk_len (by decide) (recs_first (KT3.out.made tk_len (Made.trans KC.out.made m9)) nn))
              have HOW := Lib.hid (owns_empty wr wr.heap.size (Nat.le_refl _) 41 5)
              have hmx : 0 + nn ≤ maxLen := by unfold maxLen; omega
              have hby : (0 + nn) * 48 ≤ 140737488355328 := by omega
              have HRA := Lib.hid (rd_again HRR.out)
              have hfl : ((T.take nn).flatMap Tk.cells).length = nn * 5 := by rw [flat_len' tk_len, hlT]
              clear m9
              go_wp2_with (at_builtin; refine wpList_append_each rfl (.tmp 119) (.tmp 122) 29 rfl wr.heap.size 41 j0 (Tk.val ⟨0, [], 0, 0, 0⟩) 5 48 Try.underlying29 hj0 hy0 hy1 hy2 rfl (by decide) (.slice (some ⟨wr.heap.size, 0, none⟩) 0 0) 0 [] rfl HOW.out (some ⟨b0, o0, none⟩) nn c ((T.take nn).flatMap Tk.cells) rfl (fun h => by simp at h) hfl HOL.out (tk_one _) hmx hby (by simp) ?_; intro v7 w9 own1 gr1; have HO := Lib.hid own1; have HG := Lib.hid gr1; clear own1 gr1; obtain ⟨so7, cp7, hv7, hrec7⟩ := (owns_recs tk_len (by decide) (show w9.ownsRow wr.heap.size 41 5 v7 nn ((T.take nn).flatMap Tk.cells) from by have h9 := HO.out; rwa [Nat.zero_add, List.nil_append] at h9)).2; subst hv7; have HREC := Lib.hid hrec7; clear hrec7)
              obtain ⟨cq, hcq, hrd⟩ := HRA.out
              have hcq2 : (T.take nn).map Tk.q = cq := by
                have h1 := congrArg List.length hcq
                rw [List.length_map, List.length_append] at h1
                have h2 := HNN.out
                have h3 : nn = cq.length := by omega
                rw [List.map_take, hcq, h3, List.take_left]
              have m9 : Made wr (wr.alloc (.cells #[] 41)) := (Made.refl wr).alloc (Nat.le_refl _) _
              have HM9 := Lib.hid (show Made wr w9 from Below.grown m9 HG.out m9.size (fun k e => by cases e; exact Nat.le_refl _))
              have HPP := Lib.hid (xparse_any so7 cp7 (T.take nn) w9 HREC.out (by rw [hlT]; omega) (fun t ht => HTXT.out t (List.mem_of_mem_take ht)) (.ok a []) (by rw [hcq2]; exact hrd))
              rewrite [hlT] at HPP
              have HQL := Lib.hid (show ((((T.take nn).map Tk.q).length : Nat) : Int) - (([] : List Tq).length : Int) = (nn : Int) by rw [List.length_map, hlT]; simp)
              clear hcq2 hcq hrd m9 HOL HOW HO HG HREC hj0 hy0 hy1 hy2 hfl
              go_wp2_with (fail)
              refine HPP.out.mono ?_
              rintro x w10 ⟨s2, c2, rfl, hT2, hm10⟩
              rewrite [HQL.out]
              have M10 := Lib.hid (Made.trans HM9.out hm10)
              have KC2 := Lib.hid (KC.out.next (Made.trans HM9.out hm10))
              have cl2 := KC2.out.cell (j := m) (by omega)
              rewrite [show cntR (a.post 0) m = 0 from by have h9 := use_last HF.out; rwa [show a.size - 1 = m by have := HZ.out; omega] at h9] at cl2
              have HS := Lib.hid (same15_any s1 s2 c1 c2 (a.post 0) w10 (HE3.out.made tm_len KC2.out.made) hT2 (by rw [HPL.out, ← HZ.out]; omega) k a.size (by rw [HPL.out, ← HZ.out]) HPL.out)
              rewrite [← HZ.out] at HS
              have h00 : ((0 : Nat) : Int) = 0 := rfl
              clear hm10 hT2 cl HPP
              rewrite [← HZ.out]
              go_wp2_with (fail)
              refine HS.out.mono ?_
              rintro x w11 ⟨rfl, h11⟩
              have M11 := Lib.hid (Made.trans M3.out (Made.trans KC2.out.made h11))
              clear h11 HS
              go_wp2_with (fail)
              refine (HA.out _ M11.out).mono ?_
              rintro x w12 ⟨rfl, h12⟩
              have M12 := Lib.hid h12
              clear h12
              go_wp2
              go_ret
              exact ⟨rfl, M12.out⟩
end
end exprAll
end Go.Proofs.Ytebpimjbjjmpaaa
