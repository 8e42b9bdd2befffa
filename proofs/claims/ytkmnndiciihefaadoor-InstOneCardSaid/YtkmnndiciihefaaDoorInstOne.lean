/- InstOne of the laws of inst returns true, for every instruction, in every world that holds the table of names. -/
import Derived.Test.YtkmnndiciihefaaDoorInstLaws
import Derived.Test.YtkmnndiciihefaaDoorInstOneM
import Derived.Deep.CutRange
import Derived.Laws.StructEq
namespace Go.Proofs.YtkmnndiciihefaaDoor
open Go.ChangeShapes Go.WideShapes Go.ChangeAt Go.RowKit Go.Sort BigFrame

theorem writes_is {W : World} (hN : Names W) (x : In) (hx : x.small) (r : Int) (b : Bool) (h : writesP x = (r, b)) : Makes Tryd.prog W 9 #[x.val] (.tuple #[.int .u8 r, .bool b]) := by
  have := writes_any W hN x hx
  rwa [h] at this
theorem writesPred_is {W : World} (hN : Names W) (x : In) (hx : x.small) (r : Int) (b : Bool) (h : wpredP x = (r, b)) : Makes Tryd.prog W 7 #[x.val] (.tuple #[.int .u8 r, .bool b]) := by
  have := writesPred_any W hN x hx
  rwa [h] at this
theorem target_is {W : World} (hN : Names W) (x : In) (hx : x.small) (r : Int) (b : Bool) (h : targetP x = (r, b)) : Makes Tryd.prog W 10 #[x.val] (.tuple #[.int .u32 r, .bool b]) := by
  have := target_any W hN x hx
  rwa [h] at this
theorem right_is {W : World} (hN : Names W) (x : In) (hx : x.small) (b : Bool) (h : rightB x = b) : Makes Tryd.prog W 11 #[x.val] (.bool b) := h ▸ right_any W hN x hx
theorem reads_is {W : World} (hN : Names W) (x : In) (hx : x.small) (l : List Int) (h : readsL x = l) (w : World) (hm : Made W w) : Calls Tryd.prog 8 #[x.val] w (IsRegs W l) := h ▸ reads_any W hN x hx w hm
theorem at_five {W : World} (hN : Names W) (op kd : Int) (h0 : 0 ≤ op) (fk fb fs : Int) (fg fe bb : Bool) (hf : atF (opN op) kd = ⟨fk, fb, fs, fg, fe⟩) (hb : atB (opN op) kd = bb) (w : World) (hm : Made W w) :
    Calls Tryd.prog 24 #[.int .u8 op, .int .u8 kd] w fun e w' => e = .returned (.tuple #[.agg #[.int .u8 fk, .int .i64 fb, .int .i64 fs, .bool fg, .bool fe], .int .i64 (atP (opN op) kd), .bool bb]) ∧ Made W w' := by
  have h := at_any W hN op kd h0 w hm
  unfold IsAt at h
  rw [hf, hb] at h
  exact h
namespace instOne
/-- The instruction's variable, kept. -/
structure Kept (W : World) (B : Nat) (x : In) (w : World) : Prop where
  made : Made W w
  in_ : InAt w B x
theorem Kept.next {W w w' : World} {B : Nat} {x : In} (h : Kept W B x w) (hm : Made w w') : Kept W B x w' := ⟨Made.trans h.made hm, hm.heap h.in_⟩
section
attribute [local irreducible] World.cell?
set_option maxRecDepth 100000 in
set_option maxHeartbeats 4000000 in
theorem walk_no (W : World) (hN : Names W) (x : In) (hx : x.small) (hr : rightB x = false) : Calls Tryd.prog 5 #[x.val] W fun e w' => e = .returned (.bool true) ∧ Made W w' := by
  have hw : writesP x = (0, false) := by unfold writesP; rw [hr]; rfl
  have hp : wpredP x = (0, false) := by unfold wpredP; rw [hr]; rfl
  have ht : targetP x = (0, false) := by unfold targetP; rw [hr]; rfl
  have hl : readsL x = [] := by unfold readsL; rw [hr]; rfl
  have HX := Lib.hid hx
  have HF := Lib.hid (And.intro hr (And.intro hw (And.intro hp (And.intro ht hl))))
  have K0 := Lib.hid (show Kept W W.heap.size x (W.alloc (.cells x.cells.toArray 24)) from ⟨(Made.refl W).alloc (Nat.le_refl _) _, heap_alloc_new W _⟩)
  clear hx hr hw hp ht hl
  go_enter Tryd.func5, Tryd.ntmps5
  go_wp2_with (fail)
  refine (writes_is (hN.made K0.out.made) x HX.out 0 false HF.out.2.1 _ (Made.refl _)).mono ?_
  rintro e w1 ⟨rfl, h1⟩
  have K1 := Lib.hid (K0.out.next h1)
  obtain ⟨a0, a1, a2, a3, a4, a5, a6, a7, a8, a9, a10⟩ := in_cells K1.out.in_
  have hb1 := heap_lt K1.out.in_
  clear h1
  go_wp2_with (fail)
  refine (writesPred_is (hN.made K1.out.made) x HX.out 0 false HF.out.2.2.1 _ (Made.refl _)).mono ?_
  rintro e w2 ⟨rfl, h2⟩
  have K2 := Lib.hid (K1.out.next h2)
  clear h2 a0 a1 a2 a3 a4 a5 a6 a7 a8 a9 a10 hb1
  obtain ⟨a0, a1, a2, a3, a4, a5, a6, a7, a8, a9, a10⟩ := in_cells K2.out.in_
  have hb2 := heap_lt K2.out.in_
  go_wp2_with (fail)
  refine (reads_is (hN.made K2.out.made) x HX.out [] HF.out.2.2.2.2 _ (Made.refl _)).mono ?_
  rintro e w3 ⟨p, cap, rfl, h3, -⟩
  have K3 := Lib.hid (K2.out.next h3)
  clear h3 a0 a1 a2 a3 a4 a5 a6 a7 a8 a9 a10 hb2
  obtain ⟨a0, a1, a2, a3, a4, a5, a6, a7, a8, a9, a10⟩ := in_cells K3.out.in_
  have hb3 := heap_lt K3.out.in_
  go_wp2_with (fail)
  refine (target_is (hN.made K3.out.made) x HX.out 0 false HF.out.2.2.2.1 _ (Made.refl _)).mono ?_
  rintro e w4 ⟨rfl, h4⟩
  have K4 := Lib.hid (K3.out.next h4)
  clear h4 a0 a1 a2 a3 a4 a5 a6 a7 a8 a9 a10 hb3
  obtain ⟨a0, a1, a2, a3, a4, a5, a6, a7, a8, a9, a10⟩ := in_cells K4.out.in_
  have hb4 := heap_lt K4.out.in_
  go_wp2_with (fail)
  go_quiet (fail)
  go_wp2_with (fail)
  refine (right_is (hN.made (K4.out.next (below_drewN (Made.refl w4) _)).made) x HX.out false HF.out.1 _ (Made.refl _)).mono ?_
  rintro e w5 ⟨rfl, h5⟩
  have K5 := Lib.hid ((K4.out.next (below_drewN (Made.refl w4) _)).next h5)
  clear h5 a0 a1 a2 a3 a4 a5 a6 a7 a8 a9 a10 hb4
  go_wp2_with (fail)
  refine (awake_any _ (hN.made K5.out.made) _ (Made.refl _)).mono ?_
  rintro e w6 ⟨rfl, h6⟩
  have M6 := Lib.hid (Made.trans K5.out.made h6)
  clear h6
  go_wp2
  go_ret
  exact ⟨rfl, M6.out⟩
set_option maxRecDepth 100000 in
set_option maxHeartbeats 8000000 in
theorem walk_yes (W : World) (hN : Names W) (x : In) (hx : x.small) (hr : rightB x = true) : Calls Tryd.prog 5 #[x.val] W fun e w' => e = .returned (.bool true) ∧ Made W w' := by
  obtain ⟨r1, a, hA⟩ : ∃ r a, writesP x = (r, a) := ⟨_, _, rfl⟩
  obtain ⟨r2, b, hB⟩ : ∃ r a, wpredP x = (r, a) := ⟨_, _, rfl⟩
  obtain ⟨tt, c, hT⟩ : ∃ r a, targetP x = (r, a) := ⟨_, _, rfl⟩
  obtain ⟨l, hL⟩ : ∃ l, readsL x = l := ⟨_, rfl⟩
  have hab := one_writes x
  have htt := one_target x hx
  have hll := one_reads x
  have him := Lib.hid (one_imm x hx hr)
  rw [hA, hB] at hab
  rw [hT] at htt
  rw [hL] at hll
  have hop0 := hx.op0
  have HX := Lib.hid hx
  have HR := Lib.hid hr
  have HA := Lib.hid hA
  have HB := Lib.hid hB
  have HT := Lib.hid hT
  have HL := Lib.hid hL
  have HAB := Lib.hid hab
  have HTT := Lib.hid htt
  have HLL := Lib.hid hll
  have K0 := Lib.hid (show Kept W W.heap.size x (W.alloc (.cells x.cells.toArray 24)) from ⟨(Made.refl W).alloc (Nat.le_refl _) _, heap_alloc_new W _⟩)
  clear hx hr hA hB hT hL hab htt hll
  go_enter Tryd.func5, Tryd.ntmps5
  go_wp2_with (fail)
  refine (writes_is (hN.made K0.out.made) x HX.out r1 a HA.out _ (Made.refl _)).mono ?_
  rintro e w1 ⟨rfl, h1⟩
  have K1 := Lib.hid (K0.out.next h1)
  obtain ⟨a0, a1, a2, a3, a4, a5, a6, a7, a8, a9, a10⟩ := in_cells K1.out.in_
  have hb1 := heap_lt K1.out.in_
  clear h1
  go_wp2_with (fail)
  refine (writesPred_is (hN.made K1.out.made) x HX.out r2 b HB.out _ (Made.refl _)).mono ?_
  rintro e w2 ⟨rfl, h2⟩
  have K2 := Lib.hid (K1.out.next h2)
  clear h2 a0 a1 a2 a3 a4 a5 a6 a7 a8 a9 a10 hb1
  obtain ⟨a0, a1, a2, a3, a4, a5, a6, a7, a8, a9, a10⟩ := in_cells K2.out.in_
  have hb2 := heap_lt K2.out.in_
  go_wp2_with (fail)
  refine (reads_is (hN.made K2.out.made) x HX.out l HL.out _ (Made.refl _)).mono ?_
  rintro e w3 ⟨p, cap, rfl, h3, hreg⟩
  have K3 := Lib.hid (K2.out.next h3)
  have HREG := Lib.hid hreg
  clear h3 hreg a0 a1 a2 a3 a4 a5 a6 a7 a8 a9 a10 hb2
  obtain ⟨a0, a1, a2, a3, a4, a5, a6, a7, a8, a9, a10⟩ := in_cells K3.out.in_
  have hb3 := heap_lt K3.out.in_
  go_wp2_with (fail)
  refine (target_is (hN.made K3.out.made) x HX.out tt c HT.out _ (Made.refl _)).mono ?_
  rintro e w4 ⟨rfl, h4⟩
  have K4 := Lib.hid (K3.out.next h4)
  have H4 := Lib.hid h4
  clear h4 a0 a1 a2 a3 a4 a5 a6 a7 a8 a9 a10 hb3
  obtain ⟨a0, a1, a2, a3, a4, a5, a6, a7, a8, a9, a10⟩ := in_cells K4.out.in_
  have hb4 := heap_lt K4.out.in_
  go_upto_region 5 with (fail)
  go_cut [68] from 31 to 68 (fun v wc => v = .bool false ∧ Kept W W.heap.size x wc)
  case first =>
    have hab := HAB.out
    obtain ⟨t0, t1, t2, t3⟩ := HTT.out
    have ht4 : (tt % 4 != 0) = false := by simp only [bne_eq_false_iff_eq]; exact t0
    have hcase : (a = false) ∨ (a = true ∧ b = false) := by cases a <;> simp_all
    have hcc : c = false ∨ (c = true ∧ (tt != x.imm) = false) := by
      cases c
      · exact .inl rfl
      · exact .inr ⟨rfl, by rw [bne_eq_false_iff_eq]; exact t3 rfl⟩
    clear t0 t3 hab
    have hlc : l = [] ∨ (∃ u, l = [u]) ∨ (∃ (u v : Int) (g : Nat), l = [u, v] ∧ p = some ⟨g, 0, none⟩ ∧ 2 ≤ cap ∧ cap ≤ maxLen ∧ w4.cell? ⟨g, 0, none⟩ = some (.int .u8 u) ∧ w4.cell? ⟨g, 1, none⟩ = some (.int .u8 v) ∧ decide (u ≥ v) = false) := by
      rcases HLL.out with h | h | ⟨u, v, h, huv⟩
      · exact .inl h
      · exact .inr (.inl h)
      · subst h
        rcases HREG.out with h | ⟨g, hp, hg, hn, hm, hc⟩
        · cases h
        · exact .inr (.inr ⟨u, v, g, rfl, hp, hn, hm, ((bcell H4.out).1 g 0 hg).trans (hc 0 (by simp)), ((bcell H4.out).1 g 1 hg).trans (hc 1 (by simp)), decide_eq_false (by omega)⟩)
    rcases hlc with rfl | ⟨u, rfl⟩ | ⟨u, v, g, rfl, rfl, hn, hm, q0, q1, huv⟩
    all_goals
      rcases hcase with rfl | ⟨rfl, rfl⟩
    all_goals
      rcases hcc with rfl | ⟨rfl, hcc⟩
    all_goals
      go_quiet (fail)
      go_wp2
      go_meet
      case rel => exact ⟨rfl, K4.out.next (below_drewN (Made.refl w4) _)⟩
  case rest =>
    obtain ⟨rfl, hK⟩ := hcut
    generalize wc = w5 at *
    have K5 := Lib.hid hK
    clear hK a0 a1 a2 a3 a4 a5 a6 a7 a8 a9 a10 hb4
    obtain ⟨a0, a1, a2, a3, a4, a5, a6, a7, a8, a9, a10⟩ := in_cells K5.out.in_
    have hb5 := heap_lt K5.out.in_
    go_wp2_with (fail)
    refine (right_is (hN.made K5.out.made) x HX.out true HR.out _ (Made.refl _)).mono ?_
    rintro e w6 ⟨rfl, h6⟩
    have K6 := Lib.hid (K5.out.next h6)
    clear h6 a0 a1 a2 a3 a4 a5 a6 a7 a8 a9 a10 hb5
    obtain ⟨a0, a1, a2, a3, a4, a5, a6, a7, a8, a9, a10⟩ := in_cells K6.out.in_
    have hb6 := heap_lt K6.out.in_
    have hi := him.out
    clear him
    rcases hi with ⟨hf, hb, hi⟩ | ⟨hf, hb, hi⟩ | ⟨hf, hb, hi⟩ | ⟨hf, hb, hi⟩ | ⟨hf, hb, hi⟩ | ⟨hf, hb⟩
    · have HI := Lib.hid hi
      clear hi
      have HFB := Lib.hid (And.intro hf hb)
      clear hf hb
      go_wp2_with (fail)
      refine (at_five (hN.made K6.out.made) x.op 9 hop0 9 14 0 true true true HFB.out.1 HFB.out.2 _ (Made.refl _)).mono ?_
      rintro e w7 ⟨rfl, h7⟩
      have K7 := Lib.hid (K6.out.next h7)
      clear h7 a0 a1 a2 a3 a4 a5 a6 a7 a8 a9 a10 hb6
      obtain ⟨a0, a1, a2, a3, a4, a5, a6, a7, a8, a9, a10⟩ := in_cells K7.out.in_
      have hb7 := heap_lt K7.out.in_
      have hz7 := K7.out.made.size
      cases hext : x.ext with
      | true =>
        rewrite [hext] at a8
        have HE := Lib.hid hext
        clear hext
        go_wp2_with (fail)
        refine (awake_any _ (hN.made (K7.out.made.alloc hz7 _)) _ (Made.refl _)).mono ?_
        rintro e w8 ⟨rfl, h8⟩
        have M8 := Lib.hid (Made.trans (K7.out.made.alloc hz7 _) h8)
        clear h8
        go_wp2
        go_ret
        exact ⟨rfl, M8.out⟩
      | false =>
        rewrite [hext] at a8
        obtain ⟨i0, i1⟩ := HI.out hext
        clear hext
        go_upto_region 14 with (fail)
        refine name_world (fun u => Kept W W.heap.size x u ∧ u.heap[w7.heap.size]? = some (.cells #[.int .u8 9, .int .i64 14, .int .i64 0, .bool true, .bool true] 43 (0, 0))) ⟨K7.out.next ((Made.refl _).alloc (Nat.le_refl _) _), heap_alloc_new w7 _⟩ ?_
        rintro u ⟨hK, hfl⟩
        have K8 := Lib.hid hK
        have g10 := fun d os => cell_regrown (in_cells hK.in_).2.2.2.2.2.2.2.2.2.2 d os
        have gf := fun d os => cell_regrown (row_cells hfl).2.2.1 d os
        have HAw := Lib.hid (awake_any u (hN.made hK.made))
        clear hK hfl a0 a1 a2 a3 a4 a5 a6 a7 a8 a9 a10 hb7
        go_wp2_with (fail)
        refine wp_region_quiet_below (by kernel_rfl) (by kernel_rfl) ?_
        repeat (go_big_quiet_step ((go_at_call 15; exact HAw.out.again _ _)))
        refine wpQuiet_nil ?_
        intro w9 hw9
        have h9 := made_regrown hw9
        go_wp2
        go_ret
        exact ⟨rfl, Made.trans K8.out.made h9⟩
    · have HI := Lib.hid hi
      clear hi
      have HFB := Lib.hid (And.intro hf hb)
      clear hf hb
      go_wp2_with (fail)
      refine (at_five (hN.made K6.out.made) x.op 9 hop0 9 12 2 true true true HFB.out.1 HFB.out.2 _ (Made.refl _)).mono ?_
      rintro e w7 ⟨rfl, h7⟩
      have K7 := Lib.hid (K6.out.next h7)
      clear h7 a0 a1 a2 a3 a4 a5 a6 a7 a8 a9 a10 hb6
      obtain ⟨a0, a1, a2, a3, a4, a5, a6, a7, a8, a9, a10⟩ := in_cells K7.out.in_
      have hb7 := heap_lt K7.out.in_
      have hz7 := K7.out.made.size
      cases hext : x.ext with
      | true =>
        rewrite [hext] at a8
        have HE := Lib.hid hext
        clear hext
        go_wp2_with (fail)
        refine (awake_any _ (hN.made (K7.out.made.alloc hz7 _)) _ (Made.refl _)).mono ?_
        rintro e w8 ⟨rfl, h8⟩
        have M8 := Lib.hid (Made.trans (K7.out.made.alloc hz7 _) h8)
        clear h8
        go_wp2
        go_ret
        exact ⟨rfl, M8.out⟩
      | false =>
        rewrite [hext] at a8
        obtain ⟨i0, i1, i2⟩ := HI.out hext
        have i3 : x.imm.tmod 4 = 0 := tmod_of_dvd i2
        clear hext
        go_upto_region 14 with (fail)
        refine name_world (fun u => Kept W W.heap.size x u ∧ u.heap[w7.heap.size]? = some (.cells #[.int .u8 9, .int .i64 12, .int .i64 2, .bool true, .bool true] 43 (0, 0))) ⟨K7.out.next ((Made.refl _).alloc (Nat.le_refl _) _), heap_alloc_new w7 _⟩ ?_
        rintro u ⟨hK, hfl⟩
        have K8 := Lib.hid hK
        have g10 := fun d os => cell_regrown (in_cells hK.in_).2.2.2.2.2.2.2.2.2.2 d os
        have gf := fun d os => cell_regrown (row_cells hfl).2.2.1 d os
        have HAw := Lib.hid (awake_any u (hN.made hK.made))
        clear hK hfl a0 a1 a2 a3 a4 a5 a6 a7 a8 a9 a10 hb7
        go_wp2_with (fail)
        refine wp_region_quiet_below (by kernel_rfl) (by kernel_rfl) ?_
        repeat (go_big_quiet_step ((go_at_call 15; exact HAw.out.again _ _)))
        refine wpQuiet_nil ?_
        intro w9 hw9
        have h9 := made_regrown hw9
        go_wp2
        go_ret
        exact ⟨rfl, Made.trans K8.out.made h9⟩
    · have HI := Lib.hid hi
      clear hi
      have HFB := Lib.hid (And.intro hf hb)
      clear hf hb
      go_wp2_with (fail)
      refine (at_five (hN.made K6.out.made) x.op 9 hop0 9 12 1 true true true HFB.out.1 HFB.out.2 _ (Made.refl _)).mono ?_
      rintro e w7 ⟨rfl, h7⟩
      have K7 := Lib.hid (K6.out.next h7)
      clear h7 a0 a1 a2 a3 a4 a5 a6 a7 a8 a9 a10 hb6
      obtain ⟨a0, a1, a2, a3, a4, a5, a6, a7, a8, a9, a10⟩ := in_cells K7.out.in_
      have hb7 := heap_lt K7.out.in_
      have hz7 := K7.out.made.size
      cases hext : x.ext with
      | true =>
        rewrite [hext] at a8
        have HE := Lib.hid hext
        clear hext
        go_wp2_with (fail)
        refine (awake_any _ (hN.made (K7.out.made.alloc hz7 _)) _ (Made.refl _)).mono ?_
        rintro e w8 ⟨rfl, h8⟩
        have M8 := Lib.hid (Made.trans (K7.out.made.alloc hz7 _) h8)
        clear h8
        go_wp2
        go_ret
        exact ⟨rfl, M8.out⟩
      | false =>
        rewrite [hext] at a8
        obtain ⟨i0, i1, i2⟩ := HI.out hext
        have i3 : x.imm.tmod 2 = 0 := tmod_of_dvd i2
        clear hext
        go_upto_region 14 with (fail)
        refine name_world (fun u => Kept W W.heap.size x u ∧ u.heap[w7.heap.size]? = some (.cells #[.int .u8 9, .int .i64 12, .int .i64 1, .bool true, .bool true] 43 (0, 0))) ⟨K7.out.next ((Made.refl _).alloc (Nat.le_refl _) _), heap_alloc_new w7 _⟩ ?_
        rintro u ⟨hK, hfl⟩
        have K8 := Lib.hid hK
        have g10 := fun d os => cell_regrown (in_cells hK.in_).2.2.2.2.2.2.2.2.2.2 d os
        have gf := fun d os => cell_regrown (row_cells hfl).2.2.1 d os
        have HAw := Lib.hid (awake_any u (hN.made hK.made))
        clear hK hfl a0 a1 a2 a3 a4 a5 a6 a7 a8 a9 a10 hb7
        go_wp2_with (fail)
        refine wp_region_quiet_below (by kernel_rfl) (by kernel_rfl) ?_
        repeat (go_big_quiet_step ((go_at_call 15; exact HAw.out.again _ _)))
        refine wpQuiet_nil ?_
        intro w9 hw9
        have h9 := made_regrown hw9
        go_wp2
        go_ret
        exact ⟨rfl, Made.trans K8.out.made h9⟩
    · have HI := Lib.hid hi
      clear hi
      have HFB := Lib.hid (And.intro hf hb)
      clear hf hb
      go_wp2_with (fail)
      refine (at_five (hN.made K6.out.made) x.op 9 hop0 9 12 0 true true true HFB.out.1 HFB.out.2 _ (Made.refl _)).mono ?_
      rintro e w7 ⟨rfl, h7⟩
      have K7 := Lib.hid (K6.out.next h7)
      clear h7 a0 a1 a2 a3 a4 a5 a6 a7 a8 a9 a10 hb6
      obtain ⟨a0, a1, a2, a3, a4, a5, a6, a7, a8, a9, a10⟩ := in_cells K7.out.in_
      have hb7 := heap_lt K7.out.in_
      have hz7 := K7.out.made.size
      cases hext : x.ext with
      | true =>
        rewrite [hext] at a8
        have HE := Lib.hid hext
        clear hext
        go_wp2_with (fail)
        refine (awake_any _ (hN.made (K7.out.made.alloc hz7 _)) _ (Made.refl _)).mono ?_
        rintro e w8 ⟨rfl, h8⟩
        have M8 := Lib.hid (Made.trans (K7.out.made.alloc hz7 _) h8)
        clear h8
        go_wp2
        go_ret
        exact ⟨rfl, M8.out⟩
      | false =>
        rewrite [hext] at a8
        obtain ⟨i0, i1⟩ := HI.out hext
        clear hext
        go_upto_region 14 with (fail)
        refine name_world (fun u => Kept W W.heap.size x u ∧ u.heap[w7.heap.size]? = some (.cells #[.int .u8 9, .int .i64 12, .int .i64 0, .bool true, .bool true] 43 (0, 0))) ⟨K7.out.next ((Made.refl _).alloc (Nat.le_refl _) _), heap_alloc_new w7 _⟩ ?_
        rintro u ⟨hK, hfl⟩
        have K8 := Lib.hid hK
        have g10 := fun d os => cell_regrown (in_cells hK.in_).2.2.2.2.2.2.2.2.2.2 d os
        have gf := fun d os => cell_regrown (row_cells hfl).2.2.1 d os
        have HAw := Lib.hid (awake_any u (hN.made hK.made))
        clear hK hfl a0 a1 a2 a3 a4 a5 a6 a7 a8 a9 a10 hb7
        go_wp2_with (fail)
        refine wp_region_quiet_below (by kernel_rfl) (by kernel_rfl) ?_
        repeat (go_big_quiet_step ((go_at_call 15; exact HAw.out.again _ _)))
        refine wpQuiet_nil ?_
        intro w9 hw9
        have h9 := made_regrown hw9
        go_wp2
        go_ret
        exact ⟨rfl, Made.trans K8.out.made h9⟩
    · have HI := Lib.hid hi
      clear hi
      have HFB := Lib.hid (And.intro hf hb)
      clear hf hb
      go_wp2_with (fail)
      refine (at_five (hN.made K6.out.made) x.op 9 hop0 9 5 0 false false true HFB.out.1 HFB.out.2 _ (Made.refl _)).mono ?_
      rintro e w7 ⟨rfl, h7⟩
      have K7 := Lib.hid (K6.out.next h7)
      clear h7 a0 a1 a2 a3 a4 a5 a6 a7 a8 a9 a10 hb6
      obtain ⟨a0, a1, a2, a3, a4, a5, a6, a7, a8, a9, a10⟩ := in_cells K7.out.in_
      have hb7 := heap_lt K7.out.in_
      have hz7 := K7.out.made.size
      cases hext : x.ext with
      | true =>
        rewrite [hext] at a8
        have HE := Lib.hid hext
        clear hext
        go_wp2_with (fail)
        refine (awake_any _ (hN.made (K7.out.made.alloc hz7 _)) _ (Made.refl _)).mono ?_
        rintro e w8 ⟨rfl, h8⟩
        have M8 := Lib.hid (Made.trans (K7.out.made.alloc hz7 _) h8)
        clear h8
        go_wp2
        go_ret
        exact ⟨rfl, M8.out⟩
      | false =>
        rewrite [hext] at a8
        obtain ⟨i0, i1⟩ := HI.out
        clear hext
        go_wp2_with (fail)
        refine (awake_any _ (hN.made (K7.out.made.alloc hz7 _)) _ (Made.refl _)).mono ?_
        rintro e w8 ⟨rfl, h8⟩
        have M8 := Lib.hid (Made.trans (K7.out.made.alloc hz7 _) h8)
        clear h8
        go_wp2
        go_ret
        exact ⟨rfl, M8.out⟩
    · have HFB := Lib.hid (And.intro hf hb)
      clear hf hb
      go_wp2_with (fail)
      refine (at_five (hN.made K6.out.made) x.op 9 hop0 0 0 0 false false false HFB.out.1 HFB.out.2 _ (Made.refl _)).mono ?_
      rintro e w7 ⟨rfl, h7⟩
      have K7 := Lib.hid (K6.out.next h7)
      clear h7 a0 a1 a2 a3 a4 a5 a6 a7 a8 a9 a10 hb6
      have hz7 := K7.out.made.size
      go_wp2_with (fail)
      refine (awake_any _ (hN.made (K7.out.made.alloc hz7 _)) _ (Made.refl _)).mono ?_
      rintro e w8 ⟨rfl, h8⟩
      have M8 := Lib.hid (Made.trans (K7.out.made.alloc hz7 _) h8)
      clear h8
      go_wp2
      go_ret
      exact ⟨rfl, M8.out⟩
end
theorem walk (W : World) (hN : Names W) (a0 : In) (w0 : a0.small) : Calls Tryd.prog 5 #[a0.val] W fun e w' => e = .returned (.bool true) ∧ Made W w' := by
  cases h : rightB a0 with
  | false => exact walk_no W hN a0 w0 h
  | true => exact walk_yes W hN a0 w0 h
end instOne
end Go.Proofs.YtkmnndiciihefaaDoor
