/- ExprParses walked, of any text; no condition. -/
import Derived.Test.YtebpimjbjjmpaaaExprSame
import Derived.Test.YtebpimjbjjmpaaaExprRefC
import Derived.Test.YtebpimjbjjmpaaaLexTwo
namespace Go.Proofs.Ytebpimjbjjmpaaa
open Go.ChangeShapes Go.WideShapes Go.ChangeAt Go.RowKit Go.Sort BigFrame

theorem xcut_text (a0 : ByteArray) (m : Nat) : ∃ (T : ByteArray) (l : List UInt8), IsStr T l ∧ l.length ≤ m ∧ ((T = a0 ∧ (a0.size : Int) ≤ m) ∨ (T = a0.extract 0 m ∧ (m : Int) < (a0.size : Int))) := by
  by_cases h : a0.size ≤ m
  · exact ⟨a0, a0.data.toList, rfl, by rw [← str_size (S := a0) rfl]; exact h, .inl ⟨rfl, by omega⟩⟩
  · refine ⟨a0.extract 0 m, _, str_part (S := a0) rfl 0 m, ?_, .inr ⟨rfl, by omega⟩⟩
    rw [List.length_take]
    omega
/-- The tokens that are no ends. -/
def offE (L : List Tk) : List Tk := L.filter fun t => decide (t.kind ≠ 4)
theorem off_next {L : List Tk} {k : Nat} (h : k < L.length) (x : Tk) (hx : L[k] = x) : offE (L.take (k + 1)) = offE (L.take k) ++ if x.kind ≠ 4 then [x] else [] := by
  subst hx
  unfold offE
  rw [List.take_succ_eq_append_getElem h, List.filter_append]
  congr 1
  by_cases h4 : L[k].kind = 4 <;> simp [h4]
theorem off_few (L : List Tk) (k : Nat) : (offE (L.take k)).length ≤ k := by
  unfold offE
  exact Nat.le_trans (List.length_filter_le _ _) (by rw [List.length_take]; omega)
/-- Two rows of tokens of two types. -/
structure PTwo (T1 T2 : TypeId) (W : World) (v1 v2 : Value) (l1 l2 : List Tk) (w : World) : Prop where
  fst : Grows Tk.cells 5 T1 W W.heap.size v1 l1 w
  snd : Grows Tk.cells 5 T2 W W.heap.size v2 l2 w
section
variable {T1 T2 : TypeId} {W w w1 : World} {v1 v2 : Value} {l1 l2 : List Tk}
theorem PTwo.next (h : PTwo T1 T2 W v1 v2 l1 l2 w) (hm : Made w w1) : PTwo T1 T2 W v1 v2 l1 l2 w1 := ⟨h.fst.next hm, h.snd.next hm⟩
theorem PTwo.more1 {u1 : Value} {m1 : List Tk} {n : Nat} (hT : T1 ≠ T2) (h : PTwo T1 T2 W v1 v2 l1 l2 w) (hn : l1.length + m1.length = n) (own : w1.ownsRow W.heap.size T1 5 u1 n (l1.flatMap Tk.cells ++ m1.flatMap Tk.cells)) (gr : w.grownBy w1 v1.ownBlock) : PTwo T1 T2 W u1 v2 (l1 ++ m1) l2 w1 := by
  have h1 := h.fst.more hn own gr
  exact ⟨h1, h.snd.kept gr h1.made (fun g hg => owns_apart h.snd.row h.fst.row (Ne.symm hT) g hg)⟩
theorem PTwo.more2 {u2 : Value} {m2 : List Tk} {n : Nat} (hT : T1 ≠ T2) (h : PTwo T1 T2 W v1 v2 l1 l2 w) (hn : l2.length + m2.length = n) (own : w1.ownsRow W.heap.size T2 5 u2 n (l2.flatMap Tk.cells ++ m2.flatMap Tk.cells)) (gr : w.grownBy w1 v2.ownBlock) : PTwo T1 T2 W v1 u2 l1 (l2 ++ m2) w1 := by
  have h1 := h.snd.more hn own gr
  exact ⟨h.fst.kept gr h1.made (fun g hg => owns_apart h.fst.row h.snd.row hT g hg), h1⟩
end
theorem tkA_row : (Try.prog.info? 41).map (fun i => (i.zero, i.size, i.bytes)) = some (some (Tk.val ⟨0, [], 0, 0, 0⟩), 5, 48) := by kernel_rfl
theorem tkB_row : (Try.prog.info? 50).map (fun i => (i.zero, i.size, i.bytes)) = some (some (Tk.val ⟨0, [], 0, 0, 0⟩), 5, 48) := by kernel_rfl
namespace exprParses
section
attribute [local irreducible] World.cell?
set_option maxRecDepth 100000 in
set_option maxHeartbeats 32000000 in
theorem walk (W : World) (a0 : ByteArray) (w0 : a0.size ≤ maxLen) : Calls Try.prog 4 #[.string a0] W fun e w' => e = .returned (.bool true) ∧ Made W w' := by
  have HA := Lib.hid (fun (u : World) (hu : Made W u) => awake15_any W u hu)
  unfold maxLen at w0
  obtain ⟨i0, hi0, hz0, hz1, hz2⟩ := info_parts tkA_row
  obtain ⟨j0, hj0, hy0, hy1, hy2⟩ := info_parts tkB_row
  obtain ⟨S, l, hS, hl, hways⟩ := xcut_text a0 1000
  have HL := Lib.hid (fun (u : World) => lex_any S l hS (by omega) u)
  have hfT := lexT_few l
  have htx := lex_text l
  clear hS
  generalize hT : lexT l = T at *
  have HTXT := Lib.hid (show ∀ t ∈ T, t.text.length ≤ 140737488351232 from fun t ht => by have := htx t ht; omega)
  clear htx
  have HT := Lib.hid hT
  clear hT
  have hcut : ((a0.size : Int) ≤ 1000 ∧ S = a0) ∨ ((1000 : Int) < (a0.size : Int) ∧ S = a0.extract 0 1000) := by
    rcases hways with ⟨h1, h2⟩ | ⟨h1, h2⟩
    · exact .inl ⟨h2, h1⟩
    · exact .inr ⟨h2, h1⟩
  clear hways
  go_enter Try.func4, Try.ntmps4
  go_upto_if 16 with (fail)
  go_cut [0] from 17 to 18 (fun v wc => v = .string S ∧ W = wc)
  case first =>
    rcases hcut with ⟨hs, rfl⟩ | ⟨hs, rfl⟩
    · go_wp2
      go_meet
      case rel => exact ⟨rfl, rfl⟩
    · go_wp2
      go_meet
      case rel => exact ⟨rfl, rfl⟩
  case rest =>
    obtain ⟨rfl, rfl⟩ := hcut
    clear hcut
    go_wp2_with (fail)
    refine (HL.out _).mono ?_
    rintro e w1 ⟨so, n, c, dg, m, d, rfl, hn, hm, hT1, hD1, h1⟩
    rewrite [HT.out] at hn hT1
    have KT := Lib.hid hT1
    have HN := Lib.hid hn
    have M1 := Lib.hid h1
    have hnn : n ≤ 1001 := by omega
    clear hn hm hT1 hD1 h1
    have P0 := Lib.hid (show PTwo 41 50 w1 (.slice none 0 0) (.slice none 0 0) [] [] w1 from ⟨grows_nil (Made.refl w1) (Nat.le_refl _), grows_nil (Made.refl w1) (Nat.le_refl _)⟩)
    go_wp2_with (fail)
    go_loopw [5, 6, 7] (fun tv wv iv wr => ∃ (k : Nat) (v1 v2 : Value) (L1 : List Tk), k ≤ n ∧ v1 = tv ∧ v2 = wv ∧ iv = .int .i64 k ∧ PTwo 41 50 w1 v1 v2 L1 L1 wr ∧ L1 = offE (T.take k) ∧ L1.length ≤ k) (fun _ _ iv _ => n - (intOf iv).toNat)
    case atStart => exact ⟨0, _, _, [], Nat.zero_le _, rfl, rfl, rfl, P0.out, rfl, Nat.le_refl _⟩
    case round =>
      obtain ⟨k, v1, v2, L1, hk, rfl, rfl, rfl, hg, hL1, hLn⟩ := hrel
      have KP := Lib.hid hg
      have HF := Lib.hid hL1
      clear hg hL1 P0
      by_cases hlt : k < n
      · have hkl : k < T.length := by have := HN.out; omega
        obtain ⟨x, hx⟩ : ∃ x, T[k] = x := ⟨_, rfl⟩
        have hkn : (k : Int) < (n : Int) := by omega
        obtain ⟨b, o, rfl, c0, c1, c2, c3, c4⟩ := toks_cells (toks_made KT.out KP.out.fst.made) hkl x hx
        have HFX := Lib.hid (off_next hkl x hx)
        by_cases h4 : x.kind = 4
        · have g4 : (x.kind != 4) = false := bne_eq_false_iff_eq.2 h4
          have HNF := Lib.hid (show L1 = offE (T.take (k + 1)) by rw [HFX.out, if_neg (by simpa using h4), List.append_nil]; exact HF.out)
          clear h4 hx
          go_wp2
          go_roundw
          case rel => exact ⟨k + 1, v1, v2, L1, by omega, rfl, rfl, by go_num, KP.out, HNF.out, by omega⟩
          case measure => simp [intOf]; omega
        · have g4 : (x.kind != 4) = true := bne_iff_ne.2 h4
          have HNF := Lib.hid (show L1 ++ [x] = offE (T.take (k + 1)) by rw [HFX.out, if_pos h4, HF.out])
          have HX := Lib.hid hx
          have KA := Lib.hid (KP.out.next ((Made.refl wr).alloc (Nat.le_refl _) (.cells ([x].flatMap Tk.cells).toArray 41)))
          have HOL := Lib.hid (tok_olds wr 41 x)
          have hsz2 := Lib.hid KA.out.fst.made.size
          have hmx : L1.length + 1 ≤ maxLen := by unfold maxLen; omega
          have hby : (L1.length + 1) * 48 ≤ 140737488355328 := by omega
          clear h4 hx
          go_upto_region 11 with (at_builtin; refine wpList_append_each rfl (.tmp 36) (.tmp 41) 29 rfl w1.heap.size 41 i0 (Tk.val ⟨0, [], 0, 0, 0⟩) 5 48 Try.underlying29 hi0 hz0 hz1 hz2 rfl (by decide) v1 L1.length (L1.flatMap Tk.cells) rfl KA.out.fst.row (some ⟨wr.heap.size, 0, none⟩) 1 1 ([x].flatMap Tk.cells) rfl (fun h => by simp at h) rfl HOL.out (tk_one _) hmx hby hsz2.out ?_; intro v7 w9 own1 gr1; have KG := Lib.hid (KA.out.more1 (by decide) (m1 := [x]) rfl own1 gr1); clear own1 gr1)
          obtain ⟨b', o', e', d0, d1, d2, d3, d4⟩ := toks_cells (toks_made KT.out KG.out.fst.made) hkl x HX.out
          obtain ⟨rfl, rfl⟩ : b = b' ∧ o = o' := by simpa using e'
          have KA2 := Lib.hid (KG.out.next ((Made.refl w9).alloc (Nat.le_refl _) (.cells ([x].flatMap Tk.cells).toArray 50)))
          have HOL2 := Lib.hid (tok_olds w9 50 x)
          have hsz3 := Lib.hid KA2.out.snd.made.size
          clear e'
          go_wp2_with (at_builtin; refine wpList_append_each rfl (.tmp 43) (.tmp 48) 49 rfl w1.heap.size 50 j0 (Tk.val ⟨0, [], 0, 0, 0⟩) 5 48 Try.underlying49 hj0 hy0 hy1 hy2 rfl (by decide) v2 L1.length (L1.flatMap Tk.cells) rfl KA2.out.snd.row (some ⟨w9.heap.size, 0, none⟩) 1 1 ([x].flatMap Tk.cells) rfl (fun h => by simp at h) rfl HOL2.out (tk_one _) hmx hby hsz3.out ?_; intro v8 w10 own1 gr1; have KH := Lib.hid (KA2.out.more2 (by decide) (m2 := [x]) rfl own1 gr1); clear own1 gr1)
          go_roundw
          case rel => exact ⟨k + 1, v7, v8, _, by omega, rfl, rfl, by go_num, KH.out, HNF.out, by rw [List.length_append, List.length_singleton]; omega⟩
          case measure => simp [intOf]; omega
      · obtain rfl : k = n := by omega
        obtain ⟨sa, ca, hva, hra⟩ := KP.out.fst.recs tk_len (by decide)
        obtain ⟨sb, cb, hvb, hrb⟩ := KP.out.snd.recs tk_len (by decide)
        subst hva
        subst hvb
        obtain ⟨res, hres⟩ := rd_total (L1.map Tk.q)
        have HP := Lib.hid (xparse_any sa ca L1 wr hra (by omega) (fun t ht => HTXT.out t (by rw [HF.out] at ht; exact List.mem_of_mem_take (List.mem_filter.1 (show t ∈ List.filter _ _ from ht)).1)) res hres)
        have HQ := Lib.hid (fun u (hu : Made wr u) => rparse_any sb cb L1 u (toks_made hrb hu) (by omega) res hres)
        have M2 := Lib.hid (Made.trans M1.out KP.out.fst.made)
        have hlq : ((L1.map Tk.q).length : Int) = (L1.length : Int) := by rw [List.length_map]
        have hfw : ∀ a r, res = .ok a r → a.size + r.length ≤ 1001 := fun a r e => by
          have := rd_few hres a r e
          simp only [List.length_map] at this
          omega
        have HFW := Lib.hid hfw
        have HLL := Lib.hid hlq
        have hll : (L1.map Tk.q).length ≤ 1001 := by rw [List.length_map]; omega
        clear hra hrb HF KP hlt hres hfw
        go_wp2_with (fail)
        refine HP.out.mono ?_
        intro x w2 hq
        cases res with
        | bad r wy =>
          obtain ⟨rfl, hm2⟩ := hq
          have MM := Lib.hid hm2
          have M3 := Lib.hid (Made.trans M2.out hm2)
          clear hm2
          go_wp2_with (fail)
          refine (HQ.out _ MM.out).mono ?_
          rintro x w3 ⟨rfl, hm3⟩
          have M4 := Lib.hid (Made.trans M3.out hm3)
          have HS := Lib.hid (same15_any none none 0 0 [] w3 (recs_none _) (recs_none _) (by decide) 0 0 rfl rfl)
          clear hm3
          go_wp2_with (fail)
          refine HS.out.mono ?_
          rintro x w4 ⟨rfl, hm4⟩
          have M5 := Lib.hid (Made.trans M4.out hm4)
          clear hm4
          go_wp2_with (fail)
          refine (HA.out _ M5.out).mono ?_
          rintro x w5 ⟨rfl, hm5⟩
          have M6 := Lib.hid hm5
          clear hm5
          go_wp2
          go_ret
          exact ⟨rfl, M6.out⟩
        | ok a r =>
          obtain ⟨s1, c1, rfl, hE, hm2⟩ := hq
          have MM := Lib.hid hm2
          have HE := Lib.hid hE
          have M3 := Lib.hid (Made.trans M2.out hm2)
          clear hE hm2
          go_wp2_with (fail)
          refine (HQ.out _ MM.out).mono ?_
          rintro x w3 ⟨s2, c2, rfl, hE2, hm3⟩
          have M4 := Lib.hid (Made.trans M3.out hm3)
          have hsz := HFW.out a r rfl
          have hpl := post_len a 0
          have HS := Lib.hid (same15_any s1 s2 c1 c2 (a.post 0) w3 (HE.out.made tm_len hm3) hE2 (by omega) a.size a.size hpl hpl)
          clear hm3 hE2 hsz hpl
          go_wp2_with (fail)
          refine HS.out.mono ?_
          rintro x w4 ⟨rfl, hm4⟩
          have M5 := Lib.hid (Made.trans M4.out hm4)
          clear hm4
          go_wp2_with (fail)
          refine (HA.out _ M5.out).mono ?_
          rintro x w5 ⟨rfl, hm5⟩
          have M6 := Lib.hid hm5
          clear hm5
          go_wp2
          go_ret
          exact ⟨rfl, M6.out⟩
end
end exprParses
end Go.Proofs.Ytebpimjbjjmpaaa
