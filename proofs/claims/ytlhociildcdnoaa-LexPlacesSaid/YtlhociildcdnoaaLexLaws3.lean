/- LexBack of the laws of lex returns true, for every text. -/
import Derived.Test.YtlhociildcdnoaaLexLaws
import Derived.Test.YtlhociildcdnoaaLexStr
namespace Go.Proofs.Ytlhociildcdnoaa
open Go.ChangeShapes Go.WideShapes Go.ChangeAt Go.RowKit Go.Sort BigFrame

/-- A text's beginning, as the laws take it. -/
theorem cut_text (a : ByteArray) (N : Nat) : ∃ (T : ByteArray) (l : List UInt8), IsStr T l ∧ l.length ≤ N ∧ ((T = a ∧ (a.size : Int) ≤ N) ∨ (T = a.extract 0 N ∧ (N : Int) < (a.size : Int))) := by
  by_cases h : a.size ≤ N
  · exact ⟨a, a.data.toList, rfl, by rw [← str_size (S := a) rfl]; exact h, .inl ⟨rfl, by omega⟩⟩
  · refine ⟨a.extract 0 N, _, str_part (S := a) rfl 0 N, ?_, .inr ⟨rfl, by omega⟩⟩
    rw [List.length_take]
    omega
theorem uncol_at {T T' : List Tk} (h : T'.map uncol = T.map uncol) {k : Nat} (hk : k < T.length) (x : Tk) (hx : T[k] = x) : ∃ (h2 : k < T'.length) (c : Int), T'[k] = { x with col := c } := by
  have hl : T'.length = T.length := by
    have := congrArg List.length h
    rwa [List.length_map, List.length_map] at this
  refine ⟨by omega, T'[k].col, ?_⟩
  have e : (T'.map uncol)[k]'(by rw [List.length_map]; omega) = (T.map uncol)[k]'(by rw [List.length_map]; exact hk) := by simp only [h]
  rw [List.getElem_map, List.getElem_map, hx] at e
  generalize T'[k] = y at *
  obtain ⟨y0, y1, y2, y3, y4⟩ := y
  obtain ⟨x0, x1, x2, x3, x4⟩ := x
  simp only [uncol, Tk.mk.injEq, and_true] at e
  obtain ⟨rfl, rfl, rfl, rfl⟩ := e
  rfl
namespace lexBack
section
attribute [local irreducible] World.cell?
set_option maxRecDepth 100000 in
set_option maxHeartbeats 16000000 in
theorem walk (W : World) (a0 : ByteArray) (w0 : a0.size ≤ maxLen) : Calls Try.prog 5 #[.string a0] W fun e w' => e = .returned (.bool true) ∧ Made W w' := by
  have HA := Lib.hid (fun (u : World) (hu : Made W u) => awake14_any W u hu)
  unfold maxLen at w0
  obtain ⟨T, l, hT, hl, hways⟩ := cut_text a0 3000
  have HL := Lib.hid (fun (u : World) => lex_any T l hT (by omega) u)
  have hbl := back_len l
  have hfw := lexT_few l
  have HB := Lib.hid (fun (X : ByteArray) (hX : IsStr X (backL (lexT l))) (u : World) => lex_any X (backL (lexT l)) hX (by omega) u)
  have hrb := run_back l.length l (Nat.le_refl _) 1 1 1
  have HRB := Lib.hid (show (lexT (backL (lexT l))).map uncol = (lexT l).map uncol ∧ lexW (backL (lexT l)) = [] from ⟨hrb.1, by show (lxRun 1 1 (backL (lxRun 1 1 l).1)).2.take 100 = []; rw [hrb.2]; rfl⟩)
  have HNE := Lib.hid (show lexT l ≠ [] from run_ne l.length l (Nat.le_refl _) 1 1)
  clear hT hrb
  generalize hTT : lexT l = TT at *
  have HTT := Lib.hid hTT
  clear hTT
  have hcut : ((a0.size : Int) ≤ 3000 ∧ T = a0) ∨ ((3000 : Int) < (a0.size : Int) ∧ T = a0.extract 0 3000) := by
    rcases hways with ⟨h1, h2⟩ | ⟨h1, h2⟩
    · exact .inl ⟨h2, h1⟩
    · exact .inr ⟨h2, h1⟩
  clear hways
  rcases hcut with ⟨hs, rfl⟩ | ⟨hs, rfl⟩
  all_goals
    go_enter Try.func5, Try.ntmps5
    go_wp2_with (fail)
    refine (HL.out _).mono ?_
    rintro e w1 ⟨so, n, c, dg, m, d, rfl, hn, -, hT, -, h1⟩
    rewrite [HTT.out] at hn hT
    have HT := Lib.hid hT
    have HN := Lib.hid hn
    have M1 := Lib.hid h1
    have hnn : n ≤ 3001 := by omega
    have ht0 : (0 : Int) ≤ (n : Int) - 1 := by
      have h6 := List.length_pos_iff.2 HNE.out
      omega
    clear hn hT h1
    go_wp2_with (fail)
    go_loopw [5, 6] (fun sv iv wr => ∃ (k : Nat) (X : ByteArray) (x : List UInt8), k ≤ n ∧ sv = .string X ∧ iv = .int .i64 k ∧ IsStr X x ∧ x ++ backL (TT.drop k) = backL TT ∧ w1 = wr) (fun _ iv _ => n - (intOf iv).toNat)
    case atStart => exact ⟨0, ⟨#[]⟩, [], Nat.zero_le _, rfl, rfl, rfl, rfl, rfl⟩
    case round =>
      obtain ⟨k, X, x, hk, rfl, rfl, hX, hx, rfl⟩ := hrel
      have HX := Lib.hid hX
      have HXB := Lib.hid hx
      have hxs : X.size ≤ 7000 := by
        have h5 := congrArg List.length hx
        rw [List.length_append] at h5
        rw [str_size hX]
        omega
      clear hX hx
      by_cases hlt : k < n
      · have hkl : k < TT.length := by have := HN.out; omega
        obtain ⟨t, ht⟩ : ∃ t, TT[k] = t := ⟨_, rfl⟩
        obtain ⟨b, o, rfl, c0, c1, c2, c3, c4⟩ := toks_cells HT.out hkl t ht
        have lb := World.block_lt_of_cell? w1 _ c0
        have hbd := back_drop hkl t ht
        have HBD := Lib.hid hbd
        have hk0 : (0 : Int) ≤ (k : Int) := by omega
        have hk1 : (k : Int) < (n : Int) := by omega
        have hw1 : IntKind.i64.wrap ((n : Int) - 1) = (n : Int) - 1 := by rw [IntKind.wrap_i64]; omega
        clear ht hbd
        by_cases h4 : t.kind = 4
        · have g4 : (t.kind != 4) = false := by rw [h4]; rfl
          have hbd := HBD.out
          rewrite [if_pos h4, HN.out] at hbd
          by_cases hke : k + 1 < n
          · rewrite [if_pos hke] at hbd
            have hke2 : (k : Int) < (n : Int) - 1 := by omega
            have hop := str_add X ⟨#[10]⟩ (by show X.size + 1 ≤ _; omega)
            have HN2 := Lib.hid (show (x ++ [10]) ++ backL (TT.drop (k + 1)) = backL TT by rw [← HXB.out, hbd, List.append_assoc])
            have HX2 := Lib.hid (show IsStr (X ++ ⟨#[10]⟩) (x ++ [10]) from str_cat HX.out rfl)
            clear hbd h4
            go_wp2
            go_roundw
            case rel => exact ⟨k + 1, _, _, by omega, rfl, by go_num, HX2.out, HN2.out, trivial⟩
            case measure => simp [intOf]; omega
          · rewrite [if_neg hke] at hbd
            have hke2 : (n : Int) - 1 ≤ (k : Int) := by omega
            have HN2 := Lib.hid (show x ++ backL (TT.drop (k + 1)) = backL TT by rw [← HXB.out, hbd]; rfl)
            clear hbd h4
            go_wp2
            go_roundw
            case rel => exact ⟨k + 1, X, x, by omega, rfl, by go_num, HX.out, HN2.out, trivial⟩
            case measure => simp [intOf]; omega
        · have g4 : (t.kind != 4) = true := bne_iff_ne.2 h4
          have hbd := HBD.out
          rewrite [if_neg h4] at hbd
          have HN2 := Lib.hid (show (x ++ t.text ++ [32]) ++ backL (TT.drop (k + 1)) = backL TT by rw [← HXB.out, hbd]; simp only [List.append_assoc])
          have hts : (strOf t.text).size ≤ 7000 := by
            have h5 := congrArg List.length HN2.out
            simp only [List.length_append] at h5
            rw [str_size (strOf_is t.text)]
            omega
          have hop := str_add X (strOf t.text) (by omega)
          have hop2 := str_add (X ++ strOf t.text) ⟨#[32]⟩ (by rw [ByteArray.size_append]; show X.size + (strOf t.text).size + 1 ≤ _; omega)
          have HX2 := Lib.hid (show IsStr (X ++ strOf t.text ++ ⟨#[32]⟩) (x ++ t.text ++ [32]) from str_cat (str_cat HX.out rfl) rfl)
          have hsz2 : t.text.length ≤ 7000 := by rw [← str_size (strOf_is t.text)]; exact hts
          clear hbd h4 HBD
          go_wp2
          go_roundw
          case rel => exact ⟨k + 1, _, _, by omega, rfl, by go_num, HX2.out, HN2.out, trivial⟩
          case measure => simp [intOf]; omega
      · obtain rfl : k = n := by omega
        have HXE := Lib.hid (show IsStr X (backL TT) by
          have h5 := HXB.out
          rw [← HN.out, List.drop_length] at h5
          have e : x ++ backL [] = x := List.append_nil x
          rw [e] at h5
          rw [← h5]
          exact HX.out)
        have HC := Lib.hid (HB.out X HXE.out w1)
        clear HXB HX hlt
        go_wp2_with (fail)
        refine HC.out.mono ?_
        rintro e w2 ⟨so2, n2, c2, dg2, m2, d2, rfl, hn2, hm2, hT2, -, h2⟩
        obtain ⟨hu, hw⟩ := HRB.out
        rewrite [hw] at hm2
        obtain rfl : m2 = 0 := hm2.symm
        have hll : (lexT (backL TT)).length = TT.length := by
          have := congrArg List.length hu
          rwa [List.length_map, List.length_map] at this
        obtain rfl : n2 = k := by rw [← hn2, hll, HN.out]
        have HU := Lib.hid hu
        have HT2 := Lib.hid hT2
        have HT1 := Lib.hid (toks_made HT.out h2)
        have M2 := Lib.hid (Made.trans M1.out h2)
        clear hu hw hm2 hll hn2 hT2 h2 HC HB HRB
        have hne : ((n2 : Int) != (n2 : Int)) = false := by simp
        generalize lexT (backL TT) = TU at *
        go_wp2_with (fail)
        go_loopw [9] (fun iv wr => ∃ j nd : Nat, j ≤ n2 ∧ iv = .int .i64 j ∧ wr = w2.drewN nd) (fun iv _ => n2 - (intOf iv).toNat)
        case atStart => exact ⟨0, 0, Nat.zero_le _, rfl, rfl⟩
        case round =>
          obtain ⟨j, nd, hj, rfl, hwr⟩ := hrel
          have HW := Lib.hid hwr
          have hmw : Made w2 wr := hwr ▸ below_drewN (Made.refl w2) nd
          have MW := Lib.hid hmw
          clear hwr hmw
          by_cases hjl : j < n2
          · have hkl : j < TT.length := by have := HN.out; omega
            obtain ⟨t, ht⟩ : ∃ t, TT[j] = t := ⟨_, rfl⟩
            obtain ⟨hk2, cc, ht2⟩ := uncol_at HU.out hkl t ht
            obtain ⟨b, o, rfl, a0, a1, a2, a3, a4⟩ := toks_cells (toks_made HT1.out MW.out) hkl t ht
            obtain ⟨b2, o2, rfl, e0, e1, e2, e3, e4⟩ := toks_cells (toks_made HT2.out MW.out) hk2 _ ht2
            simp only [] at e0 e1 e2 e3 e4
            have q0 : (t.kind != t.kind) = false := by simp
            have q1 : (t.v != t.v) = false := by simp
            have q2 : (t.line != t.line) = false := by simp
            have k0 : (0 : Int) ≤ (j : Int) := by omega
            have k1 : (j : Int) < (n2 : Int) := by omega
            clear ht ht2
            go_upto_region 18 with (fail)
            go_quiet (fail)
            rename_i nq
            go_wp2
            go_roundw
            case rel => exact ⟨j + 1, nd + nq, by omega, by go_num, by rw [HW.out]; simp only [World.drewN_drewN]⟩
            case measure => simp [intOf]; omega
          · obtain rfl : j = n2 := by omega
            go_wp2_with (fail)
            refine (HA.out _ (Made.trans M2.out MW.out)).mono ?_
            rintro e w4 ⟨rfl, h4⟩
            go_wp2
            go_ret
            exact ⟨rfl, h4⟩
end
end lexBack
end Go.Proofs.Ytlhociildcdnoaa
