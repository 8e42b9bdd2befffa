/- What awake and same of the laws of lex return; a text that is written out. -/
import Derived.Test.YtlhociildcdnoaaLexCode
import Derived.Great.Walk
import Derived.Deep.Cut
import Derived.BigQuiet
import Derived.Laws.StructEq
namespace Go.Proofs.Ytlhociildcdnoaa
open Go.ChangeShapes Go.WideShapes Go.ChangeAt Go.RowKit Go.Sort BigFrame

theorem lex_lit (l : List UInt8) (T : List Tk) (D : List Wr) (n m : Nat) (ht : lexT l = T) (hd : lexW l = D) (hn : T.length = n) (hm : D.length = m) (hl : l.length ≤ 20000) (w : World) :
    Calls Try.prog 8 #[.string ⟨l.toArray⟩] w fun e w' => ∃ so c dg d, e = .returned (.tuple #[.slice so n c, .slice dg m d]) ∧ Toks w' so c T ∧ Wrs w' dg d D ∧ Made w w' :=
  (lex_any ⟨l.toArray⟩ l rfl hl w).mono fun e w' h => by
    obtain ⟨so, n', c, dg, m', d, he, h1, h2, hT, hW, hm'⟩ := h
    subst ht hd h1 h2 hn hm
    exact ⟨so, c, dg, d, he, hT, hW, hm'⟩
abbrev wakeT : List UInt8 := [114, 49, 61, 97, 100, 100, 40, 114, 50, 44, 35, 35, 48, 120, 49, 70, 41, 47, 47, 120]
abbrev wakeK : List Tk := [⟨1, [114, 49], 0, 1, 1⟩, ⟨3, [61], 0, 1, 3⟩, ⟨1, [97, 100, 100], 0, 1, 4⟩, ⟨3, [40], 0, 1, 7⟩, ⟨1, [114, 50], 0, 1, 8⟩, ⟨3, [44], 0, 1, 10⟩, ⟨3, [35, 35], 0, 1, 11⟩, ⟨2, [48, 120, 49, 70], 31, 1, 13⟩, ⟨3, [41], 0, 1, 17⟩, ⟨4, [], 0, 1, 21⟩]
section
attribute [local irreducible] World.cell?
set_option maxRecDepth 100000 in
set_option maxHeartbeats 8000000 in
theorem awake14_any (W : World) : Makes Try.prog W 9 #[] (.bool true) := by
  intro w hm
  have HL := Lib.hid (fun u => lex_lit wakeT wakeK [] 10 0 (by decide +kernel) (by decide +kernel) rfl rfl (by decide) u)
  have M0 := Lib.hid hm
  clear hm
  go_enter Try.func9, Try.ntmps9
  go_wp2_with (fail)
  refine (HL.out _).mono ?_
  rintro e w1 ⟨so, c, dg, d, rfl, hT, -, h1⟩
  have M1 := Lib.hid (Made.trans M0.out h1)
  obtain ⟨b, o, rfl, a0, a1, a2, a3, a4⟩ := toks_cells hT (t := 0) (by decide) _ rfl
  obtain ⟨b', o', e', b0, b1, b2, b3, b4⟩ := toks_cells hT (t := 2) (by decide) _ rfl
  obtain ⟨rfl, rfl⟩ : b = b' ∧ o = o' := by simpa using e'
  obtain ⟨b', o', e', c0, c1, c2, c3, c4⟩ := toks_cells hT (t := 6) (by decide) _ rfl
  obtain ⟨rfl, rfl⟩ : b = b' ∧ o = o' := by simpa using e'
  obtain ⟨b', o', e', d0, d1, d2, d3, d4⟩ := toks_cells hT (t := 7) (by decide) _ rfl
  obtain ⟨rfl, rfl⟩ : b = b' ∧ o = o' := by simpa using e'
  obtain ⟨b', o', e', e0, e1, e2, e3, e4⟩ := toks_cells hT (t := 9) (by decide) _ rfl
  obtain ⟨rfl, rfl⟩ : b = b' ∧ o = o' := by simpa using e'
  have lb := World.block_lt_of_cell? w1 _ a0
  clear hT h1
  go_wp2
  go_ret
  exact ⟨rfl, M1.out⟩
theorem neq_tok (x : Tk) (w : World) : (binOp .neq 44 x.val x.val).run Try.prog w = .ok (.bool false) w := by
  obtain ⟨x0, x1, x2, x3, x4⟩ := x
  simp [go_sem]
set_option maxRecDepth 100000 in
set_option maxHeartbeats 16000000 in
theorem same14_any (s1 s2 g1 g2 : Option Addr) (c1 c2 d1 d2 : Nat) (l : List Tk) (D : List Wr) (w : World) (h1 : Toks w s1 c1 l) (h2 : Toks w s2 c2 l) (k1 : Wrs w g1 d1 D) (k2 : Wrs w g2 d2 D) (hl : l.length ≤ 100000) (hD : D.length ≤ 1000) (n m : Nat) (hn : l.length = n) (hm : D.length = m) :
    Calls Try.prog 11 #[.slice s1 n c1, .slice g1 m d1, .slice s2 n c2, .slice g2 m d2] w fun e w' => e = .returned (.bool true) ∧ Made w w' := by
  have H1 := Lib.hid h1
  have H2 := Lib.hid h2
  have D1 := Lib.hid k1
  have D2 := Lib.hid k2
  have HN := Lib.hid hn
  have HM := Lib.hid hm
  have hn2 : n ≤ 100000 := by omega
  have hm2 : m ≤ 1000 := by omega
  have hb1 : ((n : Int) != (n : Int)) = false := by simp
  have hb2 : ((m : Int) != (m : Int)) = false := by simp
  clear h1 h2 k1 k2 hn hm hl hD
  go_enter Try.func11, Try.ntmps11
  go_wp2_with (fail)
  go_loopw [9] (fun i wr => ∃ k nd : Nat, k ≤ n ∧ i = .int .i64 k ∧ wr = w.drewN nd) (fun i _ => n - (intOf i).toNat)
  case atStart => exact ⟨0, 0, Nat.zero_le _, rfl, rfl⟩
  case round =>
    obtain ⟨k, nd, hk, rfl, hwr⟩ := hrel
    have HW := Lib.hid hwr
    have hmw : Made w wr := hwr ▸ below_drewN (Made.refl w) nd
    have MW := Lib.hid hmw
    clear hwr hmw
    by_cases hlt : k < n
    · have hkl : k < l.length := by have := HN.out; omega
      obtain ⟨x, hx⟩ : ∃ x, l[k] = x := ⟨_, rfl⟩
      obtain ⟨b, o, rfl, a0, a1, a2, a3, a4⟩ := toks_cells (toks_made H1.out MW.out) hkl x hx
      obtain ⟨b2, o2, rfl, e0, e1, e2, e3, e4⟩ := toks_cells (toks_made H2.out MW.out) hkl x hx
      have hop := neq_tok x
      have k0 : (0 : Int) ≤ (k : Int) := by omega
      have k1 : (k : Int) < (n : Int) := by omega
      clear hx
      go_upto_region 6 with (fail)
      go_quiet (fail)
      rename_i nq
      go_wp2
      go_roundw
      case rel => exact ⟨k + 1, nd + nq, by omega, by go_num, by rw [HW.out]; simp only [World.drewN_drewN]⟩
      case measure => simp [intOf]; omega
    · obtain rfl : k = n := by omega
      go_wp2_with (fail)
      go_loopw [10] (fun i wr => ∃ j nd : Nat, j ≤ m ∧ i = .int .i64 j ∧ wr = w.drewN nd) (fun i _ => m - (intOf i).toNat)
      case atStart => exact ⟨0, nd, Nat.zero_le _, rfl, HW.out⟩
      case round =>
        obtain ⟨j, nd2, hj, rfl, hwr⟩ := hrel
        have HW2 := Lib.hid hwr
        have hmw : Made w wr := hwr ▸ below_drewN (Made.refl w) nd2
        have MW2 := Lib.hid hmw
        clear hwr hmw
        by_cases hjl : j < m
        · have hkl : j < D.length := by have := HM.out; omega
          obtain ⟨x, hx⟩ : ∃ x, D[j] = x := ⟨_, rfl⟩
          obtain ⟨b, o, rfl, a0, a1, a2⟩ := wrs_cells (wrs_made D1.out MW2.out) hkl x hx
          obtain ⟨b2, o2, rfl, e0, e1, e2⟩ := wrs_cells (wrs_made D2.out MW2.out) hkl x hx
          have q0 : (x.line != x.line) = false := by simp
          have q1 : (x.col != x.col) = false := by simp
          have q2 : (x.code != x.code) = false := by simp
          have k0 : (0 : Int) ≤ (j : Int) := by omega
          have k1 : (j : Int) < (m : Int) := by omega
          clear hx
          go_upto_region 11 with (fail)
          go_quiet (fail)
          rename_i nq
          go_wp2
          go_roundw
          case rel => exact ⟨j + 1, nd2 + nq, by omega, by go_num, by rw [HW2.out]; simp only [World.drewN_drewN]⟩
          case measure => simp [intOf]; omega
        · obtain rfl : j = m := by omega
          go_wp2
          go_ret
          exact ⟨rfl, MW2.out⟩
end
end Go.Proofs.Ytlhociildcdnoaa
