/- What same and texts of the laws of expr return of two rows that are the same. -/
import Derived.Test.YtebpimjbjjmpaaaExprAwake
namespace Go.Proofs.Ytebpimjbjjmpaaa
open Go.ChangeShapes Go.WideShapes Go.ChangeAt Go.RowKit Go.Sort BigFrame

section
attribute [local irreducible] World.cell?
theorem neq_tm (x : Tm) (w : World) : (binOp .neq 36 x.val x.val).run Try.prog w = .ok (.bool false) w := by
  obtain ⟨x0, x1, x2, x3, x4⟩ := x
  simp [go_sem]
set_option maxRecDepth 100000 in
set_option maxHeartbeats 16000000 in
theorem same15_any (s1 s2 : Option Addr) (c1 c2 : Nat) (l : List Tm) (w : World) (h1 : Tms w s1 c1 l) (h2 : Tms w s2 c2 l) (hl : l.length ≤ 100000) (n m : Nat) (hn : l.length = n) (hm : l.length = m) :
    Calls Try.prog 20 #[.slice s1 n c1, .slice s2 m c2] w fun e w' => e = .returned (.bool true) ∧ Made w w' := by
  obtain rfl : n = m := hn.symm.trans hm
  have H1 := Lib.hid h1
  have H2 := Lib.hid h2
  have HN := Lib.hid hn
  have hn2 : n ≤ 100000 := by omega
  have hb1 : ((n : Int) != (n : Int)) = false := by simp
  clear h1 h2 hn hm hl
  go_enter Try.func20, Try.ntmps20
  go_wp2_with (fail)
  go_loopw [5] (fun i wr => ∃ k nd : Nat, k ≤ n ∧ i = .int .i64 k ∧ wr = w.drewN nd) (fun i _ => n - (intOf i).toNat)
  case atStart => exact ⟨0, 0, Nat.zero_le _, rfl, rfl⟩
  case round =>
    obtain ⟨k, nd, hk, rfl, hwr⟩ := hrel
    have HW := Lib.hid hwr
    have hmw : Made w wr := hwr ▸ below_drewN (Made.refl w) nd
    have MW := Lib.hid hmw
    clear hwr hmw
    by_cases hlt : k < n
    · have hkl : k < l.length := by have := HN.out; omega
      obtain ⟨x, hx⟩ : ∃ x, l[k] = x := ⟨_, rfl⟩
      obtain ⟨b, o, rfl, a0, a1, a2, a3, a4⟩ := tms_cells (H1.out.made tm_len MW.out) hkl x hx
      obtain ⟨b2, o2, rfl, e0, e1, e2, e3, e4⟩ := tms_cells (H2.out.made tm_len MW.out) hkl x hx
      have hop := neq_tm x
      have k0 : (0 : Int) ≤ (k : Int) := by omega
      have k1 : (k : Int) < (n : Int) := by omega
      clear hx
      go_upto_region 6 with (fail)
      go_quiet (fail)
      rename_i nq
      go_wp2
      go_roundw
      case rel => exact ⟨k + 1, nd + nq, by omega, by go_num, by rw [HW.out]; simp only [World.drewN_drewN]⟩
      case measure => simp [intOf]; omega
    · obtain rfl : k = n := by omega
      go_wp2
      go_ret
      exact ⟨rfl, MW.out⟩
set_option maxRecDepth 100000 in
set_option maxHeartbeats 16000000 in
theorem texts15_any (s1 s2 : Option Addr) (c1 c2 : Nat) (l : List (List UInt8)) (w : World) (h1 : Txs w s1 c1 l) (h2 : Txs w s2 c2 l) (hl : l.length ≤ 100000) (n m : Nat) (hn : l.length = n) (hm : l.length = m) :
    Calls Try.prog 14 #[.slice s1 n c1, .slice s2 m c2] w fun e w' => e = .returned (.bool true) ∧ Made w w' := by
  obtain rfl : n = m := hn.symm.trans hm
  have H1 := Lib.hid h1
  have H2 := Lib.hid h2
  have HN := Lib.hid hn
  have hn2 : n ≤ 100000 := by omega
  have hb1 : ((n : Int) != (n : Int)) = false := by simp
  clear h1 h2 hn hm hl
  go_enter Try.func14, Try.ntmps14
  go_wp2_with (fail)
  go_loopw [5] (fun i wr => ∃ k nd : Nat, k ≤ n ∧ i = .int .i64 k ∧ wr = w.drewN nd) (fun i _ => n - (intOf i).toNat)
  case atStart => exact ⟨0, 0, Nat.zero_le _, rfl, rfl⟩
  case round =>
    obtain ⟨k, nd, hk, rfl, hwr⟩ := hrel
    have HW := Lib.hid hwr
    have hmw : Made w wr := hwr ▸ below_drewN (Made.refl w) nd
    have MW := Lib.hid hmw
    clear hwr hmw
    by_cases hlt : k < n
    · have hkl : k < l.length := by have := HN.out; omega
      obtain ⟨x, hx⟩ : ∃ x, l[k] = x := ⟨_, rfl⟩
      obtain ⟨b, o, rfl, a0⟩ := txs_cell (H1.out.made tx_len MW.out) hkl x hx
      obtain ⟨b2, o2, rfl, e0⟩ := txs_cell (H2.out.made tx_len MW.out) hkl x hx
      have k0 : (0 : Int) ≤ (k : Int) := by omega
      have k1 : (k : Int) < (n : Int) := by omega
      clear hx
      go_upto_region 6 with (fail)
      go_quiet (fail)
      rename_i nq
      go_wp2
      go_roundw
      case rel => exact ⟨k + 1, nd + nq, by omega, by go_num, by rw [HW.out]; simp only [World.drewN_drewN]⟩
      case measure => simp [intOf]; omega
    · obtain rfl : k = n := by omega
      go_wp2
      go_ret
      exact ⟨rfl, MW.out⟩
end
end Go.Proofs.Ytebpimjbjjmpaaa
