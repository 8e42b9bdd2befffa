/- What isSingle, digit, digitsOf and valueOf of package lex, return; no condition but those named. -/
import Derived.Test.YtebpimjbjjmpaaaLexFns
import Derived.Laws.StandIn
import Derived.Laws.Externs
namespace Go.Proofs.Ytebpimjbjjmpaaa
open Go.ChangeShapes Go.WideShapes Go.ChangeAt Go.RowKit Go.Sort BigFrame

/-- { } ; : ( ) , = + - * ! -/
def isSin (b : UInt8) : Bool := [123, 125, 59, 58, 40, 41, 44, 61, 43, 45, 42, 33].contains b.toNat
theorem sgn_sin (b : UInt8) : isSgn b = (isSin b || decide (b.toNat = 35)) := by
  have := all_bytes (p := fun b => isSgn b == (isSin b || decide (b.toNat = 35))) (by decide +kernel) b
  exact beq_iff_eq.1 this
abbrev sinS : ByteArray := ⟨#[123, 125, 59, 58, 40, 41, 44, 61, 43, 45, 42, 33]⟩
theorem sin_first (b : UInt8) : decide (0 ≤ firstIdx sinS b) = isSin b := by
  have := all_bytes (p := fun b => decide (0 ≤ firstIdx sinS b) == isSin b) (by decide +kernel) b
  exact beq_iff_eq.1 this
theorem run_idx (S : ByteArray) (b : UInt8) (w : World) : (callFunc 87 #[.string S, .int .u8 b.toNat]).run Try.prog w = .ok (.value (.int .i64 (firstIdx S b))) w := by
  rw [run_callFunc_indexByte Try.func87 (by kernel_rfl) (by kernel_rfl) (by kernel_rfl) (by kernel_rfl), run_indexByte_string]
  have e : ((b.toNat : Int).toNat).toUInt8 = b := by simp
  rw [e]
  rfl
section
attribute [local irreducible] World.cell?
theorem single_any (b : UInt8) : Still Try.prog 51 #[.int .u8 b.toNat] (.bool (isSin b)) := by
  intro w
  have hd := fun w => run_idx sinS b w
  have hs := sin_first b
  generalize firstIdx sinS b = z at *
  go_enter Try.func51, Try.ntmps51
  go_wp2
  go_ret
  exact ⟨rfl, rfl⟩
end
/-! Digits. -/
/-- A digit's value and that it is one, or 0 and that it is none. -/
def digV (base : Int) (b : UInt8) : Int := if lxDig base b = true then hexZ b else 0
theorem dig_ways (b : UInt8) (base : Int) (hb : base = 10 ∨ base = 16) :
    (isDig b = true ∧ 48 ≤ b.toNat ∧ b.toNat ≤ 57 ∧ hexZ b = (b.toNat : Int) - 48 ∧ lxDig base b = true) ∨
    (isDig b = false ∧ 97 ≤ b.toNat ∧ b.toNat ≤ 102 ∧ hexZ b = (b.toNat : Int) - 87 ∧ lxDig base b = decide (base = 16)) ∨
    (isDig b = false ∧ 65 ≤ b.toNat ∧ b.toNat ≤ 70 ∧ hexZ b = (b.toNat : Int) - 55 ∧ lxDig base b = decide (base = 16)) ∨
    (isDig b = false ∧ (b.toNat < 65 ∨ (70 < b.toNat ∧ b.toNat < 97) ∨ 102 < b.toNat) ∧ hexZ b = -1 ∧ lxDig base b = false) := by
  have hd : isDig b = decide (48 ≤ b.toNat ∧ b.toNat ≤ 57) := by
    unfold isDig
    rw [Bool.decide_and]
  have hl : lxDig base b = decide (0 ≤ hexZ b ∧ hexZ b < base) := by
    unfold lxDig
    rw [Bool.decide_and]
  rw [hd, hl]
  by_cases h1 : 48 ≤ b.toNat ∧ b.toNat ≤ 57
  · have hz : hexZ b = (b.toNat : Int) - 48 := by unfold hexZ; rw [if_pos h1]
    exact .inl ⟨decide_eq_true h1, h1.1, h1.2, hz, decide_eq_true (by omega)⟩
  by_cases h2 : 97 ≤ b.toNat ∧ b.toNat ≤ 102
  · have hz : hexZ b = (b.toNat : Int) - 87 := by unfold hexZ; rw [if_neg h1, if_pos h2]
    exact .inr (.inl ⟨decide_eq_false h1, h2.1, h2.2, hz, by rw [Bool.eq_iff_iff, decide_eq_true_iff, decide_eq_true_iff]; omega⟩)
  by_cases h3 : 65 ≤ b.toNat ∧ b.toNat ≤ 70
  · have hz : hexZ b = (b.toNat : Int) - 55 := by unfold hexZ; rw [if_neg h1, if_neg h2, if_pos h3]
    exact .inr (.inr (.inl ⟨decide_eq_false h1, h3.1, h3.2, hz, by rw [Bool.eq_iff_iff, decide_eq_true_iff, decide_eq_true_iff]; omega⟩))
  · have hz : hexZ b = -1 := by unfold hexZ; rw [if_neg h1, if_neg h2, if_neg h3]
    exact .inr (.inr (.inr ⟨decide_eq_false h1, by omega, hz, decide_eq_false (by omega)⟩))
section
attribute [local irreducible] World.cell?
set_option maxRecDepth 100000 in
set_option maxHeartbeats 4000000 in
theorem digit_any (b : UInt8) (base : Int) (hb : base = 10 ∨ base = 16) : Still Try.prog 85 #[.int .u8 b.toNat, .int .i64 base] (.tuple #[.int .i64 (digV base b), .bool (lxDig base b)]) := by
  intro w
  have hw := dig_ways b base hb
  have HD := Lib.hid (digitB_any b)
  have hlt := b.toNat_lt
  have hv : digV base b = if lxDig base b = true then hexZ b else 0 := rfl
  generalize digV base b = v at *
  generalize hexZ b = z at *
  generalize lxDig base b = d at *
  generalize isDig b = q at *
  rcases hb with rfl | rfl
  all_goals
    have HV := Lib.hid hv
    clear hv
    rcases hw with ⟨rfl, h1, h2, hz, hd⟩ | ⟨rfl, h1, h2, hz, hd⟩ | ⟨rfl, h1, h2, hz, hd⟩ | ⟨rfl, h1 | ⟨h1, h2⟩ | h1, hz, hd⟩
    all_goals
      have HZ := Lib.hid hz
      have HB := Lib.hid hd
      clear hz hd
      go_enter Try.func85, Try.ntmps85
      go_wp2_with (fail)
      refine (HD.out _).mono ?_
      rintro e w' ⟨rfl, rfl⟩
      go_wp2
      refine bodyPost_ret (v := .tuple #[.int .i64 v, .bool d]) (by rw [HV.out, HZ.out, HB.out]; simp [results, Try.results85, go_sem]; try omega) rfl ?_
      exact ⟨rfl, rfl⟩
end
end Go.Proofs.Ytebpimjbjjmpaaa
