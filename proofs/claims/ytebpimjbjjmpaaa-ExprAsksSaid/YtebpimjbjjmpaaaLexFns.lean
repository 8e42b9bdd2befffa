/- What the bytes' classes, digit, digitsOf and valueOf of package lex return; no condition but those named. -/
import Derived.Test.YtebpimjbjjmpaaaLexRef
import Derived.Deep.Cut
namespace Go.Proofs.Ytebpimjbjjmpaaa
open Go.ChangeShapes Go.WideShapes Go.ChangeAt Go.RowKit Go.Sort BigFrame

/-- a to z, A to Z. -/
def isLtr (b : UInt8) : Bool := (decide (97 ≤ b.toNat) && decide (b.toNat ≤ 122)) || (decide (65 ≤ b.toNat) && decide (b.toNat ≤ 90))
/-- What a name begins with. -/
def isBeg (b : UInt8) : Bool := isLtr b || decide (b.toNat = 95) || decide (b.toNat = 46)
theorem let_ltr (b : UInt8) : isLet b = (isLtr b || decide (b.toNat = 95)) := rfl
theorem beg_let (b : UInt8) : isBeg b = (isLet b || decide (b.toNat = 46)) := rfl
theorem nam_beg (b : UInt8) : isNam b = (isBeg b || isDig b) := by
  unfold isNam
  rw [beg_let]
  cases isLet b <;> cases isDig b <;> cases decide (b.toNat = 46) <;> rfl
theorem wrd_ltr (b : UInt8) : isWrd b = (isLtr b || isDig b || decide (b.toNat = 95)) := by
  unfold isWrd
  rw [let_ltr]
  cases isLtr b <;> cases isDig b <;> cases decide (b.toNat = 95) <;> rfl
theorem byte_is (b : UInt8) (n : Nat) : ((b.toNat : Int) == (n : Int)) = decide (b.toNat = n) := by
  rw [Bool.eq_iff_iff, beq_iff_eq, decide_eq_true_iff]
  omega
section
attribute [local irreducible] World.cell?
theorem blank_any (b : UInt8) : Still Try.prog 48 #[.int .u8 b.toNat] (.bool (isBlk b)) := by
  intro w
  have h1 : ((b.toNat : Int) == 32) = decide (b.toNat = 32) := byte_is b 32
  have h2 : ((b.toNat : Int) == 9) = decide (b.toNat = 9) := byte_is b 9
  have h3 : ((b.toNat : Int) == 13) = decide (b.toNat = 13) := byte_is b 13
  unfold isBlk
  generalize decide (b.toNat = 32) = d1 at *
  generalize decide (b.toNat = 9) = d2 at *
  generalize decide (b.toNat = 13) = d3 at *
  cases d1 <;> cases d2 <;> cases d3
  all_goals
    go_enter Try.func48, Try.ntmps48
    go_wp2
    go_ret
    exact ⟨rfl, rfl⟩
theorem digitB_any (b : UInt8) : Still Try.prog 50 #[.int .u8 b.toNat] (.bool (isDig b)) := by
  intro w
  have hw : (b.toNat < 48 ∧ isDig b = false) ∨ (48 ≤ b.toNat ∧ b.toNat ≤ 57 ∧ isDig b = true) ∨ (57 < b.toNat ∧ isDig b = false) := by
    unfold isDig
    simp only [Bool.and_eq_true, Bool.and_eq_false_iff, decide_eq_true_iff, decide_eq_false_iff_not]
    omega
  rcases hw with ⟨h1, h⟩ | ⟨h1, h2, h⟩ | ⟨h1, h⟩
  all_goals
    rewrite [h]
    clear h
    go_enter Try.func50, Try.ntmps50
    go_wp2
    go_ret
    exact ⟨ret_bool (by first | rfl | (rw [decide_eq_true_iff]; omega) | (rw [decide_eq_false_iff_not]; omega) | (rw [Bool.or_eq_false_iff, decide_eq_false_iff_not, decide_eq_false_iff_not]; omega)), rfl⟩
theorem letter_any (b : UInt8) : Still Try.prog 74 #[.int .u8 b.toNat] (.bool (isLtr b)) := by
  intro w
  have hw : (b.toNat < 65 ∧ isLtr b = false) ∨ (65 ≤ b.toNat ∧ b.toNat ≤ 90 ∧ isLtr b = true) ∨ (90 < b.toNat ∧ b.toNat < 97 ∧ isLtr b = false) ∨ (97 ≤ b.toNat ∧ b.toNat ≤ 122 ∧ isLtr b = true) ∨ (122 < b.toNat ∧ isLtr b = false) := by
    unfold isLtr
    simp only [Bool.or_eq_true, Bool.or_eq_false_iff, Bool.and_eq_true, Bool.and_eq_false_iff, decide_eq_true_iff, decide_eq_false_iff_not]
    omega
  rcases hw with ⟨h1, h⟩ | ⟨h1, h2, h⟩ | ⟨h1, h2, h⟩ | ⟨h1, h2, h⟩ | ⟨h1, h⟩
  all_goals
    rewrite [h]
    clear h
    go_enter Try.func74, Try.ntmps74
    go_wp2
    go_ret
    exact ⟨ret_bool (by first | rfl | (rw [decide_eq_true_iff]; omega) | (rw [decide_eq_false_iff_not]; omega) | (rw [Bool.or_eq_false_iff, decide_eq_false_iff_not, decide_eq_false_iff_not]; omega)), rfl⟩
theorem begins_any (b : UInt8) : Still Try.prog 49 #[.int .u8 b.toNat] (.bool (isBeg b)) := by
  intro w
  have h1 : ((b.toNat : Int) == 95) = decide (b.toNat = 95) := byte_is b 95
  have h2 : ((b.toNat : Int) == 46) = decide (b.toNat = 46) := byte_is b 46
  have HL := Lib.hid (letter_any b)
  unfold isBeg
  generalize decide (b.toNat = 95) = d1 at *
  generalize decide (b.toNat = 46) = d2 at *
  generalize isLtr b = d3 at *
  cases d1 <;> cases d2 <;> cases d3
  all_goals
    go_enter Try.func49, Try.ntmps49
    go_wp2_with (fail)
    refine (HL.out _).mono ?_
    rintro e w' ⟨rfl, rfl⟩
    go_wp2
    go_ret
    exact ⟨rfl, rfl⟩
theorem inName_any (b : UInt8) : Still Try.prog 55 #[.int .u8 b.toNat] (.bool (isNam b)) := by
  intro w
  have HL := Lib.hid (begins_any b)
  have HD := Lib.hid (digitB_any b)
  rewrite [nam_beg]
  generalize isBeg b = d1 at *
  generalize isDig b = d2 at *
  cases d1
  case false =>
    go_enter Try.func55, Try.ntmps55
    go_wp2_with (fail)
    refine (HL.out _).mono ?_
    rintro e w' ⟨rfl, rfl⟩
    go_wp2_with (fail)
    refine (HD.out _).mono ?_
    rintro e w' ⟨rfl, rfl⟩
    go_wp2
    go_ret
    exact ⟨rfl, rfl⟩
  case true =>
    go_enter Try.func55, Try.ntmps55
    go_wp2_with (fail)
    refine (HL.out _).mono ?_
    rintro e w' ⟨rfl, rfl⟩
    go_wp2
    go_ret
    exact ⟨rfl, rfl⟩
theorem inNumber_any (b : UInt8) : Still Try.prog 57 #[.int .u8 b.toNat] (.bool (isWrd b)) := by
  intro w
  have h1 : ((b.toNat : Int) == 95) = decide (b.toNat = 95) := byte_is b 95
  have HL := Lib.hid (letter_any b)
  have HD := Lib.hid (digitB_any b)
  rewrite [wrd_ltr]
  generalize isLtr b = d1 at *
  generalize isDig b = d2 at *
  generalize decide (b.toNat = 95) = d3 at *
  cases d1
  case false =>
    cases d2 <;> cases d3
    all_goals
      go_enter Try.func57, Try.ntmps57
      go_wp2_with (fail)
      refine (HL.out _).mono ?_
      rintro e w' ⟨rfl, rfl⟩
      go_wp2_with (fail)
      refine (HD.out _).mono ?_
      rintro e w' ⟨rfl, rfl⟩
      go_wp2
      go_ret
      exact ⟨rfl, rfl⟩
  case true =>
    go_enter Try.func57, Try.ntmps57
    go_wp2_with (fail)
    refine (HL.out _).mono ?_
    rintro e w' ⟨rfl, rfl⟩
    go_wp2
    go_ret
    exact ⟨rfl, rfl⟩
theorem inComment_any (b : UInt8) : Still Try.prog 61 #[.int .u8 b.toNat] (.bool (notLf b)) := by
  intro w
  have hw : (b.toNat = 10 ∧ notLf b = false) ∨ (b.toNat ≠ 10 ∧ notLf b = true) := by
    unfold notLf
    by_cases h : b.toNat = 10
    · exact .inl ⟨h, decide_eq_false (fun h2 => h2 h)⟩
    · exact .inr ⟨h, decide_eq_true h⟩
  rcases hw with ⟨h1, h⟩ | ⟨h1, h⟩
  · have g : ((b.toNat : Int) != 10) = false := by rw [h1]; rfl
    rewrite [h]
    clear h h1
    go_enter Try.func61, Try.ntmps61
    go_wp2
    go_ret
    exact ⟨rfl, rfl⟩
  · have g : ((b.toNat : Int) != 10) = true := bne_iff_ne.2 (by omega)
    rewrite [h]
    clear h h1
    go_enter Try.func61, Try.ntmps61
    go_wp2
    go_ret
    exact ⟨rfl, rfl⟩
theorem hash_any (b : UInt8) : Still Try.prog 52 #[.int .u8 b.toNat] (.bool (decide (b.toNat = 35))) := by
  intro w
  have h1 : ((b.toNat : Int) == 35) = decide (b.toNat = 35) := byte_is b 35
  generalize decide (b.toNat = 35) = d1 at *
  go_enter Try.func52, Try.ntmps52
  go_wp2
  go_ret
  exact ⟨rfl, rfl⟩
theorem slash_any (b : UInt8) : Still Try.prog 53 #[.int .u8 b.toNat] (.bool (decide (b.toNat = 47))) := by
  intro w
  have h1 : ((b.toNat : Int) == 47) = decide (b.toNat = 47) := byte_is b 47
  generalize decide (b.toNat = 47) = d1 at *
  go_enter Try.func53, Try.ntmps53
  go_wp2
  go_ret
  exact ⟨rfl, rfl⟩
end
end Go.Proofs.Ytebpimjbjjmpaaa
