/- What the bytes' classes, digit, digitsOf and valueOf of package lex return; no condition but those named. · What isSingle, digit, digitsOf and valueOf of package lex, return; no condition but those named. · What strings.Clone returns; no condition but that on the length. · What digitsOf and valueOf of package lex, and the library's HasPrefix that they call, return; no condition but that on the length. · What valueOf of package lex returns; no condition but that on the length. -/
import Derived.Test.YtnfmlmamgkpocaaGreatDoorGLexR
import Derived.Deep.Cut
import Derived.Laws.StandIn
import Derived.Laws.Externs
import Derived.Lib.UnsafeStr
import Derived.Lib.BufferWrite
import Derived.Laws.MakeOwn
import Derived.Lib.Strings
namespace Go.Proofs.YtnfmlmamgkpocaaGreatDoor
section
open Go.ChangeShapes Go.WideShapes Go.ChangeAt Go.RowKit Go.Sort BigFrame

/-- a to z, A to Z. -/
def isLtr (b : UInt8) : Bool := (decide (97 ≤ b.toNat) && decide (b.toNat ≤ 122)) || (decide (65 ≤ b.toNat) && decide (b.toNat ≤ 90))
/-- What a name begins with. -/
def isBeg (b : UInt8) : Bool := isLtr b || decide (b.toNat = 95) || decide (b.toNat = 46)
theorem let_ltr (b : UInt8) : isLet b = (isLtr b || decide (b.toNat = 95)) := rfl
theorem beg_let (b : UInt8) : isBeg b = (isLet b || decide (b.toNat = 46)) := rfl
theorem nam_beg (b : UInt8) : isNam b = (isBeg b || isDig b) := by
  unfold isNam
  rw [beg_let]
  cases isLet b <;> cases isDig b <;> cases decide (b.toNat = 46) <;> rfl
theorem wrd_ltr (b : UInt8) : isWrd b = (isLtr b || isDig b || decide (b.toNat = 95)) := by
  unfold isWrd
  rw [let_ltr]
  cases isLtr b <;> cases isDig b <;> cases decide (b.toNat = 95) <;> rfl
theorem byte_is (b : UInt8) (n : Nat) : ((b.toNat : Int) == (n : Int)) = decide (b.toNat = n) := by
  rw [Bool.eq_iff_iff, beq_iff_eq, decide_eq_true_iff]
  omega
section
attribute [local irreducible] World.cell?
theorem blank_any (b : UInt8) : Still Tryz.prog 101 #[.int .u8 b.toNat] (.bool (isBlk b)) := by
  intro w
  have h1 : ((b.toNat : Int) == 32) = decide (b.toNat = 32) := byte_is b 32
  have h2 : ((b.toNat : Int) == 9) = decide (b.toNat = 9) := byte_is b 9
  have h3 : ((b.toNat : Int) == 13) = decide (b.toNat = 13) := byte_is b 13
  unfold isBlk
  generalize decide (b.toNat = 32) = d1 at *
  generalize decide (b.toNat = 9) = d2 at *
  generalize decide (b.toNat = 13) = d3 at *
  cases d1 <;> cases d2 <;> cases d3
  all_goals
    go_enter Tryz.func101, Tryz.ntmps101
    go_wp2
    go_ret
    exact ⟨rfl, rfl⟩
theorem digitB_any (b : UInt8) : Still Tryz.prog 103 #[.int .u8 b.toNat] (.bool (isDig b)) := by
  intro w
  have hw : (b.toNat < 48 ∧ isDig b = false) ∨ (48 ≤ b.toNat ∧ b.toNat ≤ 57 ∧ isDig b = true) ∨ (57 < b.toNat ∧ isDig b = false) := by
    unfold isDig
    simp only [Bool.and_eq_true, Bool.and_eq_false_iff, decide_eq_true_iff, decide_eq_false_iff_not]
    omega
  rcases hw with ⟨h1, h⟩ | ⟨h1, h2, h⟩ | ⟨h1, h⟩
  all_goals
    rewrite [h]
    clear h
    go_enter Tryz.func103, Tryz.ntmps103
    go_wp2
    go_ret
    exact ⟨ret_bool (by first | rfl | (rw [decide_eq_true_iff]; omega) | (rw [decide_eq_false_iff_not]; omega) | (rw [Bool.or_eq_false_iff, decide_eq_false_iff_not, decide_eq_false_iff_not]; omega)), rfl⟩
theorem letter_any (b : UInt8) : Still Tryz.prog 151 #[.int .u8 b.toNat] (.bool (isLtr b)) := by
  intro w
  have hw : (b.toNat < 65 ∧ isLtr b = false) ∨ (65 ≤ b.toNat ∧ b.toNat ≤ 90 ∧ isLtr b = true) ∨ (90 < b.toNat ∧ b.toNat < 97 ∧ isLtr b = false) ∨ (97 ≤ b.toNat ∧ b.toNat ≤ 122 ∧ isLtr b = true) ∨ (122 < b.toNat ∧ isLtr b = false) := by
    unfold isLtr
    simp only [Bool.or_eq_true, Bool.or_eq_false_iff, Bool.and_eq_true, Bool.and_eq_false_iff, decide_eq_true_iff, decide_eq_false_iff_not]
    omega
  rcases hw with ⟨h1, h⟩ | ⟨h1, h2, h⟩ | ⟨h1, h2, h⟩ | ⟨h1, h2, h⟩ | ⟨h1, h⟩
  all_goals
    rewrite [h]
    clear h
    go_enter Tryz.func151, Tryz.ntmps151
    go_wp2
    go_ret
    exact ⟨ret_bool (by first | rfl | (rw [decide_eq_true_iff]; omega) | (rw [decide_eq_false_iff_not]; omega) | (rw [Bool.or_eq_false_iff, decide_eq_false_iff_not, decide_eq_false_iff_not]; omega)), rfl⟩
theorem begins_any (b : UInt8) : Still Tryz.prog 102 #[.int .u8 b.toNat] (.bool (isBeg b)) := by
  intro w
  have h1 : ((b.toNat : Int) == 95) = decide (b.toNat = 95) := byte_is b 95
  have h2 : ((b.toNat : Int) == 46) = decide (b.toNat = 46) := byte_is b 46
  have HL := Lib.hid (letter_any b)
  unfold isBeg
  generalize decide (b.toNat = 95) = d1 at *
  generalize decide (b.toNat = 46) = d2 at *
  generalize isLtr b = d3 at *
  cases d1 <;> cases d2 <;> cases d3
  all_goals
    go_enter Tryz.func102, Tryz.ntmps102
    go_wp2_with (fail)
    refine (HL.out _).mono ?_
    rintro e w' ⟨rfl, rfl⟩
    go_wp2
    go_ret
    exact ⟨rfl, rfl⟩
theorem inName_any (b : UInt8) : Still Tryz.prog 108 #[.int .u8 b.toNat] (.bool (isNam b)) := by
  intro w
  have HL := Lib.hid (begins_any b)
  have HD := Lib.hid (digitB_any b)
  rewrite [nam_beg]
  generalize isBeg b = d1 at *
  generalize isDig b = d2 at *
  cases d1
  case false =>
    go_enter Tryz.func108, Tryz.ntmps108
    go_wp2_with (fail)
    refine (HL.out _).mono ?_
    rintro e w' ⟨rfl, rfl⟩
    go_wp2_with (fail)
    refine (HD.out _).mono ?_
    rintro e w' ⟨rfl, rfl⟩
    go_wp2
    go_ret
    exact ⟨rfl, rfl⟩
  case true =>
    go_enter Tryz.func108, Tryz.ntmps108
    go_wp2_with (fail)
    refine (HL.out _).mono ?_
    rintro e w' ⟨rfl, rfl⟩
    go_wp2
    go_ret
    exact ⟨rfl, rfl⟩
theorem inNumber_any (b : UInt8) : Still Tryz.prog 110 #[.int .u8 b.toNat] (.bool (isWrd b)) := by
  intro w
  have h1 : ((b.toNat : Int) == 95) = decide (b.toNat = 95) := byte_is b 95
  have HL := Lib.hid (letter_any b)
  have HD := Lib.hid (digitB_any b)
  rewrite [wrd_ltr]
  generalize isLtr b = d1 at *
  generalize isDig b = d2 at *
  generalize decide (b.toNat = 95) = d3 at *
  cases d1
  case false =>
    cases d2 <;> cases d3
    all_goals
      go_enter Tryz.func110, Tryz.ntmps110
      go_wp2_with (fail)
      refine (HL.out _).mono ?_
      rintro e w' ⟨rfl, rfl⟩
      go_wp2_with (fail)
      refine (HD.out _).mono ?_
      rintro e w' ⟨rfl, rfl⟩
      go_wp2
      go_ret
      exact ⟨rfl, rfl⟩
  case true =>
    go_enter Tryz.func110, Tryz.ntmps110
    go_wp2_with (fail)
    refine (HL.out _).mono ?_
    rintro e w' ⟨rfl, rfl⟩
    go_wp2
    go_ret
    exact ⟨rfl, rfl⟩
theorem inComment_any (b : UInt8) : Still Tryz.prog 114 #[.int .u8 b.toNat] (.bool (notLf b)) := by
  intro w
  have hw : (b.toNat = 10 ∧ notLf b = false) ∨ (b.toNat ≠ 10 ∧ notLf b = true) := by
    unfold notLf
    by_cases h : b.toNat = 10
    · exact .inl ⟨h, decide_eq_false (fun h2 => h2 h)⟩
    · exact .inr ⟨h, decide_eq_true h⟩
  rcases hw with ⟨h1, h⟩ | ⟨h1, h⟩
  · have g : ((b.toNat : Int) != 10) = false := by rw [h1]; rfl
    rewrite [h]
    clear h h1
    go_enter Tryz.func114, Tryz.ntmps114
    go_wp2
    go_ret
    exact ⟨rfl, rfl⟩
  · have g : ((b.toNat : Int) != 10) = true := bne_iff_ne.2 (by omega)
    rewrite [h]
    clear h h1
    go_enter Tryz.func114, Tryz.ntmps114
    go_wp2
    go_ret
    exact ⟨rfl, rfl⟩
theorem hash_any (b : UInt8) : Still Tryz.prog 105 #[.int .u8 b.toNat] (.bool (decide (b.toNat = 35))) := by
  intro w
  have h1 : ((b.toNat : Int) == 35) = decide (b.toNat = 35) := byte_is b 35
  generalize decide (b.toNat = 35) = d1 at *
  go_enter Tryz.func105, Tryz.ntmps105
  go_wp2
  go_ret
  exact ⟨rfl, rfl⟩
theorem slash_any (b : UInt8) : Still Tryz.prog 106 #[.int .u8 b.toNat] (.bool (decide (b.toNat = 47))) := by
  intro w
  have h1 : ((b.toNat : Int) == 47) = decide (b.toNat = 47) := byte_is b 47
  generalize decide (b.toNat = 47) = d1 at *
  go_enter Tryz.func106, Tryz.ntmps106
  go_wp2
  go_ret
  exact ⟨rfl, rfl⟩
end
end
section
open Go.ChangeShapes Go.WideShapes Go.ChangeAt Go.RowKit Go.Sort BigFrame

/-- { } ; : ( ) , = + - * ! -/
def isSin (b : UInt8) : Bool := [123, 125, 59, 58, 40, 41, 44, 61, 43, 45, 42, 33].contains b.toNat
theorem sgn_sin (b : UInt8) : isSgn b = (isSin b || decide (b.toNat = 35)) := by
  have := all_bytes (p := fun b => isSgn b == (isSin b || decide (b.toNat = 35))) (by decide +kernel) b
  exact beq_iff_eq.1 this
abbrev sinS : ByteArray := ⟨#[123, 125, 59, 58, 40, 41, 44, 61, 43, 45, 42, 33]⟩
theorem sin_first (b : UInt8) : decide (0 ≤ firstIdx sinS b) = isSin b := by
  have := all_bytes (p := fun b => decide (0 ≤ firstIdx sinS b) == isSin b) (by decide +kernel) b
  exact beq_iff_eq.1 this
theorem run_idx (S : ByteArray) (b : UInt8) (w : World) : (callFunc 205 #[.string S, .int .u8 b.toNat]).run Tryz.prog w = .ok (.value (.int .i64 (firstIdx S b))) w := by
  rw [run_callFunc_indexByte Tryz.func205 (by kernel_rfl) (by kernel_rfl) (by kernel_rfl) (by kernel_rfl), run_indexByte_string]
  have e : ((b.toNat : Int).toNat).toUInt8 = b := by simp
  rw [e]
  rfl
section
attribute [local irreducible] World.cell?
theorem single_any (b : UInt8) : Still Tryz.prog 104 #[.int .u8 b.toNat] (.bool (isSin b)) := by
  intro w
  have hd := fun w => run_idx sinS b w
  have hs := sin_first b
  generalize firstIdx sinS b = z at *
  go_enter Tryz.func104, Tryz.ntmps104
  go_wp2
  go_ret
  exact ⟨rfl, rfl⟩
end
/-! Digits. -/
/-- A digit's value and that it is one, or 0 and that it is none. -/
def digV (base : Int) (b : UInt8) : Int := if lxDig base b = true then hexZ b else 0
theorem dig_ways (b : UInt8) (base : Int) (hb : base = 10 ∨ base = 16) :
    (isDig b = true ∧ 48 ≤ b.toNat ∧ b.toNat ≤ 57 ∧ hexZ b = (b.toNat : Int) - 48 ∧ lxDig base b = true) ∨
    (isDig b = false ∧ 97 ≤ b.toNat ∧ b.toNat ≤ 102 ∧ hexZ b = (b.toNat : Int) - 87 ∧ lxDig base b = decide (base = 16)) ∨
    (isDig b = false ∧ 65 ≤ b.toNat ∧ b.toNat ≤ 70 ∧ hexZ b = (b.toNat : Int) - 55 ∧ lxDig base b = decide (base = 16)) ∨
    (isDig b = false ∧ (b.toNat < 65 ∨ (70 < b.toNat ∧ b.toNat < 97) ∨ 102 < b.toNat) ∧ hexZ b = -1 ∧ lxDig base b = false) := by
  have hd : isDig b = decide (48 ≤ b.toNat ∧ b.toNat ≤ 57) := by
    unfold isDig
    rw [Bool.decide_and]
  have hl : lxDig base b = decide (0 ≤ hexZ b ∧ hexZ b < base) := by
    unfold lxDig
    rw [Bool.decide_and]
  rw [hd, hl]
  by_cases h1 : 48 ≤ b.toNat ∧ b.toNat ≤ 57
  · have hz : hexZ b = (b.toNat : Int) - 48 := by unfold hexZ; rw [if_pos h1]
    exact .inl ⟨decide_eq_true h1, h1.1, h1.2, hz, decide_eq_true (by omega)⟩
  by_cases h2 : 97 ≤ b.toNat ∧ b.toNat ≤ 102
  · have hz : hexZ b = (b.toNat : Int) - 87 := by unfold hexZ; rw [if_neg h1, if_pos h2]
    exact .inr (.inl ⟨decide_eq_false h1, h2.1, h2.2, hz, by rw [Bool.eq_iff_iff, decide_eq_true_iff, decide_eq_true_iff]; omega⟩)
  by_cases h3 : 65 ≤ b.toNat ∧ b.toNat ≤ 70
  · have hz : hexZ b = (b.toNat : Int) - 55 := by unfold hexZ; rw [if_neg h1, if_neg h2, if_pos h3]
    exact .inr (.inr (.inl ⟨decide_eq_false h1, h3.1, h3.2, hz, by rw [Bool.eq_iff_iff, decide_eq_true_iff, decide_eq_true_iff]; omega⟩))
  · have hz : hexZ b = -1 := by unfold hexZ; rw [if_neg h1, if_neg h2, if_neg h3]
    exact .inr (.inr (.inr ⟨decide_eq_false h1, by omega, hz, decide_eq_false (by omega)⟩))
section
attribute [local irreducible] World.cell?
set_option maxRecDepth 100000 in
set_option maxHeartbeats 4000000 in
theorem digit_any (b : UInt8) (base : Int) (hb : base = 10 ∨ base = 16) : Still Tryz.prog 189 #[.int .u8 b.toNat, .int .i64 base] (.tuple #[.int .i64 (digV base b), .bool (lxDig base b)]) := by
  intro w
  have hw := dig_ways b base hb
  have HD := Lib.hid (digitB_any b)
  have hlt := b.toNat_lt
  have hv : digV base b = if lxDig base b = true then hexZ b else 0 := rfl
  generalize digV base b = v at *
  generalize hexZ b = z at *
  generalize lxDig base b = d at *
  generalize isDig b = q at *
  rcases hb with rfl | rfl
  all_goals
    have HV := Lib.hid hv
    clear hv
    rcases hw with ⟨rfl, h1, h2, hz, hd⟩ | ⟨rfl, h1, h2, hz, hd⟩ | ⟨rfl, h1, h2, hz, hd⟩ | ⟨rfl, h1 | ⟨h1, h2⟩ | h1, hz, hd⟩
    all_goals
      have HZ := Lib.hid hz
      have HB := Lib.hid hd
      clear hz hd
      go_enter Tryz.func189, Tryz.ntmps189
      go_wp2_with (fail)
      refine (HD.out _).mono ?_
      rintro e w' ⟨rfl, rfl⟩
      go_wp2
      refine bodyPost_ret (v := .tuple #[.int .i64 v, .bool d]) (by rw [HV.out, HZ.out, HB.out]; simp [results, Tryz.results189, go_sem]; try omega) rfl ?_
      exact ⟨rfl, rfl⟩
end
end
section
open Go.ChangeShapes Go.WideShapes Go.ChangeAt Go.RowKit Go.Sort BigFrame

theorem byte_row : (Tryz.prog.info? 5).map (fun i => (i.zero, i.size, i.bytes)) = some (some (Value.int .u8 0), 1, 1) := by kernel_rfl
section
attribute [local irreducible] World.cell?
set_option maxRecDepth 100000 in
set_option maxHeartbeats 4000000 in
theorem clone_any (W : World) (S : ByteArray) (hS : S.size ≤ 100000) : Makes Tryz.prog W 154 #[.string S] (.string S) := by
  intro w hm
  by_cases h0 : S.size = 0
  · have hs : S = ⟨#[]⟩ := by
      apply ByteArray.ext
      exact Array.eq_empty_of_size_eq_zero h0
    subst hs
    go_enter Tryz.func154, Tryz.ntmps154
    go_wp2
    go_ret
    exact ⟨rfl, hm⟩
  obtain ⟨i0, hi0, hz0, hz1, hz2⟩ := info_parts byte_row
  -- the new row, and what the copy leaves in it
  obtain ⟨M, hM⟩ : ∃ M, M = madeCells (Value.int .u8 0).cells (((S.size : Nat) : Int).toNat * i0.size) := ⟨_, rfl⟩
  have hMs : M.size = S.size := by rw [hM, size_madeCells, hz1]; simp
  have hmk : ∀ u : World, (Instr.makeSlice 208 (.int .i64 (S.size : Int)) (.int .i64 (S.size : Int))).run Tryz.prog u = .ok (.slice (some ⟨u.heap.size, 0, none⟩) S.size S.size) (u.alloc (.cells M 5)) := fun u => by
    have h := run_make (P := Tryz.prog) u 208 5 i0 (.int .u8 0) Tryz.underlying208 hi0 hz0 .i64 .i64 (S.size : Int) (S.size : Int) (by omega) (by omega) (by rw [hz2]; omega) (by omega)
    rw [← hM] at h
    simpa using h
  clear hM
  have hinfo : (Tryz.prog.info? 5).map (·.size) = some 1 := by rw [hi0]; simp [hz1]
  have hcp := Lib.run_copy_row_string (P := Tryz.prog) (w.alloc (.cells M 5)) 208 9 3 5 w.heap.size 0 S.size S.size S M 5 Tryz.underlying208 hinfo (heap_alloc_new w _) (Nat.le_refl _) (by omega)
  obtain ⟨Y, hY⟩ : ∃ Y, Y = (M.toList.take 0 ++ Lib.byteCells S.data.toList ++ M.toList.drop (0 + S.size)).toArray := ⟨_, rfl⟩
  rw [← hY] at hcp
  have hYl : Y.toList = Lib.byteCells S.data.toList := by
    rw [hY, List.toList_toArray, List.take_zero, List.nil_append, List.drop_of_length_le (by rw [Array.length_toList]; omega), List.append_nil]
  have hYs : Y.size = S.size := by rw [← Array.length_toList, hYl, Lib.byteCells_length, ← Lib.size_eq]
  have hgY : ((w.alloc (.cells M 5)).setRow w.heap.size Y).heap[w.heap.size]? = some (.cells Y 5 (0, 0)) := setRow_heap _ _ M _ 5 (0, 0) (heap_alloc_new w _)
  have hne : S.data.toList ≠ [] := fun e => h0 (by rw [Lib.size_eq, e]; rfl)
  have hco : Tryz.prog.cellsOf 5 = 1 := by simp [Program.cellsOf, hi0, hz1]
  have hus := Lib.run_unsafeString_row (P := Tryz.prog) ((w.alloc (.cells M 5)).setRow w.heap.size Y) 226 3 9 5 Tryz.underlying226 hco w.heap.size Y.size (by unfold World.shape?; rw [hgY]) S.data.toList hne (by rw [← Lib.size_eq]; omega) (by rw [← Lib.size_eq]; omega)
    (fun j x hx => Lib.cells_of_row hgY Y.size j _ (by rw [List.take_of_length_le (by rw [Array.length_toList]; exact Nat.le_refl _), hYl]; simp [Lib.byteCells, hx]))
  rw [← Lib.size_eq] at hus
  have HB := Lib.hid (show Made W (((w.alloc (.cells M 5)).setRow w.heap.size Y).freeze ⟨w.heap.size, 0, none⟩ S.size) from by
    have b1 := hm.alloc hm.size (.cells M 5)
    have b2 : Below W.heap.size (w.alloc (.cells M 5)) ((w.alloc (.cells M 5)).setRow w.heap.size Y) := ⟨rfl, rfl, rfl, by simp, fun k hk => setRow_other _ _ _ _ (by have := hm.size; omega)⟩
    exact Lib.below_freeze (Below.trans b1 b2) (p := ⟨w.heap.size, 0, none⟩) hm.size _)
  clear hY
  go_enter Tryz.func154, Tryz.ntmps154
  go_wp2
  go_ret
  exact ⟨rfl, HB.out⟩
end
end
section
open Go.ChangeShapes Go.WideShapes Go.ChangeAt Go.RowKit Go.Sort BigFrame

/-- The first two bytes. -/
theorem two_eq {S : ByteArray} {a x : UInt8} {r : List UInt8} (h : IsStr S (a :: x :: r)) (c : UInt8) : ((S.extract 0 2).toList == [48, c]) = decide (a.toNat = 48 ∧ x = c) := by
  have h2 := str_part h 0 2
  have e : (List.drop 0 (a :: x :: r)).take (2 - 0) = [a, x] := rfl
  rw [e] at h2
  have h3 : (S.extract 0 2).data.toList = [a, x] := h2
  rw [ByteArray.toList_eq, h3]
  have h4 : ([a, x] = [48, c]) ↔ (a.toNat = 48 ∧ x = c) := by
    constructor
    · intro h
      obtain ⟨rfl, h5⟩ := List.cons.inj h
      obtain ⟨rfl, -⟩ := List.cons.inj h5
      exact ⟨rfl, rfl⟩
    · rintro ⟨h5, rfl⟩
      obtain rfl : a = 48 := UInt8.toNat_inj.1 h5
      rfl
  rw [Bool.eq_iff_iff, beq_iff_eq, decide_eq_true_iff]
  exact h4
/-- The empty one. -/
theorem none_eq {S : ByteArray} {l : List UInt8} (h : IsStr S l) : (S.toList == []) = decide (l = []) := by
  rw [ByteArray.toList_eq, h, Bool.eq_iff_iff, beq_iff_eq, decide_eq_true_iff]
/-- A number's digits and their base. -/
def lxBase (l : List UInt8) : Int := match l with
  | a :: x :: _ => if a.toNat = 48 ∧ (x.toNat = 120 ∨ x.toNat = 88) then 16 else 10
  | _ => 10
def lxDigs (l : List UInt8) : List UInt8 := match l with
  | a :: x :: r => if a.toNat = 48 ∧ (x.toNat = 120 ∨ x.toNat = 88) then r else a :: x :: r
  | _ => l
theorem base_or (l : List UInt8) : lxBase l = 10 ∨ lxBase l = 16 := by
  unfold lxBase
  split
  · split
    · exact .inr rfl
    · exact .inl rfl
  · exact .inl rfl
theorem num_digs (l : List UInt8) : lxNum l = lxWord (lxBase l) (lxDigs l) := by
  match l with
  | [] => rfl
  | [a] => rfl
  | a :: x :: r =>
    show (if a.toNat = 48 ∧ (x.toNat = 120 ∨ x.toNat = 88) then lxWord 16 r else lxWord 10 (a :: x :: r)) = lxWord (if a.toNat = 48 ∧ (x.toNat = 120 ∨ x.toNat = 88) then 16 else 10) (if a.toNat = 48 ∧ (x.toNat = 120 ∨ x.toNat = 88) then r else a :: x :: r)
    by_cases h : a.toNat = 48 ∧ (x.toNat = 120 ∨ x.toNat = 88)
    · rw [if_pos h, if_pos h, if_pos h]
    · rw [if_neg h, if_neg h, if_neg h]
theorem digs_len (l : List UInt8) : (lxDigs l).length ≤ l.length := by
  match l with
  | [] => exact Nat.le_refl _
  | [a] => exact Nat.le_refl _
  | a :: x :: r =>
    show (if a.toNat = 48 ∧ (x.toNat = 120 ∨ x.toNat = 88) then r else a :: x :: r).length ≤ _
    split
    · simp only [List.length_cons]; omega
    · exact Nat.le_refl _
section
attribute [local irreducible] World.cell?
set_option maxRecDepth 100000 in
set_option maxHeartbeats 4000000 in
theorem prefix_short (S : ByteArray) (hs : S.size ≤ 1) (c : UInt8) : Still Tryz.prog 127 #[.string S, .string ⟨#[48, c]⟩] (.bool false) := by
  intro w
  have hz : (⟨#[48, c]⟩ : ByteArray).size = 2 := rfl
  have h2 : ¬ (2 : Int) ≤ (S.size : Int) := by omega
  go_enter Tryz.func127, Tryz.ntmps127
  go_wp2
  go_ret
  exact ⟨rfl, rfl⟩
set_option maxRecDepth 100000 in
set_option maxHeartbeats 4000000 in
theorem prefix_any (S : ByteArray) (a x : UInt8) (r : List UInt8) (h : IsStr S (a :: x :: r)) (c : UInt8) : Still Tryz.prog 127 #[.string S, .string ⟨#[48, c]⟩] (.bool (decide (a.toNat = 48 ∧ x = c))) := by
  intro w
  have hz : (⟨#[48, c]⟩ : ByteArray).size = 2 := rfl
  have h2 : (2 : Int) ≤ (S.size : Int) := by have := str_size h; simp at this; omega
  have he := two_eq h c
  have hsl : ∀ u : World, (Instr.slice 9 (.string S) none (some (.int .i64 2)) none).run Tryz.prog u = .ok (.string (S.extract 0 2)) u := fun u => run_slice_string_h (P := Tryz.prog) u 9 S (by kernel_rfl) .i64 2 (by omega) h2
  generalize decide (a.toNat = 48 ∧ x = c) = d at *
  generalize S.extract 0 2 = E at *
  go_enter Tryz.func127, Tryz.ntmps127
  go_wp2
  go_ret
  exact ⟨rfl, rfl⟩
set_option maxRecDepth 100000 in
set_option maxHeartbeats 4000000 in
theorem digitsOf_any (S : ByteArray) (l : List UInt8) (h : IsStr S l) (w : World) : Calls Tryz.prog 188 #[.string S] w fun e w' => e = .returned (.tuple #[.string (strOf (lxDigs l)), .int .i64 (lxBase l)]) ∧ w = w' := by
  rcases l with _ | ⟨a, _ | ⟨x, r⟩⟩
  · have hS := str_of h
    have hs1 : S.size ≤ 1 := by rw [str_size h]; exact Nat.zero_le _
    have H1 := Lib.hid (prefix_short S hs1 120)
    have H2 := Lib.hid (prefix_short S hs1 88)
    have HR := Lib.hid (show S = strOf (lxDigs []) from hS)
    clear h hS hs1
    go_enter Tryz.func188, Tryz.ntmps188
    go_wp2_with (fail)
    refine (H1.out _).mono ?_
    rintro e w' ⟨rfl, rfl⟩
    go_wp2_with (fail)
    refine (H2.out _).mono ?_
    rintro e w' ⟨rfl, rfl⟩
    go_wp2
    refine bodyPost_ret (v := .tuple #[.string S, .int .i64 10]) (by simp [results, Tryz.results188, go_sem]) rfl ?_
    exact ⟨by rw [← HR.out]; rfl, rfl⟩
  · have hS := str_of h
    have hs1 : S.size ≤ 1 := by rw [str_size h]; exact Nat.le_refl _
    have H1 := Lib.hid (prefix_short S hs1 120)
    have H2 := Lib.hid (prefix_short S hs1 88)
    have HR := Lib.hid (show S = strOf (lxDigs [a]) from hS)
    clear h hS hs1
    go_enter Tryz.func188, Tryz.ntmps188
    go_wp2_with (fail)
    refine (H1.out _).mono ?_
    rintro e w' ⟨rfl, rfl⟩
    go_wp2_with (fail)
    refine (H2.out _).mono ?_
    rintro e w' ⟨rfl, rfl⟩
    go_wp2
    refine bodyPost_ret (v := .tuple #[.string S, .int .i64 10]) (by simp [results, Tryz.results188, go_sem]) rfl ?_
    exact ⟨by rw [← HR.out]; rfl, rfl⟩
  · have hS := str_of h
    have H1 := Lib.hid (prefix_any S a x r h 120)
    have H2 := Lib.hid (prefix_any S a x r h 88)
    have hsz : (2 : Int) ≤ (S.size : Int) := by have := str_size h; simp at this; omega
    have hsl : ∀ u : World, (Instr.slice 9 (.string S) (some (.int .i64 2)) none none).run Tryz.prog u = .ok (.string (S.extract 2 S.size)) u := fun u => run_slice_string_l (P := Tryz.prog) u 9 S (by kernel_rfl) .i64 2 (by omega) hsz
    have HT := Lib.hid (str_of (str_tail h))
    have hx : ∀ c : UInt8, (x = c) ↔ x.toNat = c.toNat := fun c => UInt8.toNat_inj.symm
    by_cases h1 : a.toNat = 48 ∧ x = 120
    · have hw : a.toNat = 48 ∧ (x.toNat = 120 ∨ x.toNat = 88) := ⟨h1.1, .inl ((hx 120).1 h1.2)⟩
      have HD := Lib.hid (show lxDigs (a :: x :: r) = r from if_pos hw)
      have HB := Lib.hid (show lxBase (a :: x :: r) = 16 from if_pos hw)
      have hc := decide_eq_true h1
      have HC := Lib.hid hc
      clear h hS h1 hw hx hc
      go_enter Tryz.func188, Tryz.ntmps188
      go_wp2_with (fail)
      refine (H1.out _).mono ?_
      rintro e w' ⟨rfl, rfl⟩
      rewrite [HC.out]
      go_wp2
      refine bodyPost_ret (v := .tuple #[.string (S.extract 2 S.size), .int .i64 16]) (by simp [results, Tryz.results188, go_sem]) rfl ?_
      exact ⟨by rw [HD.out, HB.out, HT.out], rfl⟩
    have hc1 := decide_eq_false h1
    by_cases h2 : a.toNat = 48 ∧ x = 88
    · have hw : a.toNat = 48 ∧ (x.toNat = 120 ∨ x.toNat = 88) := ⟨h2.1, .inr ((hx 88).1 h2.2)⟩
      have HD := Lib.hid (show lxDigs (a :: x :: r) = r from if_pos hw)
      have HB := Lib.hid (show lxBase (a :: x :: r) = 16 from if_pos hw)
      have hc := decide_eq_true h2
      have HC1 := Lib.hid hc1
      have HC := Lib.hid hc
      clear h hS h1 h2 hw hx hc hc1
      go_enter Tryz.func188, Tryz.ntmps188
      go_wp2_with (fail)
      refine (H1.out _).mono ?_
      rintro e w' ⟨rfl, rfl⟩
      rewrite [HC1.out]
      go_wp2_with (fail)
      refine (H2.out _).mono ?_
      rintro e w' ⟨rfl, rfl⟩
      rewrite [HC.out]
      go_wp2
      refine bodyPost_ret (v := .tuple #[.string (S.extract 2 S.size), .int .i64 16]) (by simp [results, Tryz.results188, go_sem]) rfl ?_
      exact ⟨by rw [HD.out, HB.out, HT.out], rfl⟩
    · have hw : ¬ (a.toNat = 48 ∧ (x.toNat = 120 ∨ x.toNat = 88)) := fun h => by
        rcases h with ⟨h3, h4 | h4⟩
        · exact h1 ⟨h3, (hx 120).2 h4⟩
        · exact h2 ⟨h3, (hx 88).2 h4⟩
      have HD := Lib.hid (show lxDigs (a :: x :: r) = a :: x :: r from if_neg hw)
      have HB := Lib.hid (show lxBase (a :: x :: r) = 10 from if_neg hw)
      have hc := decide_eq_false h2
      have HC1 := Lib.hid hc1
      have HC := Lib.hid hc
      have HS := Lib.hid hS
      clear h hS h1 h2 hw hx hc hc1
      go_enter Tryz.func188, Tryz.ntmps188
      go_wp2_with (fail)
      refine (H1.out _).mono ?_
      rintro e w' ⟨rfl, rfl⟩
      rewrite [HC1.out]
      go_wp2_with (fail)
      refine (H2.out _).mono ?_
      rintro e w' ⟨rfl, rfl⟩
      rewrite [HC.out]
      go_wp2
      refine bodyPost_ret (v := .tuple #[.string S, .int .i64 10]) (by simp [results, Tryz.results188, go_sem]) rfl ?_
      exact ⟨by rw [HD.out, HB.out, ← HS.out], rfl⟩
end
end
section
open Go.ChangeShapes Go.WideShapes Go.ChangeAt Go.RowKit Go.Sort BigFrame

/-- What is told of a number: its value, or 0; what is wrong with it. -/
def vE (z : Int) : Int := if z = -1 then 8 else if z = -2 then 6 else 0
def vV (z : Int) : Int := if z = -1 then 0 else if z = -2 then 0 else z
/-- What stands behind the first k digits: the value as far as it is not too great. -/
structure ValC (base : Int) (l : List UInt8) (k : Nat) (v : Int) : Prop where
  digits : (l.take k).all (lxDig base) = true
  low : 0 ≤ lxVal base (l.take k) 0
  val : v = if lxVal base (l.take k) 0 ≤ 1099511627776 then lxVal base (l.take k) 0 else 1099511627777
theorem valC_begin (base : Int) (l : List UInt8) : ValC base l 0 0 := ⟨rfl, Int.le_refl _, rfl⟩
theorem ValC.range {base : Int} {l : List UInt8} {k : Nat} {v : Int} (h : ValC base l k v) : 0 ≤ v ∧ v ≤ 1099511627777 := by
  have h1 := h.val
  have h2 := h.low
  split at h1 <;> omega
theorem ValC.next {base : Int} (hb : base = 10 ∨ base = 16) {l : List UInt8} {k : Nat} {v : Int} (h : ValC base l k v) (hk : k < l.length) (b : UInt8) (hlb : l[k] = b) (hd : lxDig base b = true) :
    (v * base + hexZ b ≤ 1099511627777 → ValC base l (k + 1) (v * base + hexZ b)) ∧ (1099511627777 < v * base + hexZ b → ValC base l (k + 1) 1099511627777) := by
  obtain ⟨h0, h1⟩ := (dig_iff base b).1 hd
  have hds : (l.take (k + 1)).all (lxDig base) = true := by
    rw [List.take_succ_eq_append_getElem hk, List.all_append, h.digits, hlb, List.all_cons, hd]
    rfl
  have hn := val_next (base := base) hk b hlb
  have hl := h.low
  have hv := h.val
  generalize lxVal base (l.take k) 0 = X at *
  generalize hexZ b = z at *
  have key : ∀ m : Int, (m = if X * base + z ≤ 1099511627776 then X * base + z else 1099511627777) → 0 ≤ X * base + z → ValC base l (k + 1) m := fun m hm h3 => ⟨hds, by rw [hn]; exact h3, by rw [hn]; exact hm⟩
  rcases hb with rfl | rfl
  · split at hv
    · subst hv
      exact ⟨fun h5 => key _ (by split <;> omega) (by omega), fun h5 => key _ (by split <;> omega) (by omega)⟩
    · subst hv
      exact ⟨fun h5 => by omega, fun h5 => key _ (by split <;> omega) (by omega)⟩
  · split at hv
    · subst hv
      exact ⟨fun h5 => key _ (by split <;> omega) (by omega), fun h5 => key _ (by split <;> omega) (by omega)⟩
    · subst hv
      exact ⟨fun h5 => by omega, fun h5 => key _ (by split <;> omega) (by omega)⟩
theorem ValC.all {base : Int} {l : List UInt8} (hne : l ≠ []) {v : Int} (h : ValC base l l.length v) : (1099511627776 < v → lxWord base l = -2) ∧ (v ≤ 1099511627776 → lxWord base l = v ∧ 0 ≤ v) := by
  have hd := h.digits
  have hl := h.low
  have hv := h.val
  rw [List.take_length] at hd hl hv
  unfold lxWord
  rw [if_neg (by rw [hd]; simp [hne])]
  split at hv
  · subst hv
    exact ⟨fun h => by omega, fun h => ⟨if_neg (by omega), hl⟩⟩
  · subst hv
    exact ⟨fun h => if_pos (by omega), fun h => by omega⟩
section
attribute [local irreducible] World.cell?
set_option maxRecDepth 100000 in
set_option maxHeartbeats 8000000 in
theorem valueOf_any (S : ByteArray) (l : List UInt8) (h : IsStr S l) (hl : l.length ≤ 100000) : Still Tryz.prog 153 #[.string S] (.tuple #[.int .i64 (vV (lxNum l)), .int .i64 (vE (lxNum l))]) := by
  intro w
  have HD := Lib.hid (digitsOf_any S l h)
  have hb := base_or l
  have HW := Lib.hid (num_digs l)
  have hdl : (lxDigs l).length ≤ 100000 := by have := digs_len l; omega
  generalize lxNum l = z at *
  generalize lxDigs l = ds at *
  generalize lxBase l = base at *
  clear h hl
  have HN := Lib.hid (none_eq (S := strOf ds) (l := ds) rfl)
  have hz : (strOf ds).size = ds.length := str_size (S := strOf ds) rfl
  have HZ := Lib.hid hz
  have hsz : (strOf ds).size ≤ 100000 := by omega
  have HAT := Lib.hid (fun k hk b hb => str_at (S := strOf ds) (l := ds) rfl (k := k) hk b hb w)
  have HDG := Lib.hid (fun b => digit_any b base hb)
  have HNX := Lib.hid (fun k v (h : ValC base ds k v) => ValC.next hb h)
  have hb2 : 10 ≤ base ∧ base ≤ 16 := by omega
  obtain ⟨hb0, hb1⟩ := hb2
  clear hb hz
  by_cases h0 : ds = []
  · have hg : ((strOf ds).toList == []) = true := by rw [HN.out]; exact decide_eq_true h0
    have HR := Lib.hid (show z = -1 by rw [HW.out, h0]; exact word_nil _)
    clear h0
    generalize strOf ds = D at *
    go_enter Tryz.func153, Tryz.ntmps153
    go_wp2_with (fail)
    refine (HD.out _).mono ?_
    rintro e w' ⟨rfl, rfl⟩
    go_wp2
    refine bodyPost_ret (v := .tuple #[.int .i64 0, .int .i64 8]) (by simp [results, Tryz.results153, go_sem]) rfl ?_
    exact ⟨by rw [HR.out]; rfl, rfl⟩
  have hg : ((strOf ds).toList == []) = false := by rw [HN.out]; exact decide_eq_false h0
  have HNE := Lib.hid h0
  have HEND := Lib.hid (fun v (h : ValC base ds ds.length v) => ValC.all h0 h)
  have HBAD := Lib.hid (fun k (hk : k < ds.length) b hb hd => word_bad (base := base) hk b hb hd)
  clear h0 hdl HN
  generalize strOf ds = D at *
  go_enter Tryz.func153, Tryz.ntmps153
  go_wp2_with (fail)
  refine (HD.out _).mono ?_
  rintro e w' ⟨rfl, rfl⟩
  go_wp2_with (fail)
  go_loopw [6, 19] (fun vv iv wr => ∃ (k : Nat) (v : Int), k ≤ D.size ∧ vv = .int .i64 v ∧ iv = .int .i64 k ∧ ValC base ds k v ∧ w = wr) (fun _ iv _ => D.size - (intOf iv).toNat)
  case atStart => exact ⟨0, 0, Nat.zero_le _, rfl, rfl, valC_begin _ _, rfl⟩
  case round =>
    obtain ⟨k, v, hk, rfl, rfl, hva, rfl⟩ := hrel
    have HV := Lib.hid hva
    obtain ⟨hv0, hv1⟩ := hva.range
    clear hva
    by_cases hlt : k < D.size
    · have hkl : k < ds.length := by have := HZ.out; omega
      obtain ⟨b, hb⟩ : ∃ b, ds[k] = b := ⟨_, rfl⟩
      have hidx := HAT.out k hkl b hb
      have HN := Lib.hid (HNX.out k v HV.out hkl b hb)
      have HBB := Lib.hid (HBAD.out k hkl b hb)
      have HDB := Lib.hid (show Still Tryz.prog 189 #[.int .u8 b.toNat, .int .i64 base] (.tuple #[.int .i64 (digV base b), .bool (lxDig base b)]) from HDG.out b)
      have HDV := Lib.hid (show lxDig base b = true → digV base b = hexZ b ∧ 0 ≤ hexZ b ∧ hexZ b < base from fun h => ⟨if_pos h, (dig_iff base b).1 h⟩)
      clear hb
      generalize lxDig base b = d at *
      generalize digV base b = dv at *
      cases d with
      | false =>
        have HR := Lib.hid (show z = -1 by rw [HW.out]; exact HBB.out rfl)
        clear HBB HN HDV
        go_wp2_with (fail)
        refine (HDB.out _).mono ?_
        rintro e w' ⟨rfl, rfl⟩
        go_wp2
        refine bodyPost_ret (v := .tuple #[.int .i64 0, .int .i64 8]) (by simp [results, Tryz.results153, go_sem]) rfl ?_
        exact ⟨by rw [HR.out]; rfl, rfl⟩
      | true =>
        obtain ⟨e1, e2, e3⟩ := HDV.out rfl
        have HN2 := HN.out rfl
        rewrite [← e1] at HN2 e2 e3
        have HL := Lib.hid HN2.1
        have HG := Lib.hid HN2.2
        have m0 : 0 ≤ v * base := Int.mul_nonneg hv0 (by omega)
        have m1 : v * base ≤ 17592186044432 := by
          have h7 : v * base ≤ 1099511627777 * 16 := Int.mul_le_mul hv1 (by omega) (by omega) (by omega)
          omega
        clear e1 HN2 HN HBB HDV
        generalize hm : v * base = vm at *
        have hw : wrap64 (v * base) = vm := by
          rw [hm]
          unfold wrap64
          omega
        clear hm
        by_cases hgt : 1099511627777 < vm + dv
        · have HVN := Lib.hid (HG.out hgt)
          clear HL HG
          go_wp2_with (fail)
          refine (HDB.out _).mono ?_
          rintro e w' ⟨rfl, rfl⟩
          go_wp2
          go_roundw
          case rel => exact ⟨k + 1, _, by omega, rfl, by go_num, HVN.out, trivial⟩
          case measure => simp [intOf]; omega
        · have HVN := Lib.hid (HL.out (by omega))
          have hle : vm + dv ≤ 1099511627777 := by omega
          clear HL HG hgt
          go_wp2_with (fail)
          refine (HDB.out _).mono ?_
          rintro e w' ⟨rfl, rfl⟩
          go_wp2
          go_roundw
          case rel => exact ⟨k + 1, vm + dv, by omega, by go_num, by go_num, HVN.out, trivial⟩
          case measure => simp [intOf]; omega
    · obtain rfl : k = D.size := by omega
      have hva := HV.out
      rewrite [HZ.out] at hva
      have HE := Lib.hid (HEND.out v hva)
      clear hva HV
      by_cases hgt : 1099511627776 < v
      · have HR := Lib.hid (show z = -2 by rw [HW.out]; exact HE.out.1 hgt)
        clear HE
        go_wp2
        refine bodyPost_ret (v := .tuple #[.int .i64 0, .int .i64 6]) (by simp [results, Tryz.results153, go_sem]) rfl ?_
        exact ⟨by rw [HR.out]; rfl, rfl⟩
      · have hle : v ≤ 1099511627776 := by omega
        have HR := Lib.hid (show vV z = v ∧ vE z = 0 by
          have h9 := HE.out.2 hle
          rw [HW.out, h9.1]
          unfold vV vE
          rw [if_neg (by omega), if_neg (by omega), if_neg (by omega), if_neg (by omega)]
          exact ⟨rfl, rfl⟩)
        clear HE hgt
        go_wp2
        refine bodyPost_ret (v := .tuple #[.int .i64 v, .int .i64 0]) (by simp [results, Tryz.results153, go_sem]) rfl ?_
        exact ⟨by rw [HR.out.1, HR.out.2], rfl⟩
end
end
end Go.Proofs.YtnfmlmamgkpocaaGreatDoor
