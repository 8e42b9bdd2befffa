/- What in, value and number of the document's answer for lex return; strings byte by byte; no condition but those named. -/
import Derived.Test.YtebpimjbjjmpaaaLexSay
import Derived.Test.YtebpimjbjjmpaaaLexValM
import Derived.IntWalk
namespace Go.Proofs.Ytebpimjbjjmpaaa
open Go.ChangeShapes Go.WideShapes Go.ChangeAt Go.RowKit Go.Sort BigFrame

theorem run_index (S : ByteArray) (k : Nat) (b : UInt8) (h : k < S.size) (hb : S[k] = b) (w : World) : (Instr.index 9 (.string S) (.int .i64 k)).run Try.prog w = .ok (.int .u8 b.toNat) w := by
  go_simp
/-- A string's bytes are a list. -/
abbrev IsStr (S : ByteArray) (l : List UInt8) : Prop := S.data.toList = l
theorem str_size {S : ByteArray} {l : List UInt8} (h : IsStr S l) : S.size = l.length := by
  subst h
  exact Array.length_toList.symm
theorem str_at {S : ByteArray} {l : List UInt8} (h : IsStr S l) {k : Nat} (hk : k < l.length) (b : UInt8) (hb : l[k] = b) (w : World) : (Instr.index 9 (.string S) (.int .i64 k)).run Try.prog w = .ok (.int .u8 b.toNat) w := by
  have hs := str_size h
  refine run_index S k b (by omega) ?_ w
  subst h
  show S.data[k]'(by rw [← Array.length_toList]; exact hk) = b
  rw [← Array.getElem_toList]
  exact hb
theorem str_part {S : ByteArray} {l : List UInt8} (h : IsStr S l) (f k : Nat) : IsStr (S.extract f k) ((l.drop f).take (k - f)) := by
  show (S.extract f k).data.toList = _
  rw [ByteArray.data_extract, Array.toList_extract, List.extract_eq_take_drop, h]
theorem str_of {S : ByteArray} {l : List UInt8} (h : IsStr S l) : S = strOf l := by subst h; rfl
theorem byte_inj {a b : UInt8} : ((a.toNat : Int) == (b.toNat : Int)) = (a == b) := by
  rw [Bool.eq_iff_iff, beq_iff_eq, beq_iff_eq]
  constructor
  · intro h
    exact UInt8.toNat_inj.1 (by omega)
  · rintro rfl
    rfl
section
attribute [local irreducible] World.cell?
end
/-! The document's rows of bytes. -/
def letL : List UInt8 := [97, 98, 99, 100, 101, 102, 103, 104, 105, 106, 107, 108, 109, 110, 111, 112, 113, 114, 115, 116, 117, 118, 119, 120, 121, 122, 65, 66, 67, 68, 69, 70, 71, 72, 73, 74, 75, 76, 77, 78, 79, 80, 81, 82, 83, 84, 85, 86, 87, 88, 89, 90, 95]
def digL : List UInt8 := [48, 49, 50, 51, 52, 53, 54, 55, 56, 57]
def sgnL : List UInt8 := [123, 125, 59, 58, 40, 41, 44, 61, 43, 45, 42, 33, 35]
def rowL : List UInt8 := [48, 49, 50, 51, 52, 53, 54, 55, 56, 57, 97, 98, 99, 100, 101, 102]
/-- A byte's small letter. -/
def lowB (b : UInt8) : Int := if 65 ≤ b.toNat ∧ b.toNat ≤ 70 then (b.toNat : Int) + 32 else b.toNat
theorem all_bytes {p : UInt8 → Bool} (h : (List.range 256).all (fun n => p (UInt8.ofNat n)) = true) (b : UInt8) : p b = true := by
  have hb : b.toNat < 256 := b.toNat_lt
  have := List.all_eq_true.1 h b.toNat (List.mem_range.2 hb)
  rwa [UInt8.ofNat_toNat] at this
theorem in_blk (b : UInt8) : ([32, 9, 13] : List UInt8).any (· == b) = isBlk b := by
  have := all_bytes (p := fun b => ([32, 9, 13] : List UInt8).any (· == b) == isBlk b) (by decide +kernel) b
  exact beq_iff_eq.1 this
theorem in_let (b : UInt8) : letL.any (· == b) = isLet b := by
  have := all_bytes (p := fun b => letL.any (· == b) == isLet b) (by decide +kernel) b
  exact beq_iff_eq.1 this
theorem in_dig (b : UInt8) : digL.any (· == b) = isDig b := by
  have := all_bytes (p := fun b => digL.any (· == b) == isDig b) (by decide +kernel) b
  exact beq_iff_eq.1 this
theorem in_sgn (b : UInt8) : sgnL.any (· == b) = isSgn b := by
  have := all_bytes (p := fun b => sgnL.any (· == b) == isSgn b) (by decide +kernel) b
  exact beq_iff_eq.1 this
theorem row_hex (b : UInt8) (j : Nat) (hj : j < 16) (r : UInt8) (hr : rowL[j]'(by show j < 16; exact hj) = r) : ((r.toNat : Int) == lowB b) = decide (hexZ b = j) := by
  subst hr
  have := all_bytes (p := fun b => (List.range 16).all fun j => ((((rowL.getD j 0).toNat : Int) == lowB b) == decide (hexZ b = j))) (by decide +kernel) b
  have h2 := List.all_eq_true.1 this j (List.mem_range.2 hj)
  have e : rowL.getD j 0 = rowL[j]'(by show j < 16; exact hj) := by
    rw [List.getD_eq_getElem?_getD, List.getElem?_eq_getElem (by show j < 16; exact hj)]
    rfl
  rw [e] at h2
  exact beq_iff_eq.1 h2
theorem hex_range (b : UInt8) : -1 ≤ hexZ b ∧ hexZ b ≤ 15 := by
  unfold hexZ
  repeat' split
  all_goals omega
/-- What is found up to j. -/
def seenZ (b : UInt8) (j : Nat) : Int := if 0 ≤ hexZ b ∧ hexZ b < j then hexZ b else -1
theorem seen_next (b : UInt8) (j : Nat) : seenZ b (j + 1) = if hexZ b = j then (j : Int) else seenZ b j := by
  unfold seenZ
  by_cases h : hexZ b = j
  · rw [if_pos h, if_pos (by omega), h]
  · rw [if_neg h]
    by_cases h2 : 0 ≤ hexZ b ∧ hexZ b < j
    · rw [if_pos h2, if_pos (by omega)]
    · rw [if_neg h2, if_neg (by omega)]
theorem seen_dig {b : UInt8} {base : Nat} (h : lxDig base b = true) : seenZ b base = hexZ b ∧ 0 ≤ hexZ b ∧ hexZ b < base := by
  have h2 := (dig_iff base b).1 h
  exact ⟨by unfold seenZ; rw [if_pos h2], h2⟩
theorem seen_none {b : UInt8} {base : Nat} (h : lxDig base b = false) : seenZ b base = -1 := by
  unfold seenZ
  rw [if_neg]
  intro h2
  have := (dig_iff (base : Int) b).2 h2
  rw [h] at this
  cases this
end Go.Proofs.Ytebpimjbjjmpaaa
