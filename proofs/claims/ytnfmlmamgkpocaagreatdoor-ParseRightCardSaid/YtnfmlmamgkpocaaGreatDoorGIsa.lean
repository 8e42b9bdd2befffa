/- The instruction table as plain data: names, classes, fields, and where each field lies; no condition. · Plain arithmetic of bit fields, for numbers that fit 32 bits where a lemma says so. · What plain, wide, accessShift, Slots, cond and row of package isa return, for every argument that their callers give. · What the walks over rowOf of package isa have in common: its variables' blocks, the end of each way. -/
import Derived.Laws.BitsAllLaws
import Derived.Test.YtnfmlmamgkpocaaGreatDoorGBase
import Derived.StillTailTactics
import Derived.BigQuiet
import Derived.Deep.Cut
namespace Go.Proofs.YtnfmlmamgkpocaaGreatDoor
section

structure Fd where
  kind : Int
  bits : Int
  shift : Int
  sg : Bool
  ext : Bool
  deriving DecidableEq
def fMode : Fd := ⟨1, 3, 0, false, false⟩
def fPred : Fd := ⟨2, 2, 0, false, false⟩
def fD : Fd := ⟨3, 5, 0, false, false⟩
def fDP : Fd := ⟨4, 2, 0, false, false⟩
def fS : Fd := ⟨5, 5, 0, false, false⟩
def fT : Fd := ⟨6, 5, 0, false, false⟩
def fN : Fd := ⟨7, 1, 0, false, false⟩
def fNew : Fd := ⟨8, 1, 0, false, false⟩
def fI14 : Fd := ⟨9, 14, 0, true, true⟩
def fI122 : Fd := ⟨9, 12, 2, true, true⟩
def fI121 : Fd := ⟨9, 12, 1, true, true⟩
def fI12 : Fd := ⟨9, 12, 0, true, true⟩
def fU5 : Fd := ⟨9, 5, 0, false, false⟩
def fR19 : Fd := ⟨10, 19, 2, true, true⟩
def fR24 : Fd := ⟨10, 24, 2, true, true⟩
def fR12 : Fd := ⟨10, 12, 2, true, true⟩
def fCount : Fd := ⟨11, 11, 0, false, false⟩
/-- The fields of an instruction, from the top down. -/
def fieldsL : List (List Fd) := [[],
  [],
  [fMode, fPred, fD, fS, fT],
  [fMode, fPred, fD, fS, fT],
  [fMode, fPred, fD, fS, fT],
  [fMode, fPred, fD, fS, fT],
  [fMode, fPred, fD, fS, fT],
  [fD, fS, fI14],
  [fMode, fPred, fD, fI14],
  [fMode, fPred, fD, fS],
  [fDP, fS, fT],
  [fDP, fS, fT],
  [fDP, fS, fT],
  [fDP, fS, fI14],
  [fD, fPred, fS, fT],
  [fD, fS, fU5],
  [fD, fS, fU5],
  [fD, fS, fU5],
  [fD, fS, fT],
  [fD, fS, fT],
  [fD, fS, fT],
  [fD, fS, fI122],
  [fD, fS, fI121],
  [fD, fS, fI12],
  [fS, fNew, fT, fI122],
  [fS, fNew, fT, fI121],
  [fS, fNew, fT, fI12],
  [fMode, fPred, fR19],
  [fMode, fPred, fS],
  [fR24],
  [fN, fR12, fCount],
  [fN, fR12, fS]]
def fieldsZ (op : Int) : List Fd := fieldsL.getD op.toNat []
def namesL : List (List UInt8) := [[],
  [110, 111, 112],
  [97, 100, 100],
  [115, 117, 98],
  [97, 110, 100],
  [111, 114],
  [120, 111, 114],
  [97, 100, 100, 105],
  [109, 111, 118, 105],
  [109, 111, 118],
  [99, 109, 112, 101, 113],
  [99, 109, 112, 103, 116],
  [99, 109, 112, 103, 116, 117],
  [99, 109, 112, 101, 113, 105],
  [109, 117, 120],
  [97, 115, 108],
  [108, 115, 114],
  [97, 115, 114],
  [109, 112, 121],
  [99, 109, 112, 121],
  [99, 109, 112, 121, 99],
  [108, 100, 119],
  [108, 100, 104],
  [108, 100, 98],
  [115, 116, 119],
  [115, 116, 104],
  [115, 116, 98],
  [106, 117, 109, 112],
  [106, 117, 109, 112, 114],
  [99, 97, 108, 108],
  [108, 111, 111, 112, 105],
  [108, 111, 111, 112, 114]]
def nameL (op : Int) : List UInt8 := namesL.getD op.toNat []
def nameZ (op : Int) : ByteArray := ⟨(nameL op).toArray⟩
def classL : List Int := [0, 1, 1, 1, 1, 1, 1, 1, 1, 1, 1, 1, 1, 1, 1, 2, 2, 2, 2, 2, 2, 3, 3, 3, 4, 4, 4, 5, 5, 5, 6, 6]
def classZ (op : Int) : Int := classL.getD op.toNat 0
def slotsL : List Int := [0, 15, 12, 3, 1, 12, 8]
def slotsZ (c : Int) : Int := slotsL.getD c.toNat 0
def isOp (op : Int) : Bool := decide (1 ≤ op) && decide (op ≤ 31)
/-- Where the field of a kind lies: the walk down from the top. -/
def atIn : List Fd → Int → Int → Option (Fd × Int)
  | [], _, _ => none
  | f :: r, low, k => if f.kind = k then some (f, low - f.bits) else atIn r (low - f.bits) k
def atZ (op k : Int) : Option (Fd × Int) := atIn (fieldsZ op) 24 k
def fZero : Fd := ⟨0, 0, 0, false, false⟩
/-- The first op of a name. -/
def byFrom (s : List UInt8) : Nat → Int → Int × Bool
  | 0, _ => (0, false)
  | n + 1, k => if nameL k = s then (k, true) else byFrom s n (k + 1)
def byZ (s : List UInt8) : Int × Bool := byFrom s 31 1
end
section
open Go

theorem nat_put (w v a n : Nat) (h : a + n ≤ 32) (hw : w < 2 ^ 32) :
    (w &&& (4294967295 - (2 ^ n - 1) * 2 ^ a)) ||| ((v * 2 ^ a % 2 ^ 32) &&& ((2 ^ n - 1) * 2 ^ a)) = w / 2 ^ (a + n) * 2 ^ (a + n) + v % 2 ^ n * 2 ^ a + w % 2 ^ a := by
  have hp : 0 < 2 ^ n := Nat.two_pow_pos _
  have hq : 0 < 2 ^ a := Nat.two_pow_pos _
  have hM : (2 ^ n - 1) * 2 ^ a < 2 ^ 32 := by
    have h1 : 2 ^ n * 2 ^ a ≤ 2 ^ 32 := by rw [← Nat.pow_add]; exact Nat.pow_le_pow_right (by decide) (by omega)
    have h2 : (2 ^ n - 1) * 2 ^ a + 2 ^ a = 2 ^ n * 2 ^ a := by
      rw [← Nat.succ_mul]; congr 1; omega
    omega
  have tM : ∀ i, ((2 ^ n - 1) * 2 ^ a).testBit i = (decide (a ≤ i) && decide (i < a + n)) := fun i => by
    rw [Nat.mul_comm, ← Nat.add_zero (2 ^ a * (2 ^ n - 1)), Nat.testBit_two_pow_mul_add _ hq]
    by_cases hi : i < a
    · simp [hi]; omega
    · simp only [hi, if_false, Nat.testBit_two_pow_sub_one]
      have e : decide (a ≤ i) = true := by simp; omega
      rw [e, Bool.true_and]
      congr 1; apply propext; omega
  have tN : ∀ i, (4294967295 - (2 ^ n - 1) * 2 ^ a).testBit i = (decide (i < 32) && !(decide (a ≤ i) && decide (i < a + n))) := fun i => by
    have := Nat.testBit_two_pow_sub_succ (n := 32) hM i
    rw [show 4294967295 - (2 ^ n - 1) * 2 ^ a = 2 ^ 32 - ((2 ^ n - 1) * 2 ^ a + 1) by omega, this, tM]
  have tR : ∀ i, (w / 2 ^ (a + n) * 2 ^ (a + n) + v % 2 ^ n * 2 ^ a + w % 2 ^ a).testBit i = if i < a then w.testBit i else if i < a + n then v.testBit (i - a) else w.testBit i := fun i => by
    have l1 : w % 2 ^ a < 2 ^ a := Nat.mod_lt _ hq
    have l2 : v % 2 ^ n < 2 ^ n := Nat.mod_lt _ hp
    have e : w / 2 ^ (a + n) * 2 ^ (a + n) + v % 2 ^ n * 2 ^ a + w % 2 ^ a = 2 ^ a * (2 ^ n * (w / 2 ^ (a + n)) + v % 2 ^ n) + w % 2 ^ a := by
      rw [Nat.mul_add, ← Nat.mul_assoc, ← Nat.pow_add, Nat.mul_comm (2 ^ (a + n)), Nat.mul_comm (2 ^ a) (v % 2 ^ n)]
    rw [e, Nat.testBit_two_pow_mul_add _ l1]
    split
    · rename_i h1; rw [Nat.testBit_mod_two_pow]; simp [h1]
    · rename_i h1
      rw [Nat.testBit_two_pow_mul_add _ l2]
      by_cases h2 : i < a + n
      · have h3 : i - a < n := by omega
        rw [if_pos h3, if_pos h2, Nat.testBit_mod_two_pow]; simp [h3]
      · have h3 : ¬ i - a < n := by omega
        rw [if_neg h3, if_neg h2, Nat.testBit_div_two_pow]; congr 1; omega
  refine Nat.eq_of_testBit_eq fun i => ?_
  rw [tR, Nat.testBit_or, Nat.testBit_and, Nat.testBit_and, tM, tN, Nat.testBit_mod_two_pow]
  have tv : a ≤ i → (v * 2 ^ a).testBit i = v.testBit (i - a) := fun hi => by
    rw [Nat.mul_comm, ← Nat.add_zero (2 ^ a * v), Nat.testBit_two_pow_mul_add _ hq, if_neg (by omega)]
  by_cases h32 : i < 32
  · by_cases h1 : i < a
    · have : ¬ a ≤ i := by omega
      simp [h1, this, h32]
    · have h1' : a ≤ i := by omega
      by_cases h2 : i < a + n
      · simp [h1, h1', h2, h32, tv h1']
      · simp [h1, h1', h2, h32]
  · have hw' : w.testBit i = false := Nat.testBit_lt_two_pow (Nat.lt_of_lt_of_le hw (Nat.pow_le_pow_right (by decide) (by omega)))
    have a1 : ¬ i < a := by omega
    have a2 : ¬ i < a + n := by omega
    simp [h32, hw', a1, a2]

def fieldB (at_ n : Int) : Bool := decide (0 ≤ at_) && decide (0 ≤ n) && decide (at_ ≤ 32 - n)
theorem fieldB_iff {at_ n : Int} : fieldB at_ n = true ↔ 0 ≤ at_ ∧ 0 ≤ n ∧ at_ ≤ 32 - n := by simp [fieldB, and_assoc]
theorem fieldB_nat {at_ n : Int} (h : fieldB at_ n = true) : ∃ A N : Nat, at_ = A ∧ n = N ∧ A + N ≤ 32 := by
  obtain ⟨h1, h2, h3⟩ := fieldB_iff.1 h
  exact ⟨at_.toNat, n.toNat, by omega, by omega, by omega⟩

/-- an int of Go; a uint32 of Go -/
def isI (n : Int) : Prop := -9223372036854775808 ≤ n ∧ n ≤ 9223372036854775807
def isU32 (n : Int) : Prop := 0 ≤ n ∧ n < 4294967296
def isU8 (n : Int) : Prop := 0 ≤ n ∧ n < 256
theorem isU8.u32 {n : Int} (h : isU8 n) : isU32 n := ⟨h.1, by have := h.2; omega⟩
theorem isU32.nat {n : Int} (h : isU32 n) : ∃ N : Nat, n = N ∧ N < 2 ^ 32 := ⟨n.toNat, by have := h.1; omega, by have := h.1; have := h.2; omega⟩

def getZ (v at_ n : Int) : Int := if fieldB at_ n = true then v / 2 ^ at_.toNat % 2 ^ n.toNat else 0
def putZ (w at_ n v : Int) : Int := if fieldB at_ n = true then w / 2 ^ (at_.toNat + n.toNat) * 2 ^ (at_.toNat + n.toNat) + v % 2 ^ n.toNat * 2 ^ at_.toNat + w % 2 ^ at_.toNat else w

theorem pow_le_of (N : Nat) (h : N ≤ 32) : 1 ≤ (2:Int) ^ N ∧ (2:Int) ^ N ≤ 4294967296 := by
  have : ∀ N : Nat, N < 33 → 1 ≤ (2:Int) ^ N ∧ (2:Int) ^ N ≤ 4294967296 := by decide
  exact this N (by omega)
theorem npow_le_of (N : Nat) (h : N ≤ 32) : 1 ≤ (2:Nat) ^ N ∧ (2:Nat) ^ N ≤ 4294967296 := by
  have : ∀ N : Nat, N < 33 → 1 ≤ (2:Nat) ^ N ∧ (2:Nat) ^ N ≤ 4294967296 := by decide
  exact this N (by omega)
theorem pow_cast (N : Nat) : (2:Int) ^ N = ((2 ^ N : Nat) : Int) := by simp

theorem and_mask (x : Int) (N : Nat) (h : N ≤ 32) (hx : isU32 x) : bits .and .u32 x (2 ^ N - 1) = x % 2 ^ N := by
  obtain ⟨h0, h1⟩ := hx
  have hp := pow_le_of N h
  rw [u32_and x _ h0 h1 (by omega) (by omega)]
  obtain ⟨X, rfl⟩ := Int.eq_ofNat_of_zero_le h0
  have e : ((2:Int) ^ N - 1).toNat = 2 ^ N - 1 := by
    have := pow_cast N
    omega
  rw [e, Int.toNat_natCast, Nat.and_two_pow_sub_one_eq_mod]
  simp

theorem getZ_nat (W A N : Nat) (h : A + N ≤ 32) : getZ W A N = ((W / 2 ^ A % 2 ^ N : Nat) : Int) := by
  have : fieldB (A : Int) (N : Int) = true := fieldB_iff.2 ⟨by omega, by omega, by omega⟩
  simp [getZ, this]
theorem putZ_nat (W A N V : Nat) (h : A + N ≤ 32) : putZ W A N V = ((W / 2 ^ (A + N) * 2 ^ (A + N) + V % 2 ^ N * 2 ^ A + W % 2 ^ A : Nat) : Int) := by
  have : fieldB (A : Int) (N : Int) = true := fieldB_iff.2 ⟨by omega, by omega, by omega⟩
  simp [putZ, this]

theorem nput_lt (W A N V : Nat) (h : A + N ≤ 32) (hw : W < 2 ^ 32) : W / 2 ^ (A + N) * 2 ^ (A + N) + V % 2 ^ N * 2 ^ A + W % 2 ^ A < 2 ^ 32 := by
  rw [← nat_put W V A N h hw]
  exact Nat.or_lt_two_pow (Nat.and_lt_two_pow _ (by omega)) (Nat.lt_of_le_of_lt Nat.and_le_left (Nat.mod_lt _ (by decide)))
theorem getZ_u32 (w a n : Int) (hw : isU32 w) : isU32 (getZ w a n) := by
  by_cases h : fieldB a n = true
  · obtain ⟨A, N, rfl, rfl, hs⟩ := fieldB_nat h
    obtain ⟨W, rfl, hW⟩ := hw.nat
    rw [getZ_nat _ _ _ hs]
    have h1 : W / 2 ^ A ≤ W := Nat.div_le_self _ _
    have h2 : W / 2 ^ A % 2 ^ N ≤ W / 2 ^ A := Nat.mod_le _ _
    exact ⟨by omega, by omega⟩
  · rw [getZ, if_neg h]; exact ⟨by omega, by omega⟩
theorem putZ_u32 (w a n v : Int) (hw : isU32 w) (hv : isU32 v) : isU32 (putZ w a n v) := by
  by_cases h : fieldB a n = true
  · obtain ⟨A, N, rfl, rfl, hs⟩ := fieldB_nat h
    obtain ⟨W, rfl, hW⟩ := hw.nat
    obtain ⟨V, rfl, hV⟩ := hv.nat
    rw [putZ_nat _ _ _ _ hs]
    have := nput_lt W A N V hs hW
    exact ⟨by omega, by omega⟩
  · rw [putZ, if_neg h]; exact hw

theorem put_code (w a n v : Int) (h : fieldB a n = true) (hw : isU32 w) (hv : isU32 v) :
    bits .or .u32 (bits .andNot .u32 w ((2 ^ n.toNat - 1) * 2 ^ a.toNat % 4294967296)) (bits .and .u32 (v * 2 ^ a.toNat % 4294967296) ((2 ^ n.toNat - 1) * 2 ^ a.toNat % 4294967296)) = putZ w a n v := by
  obtain ⟨A, N, rfl, rfl, hs⟩ := fieldB_nat h
  obtain ⟨W, rfl, hW⟩ := hw.nat
  obtain ⟨V, rfl, hV⟩ := hv.nat
  have hp : 0 < 2 ^ N := Nat.two_pow_pos _
  have hq : 0 < 2 ^ A := Nat.two_pow_pos _
  have hM : (2 ^ N - 1) * 2 ^ A < 2 ^ 32 := by
    have h1 : 2 ^ N * 2 ^ A ≤ 2 ^ 32 := by rw [← Nat.pow_add]; exact Nat.pow_le_pow_right (by decide) (by omega)
    have h2 : (2 ^ N - 1) * 2 ^ A + 2 ^ A = 2 ^ N * 2 ^ A := by
      rw [← Nat.succ_mul]; congr 1; omega
    omega
  have eM : ((2:Int) ^ N - 1) * 2 ^ A % 4294967296 = (((2 ^ N - 1) * 2 ^ A : Nat) : Int) := by
    have e : ((2:Int) ^ N - 1) = ((2 ^ N - 1 : Nat) : Int) := by have := pow_cast N; omega
    rw [e, pow_cast A, ← Int.natCast_mul]
    omega
  have eV : (V : Int) * 2 ^ A % 4294967296 = ((V * 2 ^ A % 2 ^ 32 : Nat) : Int) := by
    rw [pow_cast A, ← Int.natCast_mul]; omega
  rw [Int.toNat_natCast, Int.toNat_natCast, eM, eV, putZ_nat _ _ _ _ hs, u32_andNot_nat _ _ (by omega) (by omega), u32_and_nat _ _ (by omega) (by omega), u32_or_nat _ _ ?_ ?_]
  · rw [nat_put W V A N hs hW]
  · exact Nat.lt_of_le_of_lt Nat.and_le_left (by omega)
  · exact Nat.lt_of_le_of_lt Nat.and_le_left (by omega)

/-! bits, one by one -/
def bitZ (v k : Int) : Int := v / 2 ^ k.toNat % 2
theorem bitZ_cases (v k : Int) : bitZ v k = 0 ∨ bitZ v k = 1 := by unfold bitZ; omega
theorem bitZ_nat (V K : Nat) : bitZ V K = ((V / 2 ^ K % 2 : Nat) : Int) := by simp [bitZ]

def sextZ (v n : Int) : Int := if 1 ≤ n ∧ n ≤ 32 then (if 2 ^ (n.toNat - 1) ≤ v % 2 ^ n.toNat then v % 2 ^ n.toNat - 2 ^ n.toNat else v % 2 ^ n.toNat) else 0
def fitsB (v n s : Int) (signed : Bool) : Bool :=
  decide (1 ≤ n) && decide (n ≤ 32) && decide (0 ≤ s) && decide (s ≤ 8) && decide (v % 2 ^ s.toNat = 0) &&
    (if signed then decide (-2 ^ (n.toNat - 1) ≤ v / 2 ^ s.toNat) && decide (v / 2 ^ s.toNat < 2 ^ (n.toNat - 1)) else decide (0 ≤ v / 2 ^ s.toNat) && decide (v / 2 ^ s.toNat < 2 ^ n.toNat))

/-! the parts of a word -/
def codeZ (w : Int) : Int := w / 67108864 % 64
def payZ (w : Int) : Int := w / 65536 % 1024 * 16384 + w % 16384
def parseZ (w : Int) : Int := w / 16384 % 4
def thirtyZ (w : Int) : Int := w / 65536 % 65536 * 16384 + w % 16384
def wordZ (code pay parse : Int) : Int := code % 64 * 67108864 + pay / 16384 % 1024 * 65536 + parse % 4 * 16384 + pay % 16384
def fromThirtyZ (v parse : Int) : Int := v / 16384 % 65536 * 65536 + parse % 4 * 16384 + v % 16384

/-! steps of the bit-by-bit answers -/
theorem mod_step (V i : Nat) : V % 2 ^ (i + 1) = V % 2 ^ i + V / 2 ^ i % 2 * 2 ^ i := by
  rw [Nat.pow_succ, Nat.mod_mul, Nat.mul_comm (2 ^ i)]
def sput (W A V i : Nat) : Nat := W / 2 ^ (A + i) * 2 ^ (A + i) + V % 2 ^ i * 2 ^ A + W % 2 ^ A
theorem sput_zero (W A V : Nat) : sput W A V 0 = W := by
  simp only [sput, Nat.add_zero, Nat.pow_zero, Nat.mod_one, Nat.zero_mul]
  have := Nat.div_add_mod W (2 ^ A)
  rw [Nat.mul_comm] at this
  omega
theorem sput_step (W A V i : Nat) : sput W A V (i + 1) + W / 2 ^ (A + i) % 2 * 2 ^ (A + i) = sput W A V i + V / 2 ^ i % 2 * 2 ^ (A + i) := by
  unfold sput
  rw [mod_step, show A + (i + 1) = A + i + 1 by omega, Nat.pow_succ (m := A + i), ← Nat.div_div_eq_div_mul, Nat.add_mul, Nat.mul_assoc (V / 2 ^ i % 2), ← Nat.pow_add, Nat.add_comm i A]
  generalize W / 2 ^ (A + i) = x
  generalize 2 ^ (A + i) = P
  have e : x = 2 * (x / 2) + x % 2 := by omega
  have e2 : x * P = x / 2 * (P * 2) + x % 2 * P := by
    conv => lhs; rw [e]
    rw [Nat.add_mul, Nat.mul_comm P 2, ← Nat.mul_assoc, Nat.mul_comm (x / 2) 2]
  omega
theorem sput_bit (W A V i : Nat) : sput W A V i / 2 ^ (A + i) = W / 2 ^ (A + i) := by
  have hq : 0 < 2 ^ A := Nat.two_pow_pos _
  have hp : 0 < 2 ^ (A + i) := Nat.two_pow_pos _
  have l1 : W % 2 ^ A < 2 ^ A := Nat.mod_lt _ hq
  have l2 : V % 2 ^ i < 2 ^ i := Nat.mod_lt _ (Nat.two_pow_pos _)
  have l3 : V % 2 ^ i * 2 ^ A + W % 2 ^ A < 2 ^ (A + i) := by
    have : (V % 2 ^ i + 1) * 2 ^ A ≤ 2 ^ i * 2 ^ A := Nat.mul_le_mul_right _ l2
    rw [Nat.add_mul, ← Nat.pow_add, Nat.add_comm i A] at this
    omega
  unfold sput
  rw [Nat.add_assoc, Nat.mul_comm, Nat.mul_add_div hp, Nat.div_eq_of_lt l3, Nat.add_zero]
theorem sput_lt (W A V i : Nat) (h : A + i ≤ 32) (hw : W < 2 ^ 32) : sput W A V i < 2 ^ 32 := nput_lt W A i V h hw

def fpay (p j : Nat) : Nat := p % 2 ^ min j 14 + p / 2 ^ 14 % 2 ^ (j - 14) * 2 ^ 16
theorem fpay_lo (p j : Nat) (h : j < 14) : fpay p (j + 1) = fpay p j + p / 2 ^ j % 2 * 2 ^ j := by
  unfold fpay
  rw [show min (j + 1) 14 = j + 1 by omega, show min j 14 = j by omega, show j + 1 - 14 = 0 by omega, show j - 14 = 0 by omega, mod_step]
  omega
theorem fpay_hi (p j : Nat) (h : 14 ≤ j) : fpay p (j + 1) = fpay p j + p / 2 ^ j % 2 * 2 ^ (j + 2) := by
  unfold fpay
  obtain ⟨k, rfl⟩ : ∃ k, j = 14 + k := ⟨j - 14, by omega⟩
  rw [show min (14 + k + 1) 14 = 14 by omega, show min (14 + k) 14 = 14 by omega, show 14 + k + 1 - 14 = k + 1 by omega, show 14 + k - 14 = k by omega, mod_step (p / 2 ^ 14) k, Nat.div_div_eq_div_mul, ← Nat.pow_add, Nat.add_mul, Nat.mul_assoc (p / 2 ^ (14 + k) % 2), ← Nat.pow_add, show 14 + k + 2 = k + 16 by omega, Nat.add_assoc]
theorem fpay_lt (p j : Nat) (h : j ≤ 24) : fpay p j < 2 ^ 26 := by
  unfold fpay
  have h1 := npow_le_of (min j 14) (by omega)
  have h3 : (2:Nat) ^ min j 14 ≤ 2 ^ 14 := Nat.pow_le_pow_right (by decide) (by omega)
  have h4 : (2:Nat) ^ (j - 14) ≤ 2 ^ 10 := Nat.pow_le_pow_right (by decide) (by omega)
  have h5 := Nat.mod_lt p (show 0 < 2 ^ min j 14 by omega)
  have h6 := Nat.mod_lt (p / 2 ^ 14) (Nat.two_pow_pos (j - 14))
  omega
def gthi (w j : Nat) : Nat := w % 2 ^ min j 14 + w / 2 ^ 16 % 2 ^ (j - 14) * 2 ^ 14
theorem gthi_lo (p j : Nat) (h : j < 14) : gthi p (j + 1) = gthi p j + p / 2 ^ j % 2 * 2 ^ j := by
  unfold gthi
  rw [show min (j + 1) 14 = j + 1 by omega, show min j 14 = j by omega, show j + 1 - 14 = 0 by omega, show j - 14 = 0 by omega, mod_step]
  omega
theorem gthi_hi (p j : Nat) (h : 14 ≤ j) : gthi p (j + 1) = gthi p j + p / 2 ^ (j + 2) % 2 * 2 ^ j := by
  unfold gthi
  obtain ⟨k, rfl⟩ : ∃ k, j = 14 + k := ⟨j - 14, by omega⟩
  rw [show min (14 + k + 1) 14 = 14 by omega, show min (14 + k) 14 = 14 by omega, show 14 + k + 1 - 14 = k + 1 by omega, show 14 + k - 14 = k by omega, mod_step (p / 2 ^ 16) k, Nat.div_div_eq_div_mul, ← Nat.pow_add, Nat.add_mul, Nat.mul_assoc (p / 2 ^ (16 + k) % 2), ← Nat.pow_add, show 14 + k + 2 = 16 + k by omega, Nat.add_assoc, Nat.add_comm k 14]
theorem gthi_lt (p j : Nat) (h : j ≤ 30) : gthi p j < 2 ^ 30 := by
  unfold gthi
  have h1 := npow_le_of (min j 14) (by omega)
  have h3 : (2:Nat) ^ min j 14 ≤ 2 ^ 14 := Nat.pow_le_pow_right (by decide) (by omega)
  have h4 : (2:Nat) ^ (j - 14) ≤ 2 ^ 16 := Nat.pow_le_pow_right (by decide) (by omega)
  have h5 := Nat.mod_lt p (show 0 < 2 ^ min j 14 by omega)
  have h6 := Nat.mod_lt (p / 2 ^ 16) (Nat.two_pow_pos (j - 14))
  omega
end
section
open Go.ChangeShapes Go.WideShapes Go.ChangeAt Go.RowKit

def Fd.cells (f : Fd) : List Value := [.int .u8 f.kind, .int .i64 f.bits, .int .i64 f.shift, .bool f.sg, .bool f.ext]
def Fd.val (f : Fd) : Value := .agg f.cells.toArray
def flatF (l : List Fd) : List Value := l.flatMap Fd.cells

theorem plain_any (k n : Int) (W : World) : Makes Tryz.prog W 64 #[.int .u8 k, .int .i64 n] (.agg #[.int .u8 k, .int .i64 n, .int .i64 0, .bool false, .bool false]) := by
  intro w hg
  have hz := hg.size
  go_enter Tryz.func64, Tryz.ntmps64
  go_wp2
  go_returns
  exact ⟨rfl, by go_grown⟩

theorem wide_any (k n s : Int) (W : World) : Makes Tryz.prog W 67 #[.int .u8 k, .int .i64 n, .int .i64 s] (.agg #[.int .u8 k, .int .i64 n, .int .i64 s, .bool true, .bool true]) := by
  intro w hg
  have hz := hg.size
  go_enter Tryz.func67, Tryz.ntmps67
  go_wp2
  go_returns
  exact ⟨rfl, by go_grown⟩

theorem slots_any (c : Int) (h0 : 0 ≤ c) (h1 : c < 256) : Still Tryz.prog 121 #[.int .u8 c] (.int .u8 (slotsZ c)) := by
  intro w
  have hc : c = 0 ∨ c = 1 ∨ c = 2 ∨ c = 3 ∨ c = 4 ∨ c = 5 ∨ c = 6 ∨ 6 < c := by omega
  rcases hc with rfl | rfl | rfl | rfl | rfl | rfl | rfl | hc
  case inr.inr.inr.inr.inr.inr.inr =>
    have e : slotsZ c = 0 := by
      unfold slotsZ slotsL
      obtain ⟨k, rfl⟩ := Int.eq_ofNat_of_zero_le h0
      rw [Int.toNat_natCast, List.getD_eq_getElem?_getD, List.getElem?_eq_none (by simp; omega)]; rfl
    rw [e]
    have c1 : (c == 1) = false := beq_eq_false_iff_ne.2 (by omega)
    have c2 : (c == 2) = false := beq_eq_false_iff_ne.2 (by omega)
    have c3 : (c == 3) = false := beq_eq_false_iff_ne.2 (by omega)
    have c4 : (c == 4) = false := beq_eq_false_iff_ne.2 (by omega)
    have c5 : (c == 5) = false := beq_eq_false_iff_ne.2 (by omega)
    have c6 : (c == 6) = false := beq_eq_false_iff_ne.2 (by omega)
    clear e hc
    go_enter Tryz.func121, Tryz.ntmps121
    go_wp2
    go_ret
    exact ⟨rfl, rfl⟩
  all_goals
    go_enter Tryz.func121, Tryz.ntmps121
    go_wp2
    go_ret
    exact ⟨rfl, rfl⟩

def Names (W : World) : Prop := ∃ T fr, W.heap[0]? = some (.cells (namesL.map fun l => Value.string ⟨l.toArray⟩).toArray T fr)
theorem Names.made {W w : World} (h : Names W) (hm : Made W w) : Names w := let ⟨T, fr, h⟩ := h; ⟨T, fr, hm.heap h⟩

def IsRow (E : TypeId) (W : World) (fs : List Fd) (e : Ending) (w' : World) : Prop := ∃ p n cap, e = .returned (.slice p n cap) ∧ Made W w' ∧ w'.ownsRow W.heap.size E 5 (.slice p n cap) fs.length (flatF fs)

theorem info_field : (Tryz.prog.info? 51).map (fun i => (i.zero, i.size, i.bytes)) = some (some (.agg #[.int .u8 0, .int .i64 0, .int .i64 0, .bool false, .bool false]), 5, 32) := by kernel_rfl
theorem flat_len (l : List Fd) : (flatF l).length = l.length * 5 := by
  unfold flatF
  induction l with
  | nil => rfl
  | cons f r ih => rw [List.flatMap_cons, List.length_append, ih]; simp [Fd.cells]; omega
theorem flat_one (l : List Fd) : ∀ u ∈ flatF l, u.oneCell' = true := by
  intro u hu
  obtain ⟨f, _, hf⟩ := List.mem_flatMap.1 hu
  simp only [Fd.cells, List.mem_cons, List.not_mem_nil, or_false] at hf
  rcases hf with rfl | rfl | rfl | rfl | rfl <;> rfl
theorem flat_append (a b : List Fd) : flatF (a ++ b) = flatF a ++ flatF b := by simp [flatF]
theorem owns_slice {w : World} {B : Nat} {E : TypeId} {size : Nat} {v : Value} {n : Nat} {xs : List Value} (h : w.ownsRow B E size v n xs) : ∃ p n cap, v = .slice p n cap := by
  rcases h.2 with ⟨h, _⟩ | ⟨g, cap, cur, h, _⟩
  · exact ⟨_, _, _, h⟩
  · exact ⟨_, _, _, h⟩
set_option maxRecDepth 100000 in
set_option maxHeartbeats 400000 in
theorem cond_any (b cap : Nat) (fs : List Fd) (W w : World) (hm : Made W w) (h8 : fs.length ≤ 8) (T : TypeId) (fr : Nat × Nat) (hb : w.heap[b]? = some (.cells (flatF fs).toArray T fr)) :
    Calls Tryz.prog 66 #[.slice (some ⟨b, 0, none⟩) fs.length cap] w (IsRow 51 W ([fMode, fPred] ++ fs)) := by
  obtain ⟨i0, hi, hz0, hz1, hz2⟩ := info_parts info_field
  have HB := Lib.hid hb
  clear hb
  go_enter Tryz.func66, Tryz.ntmps66
  go_wp2_with (fail)
  refine (plain_any _ _ w _ (Made.refl w)).mono ?_
  rintro e w1 ⟨rfl, hb1⟩
  go_wp2_with (fail)
  refine (plain_any _ _ w _ hb1).mono ?_
  rintro e w2 ⟨rfl, hb2⟩
  have hz := hb2.size
  have hz' := hm.size
  go_wp2_with (at_builtin; refine wpList_append_own _ rfl (.tmp 5) (.tmp 6) 96 rfl W.heap.size 51 i0 _ 5 32 Tryz.underlying96 hi hz0 hz1 hz2 rfl (by decide) _ 2 (flatF [fMode, fPred]) rfl ?c1 ⟨b, 0, none⟩ fs.length cap (flatF fs) rfl ?c2 ?c3 ?c4 ?c5 ?c6 ?c7 ?_)
  case c1 => exact World.ownsRow_lit (size := 5) w2 (flatF [fMode, fPred]).toArray 2 (by omega) (by unfold maxLen; omega) rfl
  case c2 => exact flat_len fs
  case c3 => exact fun j u hj => cells_of_lit (((Made.trans hb2 ((Made.refl w2).alloc (Nat.le_refl _) _))).heap HB.out) j u hj
  case c4 => exact flat_one fs
  case c5 => unfold maxLen; omega
  case c6 => omega
  case c7 => simp; omega
  intro v' w3 hown hgr _
  have hM : Made W w3 := ((Made.trans hm hb2).alloc (by omega) _).grown hgr (by simp; omega) (by intro k hk; cases hk; show W.heap.size ≤ w2.heap.size; omega)
  rw [← flat_append, ← show ([fMode, fPred] ++ fs).length = 2 + fs.length by simp; omega] at hown
  obtain ⟨p, n, c, rfl⟩ := owns_slice hown
  have HO := Lib.hid hown
  clear hown hgr hb2 hb1
  go_wp2
  go_ret
  exact ⟨_, _, _, rfl, hM, HO.out⟩

set_option maxRecDepth 100000 in
theorem row_any (k : Nat) (c : Int) (p : Option Addr) (n cap : Nat) (hk : k < 32) (h0 : 0 ≤ c) (h1 : c < 256) (W : World) (hN : Names W) : Makes Tryz.prog W 65 #[.int .u8 k, .int .u8 c, .slice p n cap] (.agg #[.int .u8 k, .string (nameZ k), .int .u8 c, .int .u8 (slotsZ c), .slice p n cap]) := by
  intro w hm
  obtain ⟨T, fr, hb⟩ := hN
  have hb' := hm.heap hb
  have hlt := heap_lt hb'
  have hcell : w.cell? ⟨0, k, none⟩ = some (.string (nameZ k)) := by
    rw [cell_of_lit hb']
    have : k < namesL.length := hk
    simp [nameZ, nameL, List.getD_eq_getElem?_getD, this]
  clear hb hb'
  have hki : (k : Int) < 32 := by omega
  have hz := hm.size
  go_enter Tryz.func65, Tryz.ntmps65
  go_wp2
  refine wp_region_tail 9 (by kernel_rfl) (by kernel_rfl) ?_
  simp only [List.take_succ_cons, List.take_zero, List.drop_succ_cons, List.drop_zero]
  repeat still_step
  still_call ((slots_any c h0 h1).at _)
  repeat still_step
  refine wpStill_nil ?_
  go_wp2
  go_returns
  exact ⟨rfl, by go_grown⟩
end
section
open Go.ChangeShapes Go.WideShapes Go.ChangeAt Go.RowKit Go.Sort

def IsRowOf (W : World) (op : Int) (e : Ending) (w' : World) : Prop := ∃ p n cap, e = .returned (.agg #[.int .u8 op, .string (nameZ op), .int .u8 (classZ op), .int .u8 (slotsZ (classZ op)), .slice p n cap]) ∧ Made W w' ∧
  w'.ownsRow W.heap.size 51 5 (.slice p n cap) (fieldsZ op).length (flatF (fieldsZ op))
def rowLit : Array Value := #[.int .u8 0, .string { data := #[] }, .int .u8 0, .int .u8 0, .slice none 0 0]
/-- The world behind the four variables of rowOf. -/
structure RowVars (W : World) (n0 m : Nat) (u : World) : Prop where
  made : Made W u
  row : u.heap[n0]? = some (.cells rowLit 98 (0, 0))
  d : u.heap[m]? = some (.cells fD.cells.toArray 51 (0, 0))
  dp : u.heap[m + 1]? = some (.cells fDP.cells.toArray 51 (0, 0))
  s : u.heap[m + 1 + 1]? = some (.cells fS.cells.toArray 51 (0, 0))
  t : u.heap[m + 1 + 1 + 1]? = some (.cells fT.cells.toArray 51 (0, 0))
  size : n0 < m ∧ m + 3 < u.heap.size
theorem rowVars_of {W w4 : World} {n0 : Nat} (hW : Made W w4) (hz : n0 < w4.heap.size) (hr : w4.heap[n0]? = some (.cells rowLit 98 (0, 0))) :
    RowVars W n0 w4.heap.size ((((w4.alloc (.cells fD.cells.toArray 51)).alloc (.cells fDP.cells.toArray 51)).alloc (.cells fS.cells.toArray 51)).alloc (.cells fT.cells.toArray 51)) := by
  have hs := hW.size
  refine ⟨(((hW.alloc hs _).alloc (by simp only [World.size_alloc]; omega) _).alloc (by simp only [World.size_alloc]; omega) _).alloc (by simp only [World.size_alloc]; omega) _, ?_, ?_, ?_, ?_, ?_, hz, ?_⟩
  · rw [Below.heap_alloc _ _ _ (by simp only [World.size_alloc]; omega), Below.heap_alloc _ _ _ (by simp only [World.size_alloc]; omega), Below.heap_alloc _ _ _ (by simp only [World.size_alloc]; omega), Below.heap_alloc _ _ _ hz]; exact hr
  · rw [Below.heap_alloc _ _ _ (by simp only [World.size_alloc]; omega), Below.heap_alloc _ _ _ (by simp only [World.size_alloc]; omega), Below.heap_alloc _ _ _ (by simp only [World.size_alloc]; omega)]; exact heap_at rfl
  · rw [Below.heap_alloc _ _ _ (by simp only [World.size_alloc]; omega), Below.heap_alloc _ _ _ (by simp only [World.size_alloc]; omega)]; exact heap_at (by simp)
  · rw [Below.heap_alloc _ _ _ (by simp only [World.size_alloc]; omega)]; exact heap_at (by simp)
  · exact heap_at (by simp)
  · simp
theorem name_world {P : Program} {c : Code} {Q : Exit → Act → World → Prop} {a : Act} {w : World} (F : World → Prop) (hF : F w) (h : ∀ u, F u → c.wp P Q a u) : c.wp P Q a w := h w hF
theorem row_close {W u w6 : World} {n0 : Nat} {p : Option Addr} {n cap len : Nat} {xs : List Value} (hM : Made W u) (h6 : Made u w6) (hz : W.heap.size ≤ n0) (hn : n0 < u.heap.size) (ho : w6.ownsRow u.heap.size 51 5 (.slice p n cap) len xs) (v0 v1 v2 v3 v4 : Value) :
    Made W (((((w6.setCell ⟨n0, 0, none⟩ v0).setCell ⟨n0, 1, none⟩ v1).setCell ⟨n0, 2, none⟩ v2).setCell ⟨n0, 3, none⟩ v3).setCell ⟨n0, 4, none⟩ v4) ∧
    (((((w6.setCell ⟨n0, 0, none⟩ v0).setCell ⟨n0, 1, none⟩ v1).setCell ⟨n0, 2, none⟩ v2).setCell ⟨n0, 3, none⟩ v3).setCell ⟨n0, 4, none⟩ v4).ownsRow W.heap.size 51 5 (.slice p n cap) len xs :=
  ⟨((((Below.setCell (Made.trans hM h6) hz v0).setCell hz v1).setCell hz v2).setCell hz v3).setCell hz v4,
    owns_mono (ownsRow_setCell_below (ownsRow_setCell_below (ownsRow_setCell_below (ownsRow_setCell_below (ownsRow_setCell_below ho hn v0) hn v1) hn v2) hn v3) hn v4) hM.size⟩
theorem shift_21 : Still Tryz.prog 68 #[.int .u8 21] (.int .i64 2) := by
  intro w
  go_enter Tryz.func68, Tryz.ntmps68
  go_wp2
  go_ret
  exact ⟨rfl, rfl⟩
theorem shift_22 : Still Tryz.prog 68 #[.int .u8 22] (.int .i64 1) := by
  intro w
  go_enter Tryz.func68, Tryz.ntmps68
  go_wp2
  go_ret
  exact ⟨rfl, rfl⟩
theorem shift_23 : Still Tryz.prog 68 #[.int .u8 23] (.int .i64 0) := by
  intro w
  go_enter Tryz.func68, Tryz.ntmps68
  go_wp2
  go_ret
  exact ⟨rfl, rfl⟩
theorem shift_24 : Still Tryz.prog 68 #[.int .u8 24] (.int .i64 2) := by
  intro w
  go_enter Tryz.func68, Tryz.ntmps68
  go_wp2
  go_ret
  exact ⟨rfl, rfl⟩
theorem shift_25 : Still Tryz.prog 68 #[.int .u8 25] (.int .i64 1) := by
  intro w
  go_enter Tryz.func68, Tryz.ntmps68
  go_wp2
  go_ret
  exact ⟨rfl, rfl⟩
theorem shift_26 : Still Tryz.prog 68 #[.int .u8 26] (.int .i64 0) := by
  intro w
  go_enter Tryz.func68, Tryz.ntmps68
  go_wp2
  go_ret
  exact ⟨rfl, rfl⟩
end
end Go.Proofs.YtnfmlmamgkpocaaGreatDoor
