/- Plain arithmetic of bit fields, for numbers that fit 32 bits where a lemma says so. -/
import Derived.Laws.BitsAllLaws
namespace Go.Proofs.YtdaildmoodfocaaDoor
open Go

theorem nat_put (w v a n : Nat) (h : a + n ≤ 32) (hw : w < 2 ^ 32) :
    (w &&& (4294967295 - (2 ^ n - 1) * 2 ^ a)) ||| ((v * 2 ^ a % 2 ^ 32) &&& ((2 ^ n - 1) * 2 ^ a)) = w / 2 ^ (a + n) * 2 ^ (a + n) + v % 2 ^ n * 2 ^ a + w % 2 ^ a := by
  have hp : 0 < 2 ^ n := Nat.two_pow_pos _
  have hq : 0 < 2 ^ a := Nat.two_pow_pos _
  have hM : (2 ^ n - 1) * 2 ^ a < 2 ^ 32 := by
    have h1 : 2 ^ n * 2 ^ a ≤ 2 ^ 32 := by rw [← Nat.pow_add]; exact Nat.pow_le_pow_right (by decide) (by omega)
    have h2 : (2 ^ n - 1) * 2 ^ a + 2 ^ a = 2 ^ n * 2 ^ a := by
      rw [← Nat.succ_mul]; congr 1; omega
    omega
  have tM : ∀ i, ((2 ^ n - 1) * 2 ^ a).testBit i = (decide (a ≤ i) && decide (i < a + n)) := fun i => by
    rw [Nat.mul_comm, ← Nat.add_zero (2 ^ a * (2 ^ n - 1)), Nat.testBit_two_pow_mul_add _ hq]
    by_cases hi : i < a
    · simp [hi]; omega
    · simp only [hi, if_false, Nat.testBit_two_pow_sub_one]
      have e : decide (a ≤ i) = true := by simp; omega
      rw [e, Bool.true_and]
      congr 1; apply propext; omega
  have tN : ∀ i, (4294967295 - (2 ^ n - 1) * 2 ^ a).testBit i = (decide (i < 32) && !(decide (a ≤ i) && decide (i < a + n))) := fun i => by
    have := Nat.testBit_two_pow_sub_succ (n := 32) hM i
    rw [show 4294967295 - (2 ^ n - 1) * 2 ^ a = 2 ^ 32 - ((2 ^ n - 1) * 2 ^ a + 1) by omega, this, tM]
  have tR : ∀ i, (w / 2 ^ (a + n) * 2 ^ (a + n) + v % 2 ^ n * 2 ^ a + w % 2 ^ a).testBit i = if i < a then w.testBit i else if i < a + n then v.testBit (i - a) else w.testBit i := fun i => by
    have l1 : w % 2 ^ a < 2 ^ a := Nat.mod_lt _ hq
    have l2 : v % 2 ^ n < 2 ^ n := Nat.mod_lt _ hp
    have e : w / 2 ^ (a + n) * 2 ^ (a + n) + v % 2 ^ n * 2 ^ a + w % 2 ^ a = 2 ^ a * (2 ^ n * (w / 2 ^ (a + n)) + v % 2 ^ n) + w % 2 ^ a := by
      rw [Nat.mul_add, ← Nat.mul_assoc, ← Nat.pow_add, Nat.mul_comm (2 ^ (a + n)), Nat.mul_comm (2 ^ a) (v % 2 ^ n)]
    rw [e, Nat.testBit_two_pow_mul_add _ l1]
    split
    · rename_i h1; rw [Nat.testBit_mod_two_pow]; simp [h1]
    · rename_i h1
      rw [Nat.testBit_two_pow_mul_add _ l2]
      by_cases h2 : i < a + n
      · have h3 : i - a < n := by omega
        rw [if_pos h3, if_pos h2, Nat.testBit_mod_two_pow]; simp [h3]
      · have h3 : ¬ i - a < n := by omega
        rw [if_neg h3, if_neg h2, Nat.testBit_div_two_pow]; congr 1; omega
  refine Nat.eq_of_testBit_eq fun i => ?_
  rw [tR, Nat.testBit_or, Nat.testBit_and, Nat.testBit_and, tM, tN, Nat.testBit_mod_two_pow]
  have tv : a ≤ i → (v * 2 ^ a).testBit i = v.testBit (i - a) := fun hi => by
    rw [Nat.mul_comm, ← Nat.add_zero (2 ^ a * v), Nat.testBit_two_pow_mul_add _ hq, if_neg (by omega)]
  by_cases h32 : i < 32
  · by_cases h1 : i < a
    · have : ¬ a ≤ i := by omega
      simp [h1, this, h32]
    · have h1' : a ≤ i := by omega
      by_cases h2 : i < a + n
      · simp [h1, h1', h2, h32, tv h1']
      · simp [h1, h1', h2, h32]
  · have hw' : w.testBit i = false := Nat.testBit_lt_two_pow (Nat.lt_of_lt_of_le hw (Nat.pow_le_pow_right (by decide) (by omega)))
    have a1 : ¬ i < a := by omega
    have a2 : ¬ i < a + n := by omega
    simp [h32, hw', a1, a2]

def fieldB (at_ n : Int) : Bool := decide (0 ≤ at_) && decide (0 ≤ n) && decide (at_ ≤ 32 - n)
theorem fieldB_iff {at_ n : Int} : fieldB at_ n = true ↔ 0 ≤ at_ ∧ 0 ≤ n ∧ at_ ≤ 32 - n := by simp [fieldB, and_assoc]
theorem fieldB_nat {at_ n : Int} (h : fieldB at_ n = true) : ∃ A N : Nat, at_ = A ∧ n = N ∧ A + N ≤ 32 := by
  obtain ⟨h1, h2, h3⟩ := fieldB_iff.1 h
  exact ⟨at_.toNat, n.toNat, by omega, by omega, by omega⟩

/-- an int of Go; a uint32 of Go -/
def isI (n : Int) : Prop := -9223372036854775808 ≤ n ∧ n ≤ 9223372036854775807
def isU32 (n : Int) : Prop := 0 ≤ n ∧ n < 4294967296
def isU8 (n : Int) : Prop := 0 ≤ n ∧ n < 256
theorem isU8.u32 {n : Int} (h : isU8 n) : isU32 n := ⟨h.1, by have := h.2; omega⟩
theorem isU32.nat {n : Int} (h : isU32 n) : ∃ N : Nat, n = N ∧ N < 2 ^ 32 := ⟨n.toNat, by have := h.1; omega, by have := h.1; have := h.2; omega⟩

def getZ (v at_ n : Int) : Int := if fieldB at_ n = true then v / 2 ^ at_.toNat % 2 ^ n.toNat else 0
def putZ (w at_ n v : Int) : Int := if fieldB at_ n = true then w / 2 ^ (at_.toNat + n.toNat) * 2 ^ (at_.toNat + n.toNat) + v % 2 ^ n.toNat * 2 ^ at_.toNat + w % 2 ^ at_.toNat else w

theorem pow_le_of (N : Nat) (h : N ≤ 32) : 1 ≤ (2:Int) ^ N ∧ (2:Int) ^ N ≤ 4294967296 := by
  have : ∀ N : Nat, N < 33 → 1 ≤ (2:Int) ^ N ∧ (2:Int) ^ N ≤ 4294967296 := by decide
  exact this N (by omega)
theorem npow_le_of (N : Nat) (h : N ≤ 32) : 1 ≤ (2:Nat) ^ N ∧ (2:Nat) ^ N ≤ 4294967296 := by
  have : ∀ N : Nat, N < 33 → 1 ≤ (2:Nat) ^ N ∧ (2:Nat) ^ N ≤ 4294967296 := by decide
  exact this N (by omega)
theorem pow_cast (N : Nat) : (2:Int) ^ N = ((2 ^ N : Nat) : Int) := by simp

theorem and_mask (x : Int) (N : Nat) (h : N ≤ 32) (hx : isU32 x) : bits .and .u32 x (2 ^ N - 1) = x % 2 ^ N := by
  obtain ⟨h0, h1⟩ := hx
  have hp := pow_le_of N h
  rw [u32_and x _ h0 h1 (by omega) (by omega)]
  obtain ⟨X, rfl⟩ := Int.eq_ofNat_of_zero_le h0
  have e : ((2:Int) ^ N - 1).toNat = 2 ^ N - 1 := by
    have := pow_cast N
    omega
  rw [e, Int.toNat_natCast, Nat.and_two_pow_sub_one_eq_mod]
  simp

theorem getZ_nat (W A N : Nat) (h : A + N ≤ 32) : getZ W A N = ((W / 2 ^ A % 2 ^ N : Nat) : Int) := by
  have : fieldB (A : Int) (N : Int) = true := fieldB_iff.2 ⟨by omega, by omega, by omega⟩
  simp [getZ, this]
theorem putZ_nat (W A N V : Nat) (h : A + N ≤ 32) : putZ W A N V = ((W / 2 ^ (A + N) * 2 ^ (A + N) + V % 2 ^ N * 2 ^ A + W % 2 ^ A : Nat) : Int) := by
  have : fieldB (A : Int) (N : Int) = true := fieldB_iff.2 ⟨by omega, by omega, by omega⟩
  simp [putZ, this]

theorem nput_lt (W A N V : Nat) (h : A + N ≤ 32) (hw : W < 2 ^ 32) : W / 2 ^ (A + N) * 2 ^ (A + N) + V % 2 ^ N * 2 ^ A + W % 2 ^ A < 2 ^ 32 := by
  rw [← nat_put W V A N h hw]
  exact Nat.or_lt_two_pow (Nat.and_lt_two_pow _ (by omega)) (Nat.lt_of_le_of_lt Nat.and_le_left (Nat.mod_lt _ (by decide)))
theorem getZ_u32 (w a n : Int) (hw : isU32 w) : isU32 (getZ w a n) := by
  by_cases h : fieldB a n = true
  · obtain ⟨A, N, rfl, rfl, hs⟩ := fieldB_nat h
    obtain ⟨W, rfl, hW⟩ := hw.nat
    rw [getZ_nat _ _ _ hs]
    have h1 : W / 2 ^ A ≤ W := Nat.div_le_self _ _
    have h2 : W / 2 ^ A % 2 ^ N ≤ W / 2 ^ A := Nat.mod_le _ _
    exact ⟨by omega, by omega⟩
  · rw [getZ, if_neg h]; exact ⟨by omega, by omega⟩
theorem putZ_u32 (w a n v : Int) (hw : isU32 w) (hv : isU32 v) : isU32 (putZ w a n v) := by
  by_cases h : fieldB a n = true
  · obtain ⟨A, N, rfl, rfl, hs⟩ := fieldB_nat h
    obtain ⟨W, rfl, hW⟩ := hw.nat
    obtain ⟨V, rfl, hV⟩ := hv.nat
    rw [putZ_nat _ _ _ _ hs]
    have := nput_lt W A N V hs hW
    exact ⟨by omega, by omega⟩
  · rw [putZ, if_neg h]; exact hw

theorem put_code (w a n v : Int) (h : fieldB a n = true) (hw : isU32 w) (hv : isU32 v) :
    bits .or .u32 (bits .andNot .u32 w ((2 ^ n.toNat - 1) * 2 ^ a.toNat % 4294967296)) (bits .and .u32 (v * 2 ^ a.toNat % 4294967296) ((2 ^ n.toNat - 1) * 2 ^ a.toNat % 4294967296)) = putZ w a n v := by
  obtain ⟨A, N, rfl, rfl, hs⟩ := fieldB_nat h
  obtain ⟨W, rfl, hW⟩ := hw.nat
  obtain ⟨V, rfl, hV⟩ := hv.nat
  have hp : 0 < 2 ^ N := Nat.two_pow_pos _
  have hq : 0 < 2 ^ A := Nat.two_pow_pos _
  have hM : (2 ^ N - 1) * 2 ^ A < 2 ^ 32 := by
    have h1 : 2 ^ N * 2 ^ A ≤ 2 ^ 32 := by rw [← Nat.pow_add]; exact Nat.pow_le_pow_right (by decide) (by omega)
    have h2 : (2 ^ N - 1) * 2 ^ A + 2 ^ A = 2 ^ N * 2 ^ A := by
      rw [← Nat.succ_mul]; congr 1; omega
    omega
  have eM : ((2:Int) ^ N - 1) * 2 ^ A % 4294967296 = (((2 ^ N - 1) * 2 ^ A : Nat) : Int) := by
    have e : ((2:Int) ^ N - 1) = ((2 ^ N - 1 : Nat) : Int) := by have := pow_cast N; omega
    rw [e, pow_cast A, ← Int.natCast_mul]
    omega
  have eV : (V : Int) * 2 ^ A % 4294967296 = ((V * 2 ^ A % 2 ^ 32 : Nat) : Int) := by
    rw [pow_cast A, ← Int.natCast_mul]; omega
  rw [Int.toNat_natCast, Int.toNat_natCast, eM, eV, putZ_nat _ _ _ _ hs, u32_andNot_nat _ _ (by omega) (by omega), u32_and_nat _ _ (by omega) (by omega), u32_or_nat _ _ ?_ ?_]
  · rw [nat_put W V A N hs hW]
  · exact Nat.lt_of_le_of_lt Nat.and_le_left (by omega)
  · exact Nat.lt_of_le_of_lt Nat.and_le_left (by omega)

/-! bits, one by one -/
def bitZ (v k : Int) : Int := v / 2 ^ k.toNat % 2
theorem bitZ_cases (v k : Int) : bitZ v k = 0 ∨ bitZ v k = 1 := by unfold bitZ; omega
theorem bitZ_nat (V K : Nat) : bitZ V K = ((V / 2 ^ K % 2 : Nat) : Int) := by simp [bitZ]

def sextZ (v n : Int) : Int := if 1 ≤ n ∧ n ≤ 32 then (if 2 ^ (n.toNat - 1) ≤ v % 2 ^ n.toNat then v % 2 ^ n.toNat - 2 ^ n.toNat else v % 2 ^ n.toNat) else 0
def fitsB (v n s : Int) (signed : Bool) : Bool :=
  decide (1 ≤ n) && decide (n ≤ 32) && decide (0 ≤ s) && decide (s ≤ 8) && decide (v % 2 ^ s.toNat = 0) &&
    (if signed then decide (-2 ^ (n.toNat - 1) ≤ v / 2 ^ s.toNat) && decide (v / 2 ^ s.toNat < 2 ^ (n.toNat - 1)) else decide (0 ≤ v / 2 ^ s.toNat) && decide (v / 2 ^ s.toNat < 2 ^ n.toNat))

/-! the parts of a word -/
def codeZ (w : Int) : Int := w / 67108864 % 64
def payZ (w : Int) : Int := w / 65536 % 1024 * 16384 + w % 16384
def parseZ (w : Int) : Int := w / 16384 % 4
def thirtyZ (w : Int) : Int := w / 65536 % 65536 * 16384 + w % 16384
def wordZ (code pay parse : Int) : Int := code % 64 * 67108864 + pay / 16384 % 1024 * 65536 + parse % 4 * 16384 + pay % 16384
def fromThirtyZ (v parse : Int) : Int := v / 16384 % 65536 * 65536 + parse % 4 * 16384 + v % 16384

/-! steps of the bit-by-bit answers -/
theorem mod_step (V i : Nat) : V % 2 ^ (i + 1) = V % 2 ^ i + V / 2 ^ i % 2 * 2 ^ i := by
  rw [Nat.pow_succ, Nat.mod_mul, Nat.mul_comm (2 ^ i)]
def sput (W A V i : Nat) : Nat := W / 2 ^ (A + i) * 2 ^ (A + i) + V % 2 ^ i * 2 ^ A + W % 2 ^ A
theorem sput_zero (W A V : Nat) : sput W A V 0 = W := by
  simp only [sput, Nat.add_zero, Nat.pow_zero, Nat.mod_one, Nat.zero_mul]
  have := Nat.div_add_mod W (2 ^ A)
  rw [Nat.mul_comm] at this
  omega
theorem sput_step (W A V i : Nat) : sput W A V (i + 1) + W / 2 ^ (A + i) % 2 * 2 ^ (A + i) = sput W A V i + V / 2 ^ i % 2 * 2 ^ (A + i) := by
  unfold sput
  rw [mod_step, show A + (i + 1) = A + i + 1 by omega, Nat.pow_succ (m := A + i), ← Nat.div_div_eq_div_mul, Nat.add_mul, Nat.mul_assoc (V / 2 ^ i % 2), ← Nat.pow_add, Nat.add_comm i A]
  generalize W / 2 ^ (A + i) = x
  generalize 2 ^ (A + i) = P
  have e : x = 2 * (x / 2) + x % 2 := by omega
  have e2 : x * P = x / 2 * (P * 2) + x % 2 * P := by
    conv => lhs; rw [e]
    rw [Nat.add_mul, Nat.mul_comm P 2, ← Nat.mul_assoc, Nat.mul_comm (x / 2) 2]
  omega
theorem sput_bit (W A V i : Nat) : sput W A V i / 2 ^ (A + i) = W / 2 ^ (A + i) := by
  have hq : 0 < 2 ^ A := Nat.two_pow_pos _
  have hp : 0 < 2 ^ (A + i) := Nat.two_pow_pos _
  have l1 : W % 2 ^ A < 2 ^ A := Nat.mod_lt _ hq
  have l2 : V % 2 ^ i < 2 ^ i := Nat.mod_lt _ (Nat.two_pow_pos _)
  have l3 : V % 2 ^ i * 2 ^ A + W % 2 ^ A < 2 ^ (A + i) := by
    have : (V % 2 ^ i + 1) * 2 ^ A ≤ 2 ^ i * 2 ^ A := Nat.mul_le_mul_right _ l2
    rw [Nat.add_mul, ← Nat.pow_add, Nat.add_comm i A] at this
    omega
  unfold sput
  rw [Nat.add_assoc, Nat.mul_comm, Nat.mul_add_div hp, Nat.div_eq_of_lt l3, Nat.add_zero]
theorem sput_lt (W A V i : Nat) (h : A + i ≤ 32) (hw : W < 2 ^ 32) : sput W A V i < 2 ^ 32 := nput_lt W A i V h hw

def fpay (p j : Nat) : Nat := p % 2 ^ min j 14 + p / 2 ^ 14 % 2 ^ (j - 14) * 2 ^ 16
theorem fpay_lo (p j : Nat) (h : j < 14) : fpay p (j + 1) = fpay p j + p / 2 ^ j % 2 * 2 ^ j := by
  unfold fpay
  rw [show min (j + 1) 14 = j + 1 by omega, show min j 14 = j by omega, show j + 1 - 14 = 0 by omega, show j - 14 = 0 by omega, mod_step]
  omega
theorem fpay_hi (p j : Nat) (h : 14 ≤ j) : fpay p (j + 1) = fpay p j + p / 2 ^ j % 2 * 2 ^ (j + 2) := by
  unfold fpay
  obtain ⟨k, rfl⟩ : ∃ k, j = 14 + k := ⟨j - 14, by omega⟩
  rw [show min (14 + k + 1) 14 = 14 by omega, show min (14 + k) 14 = 14 by omega, show 14 + k + 1 - 14 = k + 1 by omega, show 14 + k - 14 = k by omega, mod_step (p / 2 ^ 14) k, Nat.div_div_eq_div_mul, ← Nat.pow_add, Nat.add_mul, Nat.mul_assoc (p / 2 ^ (14 + k) % 2), ← Nat.pow_add, show 14 + k + 2 = k + 16 by omega, Nat.add_assoc]
theorem fpay_lt (p j : Nat) (h : j ≤ 24) : fpay p j < 2 ^ 26 := by
  unfold fpay
  have h1 := npow_le_of (min j 14) (by omega)
  have h3 : (2:Nat) ^ min j 14 ≤ 2 ^ 14 := Nat.pow_le_pow_right (by decide) (by omega)
  have h4 : (2:Nat) ^ (j - 14) ≤ 2 ^ 10 := Nat.pow_le_pow_right (by decide) (by omega)
  have h5 := Nat.mod_lt p (show 0 < 2 ^ min j 14 by omega)
  have h6 := Nat.mod_lt (p / 2 ^ 14) (Nat.two_pow_pos (j - 14))
  omega
def gthi (w j : Nat) : Nat := w % 2 ^ min j 14 + w / 2 ^ 16 % 2 ^ (j - 14) * 2 ^ 14
theorem gthi_lo (p j : Nat) (h : j < 14) : gthi p (j + 1) = gthi p j + p / 2 ^ j % 2 * 2 ^ j := by
  unfold gthi
  rw [show min (j + 1) 14 = j + 1 by omega, show min j 14 = j by omega, show j + 1 - 14 = 0 by omega, show j - 14 = 0 by omega, mod_step]
  omega
theorem gthi_hi (p j : Nat) (h : 14 ≤ j) : gthi p (j + 1) = gthi p j + p / 2 ^ (j + 2) % 2 * 2 ^ j := by
  unfold gthi
  obtain ⟨k, rfl⟩ : ∃ k, j = 14 + k := ⟨j - 14, by omega⟩
  rw [show min (14 + k + 1) 14 = 14 by omega, show min (14 + k) 14 = 14 by omega, show 14 + k + 1 - 14 = k + 1 by omega, show 14 + k - 14 = k by omega, mod_step (p / 2 ^ 16) k, Nat.div_div_eq_div_mul, ← Nat.pow_add, Nat.add_mul, Nat.mul_assoc (p / 2 ^ (16 + k) % 2), ← Nat.pow_add, show 14 + k + 2 = 16 + k by omega, Nat.add_assoc, Nat.add_comm k 14]
theorem gthi_lt (p j : Nat) (h : j ≤ 30) : gthi p j < 2 ^ 30 := by
  unfold gthi
  have h1 := npow_le_of (min j 14) (by omega)
  have h3 : (2:Nat) ^ min j 14 ≤ 2 ^ 14 := Nat.pow_le_pow_right (by decide) (by omega)
  have h4 : (2:Nat) ^ (j - 14) ≤ 2 ^ 16 := Nat.pow_le_pow_right (by decide) (by omega)
  have h5 := Nat.mod_lt p (show 0 < 2 ^ min j 14 by omega)
  have h6 := Nat.mod_lt (p / 2 ^ 16) (Nat.two_pow_pos (j - 14))
  omega
end Go.Proofs.YtdaildmoodfocaaDoor
