/- Each floating-point operation at numbers that fit: the exact result; no condition but those named. -/
import Derived.Test.YtebpimjbjjmpaaaCplxMath
namespace Go.Proofs.Ytebpimjbjjmpaaa
open Ieee

def kU : Nat := 1100
def U : Nat := 2 ^ kU
def V15 : Nat := 2 ^ (kU - 15)
theorem kU_eq : kU = 1100 := rfl
attribute [irreducible] kU
theorem U_eq : U = 2 ^ kU := rfl
theorem V15_eq : V15 = 2 ^ (kU - 15) := rfl
theorem U_pos : 0 < U := Nat.two_pow_pos _
theorem V15_pos : 0 < V15 := Nat.two_pow_pos _
theorem pow_add_15 (k : Nat) (h : 15 ≤ k) : 2 ^ k = 2 ^ (k - 15) * 32768 := by
  rw [show (32768 : Nat) = 2 ^ 15 from rfl, ← Nat.pow_add, show k - 15 + 15 = k by omega]
theorem U_V15 : U = V15 * 32768 := by rw [U_eq, V15_eq]; exact pow_add_15 kU (by rw [kU_eq]; decide)
theorem pow_U (a b : Nat) (h : b = a + kU) : 2 ^ b = 2 ^ a * U := by rw [U_eq, h, Nat.pow_add]
attribute [irreducible] U V15

/-- These bits are a number; U times its value is v. -/
def FI (b : Nat) (v : Int) : Prop := b < 2 ^ 64 ∧ Sc (double.read b) v

theorem fmt64 : FloatKind.f64.format = double := rfl

theorem sg_zero (s : Bool) : sg s 0 = 0 := by cases s <;> rfl
theorem sg_self (x : Int) : x = sg (decide (x < 0)) x.natAbs := by
  unfold sg
  by_cases h : x < 0
  · simp [h]; omega
  · simp [h]; omega
theorem sg_mul_sg (s t : Bool) (m n : Nat) : sg s m * sg t n = sg (s ^^ t) (m * n) := by
  unfold sg; cases s <;> cases t <;> simp [Int.natCast_mul, Int.neg_mul, Int.mul_neg]
/-- Of a multiple of U: its factor's sign and size. -/
theorem sg_int {x : Int} {s : Bool} {n k : Nat} (hk : 0 < k) (h : x * (k : Int) = sg s n) : x = sg s x.natAbs ∧ n = x.natAbs * k := by
  have hn : n = x.natAbs * k := by
    have := congrArg Int.natAbs h
    rw [sg_natAbs, Int.natAbs_mul, Int.natAbs_natCast] at this
    exact this.symm
  refine ⟨?_, hn⟩
  have h2 : (sg s x.natAbs - x) * (k : Int) = 0 := by
    rw [Int.sub_mul, ← sg_mul, ← hn, h, Int.sub_self]
  rcases Int.mul_eq_zero.1 h2 with h3 | h3
  · omega
  · omega

theorem nearest_lt64 (s : Bool) (m : Nat) (p : Int) : double.nearest s m p < 2 ^ 64 := double.nearest_lt s m p

/-- Written exactly: an integer. -/
theorem write_int (s : Bool) (m : Nat) (p : Int) (c : Nat) (hp : -2200 ≤ p) (h : m * 2 ^ (p + 2200).toNat = c * (U * U)) (hc : c < 2 ^ 53) :
    FI (double.nearest s m p) (sg s (c * U)) := by
  refine ⟨nearest_lt64 .., ?_⟩
  obtain ⟨u, hu⟩ : ∃ u : Nat, u = kU + kU := ⟨_, rfl⟩
  have hk := kU_eq
  have h2 : U * U = 2 ^ u := by rw [U_eq, ← Nat.pow_add, hu]
  have h3 : U = 2 ^ (u - 1100) := by rw [U_eq, show u - 1100 = kU by omega]
  rw [h2] at h
  rw [h3]
  exact read_nearest s m p c u hp h hc (by omega) (by omega)

theorem nearest_FI (n : Int) (h : n.natAbs < 2 ^ 53) : FI (FloatKind.f64.nearest n) (n * U) := by
  have e := write_int (decide (n < 0)) n.natAbs 0 n.natAbs (by omega) (by
    rw [pow_U kU _ (by have := kU_eq; omega), ← U_eq]) h
  have h2 : n * (U : Int) = sg (decide (n < 0)) (n.natAbs * U) := by rw [sg_mul, ← sg_self]
  rw [h2]
  exact e

theorem mul_FI {a b : Nat} {x y : Int} (ha : FI a (x * U)) (hb : FI b (y * U)) (h : (x * y).natAbs < 2 ^ 53) : ∃ r, floatBits .mul .f64 a b = some r ∧ FI r ((x * y) * U) := by
  obtain ⟨_, s, m, i, hra, hi, hv⟩ := ha
  obtain ⟨_, t, n, j, hrb, hj, hw⟩ := hb
  obtain ⟨hx, hm⟩ := sg_int U_pos hv
  obtain ⟨hy, hn⟩ := sg_int U_pos hw
  refine ⟨double.nearest (s ^^ t) (m * n) (i + j), ?_, ?_⟩
  · show (((double.read a).product (double.read b)).map double.write) = _
    rw [hra, hrb]; rfl
  · have e := write_int (s ^^ t) (m * n) (i + j) (x * y).natAbs (by omega) (by
      rw [show (i + j + 2200).toNat = (i + 1100).toNat + (j + 1100).toNat by omega, Nat.pow_add, Int.natAbs_mul]
      calc m * n * (2 ^ (i + 1100).toNat * 2 ^ (j + 1100).toNat) = (m * 2 ^ (i + 1100).toNat) * (n * 2 ^ (j + 1100).toNat) := by ac_rfl
        _ = (x.natAbs * U) * (y.natAbs * U) := by rw [hm, hn]
        _ = x.natAbs * y.natAbs * (U * U) := by ac_rfl) h
    have h2 : x * y = sg (s ^^ t) (x * y).natAbs := by
      rw [Int.natAbs_mul, ← sg_mul_sg, ← hx, ← hy]
    have h3 : x * y * (U : Int) = sg (s ^^ t) ((x * y).natAbs * U) := by rw [sg_mul, ← h2]
    rw [h3]; exact e

theorem sum_Sc {d e : Datum} {x y : Int} (ha : Sc d (x * U)) (hb : Sc e (y * U)) (h : (x + y).natAbs < 2 ^ 53) : ∃ r, (d.sum e).map double.write = some r ∧ FI r ((x + y) * U) := by
  obtain ⟨s, m, i, rfl, hi, hv⟩ := ha
  obtain ⟨t, n, j, rfl, hj, hw⟩ := hb
  have htot : ∀ base : Int, base ≤ i → base ≤ j → -1074 ≤ base → (signed s m (i - base).toNat + signed t n (j - base).toNat) * ((2 ^ (base + 1100).toNat : Nat) : Int) = (x + y) * U := by
    intro base h1 h2 h3
    rw [signed_eq, signed_eq, Int.add_mul, ← sg_mul, ← sg_mul, Nat.mul_assoc, Nat.mul_assoc, ← Nat.pow_add, ← Nat.pow_add,
      show (i - base).toNat + (base + 1100).toNat = (i + 1100).toNat by omega, show (j - base).toNat + (base + 1100).toNat = (j + 1100).toNat by omega, ← hv, ← hw, ← Int.add_mul]
  have hT := htot (min i j) (Int.min_le_left ..) (Int.min_le_right ..) (by omega)
  have hB : -1074 ≤ min i j := by omega
  simp only [Datum.sum]
  generalize signed s m (i - min i j).toNat + signed t n (j - min i j).toNat = T at *
  generalize min i j = base at *
  refine ⟨_, rfl, ?_⟩
  have hab : T.natAbs * 2 ^ (base + 1100).toNat = (x + y).natAbs * U := by
    have := congrArg Int.natAbs hT
    rwa [Int.natAbs_mul, Int.natAbs_mul, Int.natAbs_natCast, Int.natAbs_natCast] at this
  have hpos : 0 < (2 ^ (base + 1100).toNat : Nat) := Nat.two_pow_pos _
  have e := write_int (if T = 0 then s && t else decide (T < 0)) T.natAbs base (x + y).natAbs (by omega) (by
    rw [pow_U (base + 1100).toNat _ (by have := kU_eq; omega), ← Nat.mul_assoc, hab, Nat.mul_assoc]) h
  have hU := U_pos
  have hsign : (x + y) * (U : Int) = sg (if T = 0 then s && t else decide (T < 0)) ((x + y).natAbs * U) := by
    by_cases h0 : T = 0
    · rw [h0, Int.zero_mul] at hT
      have : x + y = 0 := by
        rcases Int.mul_eq_zero.1 hT.symm with h | h <;> omega
      rw [this]; simp [sg_zero]
    · rw [if_neg h0, sg_mul]
      congr 1
      have hs := sg_self (x + y)
      have : decide (T < 0) = decide (x + y < 0) := by
        by_cases h1 : T < 0
        · have h2 : T * ((2 ^ (base + 1100).toNat : Nat) : Int) < 0 := Int.mul_neg_of_neg_of_pos h1 (by omega)
          have h3 : x + y < 0 := by
            refine Int.lt_of_not_ge fun h4 => ?_
            have := Int.mul_nonneg h4 (show (0 : Int) ≤ U by omega)
            omega
          simp [h1, h3]
        · have h2 : 0 ≤ T * ((2 ^ (base + 1100).toNat : Nat) : Int) := Int.mul_nonneg (by omega) (by omega)
          have h3 : ¬ x + y < 0 := by
            intro h4
            have := Int.mul_neg_of_neg_of_pos h4 (show (0 : Int) < U by omega)
            omega
          simp [h1, h3]
      rw [this]; exact hs
  rw [hsign]; exact e

theorem Sc_opposite {d : Datum} {v : Int} (h : Sc d v) : Sc d.opposite (-v) := by
  obtain ⟨s, m, i, rfl, hi, hv⟩ := h
  refine ⟨!s, m, i, rfl, hi, ?_⟩
  rw [hv]; unfold sg; cases s <;> simp

theorem add_FI {a b : Nat} {x y : Int} (ha : FI a (x * U)) (hb : FI b (y * U)) (h : (x + y).natAbs < 2 ^ 53) : ∃ r, floatBits .add .f64 a b = some r ∧ FI r ((x + y) * U) := sum_Sc ha.2 hb.2 h
theorem sub_FI {a b : Nat} {x y : Int} (ha : FI a (x * U)) (hb : FI b (y * U)) (h : (x - y).natAbs < 2 ^ 53) : ∃ r, floatBits .sub .f64 a b = some r ∧ FI r ((x - y) * U) := by
  have hb' := Sc_opposite hb.2
  rw [← Int.neg_mul] at hb'
  exact sum_Sc ha.2 hb' h

theorem compare_scale (A B k : Int) (hk : 0 < k) : compare (A * k) (B * k) = compare A B := by
  have e : ∀ x y : Int, compare x y = if x < y then .lt else if x = y then .eq else .gt := fun _ _ => rfl
  rw [e, e]
  rcases Int.lt_trichotomy A B with h | h | h
  · have h2 := Int.mul_lt_mul_of_pos_right h hk
    rw [if_pos h, if_pos h2]
  · subst h; simp
  · have h2 := Int.mul_lt_mul_of_pos_right h hk
    rw [if_neg (by omega), if_neg (by omega), if_neg (by omega), if_neg (by omega)]

theorem order_FI {a b : Nat} {v w : Int} (ha : FI a v) (hb : FI b w) : FloatKind.f64.format.order a b = some (compare v w) := by
  obtain ⟨_, s, m, i, hra, hi, rfl⟩ := ha
  obtain ⟨_, t, n, j, hrb, hj, rfl⟩ := hb
  have h1 : sg s (m * 2 ^ (i + 1100).toNat) = signed s m (i - min i j).toNat * ((2 ^ (min i j + 1100).toNat : Nat) : Int) := by
    rw [signed_eq, ← sg_mul, Nat.mul_assoc, ← Nat.pow_add, show (i - min i j).toNat + (min i j + 1100).toNat = (i + 1100).toNat by omega]
  have h2 : sg t (n * 2 ^ (j + 1100).toNat) = signed t n (j - min i j).toNat * ((2 ^ (min i j + 1100).toNat : Nat) : Int) := by
    rw [signed_eq, ← sg_mul, Nat.mul_assoc, ← Nat.pow_add, show (j - min i j).toNat + (min i j + 1100).toNat = (j + 1100).toNat by omega]
  have hpos : 0 < (2 ^ (min i j + 1100).toNat : Nat) := Nat.two_pow_pos _
  rw [h1, h2, compare_scale _ _ _ (by omega)]
  show (double.read a).order (double.read b) = _
  rw [hra, hrb]; rfl

theorem neg_FI {b : Nat} {v : Int} (h : FI b v) : FI (Op.negFloat .f64 b) (-v) := by
  obtain ⟨hb, hs⟩ := h
  have e : Op.negFloat .f64 b = b ^^^ 2 ^ 63 := rfl
  have hx : b ^^^ 2 ^ 63 = if b < 2 ^ 63 then b + 2 ^ 63 else b - 2 ^ 63 := by
    have h1 : b = 2 ^ 63 * (b / 2 ^ 63) + b % 2 ^ 63 := (Nat.div_add_mod ..).symm
    refine Nat.eq_of_testBit_eq fun k => ?_
    rw [Nat.testBit_xor, Nat.testBit_two_pow]
    by_cases h2 : b < 2 ^ 63
    · rw [if_pos h2, Nat.add_comm b]
      by_cases hk : k = 63
      · subst hk; rw [Nat.testBit_two_pow_add_eq]; simp
      · rw [Nat.add_comm]
        have : (b + 2 ^ 63).testBit k = b.testBit k := by
          rcases Nat.lt_or_gt_of_ne hk with h3 | h3
          · rw [Nat.add_comm, Nat.testBit_two_pow_add_gt h3]
          · rw [Nat.testBit_lt_two_pow (Nat.lt_of_lt_of_le (show b + 2 ^ 63 < 2 ^ 64 by omega) (Nat.pow_le_pow_right (by decide) (by omega))),
              Nat.testBit_lt_two_pow (Nat.lt_of_lt_of_le (show b < 2 ^ 64 by omega) (Nat.pow_le_pow_right (by decide) (by omega)))]
        rw [this]
        have : decide (63 = k) = false := by simp; omega
        simp [this]
    · rw [if_neg h2]
      obtain ⟨c, rfl⟩ : ∃ c, b = 2 ^ 63 + c := ⟨b - 2 ^ 63, by omega⟩
      rw [Nat.add_sub_cancel_left]
      by_cases hk : k = 63
      · subst hk; rw [Nat.testBit_two_pow_add_eq]; simp
      · have : (2 ^ 63 + c).testBit k = c.testBit k := by
          rcases Nat.lt_or_gt_of_ne hk with h3 | h3
          · rw [Nat.testBit_two_pow_add_gt h3]
          · rw [Nat.testBit_lt_two_pow (Nat.lt_of_lt_of_le (show 2 ^ 63 + c < 2 ^ 64 by omega) (Nat.pow_le_pow_right (by decide) (by omega))),
              Nat.testBit_lt_two_pow (Nat.lt_of_lt_of_le (show c < 2 ^ 64 by omega) (Nat.pow_le_pow_right (by decide) (by omega)))]
        rw [this]
        have : decide (63 = k) = false := by simp; omega
        simp [this]
  rw [e, hx]
  refine ⟨by split <;> omega, ?_⟩
  have h2 : double.read (if b < 2 ^ 63 then b + 2 ^ 63 else b - 2 ^ 63) = (double.read b).opposite := by
    have hsw : double.signWeight = 9223372036854775808 := by decide
    unfold Format.read
    rw [hsw]
    have e1 : (if b < 2 ^ 63 then b + 2 ^ 63 else b - 2 ^ 63) % 9223372036854775808 = b % 9223372036854775808 := by split <;> omega
    have e2 : ((if b < 2 ^ 63 then b + 2 ^ 63 else b - 2 ^ 63) / 9223372036854775808 % 2 == 1) = !(b / 9223372036854775808 % 2 == 1) := by
      by_cases h3 : b < 2 ^ 63
      · rw [if_pos h3]
        have : b / 9223372036854775808 % 2 = 0 := by omega
        have h4 : (b + 2 ^ 63) / 9223372036854775808 % 2 = 1 := by omega
        rw [this, h4]; rfl
      · rw [if_neg h3]
        have : b / 9223372036854775808 % 2 = 1 := by omega
        have h4 : (b - 2 ^ 63) / 9223372036854775808 % 2 = 0 := by omega
        rw [this, h4]; rfl
    simp only [e1, e2]
    split
    · rfl
    · split
      · rfl
      · split <;> rfl
  rw [h2]
  exact Sc_opposite hs
end Go.Proofs.Ytebpimjbjjmpaaa
