/- A float's product of whole numbers, however great: what is greater than any exact one stays so; no condition but those named. -/
import Derived.Test.YtebpimjbjjmpaaaCplxOps
namespace Go.Proofs.Ytebpimjbjjmpaaa
open Ieee Op

theorem cut_range (s : Bool) (m D : Nat) (h1 : 2 ^ 52 * 2 ^ D ≤ m) (h2 : m < 2 ^ 53 * 2 ^ D) : 2 ^ 52 ≤ Toward.even.cut s m D ∧ Toward.even.cut s m D ≤ 2 ^ 53 := by
  have hp := Nat.two_pow_pos D
  have hm : m ≠ 0 := by
    have : 0 < 2 ^ 52 * 2 ^ D := Nat.mul_pos (by decide) hp
    omega
  have hD : D ≤ m.log2 := (Nat.le_log2 hm).2 (Nat.le_trans (Nat.le_mul_of_pos_left _ (by decide)) h1)
  have h3 : min D (m.log2 + 2) = D := by omega
  unfold Toward.cut
  simp only [h3, Nat.shiftLeft_eq, Nat.one_mul]
  have l1 : 2 ^ 52 ≤ m / 2 ^ D := (Nat.le_div_iff_mul_le hp).2 h1
  have l2 : m / 2 ^ D < 2 ^ 53 := (Nat.div_lt_iff_lt_mul hp).2 h2
  generalize m / 2 ^ D = x at *
  generalize (decide (2 ^ D < 2 * (m % 2 ^ D)) || 2 ^ D == 2 * (m % 2 ^ D) && x % 2 == 1) = c
  cases c
  · exact ⟨by simpa using l1, by simpa using Nat.le_of_lt l2⟩
  · exact ⟨by simp; omega, by simp; omega⟩
theorem read_big (s : Bool) (m : Nat) (p : Int) (c u : Nat) (hp : -2200 ≤ p) (h : m * 2 ^ (p + 2200).toNat = c * 2 ^ u) (hc : 2 ^ 53 ≤ c) (hc2 : c < 2 ^ 90) (hu : 1126 ≤ u) (hu2 : u ≤ 2400) :
    ∃ v : Nat, Sc (double.read (double.nearest s m p)) (sg s v) ∧ 2 ^ 53 * 2 ^ (u - 1100) ≤ v := by
  have hsw : double.signWeight = 9223372036854775808 := by decide
  have hbi : double.binade = 2 ^ 52 := by decide
  have hin : double.infRung = 9218868437227405312 := by decide
  have hle : double.leastPlace = -1074 := by decide
  have hfr : double.fractionBits = 52 := rfl
  obtain ⟨P, hP⟩ : ∃ P : Nat, (P : Int) = p + 2200 := ⟨(p + 2200).toNat, by omega⟩
  have hP2 : (p + 2200).toNat = P := by omega
  rw [hP2] at h
  have hm : m ≠ 0 := by
    intro h0
    subst h0
    rw [Nat.zero_mul] at h
    have := Nat.mul_pos (show 0 < c by omega) (Nat.two_pow_pos u)
    omega
  have l1 : 2 ^ m.log2 ≤ m := Nat.log2_self_le hm
  have l2 : m < 2 ^ (m.log2 + 1) := Nat.lt_log2_self
  unfold Format.nearest
  rw [if_neg hm]
  generalize m.log2 = L at *
  have hLP : L + P < 90 + u := by
    apply two_mul_lt
    calc 2 ^ (L + P) = 2 ^ L * 2 ^ P := Nat.pow_add ..
      _ ≤ m * 2 ^ P := Nat.mul_le_mul_right _ l1
      _ = c * 2 ^ u := h
      _ < 2 ^ 90 * 2 ^ u := Nat.mul_lt_mul_of_pos_right hc2 (Nat.two_pow_pos u)
      _ = 2 ^ (90 + u) := (Nat.pow_add ..).symm
  have hLP2 : 53 + u < L + 1 + P := by
    apply two_mul_lt
    calc 2 ^ (53 + u) = 2 ^ 53 * 2 ^ u := Nat.pow_add ..
      _ ≤ c * 2 ^ u := Nat.mul_le_mul_right _ hc
      _ = m * 2 ^ P := h.symm
      _ < 2 ^ (L + 1) * 2 ^ P := Nat.mul_lt_mul_of_pos_right l2 (Nat.two_pow_pos P)
      _ = 2 ^ (L + 1 + P) := (Nat.pow_add ..).symm
  simp only [hle, hfr, hbi, hin]
  have e0 : ((52 : Nat) : Int) = 52 := rfl
  rw [e0]
  have hlast : max (p + (L : Int) - 52) (-1074) = p + L - 52 := by omega
  rw [hlast]
  obtain ⟨q, hq⟩ : ∃ q : Nat, (q : Int) = p + L - 52 + 1074 := ⟨(p + L - 52 + 1074).toNat, by omega⟩
  have e1 : (p + (L : Int) - 52 - -1074).toNat = q := by omega
  rw [e1]
  have hK : ∃ K : Nat, Toward.even.cut s (m <<< (p - (p + (L : Int) - 52)).toNat) (p + (L : Int) - 52 - p).toNat = K ∧ 2 ^ 52 ≤ K ∧ K ≤ 2 ^ 53 := by
    rcases Nat.lt_or_ge 52 L with h52 | h52
    · have e2 : (p - (p + (L : Int) - 52)).toNat = 0 := by omega
      have e3 : (p + (L : Int) - 52 - p).toNat = L - 52 := by omega
      rw [e2, e3, Nat.shiftLeft_zero]
      have h3 := cut_range s m (L - 52) (by rw [← Nat.pow_add, show 52 + (L - 52) = L by omega]; exact l1) (by rw [← Nat.pow_add, show 53 + (L - 52) = L + 1 by omega]; exact l2)
      exact ⟨_, rfl, h3.1, h3.2⟩
    · have e2 : (p - (p + (L : Int) - 52)).toNat = 52 - L := by omega
      have e3 : (p + (L : Int) - 52 - p).toNat = 0 := by omega
      rw [e2, e3, cut_zero, Nat.shiftLeft_eq]
      refine ⟨_, rfl, ?_, ?_⟩
      · calc 2 ^ 52 = 2 ^ L * 2 ^ (52 - L) := by rw [← Nat.pow_add, show L + (52 - L) = 52 by omega]
          _ ≤ m * 2 ^ (52 - L) := Nat.mul_le_mul_right _ l1
      · calc m * 2 ^ (52 - L) ≤ 2 ^ (L + 1) * 2 ^ (52 - L) := Nat.mul_le_mul_right _ (Nat.le_of_lt l2)
          _ = 2 ^ 53 := by rw [← Nat.pow_add, show L + 1 + (52 - L) = 53 by omega]
  obtain ⟨K, hcut, hK1, hK2⟩ := hK
  rw [hcut, Nat.min_eq_left (by omega)]
  have hval : ∀ (K' a : Nat), 2 ^ 52 ≤ K' → q ≤ a → 2 ^ 53 * 2 ^ (u - 1100) ≤ K' * 2 ^ (a + 26) := by
    intro K' a h1 h2
    calc 2 ^ 53 * 2 ^ (u - 1100) = 2 ^ (53 + (u - 1100)) := (Nat.pow_add ..).symm
      _ ≤ 2 ^ (52 + (a + 26)) := Nat.pow_le_pow_right (by decide) (by omega)
      _ = 2 ^ 52 * 2 ^ (a + 26) := Nat.pow_add ..
      _ ≤ K' * 2 ^ (a + 26) := Nat.mul_le_mul_right _ h1
  rcases Nat.lt_or_ge K (2 ^ 53) with h53 | h53
  · rw [read_word s K q (by omega) h53 (.inr hK1)]
    refine ⟨K * 2 ^ (q + 26), ⟨s, K, _, rfl, by omega, ?_⟩, hval K q hK1 (Nat.le_refl _)⟩
    rw [show ((q : Int) - 1074 + 1100).toNat = q + 26 by omega]
  · obtain rfl : K = 2 ^ 53 := by omega
    rw [show q * 2 ^ 52 + 2 ^ 53 = (q + 1) * 2 ^ 52 + 2 ^ 52 by omega, read_word s (2 ^ 52) (q + 1) (by omega) (by decide) (.inr (Nat.le_refl _))]
    refine ⟨2 ^ 52 * 2 ^ (q + 1 + 26), ⟨s, 2 ^ 52, _, rfl, by omega, ?_⟩, hval (2 ^ 52) (q + 1) (Nat.le_refl _) (by omega)⟩
    rw [show (((q + 1 : Nat) : Int) - 1074 + 1100).toNat = q + 1 + 26 by omega]
/-- A product of whole numbers that is no exact one: a float at least as great. -/
theorem mul_big {a b : Nat} {x y : Int} (ha : FI a (x * U)) (hb : FI b (y * U)) (h : 2 ^ 53 ≤ (x * y).natAbs) (h2 : (x * y).natAbs < 2 ^ 90) : ∃ (r v : Nat), floatBits .mul .f64 a b = some r ∧ FI r (sg (decide (x * y < 0)) v) ∧ 2 ^ 53 * U ≤ v := by
  obtain ⟨_, s, m, i, hra, hi, hv⟩ := ha
  obtain ⟨_, t, n, j, hrb, hj, hw⟩ := hb
  obtain ⟨hx, hm⟩ := sg_int U_pos hv
  obtain ⟨hy, hn⟩ := sg_int U_pos hw
  obtain ⟨u, hu⟩ : ∃ u : Nat, u = kU + kU := ⟨_, rfl⟩
  have hk := kU_eq
  have hUU : U * U = 2 ^ u := by rw [U_eq, ← Nat.pow_add, hu]
  have hU1 : U = 2 ^ (u - 1100) := by rw [U_eq, show u - 1100 = kU by omega]
  have hst : x * y = sg (s ^^ t) (x * y).natAbs := by
    rw [Int.natAbs_mul, ← sg_mul_sg, ← hx, ← hy]
  have hsg : (s ^^ t) = decide (x * y < 0) := by
    generalize (x * y).natAbs = w at *
    generalize x * y = z at *
    cases hq : (s ^^ t) with
    | false =>
      rw [hq] at hst
      simp only [sg] at hst
      exact (decide_eq_false (by simp at hst; omega)).symm
    | true =>
      rw [hq] at hst
      simp only [sg] at hst
      exact (decide_eq_true (by simp at hst; omega)).symm
  obtain ⟨v, hs, hv2⟩ := read_big (s ^^ t) (m * n) (i + j) (x * y).natAbs u (by omega) (by
      rw [show (i + j + 2200).toNat = (i + 1100).toNat + (j + 1100).toNat by omega, Nat.pow_add, Int.natAbs_mul, ← hUU]
      calc m * n * (2 ^ (i + 1100).toNat * 2 ^ (j + 1100).toNat) = (m * 2 ^ (i + 1100).toNat) * (n * 2 ^ (j + 1100).toNat) := by ac_rfl
        _ = (x.natAbs * U) * (y.natAbs * U) := by rw [hm, hn]
        _ = x.natAbs * y.natAbs * (U * U) := by ac_rfl) h h2 (by omega) (by omega)
  refine ⟨double.nearest (s ^^ t) (m * n) (i + j), v, ?_, ⟨nearest_lt64 .., by rw [← hsg]; exact hs⟩, by rw [hU1]; exact hv2⟩
  show (((double.read a).product (double.read b)).map double.write) = _
  rw [hra, hrb]
  rfl
end Go.Proofs.Ytebpimjbjjmpaaa
