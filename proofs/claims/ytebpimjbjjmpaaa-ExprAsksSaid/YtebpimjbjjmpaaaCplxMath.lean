/- What the model's floats hold of numbers that fit: exact values under each operation; no condition but those named. -/
import Derived.Test.YtebpimjbjjmpaaaGBase
import Derived.WalkLawsBesides
namespace Go.Proofs.Ytebpimjbjjmpaaa
open Ieee

/-- A sign before a natural number. -/
def sg (s : Bool) (n : Nat) : Int := if s then -(n : Int) else (n : Int)
theorem sg_natAbs (s : Bool) (n : Nat) : (sg s n).natAbs = n := by unfold sg; cases s <;> simp
theorem signed_eq (s : Bool) (m up : Nat) : signed s m up = sg s (m * 2 ^ up) := by unfold signed sg; rw [Nat.shiftLeft_eq]
theorem sg_mul (s : Bool) (m n : Nat) : sg s (m * n) = sg s m * n := by
  unfold sg; cases s <;> simp [Int.natCast_mul, Int.neg_mul]

/-- The datum is a number; 2^1100 times its value is v. -/
def Sc (d : Datum) (v : Int) : Prop := ∃ (s : Bool) (m : Nat) (p : Int), d = .number s m p ∧ -1074 ≤ p ∧ v = sg s (m * 2 ^ (p + 1100).toNat)

theorem two_mul_lt {a b : Nat} (h : 2 ^ a < 2 ^ b) : a < b := (Nat.pow_lt_pow_iff_right (by decide)).1 h

theorem cut_zero (s : Bool) (n : Nat) (way : Toward) : way.cut s n 0 = n := by
  unfold Toward.cut
  cases way <;> simp [Nat.mod_one]
theorem cut_whole (s : Bool) (k d : Nat) (hk : k ≠ 0) (way : Toward) : way.cut s (k * 2 ^ d) d = k := by
  have h1 : d ≤ (k * 2 ^ d).log2 := (Nat.le_log2 (by have := Nat.two_pow_pos d; exact Nat.mul_ne_zero hk (by omega))).2 (Nat.le_mul_of_pos_left _ (by omega))
  have h2 : min d ((k * 2 ^ d).log2 + 2) = d := by omega
  have hp := Nat.two_pow_pos d
  unfold Toward.cut
  simp only [h2, Nat.shiftLeft_eq, Nat.one_mul]
  rw [Nat.mul_mod_left, Nat.mul_div_cancel _ hp]
  have h3 : (2 ^ d == 0) = false := by simp
  cases way <;> simp

/-- What is kept of a number whose digits fit. -/
theorem kept_spec (s : Bool) (m : Nat) (p : Int) (c u : Nat) (hm : m ≠ 0) (hp : -2200 ≤ p) (h : m * 2 ^ (p + 2200).toNat = c * 2 ^ u) (hc : c < 2 ^ 53) (hu : 1126 ≤ u) (last : Int) (hl : last = max (p + m.log2 - 52) (-1074)) :
    ∃ K : Nat, Toward.even.cut s (m <<< (p - last).toNat) (last - p).toNat = K ∧ K * 2 ^ (last + 2200).toNat = c * 2 ^ u ∧ K < 2 ^ 53 ∧ (last = -1074 ∨ 2 ^ 52 ≤ K) ∧ last ≤ u - 2200 ∧ -1074 ≤ last := by
  obtain ⟨P, hP⟩ : ∃ P : Nat, (P : Int) = p + 2200 := ⟨(p + 2200).toNat, by omega⟩
  have hP2 : (p + 2200).toNat = P := by omega
  rw [hP2] at h
  have l1 : 2 ^ m.log2 ≤ m := Nat.log2_self_le hm
  have l2 : m < 2 ^ (m.log2 + 1) := Nat.lt_log2_self
  generalize m.log2 = L at *
  have hLP : L + P < 53 + u := by
    apply two_mul_lt
    calc 2 ^ (L + P) = 2 ^ L * 2 ^ P := Nat.pow_add ..
      _ ≤ m * 2 ^ P := Nat.mul_le_mul_right _ l1
      _ = c * 2 ^ u := h
      _ < 2 ^ 53 * 2 ^ u := Nat.mul_lt_mul_of_pos_right hc (Nat.two_pow_pos u)
      _ = 2 ^ (53 + u) := (Nat.pow_add ..).symm
  by_cases hcase : last ≤ p
  · have e1 : (last - p).toNat = 0 := by omega
    refine ⟨m * 2 ^ (p - last).toNat, ?_, ?_, ?_, ?_, ?_, ?_⟩
    · rw [e1, cut_zero, Nat.shiftLeft_eq]
    · rw [Nat.mul_assoc, ← Nat.pow_add, show (p - last).toNat + (last + 2200).toNat = P by omega]; exact h
    · calc m * 2 ^ (p - last).toNat < 2 ^ (L + 1) * 2 ^ (p - last).toNat := Nat.mul_lt_mul_of_pos_right l2 (Nat.two_pow_pos _)
        _ = 2 ^ (L + 1 + (p - last).toNat) := (Nat.pow_add ..).symm
        _ ≤ 2 ^ 53 := Nat.pow_le_pow_right (by decide) (by omega)
    · by_cases h1 : last = -1074
      · exact .inl h1
      · right
        calc 2 ^ 52 ≤ 2 ^ (L + (p - last).toNat) := Nat.pow_le_pow_right (by decide) (by omega)
          _ = 2 ^ L * 2 ^ (p - last).toNat := Nat.pow_add ..
          _ ≤ m * 2 ^ (p - last).toNat := Nat.mul_le_mul_right _ l1
    · omega
    · omega
  · have e1 : (p - last).toNat = 0 := by omega
    have hPu : P ≤ u := by
      refine Nat.le_of_not_lt fun hlt => ?_
      have h2 : m * 2 ^ (P - u) = c := by
        refine Nat.eq_of_mul_eq_mul_right (Nat.two_pow_pos u) ?_
        rw [Nat.mul_assoc, ← Nat.pow_add, show P - u + u = P by omega]; exact h
      have h3 : m ≤ c := by rw [← h2]; exact Nat.le_mul_of_pos_right _ (Nat.two_pow_pos _)
      have h4 : L < 53 := by
        apply two_mul_lt
        omega
      omega
    have hmc : m = c * 2 ^ (u - P) := by
      refine Nat.eq_of_mul_eq_mul_right (Nat.two_pow_pos P) ?_
      rw [Nat.mul_assoc, ← Nat.pow_add, show u - P + P = u by omega]; exact h
    obtain ⟨D, hD⟩ : ∃ D : Nat, (D : Int) = last - p := ⟨(last - p).toNat, by omega⟩
    have hDu : D ≤ u - P := by omega
    have hK : m = c * 2 ^ (u - P - D) * 2 ^ D := by
      rw [Nat.mul_assoc, ← Nat.pow_add, show u - P - D + D = u - P by omega]; exact hmc
    have hD2 : (last - p).toNat = D := by omega
    generalize hKK : c * 2 ^ (u - P - D) = K at *
    have hK0 : K ≠ 0 := by
      intro h0; subst h0; simp at hK; exact hm hK
    refine ⟨K, ?_, ?_, ?_, ?_, ?_, ?_⟩
    · rw [e1, hD2, Nat.shiftLeft_eq, Nat.pow_zero, Nat.mul_one, hK, cut_whole _ _ _ hK0]
    · rw [← h, hK, Nat.mul_assoc, ← Nat.pow_add, show (last + 2200).toNat = D + P by omega]
    · refine Nat.lt_of_mul_lt_mul_right (a := 2 ^ D) ?_
      calc K * 2 ^ D = m := hK.symm
        _ < 2 ^ (L + 1) := l2
        _ ≤ 2 ^ (53 + D) := Nat.pow_le_pow_right (by decide) (by omega)
        _ = 2 ^ 53 * 2 ^ D := Nat.pow_add ..
    · by_cases h1 : last = -1074
      · exact .inl h1
      · right
        refine Nat.le_of_mul_le_mul_right (c := 2 ^ D) ?_ (Nat.two_pow_pos D)
        calc 2 ^ 52 * 2 ^ D = 2 ^ (52 + D) := (Nat.pow_add ..).symm
          _ ≤ 2 ^ L := Nat.pow_le_pow_right (by decide) (by omega)
          _ ≤ m := l1
          _ = K * 2 ^ D := hK
    · omega
    · omega

theorem read_word (s : Bool) (K : Nat) (q : Nat) (hq : q ≤ 2000) (hK : K < 2 ^ 53) (h : q = 0 ∨ 2 ^ 52 ≤ K) :
    double.read (double.word s (q * 2 ^ 52 + K)) = .number s K (q - 1074) := by
  have hsw : double.signWeight = 9223372036854775808 := by decide
  have hbi : double.binade = 4503599627370496 := by decide
  have hin : double.infRung = 9218868437227405312 := by decide
  have hle : double.leastPlace = -1074 := by decide
  have hR : q * 2 ^ 52 + K < 9223372036854775808 := by omega
  have hword : double.word s (q * 2 ^ 52 + K) / 9223372036854775808 % 2 = s.toNat ∧ double.word s (q * 2 ^ 52 + K) % 9223372036854775808 = q * 2 ^ 52 + K := by
    unfold Format.word
    rw [hsw]
    cases s <;> simp <;> omega
  unfold Format.read
  rw [hsw, hbi, hin, hle, hword.1, hword.2]
  have hb : (s.toNat == 1) = s := by cases s <;> rfl
  simp only [hb]
  by_cases h1 : q * 2 ^ 52 + K < 4503599627370496
  · rw [if_pos h1]
    have : q = 0 := by omega
    subst this; simp
  · rw [if_neg h1, if_pos (by omega)]
    have hq1 : 4503599627370496 ≤ K := by omega
    have e1 : 4503599627370496 + (q * 2 ^ 52 + K) % 4503599627370496 = K := by omega
    have e2 : (q * 2 ^ 52 + K) / 4503599627370496 - 1 = q := by omega
    rw [e1, e2]
    congr 1

theorem cancel_pow (K c a u k : Nat) (h : K * 2 ^ (a + k) = c * 2 ^ u) (hk : k ≤ u) : K * 2 ^ a = c * 2 ^ (u - k) := by
  refine Nat.eq_of_mul_eq_mul_right (Nat.two_pow_pos k) ?_
  rw [Nat.mul_assoc, Nat.mul_assoc, ← Nat.pow_add, ← Nat.pow_add, show u - k + k = u by omega]
  exact h

/-- A number whose digits fit is written exactly. -/
theorem read_nearest (s : Bool) (m : Nat) (p : Int) (c u : Nat) (hp : -2200 ≤ p) (h : m * 2 ^ (p + 2200).toNat = c * 2 ^ u) (hc : c < 2 ^ 53) (hu : 1126 ≤ u) (hu2 : u ≤ 2400) :
    Sc (double.read (double.nearest s m p)) (sg s (c * 2 ^ (u - 1100))) := by
  have hsw : double.signWeight = 9223372036854775808 := by decide
  have hbi : double.binade = 2 ^ 52 := by decide
  have hin : double.infRung = 9218868437227405312 := by decide
  have hle : double.leastPlace = -1074 := by decide
  have hfr : double.fractionBits = 52 := rfl
  by_cases hm : m = 0
  · subst hm
    have hc0 : c = 0 := by
      have : 0 < 2 ^ u := Nat.two_pow_pos u
      rw [Nat.zero_mul] at h
      rcases Nat.mul_eq_zero.1 h.symm with h | h
      · exact h
      · omega
    subst hc0
    unfold Format.nearest
    rw [if_pos rfl]
    refine ⟨s, 0, -1074, ?_, by omega, by simp⟩
    have := read_word s 0 0 (by omega) (by decide) (.inl rfl)
    simpa using this
  · obtain ⟨K, hcut, hKv, hK53, hK52, hlast, hlast2⟩ := kept_spec s m p c u hm hp h hc hu _ rfl
    unfold Format.nearest
    rw [if_neg hm]
    simp only [hle, hfr, hbi, hin]
    have e0 : ((52 : Nat) : Int) = 52 := rfl
    rw [e0]
    generalize hL : max (p + (m.log2 : Int) - 52) (-1074) = last at *
    rw [hcut]
    obtain ⟨q, hq⟩ : ∃ q : Nat, (q : Int) = last + 1074 := ⟨(last + 1074).toNat, by omega⟩
    have e1 : (last - -1074).toNat = q := by omega
    rw [e1, Nat.min_eq_left (by omega)]
    rw [read_word s K q (by omega) hK53 (by omega)]
    refine ⟨s, K, _, rfl, by omega, ?_⟩
    refine congrArg (sg s) ?_
    have e2 : ((q : Int) - 1074 + 1100).toNat = q + 26 := by omega
    have e3 : (last + 2200).toNat = q + 26 + 1100 := by omega
    rw [e2]
    rw [e3] at hKv
    generalize q + 26 = a at *
    have hk : 1100 ≤ u := by omega
    generalize (1100 : Nat) = k at *
    exact (cancel_pow K c a u k hKv hk).symm
end Go.Proofs.Ytebpimjbjjmpaaa
