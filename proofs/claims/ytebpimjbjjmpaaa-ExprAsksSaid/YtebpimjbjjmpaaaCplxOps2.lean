/- The quotient by 2^15, rounding down, whole numbers, least and greatest of two, at numbers that fit; no condition but those named. -/
import Derived.Test.YtebpimjbjjmpaaaCplxOps
namespace Go.Proofs.Ytebpimjbjjmpaaa
open Ieee

theorem FI_const {b : Nat} {s : Bool} {m c d : Nat} (hb : b < 2 ^ 64) (hr : double.read b = .number s m (-(d : Int))) (hm : m = c * 2 ^ d) (hd : d ≤ 1074) : FI b (sg s c * U) := by
  refine ⟨hb, s, m, _, hr, by omega, ?_⟩
  have hk := kU_eq
  rw [← sg_mul, hm, Nat.mul_assoc, ← Nat.pow_add, show d + (-(d : Int) + 1100).toNat = kU by omega, U_eq]

def D15 : Nat := 4674736413210574848
def cLeast : Nat := 13898108450065350656
def cMost : Nat := 4674736138332667904
theorem FI_D15 : FI D15 (32768 * U) := FI_const (s := false) (m := 4503599627370496) (c := 32768) (d := 37) (by decide) (by decide +kernel) (by decide) (by decide)
theorem FI_least : FI cLeast (-32768 * U) := FI_const (s := true) (m := 4503599627370496) (c := 32768) (d := 37) (by decide) (by decide +kernel) (by decide) (by decide)
theorem FI_most : FI cMost (32767 * U) := FI_const (s := false) (m := 9006924376834048) (c := 32767) (d := 38) (by decide) (by decide +kernel) (by decide) (by decide)

theorem read_mag {b : Nat} {s : Bool} {m : Nat} {p : Int} (h : double.read b = .number s m p) : m < 2 ^ 53 := by
  have hbi : double.binade = 4503599627370496 := by decide
  unfold Format.read at h
  rw [hbi] at h
  dsimp only at h
  split at h
  · cases h; omega
  · split at h
    · cases h; omega
    · split at h <;> cases h

/-- Written exactly: a multiple of a smaller power. -/
theorem write_at (s : Bool) (m : Nat) (p : Int) (c w : Nat) (hp : -2200 ≤ p) (hw : 26 ≤ w) (hw2 : w ≤ 1300) (h : m * 2 ^ (p + 2200).toNat = c * (2 ^ w * U)) (hc : c < 2 ^ 53) :
    FI (double.nearest s m p) (sg s (c * 2 ^ w)) := by
  refine ⟨nearest_lt64 .., ?_⟩
  obtain ⟨u, hu⟩ : ∃ u : Nat, u = w + kU := ⟨_, rfl⟩
  have hk := kU_eq
  have h2 : 2 ^ w * U = 2 ^ u := by rw [U_eq, ← Nat.pow_add, hu]
  have h3 : w = u - 1100 := by omega
  rw [h2] at h
  rw [h3]
  exact read_nearest s m p c u hp h hc (by omega) (by omega)

theorem quo_FI {a : Nat} {z : Int} (ha : FI a (z * U)) (h : z.natAbs < 2 ^ 53) : ∃ r, floatBits .quo .f64 a D15 = some r ∧ FI r (z * V15) := by
  obtain ⟨_, s, m, i, hra, hi, hv⟩ := ha
  obtain ⟨hz, hm⟩ := sg_int U_pos hv
  have hm53 := read_mag hra
  have hl : m.log2 ≤ 52 := by
    by_cases h0 : m = 0
    · subst h0; decide
    · have := (Nat.log2_lt h0).2 hm53; omega
  have hrD : double.read D15 = .number false 4503599627370496 (-37) := by decide +kernel
  have hl2 : (4503599627370496 : Nat).log2 = 52 := by decide +kernel
  obtain ⟨e, he⟩ : ∃ e, 106 - m.log2 = e + 52 := ⟨54 - m.log2, by omega⟩
  have hdiv : m <<< (106 - m.log2) / 4503599627370496 = m * 2 ^ e := by
    rw [he, Nat.shiftLeft_eq, Nat.pow_add, ← Nat.mul_assoc]; exact Nat.mul_div_cancel _ (by decide)
  have hmod : m <<< (106 - m.log2) % 4503599627370496 = 0 := by
    rw [he, Nat.shiftLeft_eq, Nat.pow_add, ← Nat.mul_assoc]; exact Nat.mul_mod_left ..
  refine ⟨double.nearest s (2 * (m * 2 ^ e)) (i + 36 - (e + 52 : Nat)), ?_, ?_⟩
  · show (((double.read a).quotient 54 (double.read D15)).map double.write) = _
    rw [hra, hrD]
    simp only [Datum.quotient, hl2]
    rw [if_neg (by decide)]
    simp only [show 54 + 52 - m.log2 = 106 - m.log2 from rfl, hdiv, hmod, Option.map_some, Format.write, Bool.xor_false]
    have e1 : (0 != 0) = false := rfl
    rw [e1, he]
    simp only [Bool.toNat_false, Nat.add_zero]
    congr 2
    omega
  · have hk := kU_eq
    obtain ⟨w, hw⟩ : ∃ w, w = kU - 15 := ⟨_, rfl⟩
    have hV : V15 = 2 ^ w := by rw [V15_eq, hw]
    have e := write_at s (2 * (m * 2 ^ e)) (i + 36 - (e + 52 : Nat)) z.natAbs w (by omega) (by omega) (by omega) (by
      rw [show 2 * (m * 2 ^ e) = m * 2 ^ (e + 1) by rw [Nat.pow_succ]; ac_rfl, Nat.mul_assoc, ← Nat.pow_add,
        show e + 1 + (i + 36 - (e + 52 : Nat) + 2200).toNat = (i + 1100).toNat + w by omega, Nat.pow_add, ← Nat.mul_assoc, hm, Nat.mul_assoc, Nat.mul_comm U]) h
    have h3 : z * (V15 : Int) = sg s (z.natAbs * V15) := by rw [sg_mul, ← hz]
    rw [h3, hV]; exact e

theorem floor_of {x k f r : Int} (h : x = k * f + r) (h1 : 0 ≤ r) (h2 : r < k) : x / k = f := by
  rw [h, Int.add_comm, Int.add_mul_ediv_left _ _ (by omega), Int.ediv_eq_zero_of_lt h1 h2, Int.zero_add]

theorem cut_down (s : Bool) (n d : Nat) : sg s (Toward.down.cut s n d) = sg s n / ((2 ^ d : Nat) : Int) := by
  have hp : 0 < 2 ^ d := Nat.two_pow_pos d
  have hcut : Toward.down.cut s n d = n / 2 ^ d + (s && n % 2 ^ d != 0).toNat := by
    unfold Toward.cut
    simp only [Nat.shiftLeft_eq, Nat.one_mul]
    by_cases hd : d ≤ n.log2 + 2
    · rw [Nat.min_eq_left hd]
    · rw [Nat.min_eq_right (by omega)]
      have h1 : n < 2 ^ (n.log2 + 1) := Nat.lt_log2_self
      have h2 : n < 2 ^ (n.log2 + 2) := Nat.lt_of_lt_of_le h1 (Nat.pow_le_pow_right (by decide) (by omega))
      have h3 : n < 2 ^ d := Nat.lt_of_lt_of_le h2 (Nat.pow_le_pow_right (by decide) (by omega))
      rw [Nat.div_eq_of_lt h2, Nat.div_eq_of_lt h3, Nat.mod_eq_of_lt h2, Nat.mod_eq_of_lt h3]
  rw [hcut]
  have hn := Nat.div_add_mod n (2 ^ d)
  have hr := Nat.mod_lt n hp
  generalize n / 2 ^ d = q at *
  generalize n % 2 ^ d = r at *
  generalize 2 ^ d = k at *
  symm
  cases s
  · simp only [sg, Bool.false_and, Bool.toNat_false, Nat.add_zero]
    refine floor_of (r := (r : Int)) ?_ (by omega) (by omega)
    rw [← hn]; simp [Int.natCast_mul]
  · by_cases h0 : r = 0
    · subst h0
      simp only [sg]
      refine floor_of (r := 0) ?_ (by omega) (by omega)
      rw [← hn]; simp [Int.natCast_mul, Int.mul_neg]
    · have e : (true && r != 0) = true := by simp [h0]
      rw [e]
      simp only [sg]
      refine floor_of (r := (k : Int) - r) ?_ (by omega) (by omega)
      rw [← hn]
      simp [Int.natCast_mul, Int.mul_neg, Int.mul_add]
      omega

/-- math.Floor's bits. -/
def floorB (b : Nat) : Nat := FloatKind.f64.encode ((FloatKind.f64.decode b).integral .down)

theorem floor_FI {a : Nat} {v : Int} (ha : FI a v) (h : (v / U).natAbs < 2 ^ 53) : FI (floorB a) (v / U * U) := by
  obtain ⟨_, s, m, i, hra, hi, hv⟩ := ha
  have hk := kU_eq
  have key : sg s (Toward.down.cut s (m <<< i.toNat) (-i).toNat) = v / U := by
    rw [cut_down, hv, Nat.shiftLeft_eq]
    by_cases h0 : 0 ≤ i
    · rw [show (-i).toNat = 0 by omega, show (i + 1100).toNat = i.toNat + kU by omega, Nat.pow_add, ← Nat.mul_assoc, ← U_eq, sg_mul s _ U]
      have := U_pos
      rw [Int.mul_ediv_cancel _ (by omega)]
      simp
    · rw [show i.toNat = 0 by omega, Nat.pow_zero, Nat.mul_one]
      have hU : U = 2 ^ (-i).toNat * 2 ^ (i + 1100).toNat := by rw [← Nat.pow_add, U_eq, show (-i).toNat + (i + 1100).toNat = kU by omega]
      rw [hU, sg_mul s m, Int.natCast_mul (2 ^ (-i).toNat)]
      exact (Int.mul_ediv_mul_of_pos_left _ _ (by have := Nat.two_pow_pos (i + 1100).toNat; omega)).symm
  have e : floorB a = double.nearest s (Toward.down.cut s (m <<< i.toNat) (-i).toNat) 0 := by
    show double.write ((double.read a).integral .down) = _
    rw [hra]; rfl
  rw [e]
  have hn : Toward.down.cut s (m <<< i.toNat) (-i).toNat = (v / U).natAbs := by rw [← key, sg_natAbs]
  have e2 := write_int s (Toward.down.cut s (m <<< i.toNat) (-i).toNat) 0 (v / U).natAbs (by omega) (by
    rw [hn, pow_U kU _ (by omega), ← U_eq]) h
  rw [← hn] at e2
  rw [← key, ← sg_mul]
  rwa [hn] at e2 ⊢

theorem toInt_FI {a : Nat} {z : Int} (ha : FI a (z * U)) : (FloatKind.f64.decode a).toInt .zero = some z := by
  obtain ⟨_, s, m, i, hra, hi, hv⟩ := ha
  obtain ⟨hz, hm⟩ := sg_int U_pos hv
  show (double.read a).toInt .zero = _
  have hk := kU_eq
  rw [hra]
  simp only [Datum.toInt, Datum.integral, signed_eq, Nat.pow_zero, Nat.mul_one, Nat.shiftLeft_eq]
  congr 1
  refine Eq.trans ?_ hz.symm
  congr 1
  by_cases h0 : 0 ≤ i
  · rw [show (-i).toNat = 0 by omega, cut_zero]
    refine Nat.eq_of_mul_eq_mul_right U_pos ?_
    rw [← hm, show (i + 1100).toNat = i.toNat + kU by omega, Nat.pow_add, Nat.mul_assoc, ← U_eq]
  · rw [show i.toNat = 0 by omega, Nat.pow_zero, Nat.mul_one]
    have hm2 : m = z.natAbs * 2 ^ (-i).toNat := by
      refine Nat.eq_of_mul_eq_mul_right (Nat.two_pow_pos (i + 1100).toNat) ?_
      rw [hm, Nat.mul_assoc, ← Nat.pow_add, U_eq, show (-i).toNat + (i + 1100).toNat = kU by omega]
    rw [hm2]
    by_cases h1 : z.natAbs = 0
    · rw [h1]; simp [Toward.cut]
    · exact cut_whole _ _ _ h1 _

/-! the least and the greatest of two -/
def minB (a b : Nat) : Nat := if FloatKind.f64.format.order a b = some .lt then a else if FloatKind.f64.format.order a b = some .gt then b else if (FloatKind.f64.decode a).neg then a else b
def maxB (a b : Nat) : Nat := if FloatKind.f64.format.order a b = some .lt then b else if FloatKind.f64.format.order a b = some .gt then a else if (FloatKind.f64.decode a).neg then b else a

theorem compare_def (x y : Int) : compare x y = if x < y then .lt else if x = y then .eq else .gt := rfl
theorem min_FI {a b : Nat} {v w : Int} (ha : FI a v) (hb : FI b w) : FI (minB a b) (if w < v then w else v) := by
  unfold minB
  rw [order_FI ha hb, compare_def]
  rcases Int.lt_trichotomy v w with h | h | h
  · simp [h, show ¬ w < v by omega]; exact ha
  · subst h
    simp
    split
    · exact ha
    · exact hb
  · simp [h, show ¬ v < w by omega, show ¬ v = w by omega]; exact hb
theorem max_FI {a b : Nat} {v w : Int} (ha : FI a v) (hb : FI b w) : FI (maxB a b) (if v < w then w else v) := by
  unfold maxB
  rw [order_FI ha hb, compare_def]
  rcases Int.lt_trichotomy v w with h | h | h
  · simp [h]; exact hb
  · subst h
    simp
    split
    · exact hb
    · exact ha
  · simp [show ¬ v < w by omega, show ¬ v = w by omega]; exact ha

theorem run_min2 {P : Program} (w : World) {a b : Nat} {x y : Int} (ha : FI a x) (hb : FI b y) (ts : Array TypeId) (t : TypeId) :
    (Builtin.min_ ts t #[.float .f64 a, .float .f64 b]).run P w = .ok (.float .f64 (minB a b)) w := by
  have ho := order_FI ha hb
  simp only [Builtin.min_, List.foldlM, minB]
  rw [ho]
  cases hc : compare x y
  · simp [Builtin.min2, ho, hc]
  · simp [Builtin.min2, ho, hc]
  · simp [Builtin.min2, ho, hc]
theorem run_max2 {P : Program} (w : World) {a b : Nat} {x y : Int} (ha : FI a x) (hb : FI b y) (ts : Array TypeId) (t : TypeId) :
    (Builtin.max_ ts t #[.float .f64 a, .float .f64 b]).run P w = .ok (.float .f64 (maxB a b)) w := by
  have ho := order_FI ha hb
  simp only [Builtin.max_, List.foldlM, maxB]
  rw [ho]
  cases hc : compare x y
  · simp [Builtin.max2, ho, hc]
  · simp [Builtin.max2, ho, hc]
  · simp [Builtin.max2, ho, hc]
end Go.Proofs.Ytebpimjbjjmpaaa
