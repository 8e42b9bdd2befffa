/- Numbers of bits, as MatchHall of match's laws reckons them, for masks of eight bits and at most eight masks. -/
import Derived.Test.YtplafgegjbppmaaMatchLaws2
namespace Go.Proofs.Ytplafgegjbppmaa
open Go.ChangeShapes Go.WideShapes Go.ChangeAt Go.RowKit Go.Sort BigFrame

theorem stF_take {ns : List Nat} {pick i n a : Nat} (h : i < ns.length) (e : stF (ns.take i) pick (0, 0) = (n, a)) : stF (ns.take (i + 1)) pick (0, 0) = if pick / 2 ^ i % 2 = 1 then (n + 1, a ||| ns.getD i 0 % 16) else (n, a) := by
  have e1 : ns.take (i + 1) = ns.take i ++ [ns.getD i 0] := by
    rw [List.take_succ_eq_append_getElem h]
    simp [List.getD, h]
  have e2 : (ns.take i).length = i := by rw [List.length_take]; omega
  rw [e1, stF_snoc, e2, e]
theorem or_16 {a b : Nat} (ha : a < 16) : a ||| b % 16 < 16 := Nat.or_lt_two_pow (n := 4) ha (by omega)
theorem or_code (a m : Nat) (ha : a < 16) (hm : m < 256) : bits .or .u8 (a : Int) ((m : Int) % 16) = ((a ||| m % 16 : Nat) : Int) := by
  have h : allBelow (fun m => allBelow (fun a => bits .or .u8 (a : Int) ((m : Int) % 16) == ((a ||| m % 16 : Nat) : Int)) 16) 256 = true := by decide +kernel
  simpa using allBelow_at (allBelow_at h m hm) a ha
theorem bit_code (a s : Nat) (ha : a < 256) : bits .and .u8 ((a : Int) / 2 ^ s) 1 = ((a / 2 ^ s % 2 : Nat) : Int) := by
  have h0 : (0 : Int) ≤ (a : Int) / 2 ^ s := Int.ediv_nonneg (by omega) (Int.le_of_lt (Int.pow_pos (by decide)))
  have h1 : (a : Int) / 2 ^ s ≤ a := Int.ediv_le_self _ (by omega)
  rw [and_one _ h0 (by omega)]
  simp
theorem and_one64 (x : Nat) (h1 : x < 256) : bits .and .i64 (x : Int) 1 = ((x % 2 : Nat) : Int) := by
  have h : allBelow (fun n => bits .and .i64 (n : Int) 1 == ((n % 2 : Nat) : Int)) 256 = true := by decide +kernel
  simpa using allBelow_at h x h1
theorem pick_code (p i : Nat) (hp : p < 256) : (bits .and .i64 ((p : Int) / 2 ^ i) 1 == 1) = (p / 2 ^ i % 2 == 1) := by
  have e : (p : Int) / 2 ^ i = ((p / 2 ^ i : Nat) : Int) := by simp
  have h1 : p / 2 ^ i ≤ p := Nat.div_le_self _ _
  rw [e, and_one64 _ (by omega)]
  rcases Nat.mod_two_eq_zero_or_one (p / 2 ^ i) with h | h <;> rw [h] <;> rfl
/-- The first bits of a number, counted. -/
def popTo (a : Nat) : Nat → Nat
  | 0 => 0
  | s + 1 => popTo a s + a / 2 ^ s % 2
theorem popTo_4 (a : Nat) : popTo a 4 = popN a := by simp [popTo, popN]
theorem popTo_le (a : Nat) : ∀ s, popTo a s ≤ s
  | 0 => Nat.le_refl _
  | s + 1 => by have := popTo_le a s; unfold popTo; omega
theorem allBelow_iff {p : Nat → Bool} (n : Nat) : allBelow p n = true ↔ ∀ k, k < n → p k = true := by
  constructor
  · exact fun h => allBelow_at h
  · induction n with
    | zero => intro _; rfl
    | succ n ih =>
      intro h
      show (p n && allBelow p n) = true
      rw [h n (by omega), ih fun k hk => h k (by omega)]
      rfl
theorem hall_all (ns : List Nat) : allBelow (okPick ns) (2 ^ ns.length) = fitsN ns := by
  have h1 := hall_fits ns
  have h2 := allBelow_iff (p := okPick ns) (2 ^ ns.length)
  cases h : fitsN ns with
  | true => exact h2.2 (h1.1 h)
  | false =>
    cases h3 : allBelow (okPick ns) (2 ^ ns.length) with
    | false => rfl
    | true => exact absurd (h1.2 (h2.1 h3)) (by rw [h]; simp)
theorem or_code64 (a s : Nat) (ha : a < 16) (hs : s < 4) (h0 : hasN a s = false) : bits .or .i64 (a : Int) (2 ^ s) = ((a + 2 ^ s : Nat) : Int) := by
  have h : allBelow (fun a => allBelow (fun s => hasN a s || bits .or .i64 (a : Int) (2 ^ s) == ((a + 2 ^ s : Nat) : Int)) 4) 16 = true := by decide +kernel
  have h1 := allBelow_at (allBelow_at h a ha) s hs
  simpa [h0] using h1
theorem pow_8 {n : Nat} (h : n ≤ 8) : 1 ≤ 2 ^ n ∧ 2 ^ n ≤ 256 := by
  have h1 : allBelow (fun n => decide (1 ≤ 2 ^ n ∧ 2 ^ n ≤ 256)) 9 = true := by decide +kernel
  simpa using allBelow_at h1 n (by omega)
theorem wrap_pow {s : Nat} (hs : s < 4) : wrap64 ((2 : Int) ^ s) = (2 : Int) ^ s := by
  have h : allBelow (fun s => wrap64 ((2 : Int) ^ s) == (2 : Int) ^ s) 4 = true := by decide +kernel
  simpa using allBelow_at h s hs
theorem has_code {m s : Nat} (hm : m < 256) (h : hasN m s = true) : (bits .and .u8 ((m : Int) / 2 ^ s) 1 == 0) = false := by
  have h1 : m / 2 ^ s % 2 = 1 := by simpa [hasN] using h
  rw [bit_code m s hm, h1]
  rfl
theorem seen_code {m s : Nat} (hm : m < 16) (h : hasN m s = false) : (bits .and .i64 ((m : Int) / 2 ^ s) 1 == 1) = false := by
  rw [pick_code m s (by omega)]
  simpa [hasN] using h
theorem seen_start : ∀ t, t < 4 → hasN 0 t = ([] : List Nat).contains t := fun t _ => by simp [hasN]
theorem seen_next {sn i : Nat} {l : List Nat} (h16 : sn < 16) (hs : ∀ t, t < 4 → hasN sn t = (l.take i).contains t) (hi : i < l.length) (hn : l.Nodup) (h4 : l.getD i 0 < 4) :
    hasN sn (l.getD i 0) = false ∧ sn + 2 ^ l.getD i 0 < 16 ∧ ∀ t, t < 4 → hasN (sn + 2 ^ l.getD i 0) t = (l.take (i + 1)).contains t := by
  have e : l.take (i + 1) = l.take i ++ [l.getD i 0] := by
    rw [List.take_succ_eq_append_getElem hi]
    simp [List.getD, hi]
  have hn2 := List.Nodup.sublist (List.take_sublist (i + 1) l) hn
  rw [e, List.nodup_append] at hn2
  have h0 : hasN sn (l.getD i 0) = false := by
    rw [hs _ h4]
    simpa using fun hm => hn2.2.2 _ hm _ (by simp) rfl
  obtain ⟨h1, h2⟩ := bit_add sn h16 _ h4 h0
  refine ⟨h0, h1, fun t ht => ?_⟩
  rw [h2 t ht, hs t ht, e]
  cases h3 : decide (t = l.getD i 0)
  · have h4 : t ≠ l.getD i 0 := by simpa using h3
    rw [beq_eq_false_iff_ne.2 h4]
    simp only [List.contains_eq_mem, List.mem_append, List.mem_singleton, h4, or_false, Bool.or_false]
  · have h4 : t = l.getD i 0 := by simpa using h3
    rw [← h4]
    simp
end Go.Proofs.Ytplafgegjbppmaa
