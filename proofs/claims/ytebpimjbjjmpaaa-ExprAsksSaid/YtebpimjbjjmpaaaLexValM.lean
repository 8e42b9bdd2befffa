/- Values of digits, as plain data: digit by digit, with what is too great marked; no condition but those named. -/
import Derived.Test.YtebpimjbjjmpaaaLexMath
namespace Go.Proofs.Ytebpimjbjjmpaaa

/-- A digit's value by a base; -1: none. -/
def digZ (base : Int) (b : UInt8) : Int := if lxDig base b then hexZ b else -1
theorem dig_iff (base : Int) (b : UInt8) : lxDig base b = true ↔ 0 ≤ hexZ b ∧ hexZ b < base := by
  unfold lxDig
  simp
theorem val_mono {base : Int} (hb : 1 ≤ base) : ∀ (l : List UInt8) (v : Int), 0 ≤ v → l.all (lxDig base) = true → v ≤ lxVal base l v
  | [], v, _, _ => Int.le_refl _
  | b :: r, v, hv, h => by
    rw [List.all_cons, Bool.and_eq_true] at h
    obtain ⟨h0, -⟩ := (dig_iff base b).1 h.1
    have h1 : v ≤ v * base := by
      have := Int.mul_le_mul_of_nonneg_left hb hv
      rwa [Int.mul_one] at this
    have h2 := val_mono hb r (v * base + hexZ b) (by omega) h.2
    show v ≤ lxVal base r (v * base + hexZ b)
    omega
/-- What stands behind the first k digits: the value as far as it is not too great, and whether it is. -/
structure ValAt (base : Int) (l : List UInt8) (k : Nat) (v : Int) (great : Bool) : Prop where
  digits : (l.take k).all (lxDig base) = true
  low : 0 ≤ v
  max : v ≤ 1099511627776
  fine : great = false → v = lxVal base (l.take k) 0
  much : great = true → 1099511627776 < lxVal base (l.take k) 0
theorem valAt_begin (base : Int) (l : List UInt8) : ValAt base l 0 0 false := ⟨rfl, Int.le_refl _, by omega, fun _ => rfl, fun h => by cases h⟩
theorem val_app (base : Int) : ∀ (a b : List UInt8) (v : Int), lxVal base (a ++ b) v = lxVal base b (lxVal base a v)
  | [], _, _ => rfl
  | _ :: a, b, _ => val_app base a b _
theorem val_next {base : Int} {l : List UInt8} {k : Nat} (h : k < l.length) (b : UInt8) (hb : l[k] = b) : lxVal base (l.take (k + 1)) 0 = lxVal base (l.take k) 0 * base + hexZ b := by
  rw [List.take_succ_eq_append_getElem h, val_app, hb]
  rfl
theorem valAt_next {base : Int} (hb : 1 ≤ base) {l : List UInt8} {k : Nat} {v : Int} {great : Bool} (h : ValAt base l k v great) (hk : k < l.length) (b : UInt8) (hlb : l[k] = b) (hd : lxDig base b = true) :
    (v * base + hexZ b ≤ 1099511627776 → ValAt base l (k + 1) (v * base + hexZ b) great) ∧ (1099511627776 < v * base + hexZ b → ValAt base l (k + 1) 0 true) := by
  obtain ⟨h0, h1⟩ := (dig_iff base b).1 hd
  have hds : (l.take (k + 1)).all (lxDig base) = true := by
    rw [List.take_succ_eq_append_getElem hk, List.all_append, h.digits, hlb, List.all_cons, hd]
    rfl
  have hn := val_next (base := base) hk b hlb
  have hv0 : 0 ≤ v * base := Int.mul_nonneg h.low (by omega)
  have hfine : great = false → lxVal base (l.take (k + 1)) 0 = v * base + hexZ b := fun hg => by rw [hn, ← h.fine hg]
  have hmuch : great = true → 1099511627776 < lxVal base (l.take (k + 1)) 0 := fun hg => by
    have h2 := h.much hg
    have h3 : lxVal base (l.take k) 0 ≤ lxVal base (l.take k) 0 * base := by
      have := Int.mul_le_mul_of_nonneg_left hb (show 0 ≤ lxVal base (l.take k) 0 by omega)
      rwa [Int.mul_one] at this
    omega
  refine ⟨fun hle => ⟨hds, by omega, hle, fun hg => (hfine hg).symm, hmuch⟩, fun hgt => ⟨hds, Int.le_refl _, by omega, fun hg => (by cases hg), fun _ => ?_⟩⟩
  cases great with
  | true => exact hmuch rfl
  | false => rw [hfine rfl]; exact hgt
/-- A byte that is no digit. -/
theorem word_bad {base : Int} {l : List UInt8} {k : Nat} (hk : k < l.length) (b : UInt8) (hb : l[k] = b) (hd : lxDig base b = false) : lxWord base l = -1 := by
  have h : l.all (lxDig base) = false := List.all_eq_false.2 ⟨b, hb ▸ List.getElem_mem hk, by rw [hd]; simp⟩
  unfold lxWord
  rw [if_pos (.inr h)]
theorem word_all {base : Int} {l : List UInt8} {v : Int} {great : Bool} (hne : l ≠ []) (h : ValAt base l l.length v great) : lxWord base l = if great = true then -2 else v := by
  have hd := h.digits
  have hf := h.fine
  have hm := h.much
  rw [List.take_length] at hd hf hm
  unfold lxWord
  rw [if_neg (by rw [hd]; simp [hne])]
  cases great with
  | true => rw [if_pos (hm rfl), if_pos rfl]
  | false =>
    have hx := h.max
    rw [← hf rfl, if_neg (by omega), if_neg (by simp)]
theorem word_nil (base : Int) : lxWord base [] = -1 := by
  unfold lxWord
  rw [if_pos (.inl rfl)]
/-- What number: the base by the first two bytes. -/
theorem num_hex {a x : UInt8} {r : List UInt8} (h : a.toNat = 48) (hx : x.toNat = 120 ∨ x.toNat = 88) : lxNum (a :: x :: r) = lxWord 16 r := by
  show (if a.toNat = 48 ∧ (x.toNat = 120 ∨ x.toNat = 88) then _ else _) = _
  rw [if_pos ⟨h, hx⟩]
theorem num_dec {l : List UInt8} (h : ∀ a x r, l = a :: x :: r → ¬ (a.toNat = 48 ∧ (x.toNat = 120 ∨ x.toNat = 88))) : lxNum l = lxWord 10 l := by
  match l, h with
  | [], _ => rfl
  | [a], _ => rfl
  | a :: x :: r, h =>
    show (if a.toNat = 48 ∧ (x.toNat = 120 ∨ x.toNat = 88) then _ else _) = _
    rw [if_neg (h a x r rfl)]
end Go.Proofs.Ytebpimjbjjmpaaa
