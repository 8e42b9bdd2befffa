/- What words that are no duplex say, read from the front as package unpack's code does, and that it is what they say word by word; no condition but those named. -/
import Derived.Test.YtanjmoiepmadhaaGreatDoorGUn
namespace Go.Proofs.YtanjmoiepmadhaaGreatDoor

/-- What words say, an instruction after the other. -/
def sing (pc : Int) : List Int → Option (List In)
  | [] => some []
  | [w] => if instB w 0 false pc = true then some [instP w 0 false pc] else none
  | w :: v :: r => if codeZ w = 0 then (if instB v (payZ w) true pc = true then (sing pc r).map (instP v (payZ w) true pc :: ·) else none)
    else if instB w 0 false pc = true then (sing pc (v :: r)).map (instP w 0 false pc :: ·) else none
/-- The instruction that words begin with, and the words behind it. -/
def firstW (pc : Int) : List Int → Option (In × List Int)
  | [] => none
  | [w] => if instB w 0 false pc = true then some (instP w 0 false pc, []) else none
  | w :: v :: r => if codeZ w = 0 then (if instB v (payZ w) true pc = true then some (instP v (payZ w) true pc, r) else none)
    else if instB w 0 false pc = true then some (instP w 0 false pc, v :: r) else none
theorem instB_none {w u : Int} {has : Bool} {pc : Int} (h : codeZ w = 0) : instB w u has pc = false := by
  unfold instB
  rw [h]
  rfl
theorem sing_first (pc : Int) : ∀ zs : List Int, zs ≠ [] → sing pc zs = (firstW pc zs).bind fun x => (sing pc x.2).map (x.1 :: ·)
  | [], h => absurd rfl h
  | [w], _ => by
    show (if instB w 0 false pc = true then some [instP w 0 false pc] else none) = (if instB w 0 false pc = true then some (instP w 0 false pc, []) else none).bind _
    split <;> rfl
  | w :: v :: r, _ => by
    show (if codeZ w = 0 then (if instB v (payZ w) true pc = true then (sing pc r).map (instP v (payZ w) true pc :: ·) else none) else if instB w 0 false pc = true then (sing pc (v :: r)).map (instP w 0 false pc :: ·) else none) =
      (if codeZ w = 0 then (if instB v (payZ w) true pc = true then some (instP v (payZ w) true pc, r) else none) else if instB w 0 false pc = true then some (instP w 0 false pc, v :: r) else none).bind _
    split
    · split <;> rfl
    · split <;> rfl
theorem first_len {pc : Int} : ∀ {zs : List Int} {x : In} {r : List Int}, firstW pc zs = some (x, r) → r.length < zs.length ∧ ∃ m, r = zs.drop m
  | [], x, r, h => by cases h
  | [w], x, r, h => by
    replace h : (if instB w 0 false pc = true then some (instP w 0 false pc, ([] : List Int)) else none) = some (x, r) := h
    split at h
    · obtain ⟨-, rfl⟩ := Prod.mk.inj (Option.some.inj h)
      exact ⟨by simp, 1, rfl⟩
    · cases h
  | w :: v :: t, x, r, h => by
    replace h : (if codeZ w = 0 then (if instB v (payZ w) true pc = true then some (instP v (payZ w) true pc, t) else none) else if instB w 0 false pc = true then some (instP w 0 false pc, v :: t) else none) = some (x, r) := h
    split at h
    · split at h
      · obtain ⟨-, rfl⟩ := Prod.mk.inj (Option.some.inj h)
        exact ⟨by simp; omega, 2, rfl⟩
      · cases h
    · split at h
      · obtain ⟨-, rfl⟩ := Prod.mk.inj (Option.some.inj h)
        exact ⟨by simp, 1, rfl⟩
      · cases h
/-- Word by word it is the same, whatever stands behind. -/
theorem run_sing {pc : Int} {n : Nat} (tail : List Int) : ∀ (zs : List Int) (i : Nat) (d : Bool) (ys : List In), (∀ t (h : t < zs.length), ¬ (parseZ zs[t] = 2 ∧ 1 < i + t)) → (∀ t (h : t < zs.length), ¬ (i + t + 1 = n ∧ parseZ zs[t] = 0)) →
    ((tail = [] ∧ i + zs.length = n) ∨ (i + zs.length < n ∧ ∀ s : UnSt, s.has = true → unRun pc n (i + zs.length) tail s = none)) →
    unRun pc n i (zs ++ tail) ⟨ys, d, 0, false⟩ = (sing pc zs).bind fun l => unRun pc n (i + zs.length) tail ⟨ys ++ l, d, 0, false⟩
  | [], i, d, ys, _, _, _ => by
    show unRun pc n i tail ⟨ys, d, 0, false⟩ = unRun pc n (i + 0) tail ⟨ys ++ [], d, 0, false⟩
    rw [List.append_nil, Nat.add_zero]
  | [w], i, d, ys, hm, hd, ht => by
    have hm0 : ¬ (parseZ w = 2 ∧ 1 < i) := hm 0 (by simp)
    have hd0 : ¬ (i + 1 = n ∧ parseZ w = 0) := hd 0 (by simp)
    show (unStep pc n i w ⟨ys, d, 0, false⟩).bind (unRun pc n (i + 1) tail) = (if instB w 0 false pc = true then some [instP w 0 false pc] else none).bind _
    unfold unStep
    rw [if_neg hm0, if_neg hd0]
    by_cases hc : codeZ w = 0
    · rw [if_pos hc, if_neg (show ¬ instB w 0 false pc = true by rw [instB_none hc]; simp)]
      rcases ht with ⟨-, h⟩ | ⟨h, h2⟩
      · rw [if_pos (.inr h)]
        rfl
      · have h' : ¬ i + 1 = n := by simp at h; omega
        rw [if_neg (by simp [h'])]
        exact h2 _ rfl
    · rw [if_neg hc]
      by_cases hi : instB w 0 false pc = true
      · rw [if_pos hi, if_pos hi]
        rfl
      · rw [if_neg hi, if_neg hi]
        rfl
  | w :: v :: r, i, d, ys, hm, hd, ht => by
    have hm0 : ¬ (parseZ w = 2 ∧ 1 < i) := hm 0 (by simp)
    have hd0 : ¬ (i + 1 = n ∧ parseZ w = 0) := hd 0 (by simp)
    have hm1 : ¬ (parseZ v = 2 ∧ 1 < i + 1) := hm 1 (by simp)
    have hd1 : ¬ (i + 1 + 1 = n ∧ parseZ v = 0) := hd 1 (by simp)
    have hlt : ¬ i + 1 = n := by
      rcases ht with ⟨-, h⟩ | ⟨h, -⟩
      · rw [List.length_cons, List.length_cons] at h; omega
      · rw [List.length_cons, List.length_cons] at h; omega
    have hlen : i + (w :: v :: r).length = i + 1 + (v :: r).length := by rw [List.length_cons (a := w)]; omega
    have hlen2 : i + (w :: v :: r).length = i + 1 + 1 + r.length := by rw [List.length_cons, List.length_cons]; omega
    show (unStep pc n i w ⟨ys, d, 0, false⟩).bind (unRun pc n (i + 1) (v :: r ++ tail)) =
      (if codeZ w = 0 then (if instB v (payZ w) true pc = true then (sing pc r).map (instP v (payZ w) true pc :: ·) else none) else if instB w 0 false pc = true then (sing pc (v :: r)).map (instP w 0 false pc :: ·) else none).bind _
    by_cases hc : codeZ w = 0
    · have e1 : unStep pc n i w ⟨ys, d, 0, false⟩ = some ⟨ys, d, payZ w, true⟩ := by
        unfold unStep
        rw [if_neg hm0, if_neg hd0, if_pos hc, if_neg (by simp [hlt])]
      rw [if_pos hc, e1]
      show (unStep pc n (i + 1) v ⟨ys, d, payZ w, true⟩).bind (unRun pc n (i + 1 + 1) (r ++ tail)) = _
      unfold unStep
      rw [if_neg hm1, if_neg hd1]
      by_cases hv : codeZ v = 0
      · rw [if_pos hv, if_pos (.inl rfl), if_neg (show ¬ instB v (payZ w) true pc = true by rw [instB_none hv]; simp)]
        rfl
      rw [if_neg hv]
      by_cases hi : instB v (payZ w) true pc = true
      · rw [if_pos hi, if_pos hi]
        have ih := run_sing tail r (i + 1 + 1) d (ys ++ [instP v (payZ w) true pc]) (fun t h => by
          have h3 := hm (t + 1 + 1) (by rw [List.length_cons, List.length_cons]; omega)
          rw [show i + (t + 1 + 1) = i + 1 + 1 + t by omega] at h3
          exact h3) (fun t h => by
          have h3 := hd (t + 1 + 1) (by rw [List.length_cons, List.length_cons]; omega)
          rw [show i + (t + 1 + 1) + 1 = i + 1 + 1 + t + 1 by omega] at h3
          exact h3) (by rw [← hlen2]; exact ht)
        show unRun pc n (i + 1 + 1) (r ++ tail) ⟨ys ++ [instP v (payZ w) true pc], d, 0, false⟩ = _
        rw [ih, hlen2]
        cases sing pc r with
        | none => rfl
        | some l =>
          show unRun pc n (i + 1 + 1 + r.length) tail ⟨ys ++ [instP v (payZ w) true pc] ++ l, d, 0, false⟩ = unRun pc n (i + 1 + 1 + r.length) tail ⟨ys ++ (instP v (payZ w) true pc :: l), d, 0, false⟩
          rw [List.append_assoc]
          rfl
      · rw [if_neg hi, if_neg hi]
        rfl
    · rw [if_neg hc]
      by_cases hi : instB w 0 false pc = true
      · have e1 : unStep pc n i w ⟨ys, d, 0, false⟩ = some ⟨ys ++ [instP w 0 false pc], d, 0, false⟩ := by
          unfold unStep
          rw [if_neg hm0, if_neg hd0, if_neg hc, if_pos hi]
        rw [if_pos hi, e1]
        have ih := run_sing tail (v :: r) (i + 1) d (ys ++ [instP w 0 false pc]) (fun t h => by
          have h3 := hm (t + 1) (by rw [List.length_cons]; omega)
          rw [show i + (t + 1) = i + 1 + t by omega] at h3
          exact h3) (fun t h => by
          have h3 := hd (t + 1) (by rw [List.length_cons]; omega)
          rw [show i + (t + 1) + 1 = i + 1 + t + 1 by omega] at h3
          exact h3) (by rw [← hlen]; exact ht)
        show unRun pc n (i + 1) (v :: r ++ tail) ⟨ys ++ [instP w 0 false pc], d, 0, false⟩ = _
        rw [ih, hlen]
        cases sing pc (v :: r) with
        | none => rfl
        | some l =>
          show unRun pc n (i + 1 + (v :: r).length) tail ⟨ys ++ [instP w 0 false pc] ++ l, d, 0, false⟩ = unRun pc n (i + 1 + (v :: r).length) tail ⟨ys ++ (instP w 0 false pc :: l), d, 0, false⟩
          rw [List.append_assoc]
          rfl
      · have e1 : unStep pc n i w ⟨ys, d, 0, false⟩ = none := by
          unfold unStep
          rw [if_neg hm0, if_neg hd0, if_neg hc, if_neg hi]
        rw [if_neg hi, e1]
        rfl
/-! The words of one packet. -/
theorem lenN_ends : ∀ (zs : List Int) (k : Nat), lenN k zs = (k + zs.length, true) → k + zs.length ≤ 4 ∧ ∃ a w, zs = a ++ [w] ∧ stopB w = true
  | [], k, h => by cases h
  | w :: r, k, h => by
    have h1 : (if 4 ≤ k then ((0 : Nat), false) else if stopB w then (k + 1, true) else lenN (k + 1) r) = (k + (r.length + 1), true) := h
    by_cases h4 : 4 ≤ k
    · rw [if_pos h4] at h1
      cases h1
    rw [if_neg h4] at h1
    by_cases hs : stopB w = true
    · rw [if_pos hs] at h1
      have h2 : k + 1 = k + (r.length + 1) := (Prod.mk.inj h1).1
      obtain rfl : r = [] := List.eq_nil_of_length_eq_zero (by omega)
      exact ⟨by rw [List.length_singleton]; omega, [], w, rfl, hs⟩
    · rw [if_neg hs] at h1
      obtain ⟨h5, a, v, rfl, hv⟩ := lenN_ends r (k + 1) (by rw [h1, show k + 1 + r.length = k + (r.length + 1) by omega])
      exact ⟨by rw [List.length_cons]; omega, w :: a, v, rfl, hv⟩
/-- What the words of a packet say, as package unpack's code reads them: whether there is a duplex, and the instructions. -/
def wholeW (pc : Int) (zs : List Int) : Option (Bool × List In) :=
  match zs.getLast? with
  | none => none
  | some w => if parseZ w = 0 then (if (splitP w).2.2 = true then (sing pc zs.dropLast).map fun l => (true, l ++ [(splitP w).1, (splitP w).2.1]) else none) else (sing pc zs).map fun l => (false, l)
theorem whole_app (pc : Int) (a : List Int) (w : Int) : wholeW pc (a ++ [w]) = if parseZ w = 0 then (if (splitP w).2.2 = true then (sing pc a).map fun l => (true, l ++ [(splitP w).1, (splitP w).2.1]) else none) else (sing pc (a ++ [w])).map fun l => (false, l) := by
  unfold wholeW
  rw [List.getLast?_concat, List.dropLast_concat]
theorem mark_at {zs : List Int} {t : Nat} (h : t < zs.length) : markB zs t = (parseZ zs[t] == 2) := by
  unfold markB
  rw [List.getElem?_eq_getElem h]
/-- .. that is what they say, if the third word has no mark; else they say nothing. -/
theorem un_whole {pc : Int} {zs : List Int} (h : lenP zs = (zs.length, true)) : unP pc zs = if markB zs 2 = true then none else (wholeW pc zs).map fun x => ⟨x.2, x.1, 0, false⟩ := by
  obtain ⟨h4, a, w, rfl, hs⟩ := lenN_ends zs 0 (by rw [Nat.zero_add]; exact h)
  rw [Nat.zero_add, List.length_append, List.length_singleton] at h4
  have hstop : parseZ w = 0 ∨ parseZ w = 3 := (end_iff w).1 hs
  by_cases hm : markB (a ++ [w]) 2 = true
  · rw [if_pos hm]
    have h3 : 2 < (a ++ [w]).length := by
      by_cases h5 : 2 < (a ++ [w]).length
      · exact h5
      · unfold markB at hm
        rw [List.getElem?_eq_none (by omega)] at hm
        cases hm
    rw [mark_at h3, beq_iff_eq] at hm
    generalize a ++ [w] = zs at *
    match zs, h3 with
    | x :: y :: z :: r, _ =>
      have hz : parseZ z = 2 := hm
      show (unStep pc _ 0 x unStart).bind (fun s => (unStep pc _ 1 y s).bind fun s => (unStep pc _ 2 z s).bind _) = none
      cases unStep pc (x :: y :: z :: r).length 0 x unStart with
      | none => rfl
      | some s =>
        show (unStep pc _ 1 y s).bind (fun s => (unStep pc _ 2 z s).bind _) = none
        cases unStep pc (x :: y :: z :: r).length 1 y s with
        | none => rfl
        | some t =>
          show (unStep pc _ 2 z t).bind _ = none
          unfold unStep
          rw [if_pos ⟨hz, by decide⟩]
          rfl
  · rw [if_neg hm]
    have hw2 : ¬ parseZ w = 2 := by omega
    have hmk : ∀ t (h : t < (a ++ [w]).length), ¬ (parseZ (a ++ [w])[t] = 2 ∧ 1 < 0 + t) := by
      rintro t ht ⟨h6, h7⟩
      by_cases h8 : t = a.length
      · subst h8
        rw [List.getElem_append_right (Nat.le_refl _)] at h6
        simp at h6
        exact hw2 h6
      · rw [List.length_append, List.length_singleton] at ht
        obtain rfl : t = 2 := by omega
        rw [mark_at (by rw [List.length_append, List.length_singleton]; omega), beq_iff_eq] at hm
        exact hm h6
    rw [whole_app]
    by_cases hp : parseZ w = 0
    · rw [if_pos hp]
      have hn : ∀ s : UnSt, unRun pc (a ++ [w]).length (0 + a.length) [w] s = if (splitP w).2.2 = true ∧ s.has = false then some ⟨s.insts ++ [(splitP w).1, (splitP w).2.1], true, s.up, s.has⟩ else none := by
        intro s
        show (unStep pc (a ++ [w]).length (0 + a.length) w s).bind (fun s => some s) = _
        unfold unStep
        rw [if_neg (fun h => hw2 h.1), if_pos ⟨by simp, hp⟩]
        split <;> rfl
      have e := run_sing (pc := pc) (n := (a ++ [w]).length) [w] a 0 false [] (fun t ht => by
        have h9 := hmk t (by rw [List.length_append]; omega)
        rwa [List.getElem_append_left ht] at h9) (fun t ht h => by
        have := h.1
        rw [List.length_append, List.length_singleton] at this
        omega) (.inr ⟨by rw [List.length_append, List.length_singleton]; omega, fun s hh => by rw [hn, if_neg (fun h => by rw [hh] at h; cases h.2)]⟩)
      show unRun pc (a ++ [w]).length 0 (a ++ [w]) ⟨[], false, 0, false⟩ = _
      rw [e]
      by_cases hsp : (splitP w).2.2 = true
      · rw [if_pos hsp]
        cases sing pc a with
        | none => rfl
        | some l =>
          show unRun pc (a ++ [w]).length (0 + a.length) [w] ⟨[] ++ l, false, 0, false⟩ = _
          rw [hn, if_pos ⟨hsp, rfl⟩]
          rfl
      · rw [if_neg hsp]
        cases sing pc a with
        | none => rfl
        | some l =>
          show unRun pc (a ++ [w]).length (0 + a.length) [w] ⟨[] ++ l, false, 0, false⟩ = none
          rw [hn, if_neg (fun h => hsp h.1)]
    · rw [if_neg hp]
      have e := run_sing (pc := pc) (n := (a ++ [w]).length) [] (a ++ [w]) 0 false [] hmk (fun t ht h => by
        obtain rfl : t = a.length := by
          have := h.1
          rw [List.length_append, List.length_singleton] at this
          omega
        have h6 := h.2
        rw [List.getElem_append_right (Nat.le_refl _)] at h6
        simp at h6
        exact hp h6) (.inl ⟨rfl, by omega⟩)
      rw [List.append_nil] at e
      show unRun pc (a ++ [w]).length 0 (a ++ [w]) ⟨[], false, 0, false⟩ = _
      rw [e]
      cases sing pc (a ++ [w]) with
      | none => rfl
      | some l => rfl
end Go.Proofs.YtanjmoiepmadhaaGreatDoor
