/- The value of the terms of a tree is the tree's; all its terms are used; as plain data; no condition but those named. -/
import Derived.Test.YtebpimjbjjmpaaaExprVal
namespace Go.Proofs.Ytebpimjbjjmpaaa

theorem used_mono (e : List Tm) (j : Nat) : ∀ (k d : Nat), usedK e k j = true → usedK e (k + d) j = true
  | _, 0, h => h
  | k, d + 1, h => by
    have := used_mono e j k d h
    show usedK e (k + d + 1) j = true
    simp only [usedK, this, Bool.true_or]
theorem used_step {e : List Tm} {k j : Nat} (hk : k < e.length) (hm : (usedK e k (e.length - 1 - k) || (decide (k = 0) && decide (e.length - 1 - k + 1 = e.length))) = true) (hr : refsB e[e.length - 1 - k] j = true) : usedK e (k + 1) j = true := by
  have h9 : e[e.length - 1 - k]? = some e[e.length - 1 - k] := List.getElem?_eq_getElem (by omega)
  simp only [usedK, hm, h9, hr, Bool.and_true, Bool.or_true]
theorem cnt_some : ∀ (e : List Tm) (j : Nat), cntR e j ≠ 0 → ∃ (i : Nat) (h : i < e.length), refsB e[i] j = true
  | [], j, h => absurd rfl h
  | t :: r, j, h => by
    by_cases h1 : refsB t j = true
    · exact ⟨0, by simp, h1⟩
    · have h2 : cntR r j ≠ 0 := by
        intro h3
        apply h
        unfold cntR at h3 ⊢
        rw [List.map_cons, List.sum_cons, h3]
        have h4 : refsB t j = false := by simpa using h1
        unfold refsB at h4
        simp only [Bool.or_eq_false_iff, Bool.and_eq_false_iff, decide_eq_false_iff_not] at h4
        rw [if_neg (by omega), if_neg (by omega)]
      obtain ⟨i, hi, hr⟩ := cnt_some r j h2
      exact ⟨i + 1, by simpa using hi, by rw [List.getElem_cons_succ]; exact hr⟩
theorem refs_lt {t : Tm} {i j : Nat} (h : okT t i = true) (hr : refsB t j = true) : j < i := by
  unfold refsB at hr
  simp only [Bool.or_eq_true, Bool.and_eq_true, decide_eq_true_eq] at hr
  unfold okT at h
  split at h
  · omega
  split at h
  · omega
  split at h
  · have := of_decide_eq_true h
    omega
  split at h
  · have := of_decide_eq_true h
    omega
  · cases h
theorem used_all {e : List Tm} (h : okFrom 0 e = true) (hu : ∀ j, j + 1 < e.length → cntR e j ≠ 0) : ∀ (q j : Nat), j < e.length → e.length - 1 - j = q → (usedK e q j || (decide (q = 0) && decide (j + 1 = e.length))) = true := by
  intro q
  induction q using Nat.strongRecOn with
  | _ q ih =>
    intro j hj hq
    by_cases hl : j + 1 = e.length
    · have : q = 0 := by omega
      subst this
      simp [hl]
    · obtain ⟨i, hi, hr⟩ := cnt_some e j (hu j (by omega))
      have hok := ok_at e 0 i h hi
      rw [Nat.zero_add] at hok
      have hlt := refs_lt hok hr
      have h1 := ih (e.length - 1 - i) (by omega) i hi rfl
      have ei : e.length - 1 - (e.length - 1 - i) = i := by omega
      have h2 := used_step (e := e) (k := e.length - 1 - i) (j := j) (by omega) (by rw [ei]; exact h1) (by simp only [ei]; exact hr)
      have h3 := used_mono e j _ (q - (e.length - 1 - i + 1)) h2
      rw [show e.length - 1 - i + 1 + (q - (e.length - 1 - i + 1)) = q by omega] at h3
      rw [h3]
      rfl
theorem used_of {e : List Tm} (h : okFrom 0 e = true) (hu : ∀ j, j + 1 < e.length → cntR e j ≠ 0) (j : Nat) (hj : j < e.length) : usedB e j = true := by
  have h1 := used_all h hu (e.length - 1 - j) j hj rfl
  have h2 : usedK e (e.length - 1 - j + 1) j = true := by
    simp only [usedK]
    simp only [h1, Bool.true_or]
  have h3 := used_mono e j _ j h2
  unfold usedB
  rwa [show e.length - 1 - j + 1 + j = e.length by omega] at h3
theorem post_used {t : Ex} (h : t.fine) (j : Nat) (hj : j < t.size) : usedB (t.post 0) j = true := by
  refine used_of (post_ok t 0 h) (fun j hj => ?_) j (by rw [post_len]; exact hj)
  rw [post_len] at hj
  rw [post_cnt t 0 h]
  unfold oneN
  rw [if_pos (by omega)]
  decide
/-! The tree's own value. -/
def opV (k a b : Int) : Int := if k = 3 then a + b else if k = 4 then a - b else a * b
def evT (ask : List UInt8 → Int × Int) : Ex → Int × Int
  | .num v => capV (v, 0)
  | .nam s => capV (if (ask s).2 = 0 then ((ask s).1, 0) else (0, (ask s).2))
  | .bin k a b => if (evT ask a).2 = 0 then (if (evT ask b).2 = 0 then capV (opV k (evT ask a).1 (evT ask b).1, 0) else (0, (evT ask b).2)) else (0, (evT ask a).2)
  | .neg a => if (evT ask a).2 = 0 then capV (- (evT ask a).1, 0) else (0, (evT ask a).2)
theorem cap_err {x : Int × Int} (h : (capV x).2 ≠ 0) : capV x = (0, (capV x).2) := by
  unfold capV at h ⊢
  split
  · rfl
  · split
    · rename_i h1 h2
      rw [if_neg h1, if_pos h2] at h
      exact absurd rfl h
    · rfl
theorem ev_step {ask : List UInt8 → Int × Int} {e : List Tm} {q i : Nat} {vals : List Int} (hi : i < e.length) (hu : usedB e i = true) : evF ask e (q + 1) i vals = if (capV (valT ask e[i] vals)).2 = 0 then evF ask e q (i + 1) (vals ++ [(capV (valT ask e[i] vals)).1]) else capV (valT ask e[i] vals) := by
  simp only [evF, List.getElem?_eq_getElem hi, hu, if_true]
theorem getD_at {l : List Int} {x : Int} {i : Nat} (h : l[i]? = some x) : l.getD i 0 = x := by
  rw [List.getD_eq_getElem?_getD, h]
  rfl
theorem ev_seg (ask : List UInt8 → Int × Int) (e : List Tm) (hU : ∀ j, j < e.length → usedB e j = true) : ∀ (t : Ex) (m : Nat) (pre suf : List Tm) (vals : List Int), t.fine → e = pre ++ t.post m ++ suf → pre.length = m → vals.length = m →
    ((evT ask t).2 = 0 → ∃ vs : List Int, vs.length = t.size ∧ vs[t.size - 1]? = some (evT ask t).1 ∧ ∀ q, evF ask e (t.size + q) m vals = evF ask e q (m + t.size) (vals ++ vs)) ∧
    ((evT ask t).2 ≠ 0 → ∀ q, evF ask e (t.size + q) m vals = (0, (evT ask t).2)) := by
  have leaf : ∀ (x : Tm) (m : Nat) (pre suf : List Tm) (vals : List Int), e = pre ++ [x] ++ suf → pre.length = m → ∀ q, evF ask e (q + 1) m vals = if (capV (valT ask x vals)).2 = 0 then evF ask e q (m + 1) (vals ++ [(capV (valT ask x vals)).1]) else capV (valT ask x vals) := by
    intro x m pre suf vals he hp q
    have hi : m < e.length := by rw [he]; simp; omega
    have hx : e[m] = x := by
      subst hp
      simp [he]
    rw [ev_step hi (hU m hi), hx]
  intro t
  induction t with
  | num v =>
    intro m pre suf vals hf he hp hv
    have h1 := leaf ⟨1, v, [], 0, 0⟩ m pre suf vals he hp
    have h2 : valT ask ⟨1, v, [], 0, 0⟩ vals = (v, 0) := rfl
    have e1 : evT ask (.num v) = capV (v, 0) := rfl
    rw [h2, ← e1] at h1
    constructor
    · intro h0
      refine ⟨[(evT ask (.num v)).1], rfl, rfl, fun q => ?_⟩
      have := h1 q
      rw [if_pos h0] at this
      rw [show (Ex.num v).size + q = q + 1 by simp only [Ex.size]; omega, this]
      rfl
    · intro h0 q
      have := h1 q
      rw [if_neg h0] at this
      rw [show (Ex.num v).size + q = q + 1 by simp only [Ex.size]; omega, this]
      exact cap_err h0
  | nam s =>
    intro m pre suf vals hf he hp hv
    have h1 := leaf ⟨2, 0, s, 0, 0⟩ m pre suf vals he hp
    have h2 : valT ask ⟨2, 0, s, 0, 0⟩ vals = (if (ask s).2 = 0 then ((ask s).1, 0) else (0, (ask s).2)) := rfl
    have e1 : evT ask (.nam s) = capV (if (ask s).2 = 0 then ((ask s).1, 0) else (0, (ask s).2)) := rfl
    rw [h2, ← e1] at h1
    constructor
    · intro h0
      refine ⟨[(evT ask (.nam s)).1], rfl, rfl, fun q => ?_⟩
      have := h1 q
      rw [if_pos h0] at this
      rw [show (Ex.nam s).size + q = q + 1 by simp only [Ex.size]; omega, this]
      rfl
    · intro h0 q
      have := h1 q
      rw [if_neg h0] at this
      rw [show (Ex.nam s).size + q = q + 1 by simp only [Ex.size]; omega, this]
      exact cap_err h0
  | bin k a b iha ihb =>
    intro m pre suf vals hf he hp hv
    have pa := size_pos a
    have pb := size_pos b
    have hla := post_len a m
    have hlb := post_len b (m + a.size)
    simp only [Ex.post] at he
    obtain ⟨ga, ba⟩ := iha m pre (b.post (m + a.size) ++ [⟨k, 0, [], m + a.size - 1, m + a.size + b.size - 1⟩] ++ suf) vals hf.2.1 (by rw [he]; simp only [List.append_assoc]) hp hv
    have hsz : ∀ q, (Ex.bin k a b).size + q = a.size + (b.size + (q + 1)) := fun q => by simp only [Ex.size]; omega
    by_cases ha : (evT ask a).2 = 0
    · obtain ⟨va, hva, hva1, hga⟩ := ga ha
      obtain ⟨gb, bb⟩ := ihb (m + a.size) (pre ++ a.post m) ([⟨k, 0, [], m + a.size - 1, m + a.size + b.size - 1⟩] ++ suf) (vals ++ va) hf.2.2 (by rw [he]; simp only [List.append_assoc]) (by rw [List.length_append, hp, hla]) (by rw [List.length_append, hv, hva])
      by_cases hb : (evT ask b).2 = 0
      · obtain ⟨vb, hvb, hvb1, hgb⟩ := gb hb
        have h1 := leaf ⟨k, 0, [], m + a.size - 1, m + a.size + b.size - 1⟩ (m + a.size + b.size) (pre ++ a.post m ++ b.post (m + a.size)) suf (vals ++ va ++ vb) (by rw [he]; simp only [List.append_assoc]) (by rw [List.length_append, List.length_append, hp, hla, hlb])
        have g1 : (vals ++ va ++ vb).getD ((m : Int) + a.size - 1).toNat 0 = (evT ask a).1 := by
          apply getD_at
          rw [show ((m : Int) + a.size - 1).toNat = m + (a.size - 1) by omega, List.getElem?_append_left (by rw [List.length_append, hv, hva]; omega), List.getElem?_append_right (by omega), hv, Nat.add_sub_cancel_left]
          exact hva1
        have g2 : (vals ++ va ++ vb).getD ((m : Int) + a.size + b.size - 1).toNat 0 = (evT ask b).1 := by
          apply getD_at
          rw [show ((m : Int) + a.size + b.size - 1).toNat = m + a.size + (b.size - 1) by omega, List.getElem?_append_right (by rw [List.length_append, hv, hva]; omega), List.length_append, hv, hva, Nat.add_sub_cancel_left]
          exact hvb1
        have h2 : valT ask ⟨k, 0, [], m + a.size - 1, m + a.size + b.size - 1⟩ (vals ++ va ++ vb) = (opV k (evT ask a).1 (evT ask b).1, 0) := by
          unfold valT opV
          simp only [g1, g2]
          rcases hf.1 with rfl | rfl | rfl <;> simp
        have e1 : evT ask (.bin k a b) = capV (opV k (evT ask a).1 (evT ask b).1, 0) := by simp only [evT, ha, hb, if_true]
        rw [h2, ← e1] at h1
        constructor
        · intro h0
          refine ⟨va ++ vb ++ [(evT ask (.bin k a b)).1], by simp only [List.length_append, hva, hvb, List.length_singleton, Ex.size], ?_, fun q => ?_⟩
          · simp only [Ex.size]
            rw [List.getElem?_append_right (by rw [List.length_append, hva, hvb]; omega), List.length_append, hva, hvb, show a.size + b.size + 1 - 1 - (a.size + b.size) = 0 by omega]
            rfl
          · have h3 := h1 q
            rw [if_pos h0] at h3
            rw [hsz, hga, hgb, h3]
            simp only [List.append_assoc, Ex.size, Nat.add_assoc]
        · intro h0 q
          have h3 := h1 q
          rw [if_neg h0] at h3
          rw [hsz, hga, hgb, h3, e1]
          rw [e1] at h0
          exact cap_err h0
      · have e1 : evT ask (.bin k a b) = (0, (evT ask b).2) := by simp only [evT, ha, hb, if_true, if_false]
        constructor
        · intro h0
          rw [e1] at h0
          exact absurd h0 hb
        · intro _ q
          rw [hsz, hga, bb hb, e1]
    · have e1 : evT ask (.bin k a b) = (0, (evT ask a).2) := by simp only [evT, ha, if_false]
      constructor
      · intro h0
        rw [e1] at h0
        exact absurd h0 ha
      · intro _ q
        rw [hsz, ba ha, e1]
  | neg a iha =>
    intro m pre suf vals hf he hp hv
    have pa := size_pos a
    have hla := post_len a m
    simp only [Ex.post] at he
    obtain ⟨ga, ba⟩ := iha m pre ([⟨6, 0, [], m + a.size - 1, 0⟩] ++ suf) vals hf (by rw [he]; simp only [List.append_assoc]) hp hv
    have hsz : ∀ q, (Ex.neg a).size + q = a.size + (q + 1) := fun q => by simp only [Ex.size]; omega
    by_cases ha : (evT ask a).2 = 0
    · obtain ⟨va, hva, hva1, hga⟩ := ga ha
      have h1 := leaf ⟨6, 0, [], m + a.size - 1, 0⟩ (m + a.size) (pre ++ a.post m) suf (vals ++ va) (by rw [he]; simp only [List.append_assoc]) (by rw [List.length_append, hp, hla])
      have g1 : (vals ++ va).getD ((m : Int) + a.size - 1).toNat 0 = (evT ask a).1 := by
        apply getD_at
        rw [show ((m : Int) + a.size - 1).toNat = m + (a.size - 1) by omega, List.getElem?_append_right (by omega), hv, Nat.add_sub_cancel_left]
        exact hva1
      have h2 : valT ask ⟨6, 0, [], m + a.size - 1, 0⟩ (vals ++ va) = (- (evT ask a).1, 0) := by
        unfold valT
        simp only [g1]
        rfl
      have e1 : evT ask (.neg a) = capV (- (evT ask a).1, 0) := by simp only [evT, ha, if_true]
      rw [h2, ← e1] at h1
      constructor
      · intro h0
        refine ⟨va ++ [(evT ask (.neg a)).1], by simp only [List.length_append, hva, List.length_singleton, Ex.size], ?_, fun q => ?_⟩
        · simp only [Ex.size]
          rw [List.getElem?_append_right (by omega), hva, show a.size + 1 - 1 - a.size = 0 by omega]
          rfl
        · have h3 := h1 q
          rw [if_pos h0] at h3
          rw [hsz, hga, h3]
          simp only [List.append_assoc, Ex.size, Nat.add_assoc]
      · intro h0 q
        have h3 := h1 q
        rw [if_neg h0] at h3
        rw [hsz, hga, h3, e1]
        rw [e1] at h0
        exact cap_err h0
    · have e1 : evT ask (.neg a) = (0, (evT ask a).2) := by simp only [evT, ha, if_false]
      constructor
      · intro h0
        rw [e1] at h0
        exact absurd h0 ha
      · intro _ q
        rw [hsz, ba ha, e1]
theorem evT_err (ask : List UInt8 → Int × Int) (t : Ex) (h : (evT ask t).2 ≠ 0) : evT ask t = (0, (evT ask t).2) := by
  cases t with
  | num v => exact cap_err h
  | nam s => exact cap_err h
  | bin k a b =>
    by_cases ha : (evT ask a).2 = 0
    · by_cases hb : (evT ask b).2 = 0
      · have e1 : evT ask (.bin k a b) = capV (opV k (evT ask a).1 (evT ask b).1, 0) := by simp only [evT, ha, hb, if_true]
        rw [e1] at h ⊢
        exact cap_err h
      · have e1 : evT ask (.bin k a b) = (0, (evT ask b).2) := by simp only [evT, ha, hb, if_true, if_false]
        rw [e1]
    · have e1 : evT ask (.bin k a b) = (0, (evT ask a).2) := by simp only [evT, ha, if_false]
      rw [e1]
  | neg a =>
    by_cases ha : (evT ask a).2 = 0
    · have e1 : evT ask (.neg a) = capV (- (evT ask a).1, 0) := by simp only [evT, ha, if_true]
      rw [e1] at h ⊢
      exact cap_err h
    · have e1 : evT ask (.neg a) = (0, (evT ask a).2) := by simp only [evT, ha, if_false]
      rw [e1]
theorem ev_tree (ask : List UInt8 → Int × Int) {t : Ex} (h : t.fine) : evL ask (t.post 0) = evT ask t := by
  unfold evL
  rw [post_right h, if_pos rfl, post_len]
  obtain ⟨g, b⟩ := ev_seg ask (t.post 0) (fun j hj => post_used h j (by rwa [post_len] at hj)) t 0 [] [] [] h (by simp) rfl rfl
  by_cases h0 : (evT ask t).2 = 0
  · obtain ⟨vs, hvs, hv1, hg⟩ := g h0
    have h1 := hg 0
    rw [Nat.add_zero] at h1
    rw [h1, List.nil_append]
    show (vs.getLastD 0, 0) = _
    have h2 : vs.getLastD 0 = (evT ask t).1 := by
      rw [List.getLastD_eq_getLast?, List.getLast?_eq_getElem?, hvs, hv1]
      rfl
    rw [h2, ← h0]
  · have h1 := b h0 0
    rw [Nat.add_zero] at h1
    rw [h1]
    exact (evT_err ask t h0).symm
end Go.Proofs.Ytebpimjbjjmpaaa
