/- Duplexes as plain data: a word of two small numbers and its halves; what Pair, Split and Canonical say; what follows of them; no condition but the ranges named. -/
import Derived.Test.YtckekkedjlkljaaDoorSubMath
namespace Go.Proofs.YtckekkedjlkljaaDoor

def storeB (x : In) : Bool := classZ (opN x.op) == 4
def dupZ (u l : Int) : Int := fromThirtyZ (putZ l 15 15 u) 0
def highZ (w : Int) : Int := getZ (thirtyZ w) 15 15
def lowZ (w : Int) : Int := getZ (thirtyZ w) 0 15
def pairP (a b : In) : Int × Bool :=
  if (subOf a).2 && (subOf b).2 && !(storeB a && storeB b) then
    (if storeB a || (!storeB b && decide ((subOf a).1 < (subOf b).1)) then (dupZ (subOf b).1 (subOf a).1, true) else (dupZ (subOf a).1 (subOf b).1, true))
  else (0, false)
def splitP (w : Int) : In × In × Bool :=
  if (parseZ w == 0) && (subInst (highZ w)).2 && (subInst (lowZ w)).2 && !storeB (subInst (highZ w)).1 then ((subInst (highZ w)).1, (subInst (lowZ w)).1, true) else (inZero, inZero, false)
def canonB (w : Int) : Bool := (splitP w).2.2 && (storeB (splitP w).2.1 || decide (lowZ w ≤ highZ w))

theorem g15 (v : Int) : getZ v 15 15 = v / 32768 % 32768 := getZ_at v 15 15 (by decide)
theorem g015 (v : Int) : getZ v 0 15 = v % 32768 := (getZ_at v 0 15 (by decide)).trans (by rw [show ((2 : Int) ^ 0) = 1 from rfl, Int.ediv_one]; rfl)
theorem p15 (w v : Int) : putZ w 15 15 v = w / 1073741824 * 1073741824 + v % 32768 * 32768 + w % 32768 := putZ_at w v 15 15 (by decide)
theorem high_eq (w : Int) : highZ w = thirtyZ w / 32768 % 32768 := g15 _
theorem low_eq (w : Int) : lowZ w = thirtyZ w % 32768 := g015 _
theorem highZ_range (w : Int) : 0 ≤ highZ w ∧ highZ w < 32768 := by rw [high_eq]; omega
theorem lowZ_range (w : Int) : 0 ≤ lowZ w ∧ lowZ w < 32768 := by rw [low_eq]; omega
/-- A word of two numbers is a word with no parse bits whose halves they are. -/
theorem join_of (u l : Int) (u0 : 0 ≤ u) (u1 : u < 32768) (l0 : 0 ≤ l) (l1 : l < 32768) :
    isU32 (dupZ u l) ∧ parseZ (dupZ u l) = 0 ∧ highZ (dupZ u l) = u ∧ lowZ (dupZ u l) = l := by
  rw [high_eq, low_eq]
  unfold dupZ isU32
  rw [p15]
  unfold fromThirtyZ parseZ thirtyZ
  refine ⟨⟨?_, ?_⟩, ?_, ?_, ?_⟩ <;> omega
theorem of_join (w : Int) (hw : isU32 w) (hp : parseZ w = 0) : dupZ (highZ w) (lowZ w) = w := by
  rw [high_eq, low_eq]
  obtain ⟨h0, h1⟩ := hw
  unfold dupZ
  rw [p15]
  unfold fromThirtyZ
  unfold parseZ at hp
  unfold thirtyZ
  omega
theorem subOf_le (x : In) (h : (subOf x).2 = true) : 0 ≤ (subOf x).1 ∧ (subOf x).1 < 32768 ∧ subInst (subOf x).1 = (x, true) ∧ Says (subOf x).1 x := by
  obtain ⟨h0, h1, h2⟩ := inst_of (subOf x).1 x (Prod.ext rfl h)
  have h3 := says _ h0 h1 x h2
  exact ⟨h0, h3.le, h2, h3⟩
theorem subOf_0 (x : In) : 0 ≤ (subOf x).1 ∧ (subOf x).1 < 32768 := by
  cases h : (subOf x).2 with
  | false => rw [of_none x h]; decide
  | true => exact ⟨(subOf_le x h).1, (subOf_le x h).2.1⟩
theorem splits_join (x y : In) (hx : (subOf x).2 = true) (hy : (subOf y).2 = true) (hs : storeB x = false) :
    splitP (dupZ (subOf x).1 (subOf y).1) = (x, y, true) ∧ parseZ (dupZ (subOf x).1 (subOf y).1) = 0 ∧ isU32 (dupZ (subOf x).1 (subOf y).1) ∧
    canonB (dupZ (subOf x).1 (subOf y).1) = (storeB y || decide ((subOf y).1 ≤ (subOf x).1)) := by
  obtain ⟨x0, x1, x2, -⟩ := subOf_le x hx
  obtain ⟨y0, y1, y2, -⟩ := subOf_le y hy
  obtain ⟨j0, j1, j2, j3⟩ := join_of _ _ x0 x1 y0 y1
  have e : splitP (dupZ (subOf x).1 (subOf y).1) = (x, y, true) := by
    unfold splitP
    rw [j1, j2, j3, x2, y2]
    simp [hs]
  refine ⟨e, j1, j0, ?_⟩
  unfold canonB
  rw [e, j2, j3]
  simp
/-- What Pair says yes to. -/
structure Paired (a b : In) (w : Int) : Prop where
  ofa : (subOf a).2 = true
  ofb : (subOf b).2 = true
  two : splitP w = (a, b, true) ∨ splitP w = (b, a, true)
  canon : canonB w = true
  parse : parseZ w = 0
  u32 : isU32 w
theorem paired (a b : In) (w : Int) (h : pairP a b = (w, true)) : Paired a b w := by
  unfold pairP at h
  by_cases h1 : ((subOf a).2 && (subOf b).2 && !(storeB a && storeB b)) = true
  rotate_left
  · rw [if_neg h1] at h
    exact absurd (congrArg Prod.snd h) (by simp)
  rw [if_pos h1] at h
  simp only [Bool.and_eq_true, Bool.not_eq_true', Bool.and_eq_false_iff] at h1
  obtain ⟨⟨ha, hb⟩, hs⟩ := h1
  by_cases h2 : (storeB a || (!storeB b && decide ((subOf a).1 < (subOf b).1))) = true
  · rw [if_pos h2] at h
    obtain ⟨rfl, -⟩ := Prod.mk.inj h
    have hb0 : storeB b = false := by
      rcases hs with hs | hs
      · rw [hs] at h2
        simp only [Bool.false_or, Bool.and_eq_true, Bool.not_eq_true'] at h2
        exact h2.1
      · exact hs
    obtain ⟨e1, e2, e3, e4⟩ := splits_join b a hb ha hb0
    refine ⟨ha, hb, Or.inr e1, ?_, e2, e3⟩
    rw [e4]
    cases hsa : storeB a with
    | true => rfl
    | false =>
      rw [hsa] at h2
      simp only [Bool.false_or, Bool.and_eq_true, Bool.not_eq_true', decide_eq_true_eq] at h2 ⊢
      omega
  · rw [if_neg h2] at h
    obtain ⟨rfl, -⟩ := Prod.mk.inj h
    have h3 : storeB a = false ∧ (storeB b = true ∨ (subOf b).1 ≤ (subOf a).1) := by
      cases hsa : storeB a with
      | true => rw [hsa] at h2; exact absurd rfl h2
      | false =>
        refine ⟨rfl, ?_⟩
        cases hsb : storeB b with
        | true => exact Or.inl rfl
        | false =>
          right
          rw [hsa, hsb] at h2
          simp only [Bool.false_or, Bool.not_false, Bool.true_and, decide_eq_true_eq] at h2
          omega
    obtain ⟨e1, e2, e3, e4⟩ := splits_join a b ha hb h3.1
    refine ⟨ha, hb, Or.inl e1, ?_, e2, e3⟩
    rw [e4]
    rcases h3.2 with h4 | h4
    · rw [h4]; rfl
    · simp [h4]
theorem pair_none (a b : In) (h : (pairP a b).2 = false) : pairP a b = (0, false) := by
  unfold pairP at h ⊢
  by_cases h1 : ((subOf a).2 && (subOf b).2 && !(storeB a && storeB b)) = true
  · rw [if_pos h1] at h
    split at h <;> exact absurd h (by simp)
  · rw [if_neg h1]
theorem pair_turned (a b : In) : pairP a b = pairP b a := by
  unfold pairP
  generalize subOf a = p
  generalize subOf b = q
  obtain ⟨s, o⟩ := p
  obtain ⟨t, u⟩ := q
  generalize storeB a = c
  generalize storeB b = d
  cases o <;> cases u <;> cases c <;> cases d <;> simp
  by_cases h1 : s < t
  · rw [if_pos h1, if_neg (by omega)]
  · by_cases h2 : t < s
    · rw [if_neg h1, if_pos h2]
    · obtain rfl : s = t := by omega
      rfl
theorem split_none (w : Int) (h : (splitP w).2.2 = false) : splitP w = (inZero, inZero, false) ∧ canonB w = false := by
  have e : splitP w = (inZero, inZero, false) := by
    unfold splitP at h ⊢
    by_cases h1 : ((parseZ w == 0) && (subInst (highZ w)).2 && (subInst (lowZ w)).2 && !storeB (subInst (highZ w)).1) = true
    · rw [if_pos h1] at h
      exact absurd h (by simp)
    · rw [if_neg h1]
  exact ⟨e, by unfold canonB; rw [e]; rfl⟩
/-- What Split says yes to. -/
structure Splits (w : Int) (x y : In) : Prop where
  ofx : subOf x = (highZ w, true)
  ofy : subOf y = (lowZ w, true)
  saysx : Says (highZ w) x
  saysy : Says (lowZ w) y
  store : storeB x = false
  join : dupZ (highZ w) (lowZ w) = w
theorem splits (w : Int) (hw : isU32 w) (x y : In) (h : splitP w = (x, y, true)) : Splits w x y := by
  unfold splitP at h
  by_cases h1 : ((parseZ w == 0) && (subInst (highZ w)).2 && (subInst (lowZ w)).2 && !storeB (subInst (highZ w)).1) = true
  rotate_left
  · rw [if_neg h1] at h
    have := congrArg (fun p => p.2.2) h
    simp at this
  rw [if_pos h1] at h
  simp only [Bool.and_eq_true, Bool.not_eq_true', beq_iff_eq] at h1
  obtain ⟨⟨⟨h2, h3⟩, h4⟩, h5⟩ := h1
  obtain ⟨e1, e2⟩ := Prod.mk.inj h
  obtain ⟨e3, -⟩ := Prod.mk.inj e2
  clear h e2
  subst e1
  subst e3
  have a := highZ_range w
  have b := lowZ_range w
  exact ⟨of_says _ a.1 (by omega) _ (Prod.ext rfl h3), of_says _ b.1 (by omega) _ (Prod.ext rfl h4), says _ a.1 (by omega) _ (Prod.ext rfl h3), says _ b.1 (by omega) _ (Prod.ext rfl h4), h5, of_join w hw h2⟩
theorem canon_split (w : Int) (x y : In) (h : splitP w = (x, y, true)) : canonB w = (storeB y || decide (lowZ w ≤ highZ w)) := by
  unfold canonB
  rw [h]
  simp
/-- What Pair says of what Split says: the word, if it is canonical, else another one that is, the two turned. -/
theorem pair_split (w : Int) (hw : isU32 w) (x y : In) (h : splitP w = (x, y, true)) :
    ∃ v, pairP x y = (v, true) ∧ canonB v = true ∧ isU32 v ∧ ((canonB w = true ∧ v = w ∧ splitP v = (x, y, true)) ∨ (canonB w = false ∧ v ≠ w ∧ splitP v = (y, x, true))) := by
  have s := splits w hw x y h
  have c := canon_split w x y h
  have e : pairP x y = if !storeB y && decide (highZ w < lowZ w) then (dupZ (lowZ w) (highZ w), true) else (dupZ (highZ w) (lowZ w), true) := by
    unfold pairP
    rw [s.ofx, s.ofy, s.store]
    simp
  have a := highZ_range w
  have b := lowZ_range w
  cases hc : canonB w with
  | true =>
    have e2 : pairP x y = (w, true) := by
      rw [e, s.join]
      rw [hc] at c
      split
      next h2 =>
        simp only [Bool.and_eq_true, Bool.not_eq_true', decide_eq_true_eq] at h2
        rw [h2.1] at c
        simp at c
        omega
      next => rfl
    exact ⟨w, e2, (paired x y w e2).canon, hw, Or.inl ⟨rfl, rfl, h⟩⟩
  | false =>
    rw [hc] at c
    have c2 : storeB y = false ∧ ¬ lowZ w ≤ highZ w := by
      have := c.symm
      simpa using this
    have e2 : pairP x y = (dupZ (lowZ w) (highZ w), true) := by
      rw [e, if_pos]
      rw [c2.1]
      simp only [Bool.not_false, Bool.true_and, decide_eq_true_eq]
      omega
    have p := paired x y _ e2
    have j := splits_join y x (by rw [s.ofy]) (by rw [s.ofx]) c2.1
    rw [s.ofx, s.ofy] at j
    refine ⟨_, e2, p.canon, p.u32, Or.inr ⟨rfl, ?_, j.1⟩⟩
    intro hh
    have := congrArg highZ hh
    rw [(join_of _ _ b.1 b.2 a.1 a.2).2.2.1] at this
    omega

theorem split_smalls (w : Int) : (splitP w).1.small ∧ (splitP w).2.1.small := by
  have a := highZ_range w
  have b := lowZ_range w
  unfold splitP
  split
  · exact ⟨subInst_small _ a.1 (by omega), subInst_small _ b.1 (by omega)⟩
  · exact ⟨small_of (by decide), small_of (by decide)⟩
theorem split_small (w : Int) : (splitP w).2.1.small := (split_smalls w).2

/-! The document's form. -/
theorem storeB_doc (x : In) (h : x.small) : storeB x = (decide (24 ≤ x.op) && decide (x.op ≤ 26)) := by
  have h0 := h.op0
  unfold storeB opN isOp
  by_cases hb : 1 ≤ x.op ∧ x.op ≤ 31
  · obtain ⟨n, hn⟩ := Int.eq_ofNat_of_zero_le h0
    have h1 : (decide (1 ≤ x.op) && decide (x.op ≤ 31)) = true := by simp [hb.1, hb.2]
    rw [if_pos h1]
    obtain ⟨h2, h3⟩ := hb
    rw [hn] at h2 h3 ⊢
    clear h1 hn h0
    have h4 : n ≤ 31 := by omega
    clear h2 h3
    revert n
    decide
  · have h1 : ¬ (decide (1 ≤ x.op) && decide (x.op ≤ 31)) = true := by simpa using hb
    rw [if_neg h1]
    have : (decide (24 ≤ x.op) && decide (x.op ≤ 26)) = false := by
      simp only [Bool.and_eq_false_iff, decide_eq_false_iff_not]
      omega
    rw [this]
    rfl
end Go.Proofs.YtckekkedjlkljaaDoor
