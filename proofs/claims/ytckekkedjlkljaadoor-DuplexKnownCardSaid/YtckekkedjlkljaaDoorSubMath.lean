/- Small instructions as plain data: the rows of the table, what is written of an instruction and read of a number; the document's form; what is written is read again, and the other way round; no condition but the ranges named. -/
import Derived.Test.YtckekkedjlkljaaDoorInstForm
import Derived.Test.YtckekkedjlkljaaDoorInstLit
namespace Go.Proofs.YtckekkedjlkljaaDoor

structure SRow where
  code : Int
  op : Int
  m1 : Int
  m2 : Int
  n : Int
  scale : Int
  sg : Bool
  deriving DecidableEq
def srows : List SRow := [⟨1, 8, 1, 0, 7, 0, false⟩, ⟨2, 7, 4, 0, 7, 0, true⟩, ⟨3, 9, 1, 2, 0, 0, false⟩, ⟨4, 2, 4, 3, 0, 0, false⟩, ⟨5, 21, 1, 2, 3, 2, false⟩, ⟨6, 24, 2, 3, 3, 2, false⟩, ⟨7, 23, 1, 2, 3, 0, false⟩, ⟨8, 26, 2, 3, 3, 0, false⟩, ⟨9, 13, 2, 0, 7, 0, false⟩]
def sNone : SRow := ⟨0, 0, 0, 0, 0, 0, false⟩
def byOp (op : Int) : List SRow → SRow × Bool
  | [] => (sNone, false)
  | r :: l => if r.op = op then (r, true) else byOp op l
def byCode (c : Int) : List SRow → SRow × Bool
  | [] => (sNone, false)
  | r :: l => if r.code = c then (r, true) else byCode c l
def smallZ (v : Int) : Int := if v < 8 then v else (v - 8) % 256
def wideZ (v : Int) : Int := if v < 8 then v else v + 8
def regZ (x : In) (m : Int) : Int := if m = 2 then x.s else if m = 3 then x.t else x.d
def setR (x : In) (m v : Int) : In :=
  if m = 1 then { x with d := v } else if m = 2 then { x with s := v } else if m = 3 then { x with t := v } else if m = 4 then { x with d := v, s := v } else x
/-- One register written, one read: what is left below, and the number or the instruction. -/
def wStep (x : In) (p : Int × Int) (m : Int) : Int × Int := if m = 0 then p else (p.1 - 4, putZ p.2 (p.1 - 4) 4 (smallZ (regZ x m)))
def rStep (w : Int) (p : Int × In) (m : Int) : Int × In := if m = 0 then p else (p.1 - 4, setR p.2 m (wideZ (getZ w (p.1 - 4) 4)))
def wRegs (r : SRow) (x : In) : Int × Int := wStep x (wStep x (11, putZ 0 11 5 r.code) r.m1) r.m2
def rRegs (r : SRow) (w : Int) : Int × In := rStep w (rStep w (11, { inZero with op := r.op }) r.m1) r.m2
def writeZ (r : SRow) (x : In) : Int := putZ (wRegs r x).2 ((wRegs r x).1 - r.n) r.n (x.imm / 2 ^ r.scale.toNat % 4294967296) % 65536
def heldS (r : SRow) (w : Int) : Int := getZ w ((rRegs r w).1 - r.n) r.n
def immS (r : SRow) (w : Int) : Int := (if r.sg then sextZ (heldS r w) r.n else heldS r w) * 2 ^ r.scale.toNat
def readZ (r : SRow) (w : Int) : In × Int := ({ (rRegs r w).2 with imm := immS r w }, (rRegs r w).1 - r.n)
def subInst (s : Int) : In × Bool :=
  if (byCode (getZ s 11 5) srows).2 then
    (if getZ s 0 (readZ (byCode (getZ s 11 5) srows).1 s).2 = 0 then ((readZ (byCode (getZ s 11 5) srows).1 s).1, true) else (inZero, false))
  else (inZero, false)
def subOf (x : In) : Int × Bool :=
  if (byOp x.op srows).2 then
    (if (subInst (writeZ (byOp x.op srows).1 x)).1 = x then (writeZ (byOp x.op srows).1 x, true) else (0, false))
  else (0, false)

/-! The document's form. -/
def docInst (s : Int) : In × Bool :=
  let c := s / 2048
  let a := wideZ (s / 128 % 16)
  let b := wideZ (s / 8 % 16)
  let l := s % 8
  let v := s % 128
  if c = 1 then ({ inZero with op := 8, d := a, imm := v }, true)
  else if c = 2 then ({ inZero with op := 7, d := a, s := a, imm := if 63 < v then v - 128 else v }, true)
  else if c = 3 then (if l = 0 then ({ inZero with op := 9, d := a, s := b }, true) else (inZero, false))
  else if c = 4 then (if l = 0 then ({ inZero with op := 2, d := a, s := a, t := b }, true) else (inZero, false))
  else if c = 5 then ({ inZero with op := 21, d := a, s := b, imm := 4 * l }, true)
  else if c = 6 then ({ inZero with op := 24, s := a, t := b, imm := 4 * l }, true)
  else if c = 7 then ({ inZero with op := 23, d := a, s := b, imm := l }, true)
  else if c = 8 then ({ inZero with op := 26, s := a, t := b, imm := l }, true)
  else if c = 9 then ({ inZero with op := 13, s := a, imm := v }, true)
  else (inZero, false)

theorem getZ_at (v : Int) (a n : Nat) (h : a + n ≤ 32) : getZ v a n = v / 2 ^ a % 2 ^ n := by
  have : fieldB (a : Int) (n : Int) = true := fieldB_iff.2 ⟨by omega, by omega, by omega⟩
  simp [getZ, this]
theorem putZ_at (w v : Int) (a n : Nat) (h : a + n ≤ 32) : putZ w a n v = w / 2 ^ (a + n) * 2 ^ (a + n) + v % 2 ^ n * 2 ^ a + w % 2 ^ a := by
  have : fieldB (a : Int) (n : Int) = true := fieldB_iff.2 ⟨by omega, by omega, by omega⟩
  simp [putZ, this]
theorem g11 (v : Int) : getZ v 11 5 = v / 2048 % 32 := getZ_at v 11 5 (by decide)
theorem g7 (v : Int) : getZ v 7 4 = v / 128 % 16 := getZ_at v 7 4 (by decide)
theorem g3 (v : Int) : getZ v 3 4 = v / 8 % 16 := getZ_at v 3 4 (by decide)
theorem g07 (v : Int) : getZ v 0 7 = v % 128 := (getZ_at v 0 7 (by decide)).trans (by rw [show ((2 : Int) ^ 0) = 1 from rfl, Int.ediv_one]; rfl)
theorem g03 (v : Int) : getZ v 0 3 = v % 8 := (getZ_at v 0 3 (by decide)).trans (by rw [show ((2 : Int) ^ 0) = 1 from rfl, Int.ediv_one]; rfl)
theorem g00 (v : Int) : getZ v 0 0 = 0 := (getZ_at v 0 0 (by decide)).trans (by rw [show ((2 : Int) ^ 0) = 1 from rfl, Int.ediv_one]; exact Int.emod_one v)
theorem g30 (v : Int) : getZ v 3 0 = 0 := (getZ_at v 3 0 (by decide)).trans (Int.emod_one _)
theorem p11 (w v : Int) : putZ w 11 5 v = w / 65536 * 65536 + v % 32 * 2048 + w % 2048 := putZ_at w v 11 5 (by decide)
theorem p7 (w v : Int) : putZ w 7 4 v = w / 2048 * 2048 + v % 16 * 128 + w % 128 := putZ_at w v 7 4 (by decide)
theorem p3 (w v : Int) : putZ w 3 4 v = w / 128 * 128 + v % 16 * 8 + w % 8 := putZ_at w v 3 4 (by decide)
theorem p07 (w v : Int) : putZ w 0 7 v = w / 128 * 128 + v % 128 := (putZ_at w v 0 7 (by decide)).trans (by simp [Int.emod_one])
theorem p03 (w v : Int) : putZ w 0 3 v = w / 8 * 8 + v % 8 := (putZ_at w v 0 3 (by decide)).trans (by simp [Int.emod_one])
theorem p30 (w v : Int) : putZ w 3 0 v = w := (putZ_at w v 3 0 (by decide)).trans (by simp [Int.emod_one]; omega)
theorem sext7 (v : Int) (h0 : 0 ≤ v) (h1 : v < 128) : sextZ v 7 = if 63 < v then v - 128 else v := by
  have e : sextZ v 7 = if 64 ≤ v % 128 then v % 128 - 128 else v % 128 := rfl
  rw [e, Int.emod_eq_of_lt h0 h1]
  by_cases h : 63 < v
  · rw [if_pos h, if_pos (by omega)]
  · rw [if_neg h, if_neg (by omega)]
theorem small_wide (v : Int) (h0 : 0 ≤ v) (h1 : v < 16) : smallZ (wideZ v) % 16 = v ∧ 0 ≤ wideZ v ∧ wideZ v < 24 := by
  unfold smallZ wideZ
  by_cases h : v < 8
  · rw [if_pos h, if_pos h]; omega
  · rw [if_neg h, if_neg (by omega)]; omega

theorem code_cases (s : Int) : ∃ c, s / 2048 = c ∧ s = 2048 * c + s % 2048 := ⟨_, rfl, by omega⟩
theorem inst_doc (s : Int) (h0 : 0 ≤ s) (h1 : s < 65536) : subInst s = docInst s := by
  have hc : getZ s 11 5 = s / 2048 := by rw [g11]; omega
  have hv : 0 ≤ s % 128 ∧ s % 128 < 128 := by omega
  unfold subInst
  rw [hc]
  have hcase : s / 2048 = 1 ∨ s / 2048 = 2 ∨ s / 2048 = 3 ∨ s / 2048 = 4 ∨ s / 2048 = 5 ∨ s / 2048 = 6 ∨ s / 2048 = 7 ∨ s / 2048 = 8 ∨ s / 2048 = 9 ∨ (s / 2048 < 1 ∨ 9 < s / 2048) := by omega
  rcases hcase with e | e | e | e | e | e | e | e | e | e
  case inr.inr.inr.inr.inr.inr.inr.inr.inr =>
    have n : ∀ k, 1 ≤ k → k ≤ 9 → ¬ s / 2048 = k := by omega
    have n' : ∀ k, 1 ≤ k → k ≤ 9 → ¬ k = s / 2048 := by omega
    have e1 : byCode (s / 2048) srows = (sNone, false) := by
      unfold srows byCode
      iterate 9 (rw [if_neg (n' _ (by decide) (by decide))]; try unfold byCode)
      rfl
    rw [e1]
    unfold docInst
    iterate 9 (rw [if_neg (n _ (by decide) (by decide))])
    rfl
  all_goals
    have ha := small_wide (s / 128 % 16) (by omega) (by omega)
    unfold docInst
    rw [e]
    simp [byCode, srows, readZ, rRegs, rStep, heldS, immS, setR, inZero, g7, g3, g07, g03, g00, g30]
    try rw [sext7 _ hv.1 hv.2]
    try omega

/-- What is so of an instruction that a number says. -/
structure Says (s : Int) (x : In) : Prop where
  le : s < 32768
  write : (byOp x.op srows).2 = true ∧ writeZ (byOp x.op srows).1 x = s
  right : rightB x = true
  mode : x.mode = 0
  new : x.new = false
  ext : x.ext = false
  small : x.small
  ne : x ≠ inZero
theorem write_eq (r : SRow) (x : In) (l w : Int) (h : wRegs r x = (l, w)) : writeZ r x = putZ w (l - r.n) r.n (x.imm / 2 ^ r.scale.toNat % 4294967296) % 65536 := by
  unfold writeZ; rw [h]
theorem says_lit (op d st t imm s : Int) (hd : 0 ≤ d ∧ d < 24) (hs : 0 ≤ st ∧ st < 24) (ht : 0 ≤ t ∧ t < 24) (hi : -9223372036854775808 ≤ imm ∧ imm ≤ 9223372036854775807) (le : s < 32768) (hop : decide (0 < op ∧ op ≤ 255 ∧ (byOp op srows).2 = true) = true)
    (hw : writeZ (byOp op srows).1 { inZero with op := op, d := d, s := st, t := t, imm := imm } = s) (hr : refB { inZero with op := op, d := d, s := st, t := t, imm := imm } = true) :
    Says s { inZero with op := op, d := d, s := st, t := t, imm := imm } := by
  have hp := of_decide_eq_true hop
  have hsm : In.small { inZero with op := op, d := d, s := st, t := t, imm := imm } := by
    constructor <;> simp only [inZero] <;> omega
  refine ⟨le, ⟨hp.2.2, hw⟩, ?_, rfl, rfl, rfl, hsm, fun h => ?_⟩
  · rw [right_ref _ hsm]; exact hr
  · have := congrArg In.op h
    simp only [inZero] at this
    omega
theorem says (s : Int) (h0 : 0 ≤ s) (h1 : s < 65536) (x : In) (h : subInst s = (x, true)) : Says s x := by
  rw [inst_doc s h0 h1] at h
  have hv : 0 ≤ s % 128 ∧ s % 128 < 128 := by omega
  have hl : 0 ≤ s % 8 ∧ s % 8 < 8 := by omega
  have ha := small_wide (s / 128 % 16) (by omega) (by omega)
  have hb := small_wide (s / 8 % 16) (by omega) (by omega)
  unfold docInst at h
  generalize wideZ (s / 128 % 16) = a at *
  generalize wideZ (s / 8 % 16) = b at *
  obtain ⟨ha1, ha2, ha3⟩ := ha
  obtain ⟨hb1, hb2, hb3⟩ := hb
  have hcase : s / 2048 = 1 ∨ s / 2048 = 2 ∨ s / 2048 = 3 ∨ s / 2048 = 4 ∨ s / 2048 = 5 ∨ s / 2048 = 6 ∨ s / 2048 = 7 ∨ s / 2048 = 8 ∨ s / 2048 = 9 ∨ (s / 2048 < 1 ∨ 9 < s / 2048) := by omega
  rcases hcase with e | e | e | e | e | e | e | e | e | e
  case inr.inr.inr.inr.inr.inr.inr.inr.inr =>
    have n : ∀ k, 1 ≤ k → k ≤ 9 → ¬ s / 2048 = k := by omega
    simp only [] at h
    iterate 9 (rw [if_neg (n _ (by decide) (by decide))] at h)
    exact absurd (congrArg Prod.snd h) (by simp)
  case' inr.inr.inl =>
    simp only [e, reduceIte, Int.reduceEq] at h
    by_cases hl0 : s % 8 = 0
    rotate_left
    · rw [if_neg hl0] at h
      exact absurd (congrArg Prod.snd h) (by simp)
    rw [if_pos hl0] at h
    obtain ⟨rfl, -⟩ := Prod.mk.inj h
    refine says_lit 9 a b 0 0 s (by omega) (by omega) (by omega) (by omega) (by omega) (by decide) ?_ ?_
  case' inr.inr.inr.inl =>
    simp only [e, reduceIte, Int.reduceEq] at h
    by_cases hl0 : s % 8 = 0
    rotate_left
    · rw [if_neg hl0] at h
      exact absurd (congrArg Prod.snd h) (by simp)
    rw [if_pos hl0] at h
    obtain ⟨rfl, -⟩ := Prod.mk.inj h
    refine says_lit 2 a a b 0 s (by omega) (by omega) (by omega) (by omega) (by omega) (by decide) ?_ ?_
  case' inr.inl =>
    simp only [e, reduceIte, Int.reduceEq] at h
    obtain ⟨rfl, -⟩ := Prod.mk.inj h
    obtain ⟨i, hi⟩ : ∃ i, (if 63 < s % 128 then s % 128 - 128 else s % 128) = i := ⟨_, rfl⟩
    have hi2 : -64 ≤ i ∧ i ≤ 63 ∧ i % 4294967296 % 128 = s % 128 := by
      rw [← hi]
      split <;> omega
    rw [hi]
    clear hi
    refine says_lit 7 a a 0 i s (by omega) (by omega) (by omega) (by omega) (by omega) (by decide) ?_ ?_
  case' inl => 
    simp only [e, reduceIte, Int.reduceEq] at h
    obtain ⟨rfl, -⟩ := Prod.mk.inj h
    refine says_lit 8 a 0 0 (s % 128) s (by omega) (by omega) (by omega) (by omega) (by omega) (by decide) ?_ ?_
  case' inr.inr.inr.inr.inl =>
    simp only [e, reduceIte, Int.reduceEq] at h
    obtain ⟨rfl, -⟩ := Prod.mk.inj h
    refine says_lit 21 a b 0 (4 * (s % 8)) s (by omega) (by omega) (by omega) (by omega) (by omega) (by decide) ?_ ?_
  case' inr.inr.inr.inr.inr.inl =>
    simp only [e, reduceIte, Int.reduceEq] at h
    obtain ⟨rfl, -⟩ := Prod.mk.inj h
    refine says_lit 24 0 a b (4 * (s % 8)) s (by omega) (by omega) (by omega) (by omega) (by omega) (by decide) ?_ ?_
  case' inr.inr.inr.inr.inr.inr.inl =>
    simp only [e, reduceIte, Int.reduceEq] at h
    obtain ⟨rfl, -⟩ := Prod.mk.inj h
    refine says_lit 23 a b 0 (s % 8) s (by omega) (by omega) (by omega) (by omega) (by omega) (by decide) ?_ ?_
  case' inr.inr.inr.inr.inr.inr.inr.inl =>
    simp only [e, reduceIte, Int.reduceEq] at h
    obtain ⟨rfl, -⟩ := Prod.mk.inj h
    refine says_lit 26 0 a b (s % 8) s (by omega) (by omega) (by omega) (by omega) (by omega) (by decide) ?_ ?_
  case' inr.inr.inr.inr.inr.inr.inr.inr.inl =>
    simp only [e, reduceIte, Int.reduceEq] at h
    obtain ⟨rfl, -⟩ := Prod.mk.inj h
    refine says_lit 13 0 a 0 (s % 128) s (by omega) (by omega) (by omega) (by omega) (by omega) (by decide) ?_ ?_
  all_goals first
    | (simp [byOp, srows, writeZ, wRegs, wStep, regZ, inZero, p11, p7, p3, p07, p03, p30]; omega)
    | (simp [refB, kindZ, kindL, refK, regsB, okK, condB, withinB, isK, inZero, scaleZ]; done)
    | (simp [refB, kindZ, kindL, refK, regsB, okK, condB, withinB, isK, inZero, scaleZ]; omega)
theorem of_says (s : Int) (h0 : 0 ≤ s) (h1 : s < 65536) (x : In) (h : subInst s = (x, true)) : subOf x = (s, true) := by
  have hs := (says s h0 h1 x h).write
  unfold subOf
  rw [if_pos hs.1, hs.2, h, if_pos rfl]
theorem subInst_none (s : Int) (h : (subInst s).2 = false) : subInst s = (inZero, false) := by
  unfold subInst at h ⊢
  by_cases h1 : (byCode (getZ s 11 5) srows).2 = true
  · rw [if_pos h1] at h ⊢
    by_cases h2 : getZ s 0 (readZ (byCode (getZ s 11 5) srows).1 s).2 = 0
    · rw [if_pos h2] at h
      exact absurd h (by simp)
    · rw [if_neg h2]
  · rw [if_neg h1]
theorem writeZ_u16 (r : SRow) (x : In) : 0 ≤ writeZ r x ∧ writeZ r x < 65536 := by
  unfold writeZ; omega
theorem inst_of (s : Int) (x : In) (h : subOf x = (s, true)) : 0 ≤ s ∧ s < 65536 ∧ subInst s = (x, true) := by
  unfold subOf at h
  by_cases h1 : (byOp x.op srows).2 = true
  · rw [if_pos h1] at h
    by_cases h2 : (subInst (writeZ (byOp x.op srows).1 x)).1 = x
    · rw [if_pos h2] at h
      obtain ⟨rfl, -⟩ := Prod.mk.inj h
      refine ⟨(writeZ_u16 _ _).1, (writeZ_u16 _ _).2, ?_⟩
      cases h3 : (subInst (writeZ (byOp x.op srows).1 x)).2 with
      | true => exact Prod.ext h2 h3
      | false =>
        rw [subInst_none _ h3] at h2
        obtain rfl : inZero = x := h2
        exact absurd h1 (by decide)
    · rw [if_neg h2] at h
      exact absurd (congrArg Prod.snd h) (by simp)
  · rw [if_neg h1] at h
    exact absurd (congrArg Prod.snd h) (by simp)
theorem of_none (x : In) (h : (subOf x).2 = false) : subOf x = (0, false) := by
  unfold subOf at h ⊢
  by_cases h1 : (byOp x.op srows).2 = true
  · rw [if_pos h1] at h ⊢
    by_cases h2 : (subInst (writeZ (byOp x.op srows).1 x)).1 = x
    · rw [if_pos h2] at h
      exact absurd h (by simp)
    · rw [if_neg h2]
  · rw [if_neg h1]
/-- No two numbers say one instruction. -/
theorem says_one (s t : Int) (hs : 0 ≤ s ∧ s < 65536) (ht : 0 ≤ t ∧ t < 65536) (x : In) (h : subInst s = (x, true)) (h' : subInst t = (x, true)) : s = t :=
  (Prod.mk.inj ((of_says s hs.1 hs.2 x h).symm.trans (of_says t ht.1 ht.2 x h'))).1
theorem subInst_small (s : Int) (h0 : 0 ≤ s) (h1 : s < 65536) : (subInst s).1.small := by
  cases h : (subInst s).2 with
  | true => exact (says s h0 h1 _ (Prod.ext rfl h)).small
  | false => rw [subInst_none s h]; exact small_of (by decide)
end Go.Proofs.YtckekkedjlkljaaDoor
