/- Small instructions as plain data: the rows of the table, what is written of an instruction and read of a number; the document's form; what is written is read again, and the other way round; no condition but the ranges named. · The table of small instructions in memory; what rowOfOp and rowOfCode of package sub return, in every world that has grown out of one that holds the table. · What toSmall, widen, register, setRegister and write of package sub return and leave, for every row of the table's make. · What write of package sub returns, for every row of the table's make and every instruction. · What read of package sub returns, for every row of the table's make and every word. · What Inst and Of of package sub return, for every number and instruction, in every world that has grown out of one that holds the table of small instructions. -/
import Derived.Test.YtanjmoiepmadhaaGreatDoorGForm
import Derived.Test.YtanjmoiepmadhaaGreatDoorGInst
import Derived.Test.YtanjmoiepmadhaaGreatDoorGBase
import Derived.Deep.CutRange
namespace Go.Proofs.YtanjmoiepmadhaaGreatDoor
section
set_option maxRecDepth 100000

structure SRow where
  code : Int
  op : Int
  m1 : Int
  m2 : Int
  n : Int
  scale : Int
  sg : Bool
  deriving DecidableEq
def srows : List SRow := [⟨1, 8, 1, 0, 7, 0, false⟩, ⟨2, 7, 4, 0, 7, 0, true⟩, ⟨3, 9, 1, 2, 0, 0, false⟩, ⟨4, 2, 4, 3, 0, 0, false⟩, ⟨5, 21, 1, 2, 3, 2, false⟩, ⟨6, 24, 2, 3, 3, 2, false⟩, ⟨7, 23, 1, 2, 3, 0, false⟩, ⟨8, 26, 2, 3, 3, 0, false⟩, ⟨9, 13, 2, 0, 7, 0, false⟩]
def sNone : SRow := ⟨0, 0, 0, 0, 0, 0, false⟩
def byOp (op : Int) : List SRow → SRow × Bool
  | [] => (sNone, false)
  | r :: l => if r.op = op then (r, true) else byOp op l
def byCode (c : Int) : List SRow → SRow × Bool
  | [] => (sNone, false)
  | r :: l => if r.code = c then (r, true) else byCode c l
def smallZ (v : Int) : Int := if v < 8 then v else (v - 8) % 256
def wideZ (v : Int) : Int := if v < 8 then v else v + 8
def regZ (x : In) (m : Int) : Int := if m = 2 then x.s else if m = 3 then x.t else x.d
def setR (x : In) (m v : Int) : In :=
  if m = 1 then { x with d := v } else if m = 2 then { x with s := v } else if m = 3 then { x with t := v } else if m = 4 then { x with d := v, s := v } else x
/-- One register written, one read: what is left below, and the number or the instruction. -/
def wStep (x : In) (p : Int × Int) (m : Int) : Int × Int := if m = 0 then p else (p.1 - 4, putZ p.2 (p.1 - 4) 4 (smallZ (regZ x m)))
def rStep (w : Int) (p : Int × In) (m : Int) : Int × In := if m = 0 then p else (p.1 - 4, setR p.2 m (wideZ (getZ w (p.1 - 4) 4)))
def wRegs (r : SRow) (x : In) : Int × Int := wStep x (wStep x (11, putZ 0 11 5 r.code) r.m1) r.m2
def rRegs (r : SRow) (w : Int) : Int × In := rStep w (rStep w (11, { inZero with op := r.op }) r.m1) r.m2
def writeZ (r : SRow) (x : In) : Int := putZ (wRegs r x).2 ((wRegs r x).1 - r.n) r.n (x.imm / 2 ^ r.scale.toNat % 4294967296) % 65536
def heldS (r : SRow) (w : Int) : Int := getZ w ((rRegs r w).1 - r.n) r.n
def immS (r : SRow) (w : Int) : Int := (if r.sg then sextZ (heldS r w) r.n else heldS r w) * 2 ^ r.scale.toNat
def readZ (r : SRow) (w : Int) : In × Int := ({ (rRegs r w).2 with imm := immS r w }, (rRegs r w).1 - r.n)
def subInst (s : Int) : In × Bool :=
  if (byCode (getZ s 11 5) srows).2 then
    (if getZ s 0 (readZ (byCode (getZ s 11 5) srows).1 s).2 = 0 then ((readZ (byCode (getZ s 11 5) srows).1 s).1, true) else (inZero, false))
  else (inZero, false)
def subOf (x : In) : Int × Bool :=
  if (byOp x.op srows).2 then
    (if (subInst (writeZ (byOp x.op srows).1 x)).1 = x then (writeZ (byOp x.op srows).1 x, true) else (0, false))
  else (0, false)

/-! The document's form. -/
def docInst (s : Int) : In × Bool :=
  let c := s / 2048
  let a := wideZ (s / 128 % 16)
  let b := wideZ (s / 8 % 16)
  let l := s % 8
  let v := s % 128
  if c = 1 then ({ inZero with op := 8, d := a, imm := v }, true)
  else if c = 2 then ({ inZero with op := 7, d := a, s := a, imm := if 63 < v then v - 128 else v }, true)
  else if c = 3 then (if l = 0 then ({ inZero with op := 9, d := a, s := b }, true) else (inZero, false))
  else if c = 4 then (if l = 0 then ({ inZero with op := 2, d := a, s := a, t := b }, true) else (inZero, false))
  else if c = 5 then ({ inZero with op := 21, d := a, s := b, imm := 4 * l }, true)
  else if c = 6 then ({ inZero with op := 24, s := a, t := b, imm := 4 * l }, true)
  else if c = 7 then ({ inZero with op := 23, d := a, s := b, imm := l }, true)
  else if c = 8 then ({ inZero with op := 26, s := a, t := b, imm := l }, true)
  else if c = 9 then ({ inZero with op := 13, s := a, imm := v }, true)
  else (inZero, false)

theorem getZ_at (v : Int) (a n : Nat) (h : a + n ≤ 32) : getZ v a n = v / 2 ^ a % 2 ^ n := by
  have : fieldB (a : Int) (n : Int) = true := fieldB_iff.2 ⟨by omega, by omega, by omega⟩
  simp [getZ, this]
theorem putZ_at (w v : Int) (a n : Nat) (h : a + n ≤ 32) : putZ w a n v = w / 2 ^ (a + n) * 2 ^ (a + n) + v % 2 ^ n * 2 ^ a + w % 2 ^ a := by
  have : fieldB (a : Int) (n : Int) = true := fieldB_iff.2 ⟨by omega, by omega, by omega⟩
  simp [putZ, this]
theorem g11 (v : Int) : getZ v 11 5 = v / 2048 % 32 := getZ_at v 11 5 (by decide)
theorem g7 (v : Int) : getZ v 7 4 = v / 128 % 16 := getZ_at v 7 4 (by decide)
theorem g3 (v : Int) : getZ v 3 4 = v / 8 % 16 := getZ_at v 3 4 (by decide)
theorem g07 (v : Int) : getZ v 0 7 = v % 128 := (getZ_at v 0 7 (by decide)).trans (by rw [show ((2 : Int) ^ 0) = 1 from rfl, Int.ediv_one]; rfl)
theorem g03 (v : Int) : getZ v 0 3 = v % 8 := (getZ_at v 0 3 (by decide)).trans (by rw [show ((2 : Int) ^ 0) = 1 from rfl, Int.ediv_one]; rfl)
theorem g00 (v : Int) : getZ v 0 0 = 0 := (getZ_at v 0 0 (by decide)).trans (by rw [show ((2 : Int) ^ 0) = 1 from rfl, Int.ediv_one]; exact Int.emod_one v)
theorem g30 (v : Int) : getZ v 3 0 = 0 := (getZ_at v 3 0 (by decide)).trans (Int.emod_one _)
theorem p11 (w v : Int) : putZ w 11 5 v = w / 65536 * 65536 + v % 32 * 2048 + w % 2048 := putZ_at w v 11 5 (by decide)
theorem p7 (w v : Int) : putZ w 7 4 v = w / 2048 * 2048 + v % 16 * 128 + w % 128 := putZ_at w v 7 4 (by decide)
theorem p3 (w v : Int) : putZ w 3 4 v = w / 128 * 128 + v % 16 * 8 + w % 8 := putZ_at w v 3 4 (by decide)
theorem p07 (w v : Int) : putZ w 0 7 v = w / 128 * 128 + v % 128 := (putZ_at w v 0 7 (by decide)).trans (by simp [Int.emod_one])
theorem p03 (w v : Int) : putZ w 0 3 v = w / 8 * 8 + v % 8 := (putZ_at w v 0 3 (by decide)).trans (by simp [Int.emod_one])
theorem p30 (w v : Int) : putZ w 3 0 v = w := (putZ_at w v 3 0 (by decide)).trans (by simp [Int.emod_one]; omega)
theorem sext7 (v : Int) (h0 : 0 ≤ v) (h1 : v < 128) : sextZ v 7 = if 63 < v then v - 128 else v := by
  have e : sextZ v 7 = if 64 ≤ v % 128 then v % 128 - 128 else v % 128 := rfl
  rw [e, Int.emod_eq_of_lt h0 h1]
  by_cases h : 63 < v
  · rw [if_pos h, if_pos (by omega)]
  · rw [if_neg h, if_neg (by omega)]
theorem small_wide (v : Int) (h0 : 0 ≤ v) (h1 : v < 16) : smallZ (wideZ v) % 16 = v ∧ 0 ≤ wideZ v ∧ wideZ v < 24 := by
  unfold smallZ wideZ
  by_cases h : v < 8
  · rw [if_pos h, if_pos h]; omega
  · rw [if_neg h, if_neg (by omega)]; omega

theorem inst_doc (s : Int) (h0 : 0 ≤ s) (h1 : s < 65536) : subInst s = docInst s := by
  have hc : getZ s 11 5 = s / 2048 := by rw [g11]; omega
  have hv : 0 ≤ s % 128 ∧ s % 128 < 128 := by omega
  unfold subInst
  rw [hc]
  have hcase : s / 2048 = 1 ∨ s / 2048 = 2 ∨ s / 2048 = 3 ∨ s / 2048 = 4 ∨ s / 2048 = 5 ∨ s / 2048 = 6 ∨ s / 2048 = 7 ∨ s / 2048 = 8 ∨ s / 2048 = 9 ∨ (s / 2048 < 1 ∨ 9 < s / 2048) := by omega
  rcases hcase with e | e | e | e | e | e | e | e | e | e
  case inr.inr.inr.inr.inr.inr.inr.inr.inr =>
    have n : ∀ k, 1 ≤ k → k ≤ 9 → ¬ s / 2048 = k := by omega
    have n' : ∀ k, 1 ≤ k → k ≤ 9 → ¬ k = s / 2048 := by omega
    have e1 : byCode (s / 2048) srows = (sNone, false) := by
      unfold srows byCode
      iterate 9 (rw [if_neg (n' _ (by decide) (by decide))]; try unfold byCode)
      rfl
    rw [e1]
    unfold docInst
    iterate 9 (rw [if_neg (n _ (by decide) (by decide))])
    rfl
  all_goals
    have ha := small_wide (s / 128 % 16) (by omega) (by omega)
    unfold docInst
    rw [e]
    simp [byCode, srows, readZ, rRegs, rStep, heldS, immS, setR, inZero, g7, g3, g07, g03, g00, g30]
    try rw [sext7 _ hv.1 hv.2]
    try omega

/-- What is so of an instruction that a number says. -/
structure Says (s : Int) (x : In) : Prop where
  le : s < 32768
  write : (byOp x.op srows).2 = true ∧ writeZ (byOp x.op srows).1 x = s
  right : rightB x = true
  mode : x.mode = 0
  new : x.new = false
  ext : x.ext = false
  small : x.small
  ne : x ≠ inZero
theorem says_lit (op d st t imm s : Int) (hd : 0 ≤ d ∧ d < 24) (hs : 0 ≤ st ∧ st < 24) (ht : 0 ≤ t ∧ t < 24) (hi : -9223372036854775808 ≤ imm ∧ imm ≤ 9223372036854775807) (le : s < 32768) (hop : decide (0 < op ∧ op ≤ 255 ∧ (byOp op srows).2 = true) = true)
    (hw : writeZ (byOp op srows).1 { inZero with op := op, d := d, s := st, t := t, imm := imm } = s) (hr : refB { inZero with op := op, d := d, s := st, t := t, imm := imm } = true) :
    Says s { inZero with op := op, d := d, s := st, t := t, imm := imm } := by
  have hp := of_decide_eq_true hop
  have hsm : In.small { inZero with op := op, d := d, s := st, t := t, imm := imm } := by
    constructor <;> simp only [inZero] <;> omega
  refine ⟨le, ⟨hp.2.2, hw⟩, ?_, rfl, rfl, rfl, hsm, fun h => ?_⟩
  · rw [right_ref _ hsm]; exact hr
  · have := congrArg In.op h
    simp only [inZero] at this
    omega
theorem says (s : Int) (h0 : 0 ≤ s) (h1 : s < 65536) (x : In) (h : subInst s = (x, true)) : Says s x := by
  rw [inst_doc s h0 h1] at h
  have hv : 0 ≤ s % 128 ∧ s % 128 < 128 := by omega
  have hl : 0 ≤ s % 8 ∧ s % 8 < 8 := by omega
  have ha := small_wide (s / 128 % 16) (by omega) (by omega)
  have hb := small_wide (s / 8 % 16) (by omega) (by omega)
  unfold docInst at h
  generalize wideZ (s / 128 % 16) = a at *
  generalize wideZ (s / 8 % 16) = b at *
  obtain ⟨ha1, ha2, ha3⟩ := ha
  obtain ⟨hb1, hb2, hb3⟩ := hb
  have hcase : s / 2048 = 1 ∨ s / 2048 = 2 ∨ s / 2048 = 3 ∨ s / 2048 = 4 ∨ s / 2048 = 5 ∨ s / 2048 = 6 ∨ s / 2048 = 7 ∨ s / 2048 = 8 ∨ s / 2048 = 9 ∨ (s / 2048 < 1 ∨ 9 < s / 2048) := by omega
  rcases hcase with e | e | e | e | e | e | e | e | e | e
  case inr.inr.inr.inr.inr.inr.inr.inr.inr =>
    have n : ∀ k, 1 ≤ k → k ≤ 9 → ¬ s / 2048 = k := by omega
    simp only [] at h
    iterate 9 (rw [if_neg (n _ (by decide) (by decide))] at h)
    exact absurd (congrArg Prod.snd h) (by simp)
  case' inr.inr.inl =>
    simp only [e, reduceIte, Int.reduceEq] at h
    by_cases hl0 : s % 8 = 0
    rotate_left
    · rw [if_neg hl0] at h
      exact absurd (congrArg Prod.snd h) (by simp)
    rw [if_pos hl0] at h
    obtain ⟨rfl, -⟩ := Prod.mk.inj h
    refine says_lit 9 a b 0 0 s (by omega) (by omega) (by omega) (by omega) (by omega) (by decide) ?_ ?_
  case' inr.inr.inr.inl =>
    simp only [e, reduceIte, Int.reduceEq] at h
    by_cases hl0 : s % 8 = 0
    rotate_left
    · rw [if_neg hl0] at h
      exact absurd (congrArg Prod.snd h) (by simp)
    rw [if_pos hl0] at h
    obtain ⟨rfl, -⟩ := Prod.mk.inj h
    refine says_lit 2 a a b 0 s (by omega) (by omega) (by omega) (by omega) (by omega) (by decide) ?_ ?_
  case' inr.inl =>
    simp only [e, reduceIte, Int.reduceEq] at h
    obtain ⟨rfl, -⟩ := Prod.mk.inj h
    obtain ⟨i, hi⟩ : ∃ i, (if 63 < s % 128 then s % 128 - 128 else s % 128) = i := ⟨_, rfl⟩
    have hi2 : -64 ≤ i ∧ i ≤ 63 ∧ i % 4294967296 % 128 = s % 128 := by
      rw [← hi]
      split <;> omega
    rw [hi]
    clear hi
    refine says_lit 7 a a 0 i s (by omega) (by omega) (by omega) (by omega) (by omega) (by decide) ?_ ?_
  case' inl => 
    simp only [e, reduceIte, Int.reduceEq] at h
    obtain ⟨rfl, -⟩ := Prod.mk.inj h
    refine says_lit 8 a 0 0 (s % 128) s (by omega) (by omega) (by omega) (by omega) (by omega) (by decide) ?_ ?_
  case' inr.inr.inr.inr.inl =>
    simp only [e, reduceIte, Int.reduceEq] at h
    obtain ⟨rfl, -⟩ := Prod.mk.inj h
    refine says_lit 21 a b 0 (4 * (s % 8)) s (by omega) (by omega) (by omega) (by omega) (by omega) (by decide) ?_ ?_
  case' inr.inr.inr.inr.inr.inl =>
    simp only [e, reduceIte, Int.reduceEq] at h
    obtain ⟨rfl, -⟩ := Prod.mk.inj h
    refine says_lit 24 0 a b (4 * (s % 8)) s (by omega) (by omega) (by omega) (by omega) (by omega) (by decide) ?_ ?_
  case' inr.inr.inr.inr.inr.inr.inl =>
    simp only [e, reduceIte, Int.reduceEq] at h
    obtain ⟨rfl, -⟩ := Prod.mk.inj h
    refine says_lit 23 a b 0 (s % 8) s (by omega) (by omega) (by omega) (by omega) (by omega) (by decide) ?_ ?_
  case' inr.inr.inr.inr.inr.inr.inr.inl =>
    simp only [e, reduceIte, Int.reduceEq] at h
    obtain ⟨rfl, -⟩ := Prod.mk.inj h
    refine says_lit 26 0 a b (s % 8) s (by omega) (by omega) (by omega) (by omega) (by omega) (by decide) ?_ ?_
  case' inr.inr.inr.inr.inr.inr.inr.inr.inl =>
    simp only [e, reduceIte, Int.reduceEq] at h
    obtain ⟨rfl, -⟩ := Prod.mk.inj h
    refine says_lit 13 0 a 0 (s % 128) s (by omega) (by omega) (by omega) (by omega) (by omega) (by decide) ?_ ?_
  all_goals first
    | (simp [byOp, srows, writeZ, wRegs, wStep, regZ, inZero, p11, p7, p3, p07, p03, p30]; omega)
    | (simp [refB, kindZ, kindL, refK, regsB, okK, condB, withinB, isK, inZero, scaleZ]; done)
    | (simp [refB, kindZ, kindL, refK, regsB, okK, condB, withinB, isK, inZero, scaleZ]; omega)
theorem of_says (s : Int) (h0 : 0 ≤ s) (h1 : s < 65536) (x : In) (h : subInst s = (x, true)) : subOf x = (s, true) := by
  have hs := (says s h0 h1 x h).write
  unfold subOf
  rw [if_pos hs.1, hs.2, h, if_pos rfl]
theorem subInst_none (s : Int) (h : (subInst s).2 = false) : subInst s = (inZero, false) := by
  unfold subInst at h ⊢
  by_cases h1 : (byCode (getZ s 11 5) srows).2 = true
  · rw [if_pos h1] at h ⊢
    by_cases h2 : getZ s 0 (readZ (byCode (getZ s 11 5) srows).1 s).2 = 0
    · rw [if_pos h2] at h
      exact absurd h (by simp)
    · rw [if_neg h2]
  · rw [if_neg h1]
theorem writeZ_u16 (r : SRow) (x : In) : 0 ≤ writeZ r x ∧ writeZ r x < 65536 := by
  unfold writeZ; omega
theorem inst_of (s : Int) (x : In) (h : subOf x = (s, true)) : 0 ≤ s ∧ s < 65536 ∧ subInst s = (x, true) := by
  unfold subOf at h
  by_cases h1 : (byOp x.op srows).2 = true
  · rw [if_pos h1] at h
    by_cases h2 : (subInst (writeZ (byOp x.op srows).1 x)).1 = x
    · rw [if_pos h2] at h
      obtain ⟨rfl, -⟩ := Prod.mk.inj h
      refine ⟨(writeZ_u16 _ _).1, (writeZ_u16 _ _).2, ?_⟩
      cases h3 : (subInst (writeZ (byOp x.op srows).1 x)).2 with
      | true => exact Prod.ext h2 h3
      | false =>
        rw [subInst_none _ h3] at h2
        obtain rfl : inZero = x := h2
        exact absurd h1 (by decide)
    · rw [if_neg h2] at h
      exact absurd (congrArg Prod.snd h) (by simp)
  · rw [if_neg h1] at h
    exact absurd (congrArg Prod.snd h) (by simp)
theorem of_none (x : In) (h : (subOf x).2 = false) : subOf x = (0, false) := by
  unfold subOf at h ⊢
  by_cases h1 : (byOp x.op srows).2 = true
  · rw [if_pos h1] at h ⊢
    by_cases h2 : (subInst (writeZ (byOp x.op srows).1 x)).1 = x
    · rw [if_pos h2] at h
      exact absurd h (by simp)
    · rw [if_neg h2]
  · rw [if_neg h1]
theorem subInst_small (s : Int) (h0 : 0 ≤ s) (h1 : s < 65536) : (subInst s).1.small := by
  cases h : (subInst s).2 with
  | true => exact (says s h0 h1 _ (Prod.ext rfl h)).small
  | false => rw [subInst_none s h]; exact small_of (by decide)
end
section
set_option maxRecDepth 100000
open Go.ChangeShapes Go.WideShapes Go.ChangeAt Go.RowKit Go.Sort BigFrame

def SRow.cells (r : SRow) : List Value := [.int .u8 r.code, .int .u8 r.op, .int .u8 r.m1, .int .u8 r.m2, .int .i64 r.n, .int .i64 r.scale, .bool r.sg]
abbrev SRow.val (r : SRow) : Value := .agg #[.int .u8 r.code, .int .u8 r.op, .int .u8 r.m1, .int .u8 r.m2, .int .i64 r.n, .int .i64 r.scale, .bool r.sg]
def srowsV : List Value := srows.flatMap SRow.cells
def SRows (W : World) : Prop := ∃ T fr, W.heap[1]? = some (.cells srowsV.toArray T fr)
theorem SRows.made {W w : World} (h : SRows W) (hm : Made W w) : SRows w := let ⟨T, fr, h⟩ := h; ⟨T, fr, hm.heap h⟩
abbrev SRowAt (w : World) (b : Nat) (r : SRow) : Prop := w.heap[b]? = some (.cells r.cells.toArray 179 (0, 0))
theorem srow_cells {w : World} {b : Nat} {r : SRow} (h : SRowAt w b r) :
    w.cell? ⟨b, 0, none⟩ = some (.int .u8 r.code) ∧ w.cell? ⟨b, 1, none⟩ = some (.int .u8 r.op) ∧ w.cell? ⟨b, 2, none⟩ = some (.int .u8 r.m1) ∧ w.cell? ⟨b, 3, none⟩ = some (.int .u8 r.m2) ∧
    w.cell? ⟨b, 4, none⟩ = some (.int .i64 r.n) ∧ w.cell? ⟨b, 5, none⟩ = some (.int .i64 r.scale) ∧ w.cell? ⟨b, 6, none⟩ = some (.bool r.sg) :=
  ⟨cell_of_lit h 0, cell_of_lit h 1, cell_of_lit h 2, cell_of_lit h 3, cell_of_lit h 4, cell_of_lit h 5, cell_of_lit h 6⟩
abbrev set7 (w : World) (b : Nat) (v0 v1 v2 v3 v4 v5 v6 : Value) : World :=
  ((((((w.setCell ⟨b, 0, none⟩ v0).setCell ⟨b, 1, none⟩ v1).setCell ⟨b, 2, none⟩ v2).setCell ⟨b, 3, none⟩ v3).setCell ⟨b, 4, none⟩ v4).setCell ⟨b, 5, none⟩ v5).setCell ⟨b, 6, none⟩ v6
theorem made_set7 {W w : World} {b : Nat} (h : Made W w) (hb : W.heap.size ≤ b) (v0 v1 v2 v3 v4 v5 v6 : Value) : Made W (set7 w b v0 v1 v2 v3 v4 v5 v6) :=
  ((((((h.setCell hb v0).setCell hb v1).setCell hb v2).setCell hb v3).setCell hb v4).setCell hb v5).setCell hb v6
theorem srow_index (k : Nat) (hk : k < srows.length) : ∀ w, (Instr.index 216 (.agg srowsV.toArray) (.int .i64 (k : Int))).run Tryz.prog w = .ok (srows[k]'hk).val w := by
  have hk' : k < 9 := hk
  have hc : k = 0 ∨ k = 1 ∨ k = 2 ∨ k = 3 ∨ k = 4 ∨ k = 5 ∨ k = 6 ∨ k = 7 ∨ k = 8 := by omega
  rcases hc with rfl | rfl | rfl | rfl | rfl | rfl | rfl | rfl | rfl <;> exact fun _ => by kernel_rfl
theorem byOp_drop (op : Int) (k : Nat) (hk : k < srows.length) : byOp op (srows.drop k) = if (srows[k]'hk).op = op then (srows[k]'hk, true) else byOp op (srows.drop (k + 1)) := by
  rw [List.drop_eq_getElem_cons hk]; rfl
theorem byCode_drop (c : Int) (k : Nat) (hk : k < srows.length) : byCode c (srows.drop k) = if (srows[k]'hk).code = c then (srows[k]'hk, true) else byCode c (srows.drop (k + 1)) := by
  rw [List.drop_eq_getElem_cons hk]; rfl
/-- What the numbers of a row are. -/
structure SRow.ok (r : SRow) : Prop where
  code : 0 ≤ r.code ∧ r.code < 32
  op : 0 ≤ r.op ∧ r.op < 256
  m1 : 0 ≤ r.m1 ∧ r.m1 ≤ 4
  m2 : 0 ≤ r.m2 ∧ r.m2 ≤ 4
  n : 0 ≤ r.n ∧ r.n ≤ 7
  scale : r.scale = 0 ∨ r.scale = 2
theorem srows_ok : ∀ r ∈ srows, r.ok := by
  intro r hr
  simp only [srows, List.mem_cons, List.not_mem_nil, or_false] at hr
  rcases hr with rfl | rfl | rfl | rfl | rfl | rfl | rfl | rfl | rfl <;> exact ⟨by decide, by decide, by decide, by decide, by decide, by decide⟩
theorem sNone_ok : sNone.ok := ⟨by decide, by decide, by decide, by decide, by decide, by decide⟩
theorem byOp_ok (op : Int) : ∀ l : List SRow, (∀ r ∈ l, r.ok) → (byOp op l).1.ok
  | [], _ => sNone_ok
  | r :: l, h => by
    unfold byOp
    split
    · exact h r (by simp)
    · exact byOp_ok op l fun q hq => h q (by simp [hq])
theorem byCode_ok (c : Int) : ∀ l : List SRow, (∀ r ∈ l, r.ok) → (byCode c l).1.ok
  | [], _ => sNone_ok
  | r :: l, h => by
    unfold byCode
    split
    · exact h r (by simp)
    · exact byCode_ok c l fun q hq => h q (by simp [hq])
/-- What the loops keep. -/
structure Seeks (W : World) (b : Nat) (wr : World) : Prop where
  made : Made W wr
  res : SRowAt wr b sNone
theorem Seeks.more {W wr : World} {b : Nat} (h : Seeks W b wr) (o : Obj) : Seeks W b (wr.alloc o) := by
  have hm := (Made.refl wr).alloc (Nat.le_refl _) o
  exact ⟨Made.trans h.made hm, Made.heap hm h.res⟩
section
attribute [local irreducible] World.cell?
set_option maxRecDepth 100000 in
set_option maxHeartbeats 1000000 in
theorem rowOfOp_any (W : World) (hR : SRows W) (op : Int) : Makes Tryz.prog W 141 #[.int .u8 op] (.tuple #[(byOp op srows).1.val, .bool (byOp op srows).2]) := by
  intro w hm
  obtain ⟨T, fr, hb⟩ := hR.made hm
  have hz := hm.size
  obtain ⟨R, hRR⟩ : ∃ r, r = byOp op srows := ⟨_, rfl⟩
  rewrite [← hRR]
  have HR := Lib.hid hRR
  have H0 := Lib.hid (show Seeks W w.heap.size (w.alloc (.cells sNone.cells.toArray 179)) from ⟨hm.alloc hz _, heap_alloc_new w _⟩)
  have hz1 : 1 < w.heap.size := heap_lt hb
  have hb1 : (w.alloc (.cells sNone.cells.toArray 179)).heap[1]? = _ := (Below.heap_alloc w _ _ hz1).trans hb
  clear hRR hm
  go_enter Tryz.func141, Tryz.ntmps141
  go_wp2_with (refine wpList_load_row rfl 216 _ rfl 1 rfl T _ fr _ hb1 Tryz.underlying216 rfl (by kernel_rfl) ?_)
  clear hb hb1
  go_loopw [7] (fun i wr => ∃ k : Nat, k ≤ srows.length ∧ i = .int .i64 k ∧ byOp op (srows.drop k) = R ∧ Seeks W w.heap.size wr) (fun i _ => 9 - (intOf i).toNat)
  case atStart => exact ⟨0, Nat.zero_le _, rfl, HR.out.symm, H0.out⟩
  case round =>
    obtain ⟨k, hk, rfl, hat, hs⟩ := hrel
    have HS := Lib.hid hs
    by_cases hlt : k < srows.length
    · have hx := srow_index k hlt
      have hd := byOp_drop op k hlt
      have hk9 : k < 9 := hlt
      rewrite [hat] at hd
      generalize srows[k]'hlt = r at *
      have HD := Lib.hid hd
      clear hd hat hs hk
      by_cases ho : r.op = op
      · have e1 : R = (r, true) := by rw [HD.out, if_pos ho]
        have E1 := Lib.hid e1
        have hq : (r.op == op) = true := beq_iff_eq.2 ho
        clear e1 ho
        obtain rfl := E1.out
        obtain ⟨q0, q1, q2, q3, q4, q5, q6⟩ := srow_cells HS.out.res
        have fq := free_of_lit HS.out.res
        have hlq := heap_lt HS.out.res
        go_wp2
        refine bodyPost_ret (v := .tuple #[r.val, .bool true]) (by simp [results, Tryz.results141, go_sem, q0, q1, q2, q3, q4, q5, q6, sNone, hlq]) rfl ?_
        exact ⟨rfl, (made_set7 HS.out.made hz _ _ _ _ _ _ _).alloc (made_set7 HS.out.made hz _ _ _ _ _ _ _).size _⟩
      · have e1 : byOp op (srows.drop (k + 1)) = R := by rw [HD.out, if_neg ho]
        have E1 := Lib.hid e1
        have hq : (r.op == op) = false := beq_eq_false_iff_ne.2 ho
        clear e1 ho
        go_wp2
        go_roundw
        case rel => exact ⟨k + 1, hlt, by go_num, E1.out, HS.out.more _⟩
        case measure => simp [intOf]; omega
    · have hk9 : srows.length = k := by omega
      subst hk9
      rewrite [List.drop_length] at hat
      have e1 : R = (sNone, false) := hat.symm
      have E1 := Lib.hid e1
      obtain ⟨q0, q1, q2, q3, q4, q5, q6⟩ := srow_cells HS.out.res
      have fq := free_of_lit HS.out.res
      have hlq := heap_lt HS.out.res
      have MZ := Lib.hid HS.out.made
      have hl9 : srows.length = 9 := rfl
      clear hat e1 hs hk hlt
      obtain rfl := E1.out
      go_wp2
      refine bodyPost_ret (v := .tuple #[sNone.val, .bool false]) (by simp [results, Tryz.results141, go_sem, q0, q1, q2, q3, q4, q5, q6, sNone]) rfl ?_
      exact ⟨rfl, made_set7 MZ.out hz _ _ _ _ _ _ _⟩
set_option maxRecDepth 100000 in
set_option maxHeartbeats 1000000 in
theorem rowOfCode_any (W : World) (hR : SRows W) (op : Int) : Makes Tryz.prog W 146 #[.int .u32 op] (.tuple #[(byCode op srows).1.val, .bool (byCode op srows).2]) := by
  intro w hm
  obtain ⟨T, fr, hb⟩ := hR.made hm
  have hz := hm.size
  obtain ⟨R, hRR⟩ : ∃ r, r = byCode op srows := ⟨_, rfl⟩
  rewrite [← hRR]
  have HR := Lib.hid hRR
  have H0 := Lib.hid (show Seeks W w.heap.size (w.alloc (.cells sNone.cells.toArray 179)) from ⟨hm.alloc hz _, heap_alloc_new w _⟩)
  have hz1 : 1 < w.heap.size := heap_lt hb
  have hb1 : (w.alloc (.cells sNone.cells.toArray 179)).heap[1]? = _ := (Below.heap_alloc w _ _ hz1).trans hb
  clear hRR hm
  go_enter Tryz.func146, Tryz.ntmps146
  go_wp2_with (refine wpList_load_row rfl 216 _ rfl 1 rfl T _ fr _ hb1 Tryz.underlying216 rfl (by kernel_rfl) ?_)
  clear hb hb1
  go_loopw [7] (fun i wr => ∃ k : Nat, k ≤ srows.length ∧ i = .int .i64 k ∧ byCode op (srows.drop k) = R ∧ Seeks W w.heap.size wr) (fun i _ => 9 - (intOf i).toNat)
  case atStart => exact ⟨0, Nat.zero_le _, rfl, HR.out.symm, H0.out⟩
  case round =>
    obtain ⟨k, hk, rfl, hat, hs⟩ := hrel
    have HS := Lib.hid hs
    by_cases hlt : k < srows.length
    · have hx := srow_index k hlt
      have hd := byCode_drop op k hlt
      have hk9 : k < 9 := hlt
      rewrite [hat] at hd
      have hok := (srows_ok _ (List.getElem_mem hlt)).code
      generalize srows[k]'hlt = r at *
      obtain ⟨c0, c1⟩ := hok
      have HD := Lib.hid hd
      clear hd hat hs hk
      by_cases ho : r.code = op
      · have e1 : R = (r, true) := by rw [HD.out, if_pos ho]
        have E1 := Lib.hid e1
        have hq : (r.code == op) = true := beq_iff_eq.2 ho
        clear e1 ho
        obtain rfl := E1.out
        obtain ⟨q0, q1, q2, q3, q4, q5, q6⟩ := srow_cells HS.out.res
        have fq := free_of_lit HS.out.res
        have hlq := heap_lt HS.out.res
        go_wp2
        refine bodyPost_ret (v := .tuple #[r.val, .bool true]) (by simp [results, Tryz.results146, go_sem, q0, q1, q2, q3, q4, q5, q6, sNone, hlq]) rfl ?_
        exact ⟨rfl, (made_set7 HS.out.made hz _ _ _ _ _ _ _).alloc (made_set7 HS.out.made hz _ _ _ _ _ _ _).size _⟩
      · have e1 : byCode op (srows.drop (k + 1)) = R := by rw [HD.out, if_neg ho]
        have E1 := Lib.hid e1
        have hq : (r.code == op) = false := beq_eq_false_iff_ne.2 ho
        clear e1 ho
        go_wp2
        go_roundw
        case rel => exact ⟨k + 1, hlt, by go_num, E1.out, HS.out.more _⟩
        case measure => simp [intOf]; omega
    · have hk9 : srows.length = k := by omega
      subst hk9
      rewrite [List.drop_length] at hat
      have e1 : R = (sNone, false) := hat.symm
      have E1 := Lib.hid e1
      obtain ⟨q0, q1, q2, q3, q4, q5, q6⟩ := srow_cells HS.out.res
      have fq := free_of_lit HS.out.res
      have hlq := heap_lt HS.out.res
      have MZ := Lib.hid HS.out.made
      have hl9 : srows.length = 9 := rfl
      clear hat e1 hs hk hlt
      obtain rfl := E1.out
      go_wp2
      refine bodyPost_ret (v := .tuple #[sNone.val, .bool false]) (by simp [results, Tryz.results146, go_sem, q0, q1, q2, q3, q4, q5, q6, sNone]) rfl ?_
      exact ⟨rfl, made_set7 MZ.out hz _ _ _ _ _ _ _⟩
end
end
section
set_option maxRecDepth 100000
open Go.ChangeShapes Go.WideShapes Go.ChangeAt Go.RowKit Go.Sort BigFrame

theorem toSmall_any (v : Int) (h0 : 0 ≤ v) (h1 : v < 256) : Still Tryz.prog 170 #[.int .u8 v] (.int .u32 (smallZ v)) := by
  intro w
  by_cases h : v < 8
  · have e : smallZ v = v := if_pos h
    have E := Lib.hid e
    clear e
    go_enter Tryz.func170, Tryz.ntmps170
    go_wp2
    go_ret
    exact ⟨ret_int (by rw [E.out]), rfl⟩
  · have e : smallZ v = (v - 8) % 256 := if_neg h
    have E := Lib.hid e
    have hd : decide (v < 8) = false := decide_eq_false h
    clear e
    go_enter Tryz.func170, Tryz.ntmps170
    go_wp2
    go_ret
    exact ⟨ret_int (by rw [E.out]; omega), rfl⟩
theorem widen_any (v : Int) (h0 : 0 ≤ v) (h1 : v < 16) : Still Tryz.prog 174 #[.int .u32 v] (.int .u8 (wideZ v)) := by
  intro w
  by_cases h : v < 8
  · have e : wideZ v = v := if_pos h
    have E := Lib.hid e
    clear e
    go_enter Tryz.func174, Tryz.ntmps174
    go_wp2
    go_ret
    exact ⟨ret_int (by rw [E.out]), rfl⟩
  · have e : wideZ v = v + 8 := if_neg h
    have E := Lib.hid e
    have hd : decide (v < 8) = false := decide_eq_false h
    clear e
    go_enter Tryz.func174, Tryz.ntmps174
    go_wp2
    go_ret
    exact ⟨ret_int (by rw [E.out]), rfl⟩
set_option maxRecDepth 100000 in
set_option maxHeartbeats 1000000 in
theorem register_any (W : World) (x : In) (m : Int) : Makes Tryz.prog W 171 #[x.val, .int .u8 m] (.int .u8 (regZ x m)) := by
  intro w hm
  have hz := hm.size
  by_cases h2 : m = 2
  · subst h2
    go_enter Tryz.func171, Tryz.ntmps171
    go_wp2
    go_ret
    exact ⟨rfl, hm.alloc hz _⟩
  · have k2 : (m == 2) = false := beq_eq_false_iff_ne.2 h2
    by_cases h3 : m = 3
    · subst h3
      go_enter Tryz.func171, Tryz.ntmps171
      go_wp2
      go_ret
      exact ⟨rfl, hm.alloc hz _⟩
    · have k3 : (m == 3) = false := beq_eq_false_iff_ne.2 h3
      have e : regZ x m = x.d := by unfold regZ; rw [if_neg h2, if_neg h3]
      have E := Lib.hid e
      clear e
      go_enter Tryz.func171, Tryz.ntmps171
      go_wp2
      go_ret
      exact ⟨ret_int E.out.symm, hm.alloc hz _⟩
/-- The world behind setRegister. -/
def setSubW (w : World) (b : Nat) (m v : Int) : World :=
  if m = 1 then w.setCell ⟨b, 1, none⟩ (.int .u8 v) else if m = 2 then w.setCell ⟨b, 2, none⟩ (.int .u8 v) else if m = 3 then w.setCell ⟨b, 3, none⟩ (.int .u8 v)
  else if m = 4 then (w.setCell ⟨b, 1, none⟩ (.int .u8 v)).setCell ⟨b, 2, none⟩ (.int .u8 v) else w
set_option maxRecDepth 100000 in
set_option maxHeartbeats 1000000 in
theorem setRegister_any (w : World) (b : Nat) (x : In) (m v : Int) (hx : InAt w b x) (hm : 0 ≤ m ∧ m ≤ 4) :
    Calls Tryz.prog 173 #[.pointer (some ⟨b, 0, none⟩), .int .u8 m, .int .u8 v] w fun e w' => e = .returned (.tuple #[]) ∧ w' = setSubW w b m v := by
  obtain ⟨c0, c1, c2, c3, c4, c5, c6, c7, c8, c9, c10⟩ := in_cells hx
  have fz := free_of_lit hx
  have hlt := heap_lt hx
  clear hx
  have hc : m = 0 ∨ m = 1 ∨ m = 2 ∨ m = 3 ∨ m = 4 := by omega
  rcases hc with rfl | rfl | rfl | rfl | rfl
  all_goals
    go_enter Tryz.func173, Tryz.ntmps173
    go_wp2
    go_returns
    exact ⟨rfl, rfl⟩
theorem Took.then {w w' w'' : World} {b : Nat} {x y : In} (h : Took w w' b x) (k : Took w' w'' b y) : Took w w'' b y :=
  ⟨k.at_, fun i hi => (k.far i hi).trans (h.far i hi), k.size.trans h.size, fun W hW hm => k.made W hW (h.made W hW hm)⟩
theorem setSub_took {w : World} {b : Nat} {x : In} (m v : Int) (hx : InAt w b x) (hm : 0 ≤ m ∧ m ≤ 4) : Took w (setSubW w b m v) b (setR x m v) := by
  have hc : m = 0 ∨ m = 1 ∨ m = 2 ∨ m = 3 ∨ m = 4 := by omega
  rcases hc with rfl | rfl | rfl | rfl | rfl
  · exact ⟨hx, fun _ _ => rfl, rfl, fun _ _ h => h⟩
  · exact took_set hx rfl
  · exact took_set hx rfl
  · exact took_set hx rfl
  · have h1 : Took w (w.setCell ⟨b, 1, none⟩ (.int .u8 v)) b { x with d := v } := took_set hx rfl
    have h2 : Took (w.setCell ⟨b, 1, none⟩ (.int .u8 v)) ((w.setCell ⟨b, 1, none⟩ (.int .u8 v)).setCell ⟨b, 2, none⟩ (.int .u8 v)) b { x with d := v, s := v } := took_set h1.at_ rfl
    exact Took.then h1 h2
end
section
set_option maxRecDepth 100000
open Go.ChangeShapes Go.WideShapes Go.ChangeAt Go.RowKit Go.Sort BigFrame

/-- A row and an instruction in memory. -/
structure Both (W : World) (b : Nat) (r : SRow) (x : In) (w : World) : Prop where
  made : Made W w
  row : SRowAt w b r
  in_ : InAt w (b + 1) x
theorem Both.next {W w w' : World} {b : Nat} {r : SRow} {x : In} (h : Both W b r x w) (hm : Made w w') : Both W b r x w' := ⟨Made.trans h.made hm, Made.heap hm h.row, Made.heap hm h.in_⟩
theorem both_of {W w : World} (hm : Made W w) (r : SRow) (x : In) : Both W w.heap.size r x ((w.alloc (.cells r.cells.toArray 179)).alloc (.cells x.cells.toArray 40)) := by
  have h1 := (Made.refl w).alloc (Nat.le_refl _) (.cells r.cells.toArray 179)
  have hr : SRowAt (w.alloc (.cells r.cells.toArray 179)) w.heap.size r := heap_alloc_new w _
  exact ⟨(hm.alloc hm.size _).alloc (hm.alloc hm.size _).size _, (Below.heap_alloc _ _ _ (heap_lt hr)).trans hr, heap_at (by simp)⟩
def wAt (r : SRow) (x : In) : Nat → Int × Int
  | 0 => (11, putZ 0 11 5 r.code)
  | 1 => wStep x (11, putZ 0 11 5 r.code) r.m1
  | _ => wRegs r x
theorem regZ_u8 {x : In} (h : x.small) (m : Int) : 0 ≤ regZ x m ∧ regZ x m < 256 := by
  have h1 := h.s0; have h2 := h.s1; have h3 := h.t0; have h4 := h.t1; have h5 := h.d0; have h6 := h.d1
  unfold regZ
  split
  · omega
  · split <;> omega
theorem smallZ_u32 (v : Int) (h0 : 0 ≤ v) : isU32 (smallZ v) := by
  unfold smallZ isU32
  split <;> omega
theorem step_u32 (x : In) (p1 p2 m : Int) (h : isU32 p2) (hx : x.small) : isU32 (wStep x (p1, p2) m).2 := by
  unfold wStep
  split
  · exact h
  · exact putZ_u32 _ _ _ _ h (smallZ_u32 _ (regZ_u8 hx m).1)
section
attribute [local irreducible] World.cell?
set_option maxRecDepth 100000 in
set_option maxHeartbeats 4000000 in
theorem write_any (W : World) (r : SRow) (hr : r.ok) (x : In) (hx : x.small) : Makes Tryz.prog W 142 #[r.val, x.val] (.int .u16 (writeZ r x)) := by
  intro w hm
  have HX := Lib.hid hx
  have HK := Lib.hid (both_of hm r x)
  have hi0 := hx.imm0
  have hi1 := hx.imm1
  have i0 : ∀ w, (Instr.index 177 (.agg #[.int .u8 r.m1, .int .u8 r.m2]) (.int .i64 0)).run Tryz.prog w = .ok (.int .u8 r.m1) w := fun _ => by kernel_rfl
  have i1 : ∀ w, (Instr.index 177 (.agg #[.int .u8 r.m1, .int .u8 r.m2]) (.int .i64 1)).run Tryz.prog w = .ok (.int .u8 r.m2) w := fun _ => by kernel_rfl
  obtain ⟨⟨c0, c1⟩, -, hm1, hm2, ⟨n0, n1⟩, hsc⟩ := hr
  have hput0 := Lib.hid (put_any 0 11 5 r.code ⟨by decide, by decide⟩ ⟨c0, by omega⟩ ⟨by decide, by decide⟩)
  have hu0 := putZ_u32 0 11 5 r.code ⟨by decide, by decide⟩ ⟨c0, by omega⟩
  have hW : writeZ r x = putZ (wAt r x 2).2 ((wAt r x 2).1 - r.n) r.n (x.imm / 2 ^ r.scale.toNat % 4294967296) % 65536 := rfl
  have HW := Lib.hid hW
  have hA0 : wAt r x 0 = (11, putZ 0 11 5 r.code) := rfl
  have hA1 : wAt r x 1 = wStep x (wAt r x 0) r.m1 := rfl
  have hA2 : wAt r x 2 = wStep x (wAt r x 1) r.m2 := rfl
  have A1 := Lib.hid hA1
  have A2 := Lib.hid hA2
  have A0 := Lib.hid hA0
  clear hx hm hW hA1 hA2 hA0
  generalize wAt r x = at_ at *
  go_enter Tryz.func142, Tryz.ntmps142
  go_upto_region 1 with (fail)
  refine name_world (fun v => Both W w.heap.size r x v) HK.out ?_
  intro v hv
  have KV := Lib.hid hv
  obtain ⟨q0, q1, q2, q3, q4, q5, q6⟩ := srow_cells hv.row
  have hl0 := heap_lt hv.row
  clear hv
  go_wp2_with (fail)
  refine (hput0.out _).mono ?_
  rintro e z ⟨rfl, rfl⟩
  go_wp2_with (fail)
  go_loopw [5, 6, 16] (fun lz wz i wr => ∃ (k : Nat) (p1 p2 : Int), k ≤ 2 ∧ i = .int .i64 k ∧ lz = .int .i64 p1 ∧ wz = .int .u32 p2 ∧ at_ k = (p1, p2) ∧ 11 - 4 * (k : Int) ≤ p1 ∧ p1 ≤ 11 ∧ isU32 p2 ∧ Made v wr) (fun _ _ i _ => 2 - (intOf i).toNat)
  case atStart => exact ⟨0, 11, _, by omega, rfl, rfl, rfl, A0.out, by decide, by decide, hu0, Made.refl v⟩
  case round =>
    obtain ⟨k, p1, p2, hk, rfl, rfl, rfl, hat, hlo, hhi, hu, hwr⟩ := hrel
    have MW := Lib.hid hwr
    have hk' : k = 0 ∨ k = 1 ∨ k = 2 := by omega
    clear hk hwr q0 q1 q2 q3 q4 q5 q6
    have KR := Lib.hid (KV.out.next MW.out)
    obtain ⟨q0, q1, q2, q3, q4, q5, q6⟩ := srow_cells KR.out.row
    obtain ⟨a0, a1, a2, a3, a4, a5, a6, a7, a8, a9, a10⟩ := in_cells KR.out.in_
    have hlr := heap_lt KR.out.row
    have hli := heap_lt KR.out.in_
    rcases hk' with rfl | rfl | rfl
    · have hg := Lib.hid (register_any wr x r.m1)
      have hrg := regZ_u8 HX.out r.m1
      have hst := step_u32 x p1 p2 r.m1 hu HX.out
      have hnx : at_ 1 = wStep x (p1, p2) r.m1 := by rw [A1.out, hat]
      by_cases h0 : r.m1 = 0
      · have e1 : at_ 1 = (p1, p2) := by rw [hnx]; exact if_pos h0
        have E1 := Lib.hid e1
        have hn : (r.m1 != 0) = false := by simpa using h0
        clear hnx hst h0 hat e1
        go_wp2
        go_roundw
        case rel => exact ⟨1, _, _, by omega, rfl, rfl, rfl, E1.out, by omega, hhi, hu, MW.out⟩
        case measure => simp [intOf]
      · have e1 : at_ 1 = (p1 - 4, putZ p2 (p1 - 4) 4 (smallZ (regZ x r.m1))) := by rw [hnx]; exact if_neg h0
        have E1 := Lib.hid e1
        have e2 : isU32 (putZ p2 (p1 - 4) 4 (smallZ (regZ x r.m1))) := by
          have := hst
          unfold wStep at this
          rwa [if_neg h0] at this
        have E2 := Lib.hid e2
        have hn : (r.m1 != 0) = true := by simpa using h0
        clear hnx hst h0 hat e1 e2
        generalize regZ x r.m1 = g at *
        have hsm := Lib.hid (toSmall_any g hrg.1 hrg.2)
        have hput := Lib.hid (put_any p2 (p1 - 4) 4 (smallZ g) hu (smallZ_u32 g hrg.1) ⟨by decide, by decide⟩)
        generalize smallZ g = sg at *
        go_wp2_with (fail)
        refine (hg.out _ (Made.refl _)).mono ?_
        rintro e z ⟨rfl, hz⟩
        have MZ := Lib.hid (Made.trans MW.out hz)
        clear hz
        go_wp2_with (fail)
        refine (hsm.out _).mono ?_
        rintro e z1 ⟨rfl, rfl⟩
        go_wp2_with (fail)
        refine (hput.out _).mono ?_
        rintro e z2 ⟨rfl, rfl⟩
        go_wp2
        go_roundw
        case rel => exact ⟨1, _, _, by omega, rfl, rfl, rfl, E1.out, by omega, by omega, E2.out, MZ.out⟩
        case measure => simp [intOf]
    · have hg := Lib.hid (register_any wr x r.m2)
      have hrg := regZ_u8 HX.out r.m2
      have hst := step_u32 x p1 p2 r.m2 hu HX.out
      have hnx : at_ 2 = wStep x (p1, p2) r.m2 := by rw [A2.out, hat]
      by_cases h0 : r.m2 = 0
      · have e1 : at_ 2 = (p1, p2) := by rw [hnx]; exact if_pos h0
        have E1 := Lib.hid e1
        have hn : (r.m2 != 0) = false := by simpa using h0
        clear hnx hst h0 hat e1
        go_wp2
        go_roundw
        case rel => exact ⟨2, _, _, by omega, rfl, rfl, rfl, E1.out, by omega, hhi, hu, MW.out⟩
        case measure => simp [intOf]
      · have e1 : at_ 2 = (p1 - 4, putZ p2 (p1 - 4) 4 (smallZ (regZ x r.m2))) := by rw [hnx]; exact if_neg h0
        have E1 := Lib.hid e1
        have e2 : isU32 (putZ p2 (p1 - 4) 4 (smallZ (regZ x r.m2))) := by
          have := hst
          unfold wStep at this
          rwa [if_neg h0] at this
        have E2 := Lib.hid e2
        have hn : (r.m2 != 0) = true := by simpa using h0
        clear hnx hst h0 hat e1 e2
        generalize regZ x r.m2 = g at *
        have hsm := Lib.hid (toSmall_any g hrg.1 hrg.2)
        have hput := Lib.hid (put_any p2 (p1 - 4) 4 (smallZ g) hu (smallZ_u32 g hrg.1) ⟨by decide, by decide⟩)
        generalize smallZ g = sg at *
        go_wp2_with (fail)
        refine (hg.out _ (Made.refl _)).mono ?_
        rintro e z ⟨rfl, hz⟩
        have MZ := Lib.hid (Made.trans MW.out hz)
        clear hz
        go_wp2_with (fail)
        refine (hsm.out _).mono ?_
        rintro e z1 ⟨rfl, rfl⟩
        go_wp2_with (fail)
        refine (hput.out _).mono ?_
        rintro e z2 ⟨rfl, rfl⟩
        go_wp2
        go_roundw
        case rel => exact ⟨2, _, _, by omega, rfl, rfl, rfl, E1.out, by omega, by omega, E2.out, MZ.out⟩
        case measure => simp [intOf]
    · have e1 : writeZ r x = putZ p2 (p1 - r.n) r.n (x.imm / 2 ^ r.scale.toNat % 4294967296) % 65536 := by rw [HW.out, hat]
      have E1 := Lib.hid e1
      have hv32 : ∀ v : Int, isU32 (v % 4294967296) := fun v => ⟨by omega, by omega⟩
      have hput := Lib.hid (put_any p2 (p1 - r.n) r.n (x.imm / 2 ^ r.scale.toNat % 4294967296) hu (hv32 _) ⟨by omega, by omega⟩)
      have hpu := putZ_u32 p2 (p1 - r.n) r.n (x.imm / 2 ^ r.scale.toNat % 4294967296) hu (hv32 _)
      clear hat e1 hv32
      generalize r.scale = sc at *
      rcases hsc with rfl | rfl
      · have t1 : x.imm / 2 ^ (0 : Int).toNat = x.imm := Int.ediv_one _
        rewrite [t1] at hput hpu E1
        generalize putZ p2 (p1 - r.n) r.n (x.imm % 4294967296) = pz at *
        go_upto_region 11 with (fail)
        go_quiet ((go_at_call 104; exact (hput.out.quiet.again _)))
        go_wp2
        go_ret
        exact ⟨ret_int E1.out.symm, below_drewN KR.out.made _⟩
      · have t1 : x.imm / 2 ^ (2 : Int).toNat = x.imm / 4 := rfl
        rewrite [t1] at hput hpu E1
        generalize putZ p2 (p1 - r.n) r.n (x.imm / 4 % 4294967296) = pz at *
        go_upto_region 11 with (fail)
        go_quiet ((go_at_call 104; exact (hput.out.quiet.again _)))
        go_wp2
        go_ret
        exact ⟨ret_int E1.out.symm, below_drewN KR.out.made _⟩
end
end
section
set_option maxRecDepth 100000
open Go.ChangeShapes Go.WideShapes Go.ChangeAt Go.RowKit Go.Sort BigFrame

def opIn (op : Int) : In := ⟨op, 0, 0, 0, 0, 0, 0, false, false, 0, 0⟩
def rAt (r : SRow) (w : Int) : Nat → Int × In
  | 0 => (11, (opIn r.op))
  | 1 => rStep w (11, (opIn r.op)) r.m1
  | _ => rRegs r w
abbrev set11b (w : World) (b : Nat) (v0 v1 v2 v3 v4 v5 v6 v7 v8 v9 v10 : Value) : World :=
  ((((((((((w.setCell ⟨b, 0, none⟩ v0).setCell ⟨b, 1, none⟩ v1).setCell ⟨b, 2, none⟩ v2).setCell ⟨b, 3, none⟩ v3).setCell ⟨b, 4, none⟩ v4).setCell ⟨b, 5, none⟩ v5).setCell ⟨b, 6, none⟩ v6).setCell ⟨b, 7, none⟩ v7).setCell ⟨b, 8, none⟩ v8).setCell ⟨b, 9, none⟩ v9).setCell ⟨b, 10, none⟩ v10
theorem made_set11b {W w : World} {b : Nat} (h : Made W w) (hb : W.heap.size ≤ b) (v0 v1 v2 v3 v4 v5 v6 v7 v8 v9 v10 : Value) : Made W (set11b w b v0 v1 v2 v3 v4 v5 v6 v7 v8 v9 v10) :=
  ((((((((((h.setCell hb v0).setCell hb v1).setCell hb v2).setCell hb v3).setCell hb v4).setCell hb v5).setCell hb v6).setCell hb v7).setCell hb v8).setCell hb v9).setCell hb v10
/-- The row, and the instruction that is read so far. -/
structure Reads7 (W : World) (b : Nat) (r : SRow) (y : In) (w : World) : Prop where
  made : Made W w
  row : SRowAt w b r
  in_ : InAt w (b + 1) y
theorem Reads7.next {W w w' : World} {b : Nat} {r : SRow} {x : In} (h : Reads7 W b r x w) (hm : Made w w') : Reads7 W b r x w' := ⟨Made.trans h.made hm, Made.heap hm h.row, Made.heap hm h.in_⟩
theorem reads7_of {W w : World} (hm : Made W w) (r : SRow) : Reads7 W w.heap.size r (opIn r.op) ((w.alloc (.cells r.cells.toArray 179)).alloc (.cells (opIn r.op).cells.toArray 40)) := by
  have hr : SRowAt (w.alloc (.cells r.cells.toArray 179)) w.heap.size r := heap_alloc_new w _
  exact ⟨(hm.alloc hm.size _).alloc (hm.alloc hm.size _).size _, (Below.heap_alloc _ _ _ (heap_lt hr)).trans hr, heap_at (by simp)⟩
theorem get4 (v : Int) (a : Int) (h : a = 7 ∨ a = 3) : 0 ≤ getZ v a 4 ∧ getZ v a 4 < 16 := by
  rcases h with rfl | rfl
  · rw [g7]; omega
  · rw [g3]; omega
theorem sextZ_bound (v n : Int) : -4294967296 ≤ sextZ v n ∧ sextZ v n < 4294967296 := by
  unfold sextZ
  by_cases h : 1 ≤ n ∧ n ≤ 32
  · rw [if_pos h]
    have h1 := pow_le_of n.toNat (by omega)
    have h2 := Int.emod_nonneg v (show (2 : Int) ^ n.toNat ≠ 0 by omega)
    have h3 := Int.emod_lt_of_pos v (show (0 : Int) < 2 ^ n.toNat by omega)
    split <;> omega
  · rw [if_neg h]; omega
section
attribute [local irreducible] World.cell?
set_option maxRecDepth 100000 in
set_option maxHeartbeats 4000000 in
theorem read_any (W : World) (r : SRow) (hr : r.ok) (wd : Int) (hw : isU32 wd) : Makes Tryz.prog W 147 #[r.val, .int .u32 wd] (.tuple #[(readZ r wd).1.val, .int .i64 (readZ r wd).2]) := by
  intro w hm
  have HK := Lib.hid (reads7_of hm r)
  have hzz := hm.size
  have i0 : ∀ w, (Instr.index 177 (.agg #[.int .u8 r.m1, .int .u8 r.m2]) (.int .i64 0)).run Tryz.prog w = .ok (.int .u8 r.m1) w := fun _ => by kernel_rfl
  have i1 : ∀ w, (Instr.index 177 (.agg #[.int .u8 r.m1, .int .u8 r.m2]) (.int .i64 1)).run Tryz.prog w = .ok (.int .u8 r.m2) w := fun _ => by kernel_rfl
  obtain ⟨-, -, hm1, hm2, ⟨n0, n1⟩, hsc⟩ := hr
  obtain ⟨R, hR⟩ : ∃ R, R = readZ r wd := ⟨_, rfl⟩
  have hW : R = ({ (rAt r wd 2).2 with imm := (if r.sg then sextZ (getZ wd ((rAt r wd 2).1 - r.n) r.n) r.n else getZ wd ((rAt r wd 2).1 - r.n) r.n) * 2 ^ r.scale.toNat }, (rAt r wd 2).1 - r.n) := hR
  rewrite [← hR]
  have HW := Lib.hid hW
  have hA0 : rAt r wd 0 = (11, (opIn r.op)) := rfl
  have hA1 : rAt r wd 1 = rStep wd (rAt r wd 0) r.m1 := rfl
  have hA2 : rAt r wd 2 = rStep wd (rAt r wd 1) r.m2 := rfl
  have A1 := Lib.hid hA1
  have A2 := Lib.hid hA2
  have A0 := Lib.hid hA0
  clear hm hW hA1 hA2 hA0 hR
  generalize rAt r wd = at_ at *
  go_enter Tryz.func147, Tryz.ntmps147
  go_upto_region 2 with (fail)
  refine name_world (fun v => Reads7 W w.heap.size r (opIn r.op) v) HK.out ?_
  intro v hv
  have KV := Lib.hid hv
  obtain ⟨q0, q1, q2, q3, q4, q5, q6⟩ := srow_cells hv.row
  have hl0 := heap_lt hv.row
  clear hv
  go_wp2_with (fail)
  go_loopw [5, 15] (fun lz i wr => ∃ (k : Nat) (p : Int) (y : In), k ≤ 2 ∧ i = .int .i64 k ∧ lz = .int .i64 p ∧ at_ k = (p, y) ∧ 11 - 4 * (k : Int) ≤ p ∧ (p = 11 ∨ p = 7 ∨ (p = 3 ∧ k = 2)) ∧ Reads7 W w.heap.size r y wr) (fun _ i _ => 2 - (intOf i).toNat)
  case atStart => exact ⟨0, 11, _, by omega, rfl, rfl, A0.out, by decide, .inl rfl, KV.out⟩
  case round =>
    obtain ⟨k, p, y, hk, rfl, rfl, hat, hlo, hpc, hwr⟩ := hrel
    have KR := Lib.hid hwr
    have hk' : k = 0 ∨ k = 1 ∨ k = 2 := by omega
    clear hk q0 q1 q2 q3 q4 q5 q6 hl0
    obtain ⟨q0, q1, q2, q3, q4, q5, q6⟩ := srow_cells hwr.row
    have hlr := heap_lt hwr.row
    have hli := heap_lt hwr.in_
    have hbn : ¬ (w.heap.size + 1 = w.heap.size) := by omega
    clear hwr
    rcases hk' with rfl | rfl | rfl
    · have hp4 : p - 4 = 7 ∨ p - 4 = 3 := by omega
      have hnx : at_ 1 = rStep wd (p, y) r.m1 := by rw [A1.out, hat]
      by_cases h0 : r.m1 = 0
      · have e1 : at_ 1 = (p, y) := by rw [hnx]; exact if_pos h0
        have E1 := Lib.hid e1
        have hn : (r.m1 != 0) = false := by simpa using h0
        have HPC := Lib.hid hpc
        clear hnx h0 hat e1 hp4 hpc
        go_wp2
        go_roundw
        case rel => exact ⟨1, _, _, by omega, rfl, rfl, E1.out, by omega, by have := HPC.out; omega, KR.out⟩
        case measure => simp [intOf]
      · have e1 : at_ 1 = (p - 4, setR y r.m1 (wideZ (getZ wd (p - 4) 4))) := by rw [hnx]; exact if_neg h0
        have E1 := Lib.hid e1
        have hn : (r.m1 != 0) = true := by simpa using h0
        have hgb := get4 wd (p - 4) hp4
        have hp11 : p ≤ 11 := by omega
        have HP4 := Lib.hid hp4
        have HPC := Lib.hid hpc
        clear hnx h0 hat e1 hp4 hpc
        have hget := Lib.hid (get_any wd (p - 4) 4 hw ⟨by decide, by decide⟩)
        generalize getZ wd (p - 4) 4 = g at *
        have hwi := Lib.hid (widen_any g hgb.1 hgb.2)
        generalize wideZ g = wg at *
        go_wp2_with (fail)
        refine (hget.out _).mono ?_
        rintro e z ⟨rfl, nd, hz⟩
        have KZ := Lib.hid (KR.out.next (hz ▸ below_drewN (Made.refl wr) nd))
        clear hz
        go_wp2_with (fail)
        refine (hwi.out _).mono ?_
        rintro e z1 ⟨rfl, rfl⟩
        go_wp2_with (fail)
        refine (setRegister_any _ (w.heap.size + 1) y r.m1 wg KZ.out.in_ hm1).mono ?_
        rintro e z2 ⟨rfl, hz2⟩
        have hT := hz2 ▸ setSub_took r.m1 wg KZ.out.in_ hm1
        have K2 := Lib.hid (show Reads7 W w.heap.size r (setR y r.m1 wg) z2 from ⟨hT.made W (by omega) KZ.out.made, (hT.far _ (by omega)).trans KZ.out.row, hT.at_⟩)
        clear hz2 hT
        go_wp2
        go_roundw
        case rel => exact ⟨1, _, _, by omega, rfl, rfl, E1.out, by omega, by have := HPC.out; omega, K2.out⟩
        case measure => simp [intOf]
    · have hp4 : p - 4 = 7 ∨ p - 4 = 3 := by omega
      have hnx : at_ 2 = rStep wd (p, y) r.m2 := by rw [A2.out, hat]
      by_cases h0 : r.m2 = 0
      · have e1 : at_ 2 = (p, y) := by rw [hnx]; exact if_pos h0
        have E1 := Lib.hid e1
        have hn : (r.m2 != 0) = false := by simpa using h0
        have HPC := Lib.hid hpc
        clear hnx h0 hat e1 hp4 hpc
        go_wp2
        go_roundw
        case rel => exact ⟨2, _, _, by omega, rfl, rfl, E1.out, by omega, by have := HPC.out; omega, KR.out⟩
        case measure => simp [intOf]
      · have e1 : at_ 2 = (p - 4, setR y r.m2 (wideZ (getZ wd (p - 4) 4))) := by rw [hnx]; exact if_neg h0
        have E1 := Lib.hid e1
        have hn : (r.m2 != 0) = true := by simpa using h0
        have hgb := get4 wd (p - 4) hp4
        have hp11 : p ≤ 11 := by omega
        have HP4 := Lib.hid hp4
        have HPC := Lib.hid hpc
        clear hnx h0 hat e1 hp4 hpc
        have hget := Lib.hid (get_any wd (p - 4) 4 hw ⟨by decide, by decide⟩)
        generalize getZ wd (p - 4) 4 = g at *
        have hwi := Lib.hid (widen_any g hgb.1 hgb.2)
        generalize wideZ g = wg at *
        go_wp2_with (fail)
        refine (hget.out _).mono ?_
        rintro e z ⟨rfl, nd, hz⟩
        have KZ := Lib.hid (KR.out.next (hz ▸ below_drewN (Made.refl wr) nd))
        clear hz
        go_wp2_with (fail)
        refine (hwi.out _).mono ?_
        rintro e z1 ⟨rfl, rfl⟩
        go_wp2_with (fail)
        refine (setRegister_any _ (w.heap.size + 1) y r.m2 wg KZ.out.in_ hm2).mono ?_
        rintro e z2 ⟨rfl, hz2⟩
        have hT := hz2 ▸ setSub_took r.m2 wg KZ.out.in_ hm2
        have K2 := Lib.hid (show Reads7 W w.heap.size r (setR y r.m2 wg) z2 from ⟨hT.made W (by omega) KZ.out.made, (hT.far _ (by omega)).trans KZ.out.row, hT.at_⟩)
        clear hz2 hT
        go_wp2
        go_roundw
        case rel => exact ⟨2, _, _, by omega, rfl, rfl, E1.out, by omega, by have := HPC.out; omega, K2.out⟩
        case measure => simp [intOf]
    · have e1 : R = ({ y with imm := (if r.sg then sextZ (getZ wd (p - r.n) r.n) r.n else getZ wd (p - r.n) r.n) * 2 ^ r.scale.toNat }, p - r.n) := by rw [HW.out, hat]
      have hget := Lib.hid (get_any wd (p - r.n) r.n hw ⟨by omega, by omega⟩)
      have hgu := getZ_u32 wd (p - r.n) r.n hw
      have hpl : 3 ≤ p := by omega
      have hph : p ≤ 11 := by omega
      have E1 := Lib.hid e1
      clear hat e1 hpc hlo
      generalize getZ wd (p - r.n) r.n = g at *
      have hsx := Lib.hid (sext_any g r.n hgu ⟨by omega, by omega⟩)
      have hsb := sextZ_bound g r.n
      generalize sextZ g r.n = sx at *
      obtain ⟨g0, g1⟩ := hgu
      obtain ⟨sx0, sx1⟩ := hsb
      rcases hsg : r.sg with _ | _
      all_goals rcases hsc with hsc | hsc
      · have e2 : R = ({ y with imm := g }, p - r.n) := by rw [E1.out, hsg, hsc, if_neg (by decide), show (2 : Int) ^ (0 : Int).toNat = 1 from rfl, Int.mul_one]
        have E2 := Lib.hid e2
        clear e2
        go_wp2_with (fail)
        refine (hget.out _).mono ?_
        rintro e z ⟨rfl, nd, hz⟩
        have KZ := Lib.hid (KR.out.next (hz ▸ below_drewN (Made.refl wr) nd))
        clear hz q0 q1 q2 q3 q4 q5 q6
        obtain ⟨q0, q1, q2, q3, q4, q5, q6⟩ := srow_cells KZ.out.row
        obtain ⟨a0, a1, a2, a3, a4, a5, a6, a7, a8, a9, a10⟩ := in_cells KZ.out.in_
        have fz := free_of_lit KZ.out.in_
        have hlz := heap_lt KZ.out.in_
        go_wp2
        obtain rfl := E2.out
        refine bodyPost_ret (v := .tuple #[In.val { y with imm := g }, .int .i64 (p - r.n)]) (by simp [results, Tryz.results147, go_sem, a0, a1, a2, a3, a4, a5, a6, a7, a8, a9, a10]) rfl ?_
        exact ⟨rfl, made_set11b (KZ.out.made.setCell (by show W.heap.size ≤ w.heap.size + 1; omega) _) (by omega) _ _ _ _ _ _ _ _ _ _ _⟩
      · have e2 : R = ({ y with imm := g * 4 }, p - r.n) := by rw [E1.out, hsg, hsc, if_neg (by decide), show (2 : Int) ^ (2 : Int).toNat = 4 from rfl]
        have E2 := Lib.hid e2
        clear e2
        go_wp2_with (fail)
        refine (hget.out _).mono ?_
        rintro e z ⟨rfl, nd, hz⟩
        have KZ := Lib.hid (KR.out.next (hz ▸ below_drewN (Made.refl wr) nd))
        clear hz q0 q1 q2 q3 q4 q5 q6
        obtain ⟨q0, q1, q2, q3, q4, q5, q6⟩ := srow_cells KZ.out.row
        obtain ⟨a0, a1, a2, a3, a4, a5, a6, a7, a8, a9, a10⟩ := in_cells KZ.out.in_
        have fz := free_of_lit KZ.out.in_
        have hlz := heap_lt KZ.out.in_
        go_wp2
        obtain rfl := E2.out
        refine bodyPost_ret (v := .tuple #[In.val { y with imm := g * 4 }, .int .i64 (p - r.n)]) (by simp [results, Tryz.results147, go_sem, a0, a1, a2, a3, a4, a5, a6, a7, a8, a9, a10]) rfl ?_
        exact ⟨rfl, made_set11b (KZ.out.made.setCell (by show W.heap.size ≤ w.heap.size + 1; omega) _) (by omega) _ _ _ _ _ _ _ _ _ _ _⟩
      · have e2 : R = ({ y with imm := sx }, p - r.n) := by rw [E1.out, hsg, hsc, if_pos rfl, show (2 : Int) ^ (0 : Int).toNat = 1 from rfl, Int.mul_one]
        have E2 := Lib.hid e2
        clear e2
        go_wp2_with (fail)
        refine (hget.out _).mono ?_
        rintro e z ⟨rfl, nd, hz⟩
        have KZ := Lib.hid (KR.out.next (hz ▸ below_drewN (Made.refl wr) nd))
        clear hz q0 q1 q2 q3 q4 q5 q6
        obtain ⟨q0, q1, q2, q3, q4, q5, q6⟩ := srow_cells KZ.out.row
        go_wp2_with (fail)
        refine (hsx.out _).mono ?_
        rintro e z1 ⟨rfl, nd1, hz1⟩
        have K1 := Lib.hid (KZ.out.next (hz1 ▸ below_drewN (Made.refl z) nd1))
        clear hz1 q0 q1 q2 q3 q4 q5 q6
        obtain ⟨q0, q1, q2, q3, q4, q5, q6⟩ := srow_cells K1.out.row
        obtain ⟨a0, a1, a2, a3, a4, a5, a6, a7, a8, a9, a10⟩ := in_cells K1.out.in_
        have fz := free_of_lit K1.out.in_
        have hlz := heap_lt K1.out.in_
        go_wp2
        obtain rfl := E2.out
        refine bodyPost_ret (v := .tuple #[In.val { y with imm := sx }, .int .i64 (p - r.n)]) (by simp [results, Tryz.results147, go_sem, a0, a1, a2, a3, a4, a5, a6, a7, a8, a9, a10]) rfl ?_
        exact ⟨rfl, made_set11b (K1.out.made.setCell (by show W.heap.size ≤ w.heap.size + 1; omega) _) (by omega) _ _ _ _ _ _ _ _ _ _ _⟩
      · have e2 : R = ({ y with imm := sx * 4 }, p - r.n) := by rw [E1.out, hsg, hsc, if_pos rfl, show (2 : Int) ^ (2 : Int).toNat = 4 from rfl]
        have E2 := Lib.hid e2
        clear e2
        go_wp2_with (fail)
        refine (hget.out _).mono ?_
        rintro e z ⟨rfl, nd, hz⟩
        have KZ := Lib.hid (KR.out.next (hz ▸ below_drewN (Made.refl wr) nd))
        clear hz q0 q1 q2 q3 q4 q5 q6
        obtain ⟨q0, q1, q2, q3, q4, q5, q6⟩ := srow_cells KZ.out.row
        go_wp2_with (fail)
        refine (hsx.out _).mono ?_
        rintro e z1 ⟨rfl, nd1, hz1⟩
        have K1 := Lib.hid (KZ.out.next (hz1 ▸ below_drewN (Made.refl z) nd1))
        clear hz1 q0 q1 q2 q3 q4 q5 q6
        obtain ⟨q0, q1, q2, q3, q4, q5, q6⟩ := srow_cells K1.out.row
        obtain ⟨a0, a1, a2, a3, a4, a5, a6, a7, a8, a9, a10⟩ := in_cells K1.out.in_
        have fz := free_of_lit K1.out.in_
        have hlz := heap_lt K1.out.in_
        go_wp2
        obtain rfl := E2.out
        refine bodyPost_ret (v := .tuple #[In.val { y with imm := sx * 4 }, .int .i64 (p - r.n)]) (by simp [results, Tryz.results147, go_sem, a0, a1, a2, a3, a4, a5, a6, a7, a8, a9, a10]) rfl ?_
        exact ⟨rfl, made_set11b (K1.out.made.setCell (by show W.heap.size ≤ w.heap.size + 1; omega) _) (by omega) _ _ _ _ _ _ _ _ _ _ _⟩
end
end
section
set_option maxRecDepth 100000
open Go.ChangeShapes Go.WideShapes Go.ChangeAt Go.RowKit Go.Sort BigFrame

/-- The result's block and the row's. -/
structure ResRow (W : World) (b c : Nat) (r : SRow) (w : World) : Prop where
  made : Made W w
  res : InAt w b inZero
  row : SRowAt w c r
theorem ResRow.next {W w w' : World} {b c : Nat} {r : SRow} (h : ResRow W b c r w) (hm : Made w w') : ResRow W b c r w' := ⟨Made.trans h.made hm, Made.heap hm h.res, Made.heap hm h.row⟩
/-- The result's block and the instruction's. -/
structure ResIn (W : World) (b c : Nat) (y : In) (w : World) : Prop where
  made : Made W w
  res : InAt w b inZero
  in_ : InAt w c y
theorem ResIn.next {W w w' : World} {b c : Nat} {y : In} (h : ResIn W b c y w) (hm : Made w w') : ResIn W b c y w' := ⟨Made.trans h.made hm, Made.heap hm h.res, Made.heap hm h.in_⟩
theorem rStep_low (wd p m : Int) (y : In) (h : -20 ≤ p ∧ p ≤ 20) : -24 ≤ (rStep wd (p, y) m).1 ∧ (rStep wd (p, y) m).1 ≤ 20 := by
  unfold rStep
  split <;> simp only [] <;> omega
theorem readZ_low (r : SRow) (wd : Int) (h : r.ok) : isI (readZ r wd).2 := by
  have h1 : 7 ≤ (rStep wd (11, opIn r.op) r.m1).1 ∧ (rStep wd (11, opIn r.op) r.m1).1 ≤ 11 := by
    unfold rStep; split <;> simp only [] <;> omega
  have h2 : (readZ r wd).2 = (rStep wd (rStep wd (11, opIn r.op) r.m1) r.m2).1 - r.n := rfl
  have h3 : -24 ≤ (rStep wd (rStep wd (11, opIn r.op) r.m1) r.m2).1 ∧ (rStep wd (rStep wd (11, opIn r.op) r.m1) r.m2).1 ≤ 20 := rStep_low wd (rStep wd (11, opIn r.op) r.m1).1 r.m2 (rStep wd (11, opIn r.op) r.m1).2 (by omega)
  have h4 := h.n
  rw [h2]
  exact ⟨by omega, by omega⟩
section
attribute [local irreducible] World.cell?
set_option maxRecDepth 100000 in
set_option maxHeartbeats 4000000 in
theorem subInst_any (W : World) (hR : SRows W) (s : Int) (h0 : 0 ≤ s) (h1 : s < 65536) : Makes Tryz.prog W 108 #[.int .u16 s] (.tuple #[(subInst s).1.val, .bool (subInst s).2]) := by
  intro w hm
  have hz := hm.size
  have hu : isU32 s := ⟨h0, by omega⟩
  have hget := Lib.hid (get_any s 11 5 hu ⟨by decide, by decide⟩)
  have hres : InAt (w.alloc (.cells inZero.cells.toArray 40)) w.heap.size inZero := heap_alloc_new w _
  have M0 := Lib.hid (And.intro (hm.alloc hz (.cells inZero.cells.toArray 40)) hres)
  obtain ⟨R, hRR⟩ : ∃ R, R = subInst s := ⟨_, rfl⟩
  rewrite [← hRR]
  unfold subInst at hRR
  have hok := byCode_ok (getZ s 11 5) srows srows_ok
  have hrow := Lib.hid (fun v (hv : SRows v) => rowOfCode_any v hv (getZ s 11 5) v (Made.refl v))
  generalize getZ s 11 5 = c at *
  generalize hb : byCode c srows = rb at *
  obtain ⟨r, ok⟩ := rb
  have HRR := Lib.hid hRR
  have HOK := Lib.hid hok
  clear hRR hok hb hres hm
  go_enter Tryz.func108, Tryz.ntmps108
  go_wp2_with (fail)
  refine (hget.out _).mono ?_
  rintro e z ⟨rfl, nd, hz1⟩
  have KZ := Lib.hid (And.intro (hz1 ▸ below_drewN M0.out.1 nd : Made W z) (Made.heap (hz1 ▸ below_drewN (Made.refl _) nd) M0.out.2))
  clear hz1 M0
  go_wp2_with (fail)
  refine (hrow.out z (hR.made KZ.out.1)).mono ?_
  rintro e z1 ⟨rfl, hz1⟩
  have KR : ResRow W w.heap.size z1.heap.size r (z1.alloc (.cells r.cells.toArray 179)) := by
    have h2 := (Made.refl z1).alloc (Nat.le_refl _) (.cells r.cells.toArray 179)
    exact ⟨Made.trans KZ.out.1 (Made.trans hz1 h2), Made.heap h2 (Made.heap hz1 KZ.out.2), heap_alloc_new z1 _⟩
  have K1 := Lib.hid KR
  clear hz1 KR KZ
  go_upto_region 3 with (fail)
  refine name_world (fun v => ResRow W w.heap.size z1.heap.size r v) K1.out ?_
  intro v hv
  have KV := Lib.hid hv
  obtain ⟨q0, q1, q2, q3, q4, q5, q6⟩ := srow_cells hv.row
  obtain ⟨a0, a1, a2, a3, a4, a5, a6, a7, a8, a9, a10⟩ := in_cells hv.res
  have fz := free_of_lit hv.res
  have hl := heap_lt hv.res
  have hl2 := heap_lt hv.row
  clear hv K1
  cases ok with
  | false =>
    have e1 : R = (inZero, false) := HRR.out
    have E1 := Lib.hid e1
    obtain rfl := E1.out
    clear e1
    go_wp2
    refine bodyPost_ret (v := .tuple #[inZero.val, .bool false]) (by simp [results, Tryz.results108, go_sem, a0, a1, a2, a3, a4, a5, a6, a7, a8, a9, a10, inZero]) rfl ?_
    exact ⟨rfl, made_set11b KV.out.made hz _ _ _ _ _ _ _ _ _ _ _⟩
  | true =>
    have e1 : R = if getZ s 0 (readZ r s).2 = 0 then ((readZ r s).1, true) else (inZero, false) := HRR.out
    have hrd := Lib.hid (read_any v r HOK.out s hu v (Made.refl v))
    have hlo := readZ_low r s HOK.out
    generalize readZ r s = yl at *
    obtain ⟨y, low⟩ := yl
    have hg2 := Lib.hid (get_any s 0 low hu hlo)
    simp only [] at e1
    generalize getZ s 0 low = g at *
    have E1 := Lib.hid e1
    clear e1
    go_wp2_with (fail)
    refine hrd.out.mono ?_
    rintro e z2 ⟨rfl, hz2⟩
    have KI : ResIn W w.heap.size z2.heap.size y (z2.alloc (.cells y.cells.toArray 40)) := by
      have h2 := (Made.refl z2).alloc (Nat.le_refl _) (.cells y.cells.toArray 40)
      exact ⟨Made.trans KV.out.made (Made.trans hz2 h2), Made.heap h2 (Made.heap hz2 KV.out.res), heap_alloc_new z2 _⟩
    have K2 := Lib.hid KI
    clear KI hz2 q0 q1 q2 q3 q4 q5 q6 a0 a1 a2 a3 a4 a5 a6 a7 a8 a9 a10 fz hl hl2
    go_upto_region 6 with (fail)
    refine name_world (fun v => ResIn W w.heap.size z2.heap.size y v) K2.out ?_
    intro v2 hv
    have KV2 := Lib.hid hv
    clear hv K2
    go_wp2_with (fail)
    refine (hg2.out _).mono ?_
    rintro e z3 ⟨rfl, nd3, hz3⟩
    have K3 := Lib.hid (KV2.out.next (hz3 ▸ below_drewN (Made.refl v2) nd3))
    clear hz3
    obtain ⟨b0, b1, b2, b3, b4, b5, b6, b7, b8, b9, b10⟩ := in_cells K3.out.in_
    obtain ⟨a0, a1, a2, a3, a4, a5, a6, a7, a8, a9, a10⟩ := in_cells K3.out.res
    have fz := free_of_lit K3.out.res
    have hl := heap_lt K3.out.res
    have hl2 := heap_lt K3.out.in_
    by_cases hg0 : g = 0
    · have e2 : R = (y, true) := by rw [E1.out, if_pos hg0]
      have E2 := Lib.hid e2
      have hn : (g != 0) = false := by simpa using hg0
      obtain rfl := E2.out
      clear e2 hg0
      go_wp2
      refine bodyPost_ret (v := .tuple #[y.val, .bool true]) (by simp [results, Tryz.results108, go_sem, a0, a1, a2, a3, a4, a5, a6, a7, a8, a9, a10]) rfl ?_
      exact ⟨rfl, made_set11b K3.out.made hz _ _ _ _ _ _ _ _ _ _ _⟩
    · have e2 : R = (inZero, false) := by rw [E1.out, if_neg hg0]
      have E2 := Lib.hid e2
      have hn : (g != 0) = true := by simpa using hg0
      obtain rfl := E2.out
      clear e2 hg0
      go_wp2
      refine bodyPost_ret (v := .tuple #[inZero.val, .bool false]) (by simp [results, Tryz.results108, go_sem, a0, a1, a2, a3, a4, a5, a6, a7, a8, a9, a10, inZero]) rfl ?_
      exact ⟨rfl, made_set11b K3.out.made hz _ _ _ _ _ _ _ _ _ _ _⟩
end
set_option maxRecDepth 100000 in
set_option maxHeartbeats 1000000 in
theorem run_in_neql (y z : In) (w : World) : (binOp .neq 40 y.val z.val).run Tryz.prog w = .ok (.bool (!decide (y = z))) w := by
  obtain ⟨y0, y1, y2, y3, y4, y5, y6, y7, y8, y9, y10⟩ := y
  obtain ⟨z0, z1, z2, z3, z4, z5, z6, z7, z8, z9, z10⟩ := z
  by_cases h0 : y0 = z0
  rotate_left
  · simp [go_sem, h0]
  subst h0
  by_cases h1 : y1 = z1
  rotate_left
  · simp [go_sem, h1]
  subst h1
  by_cases h2 : y2 = z2
  rotate_left
  · simp [go_sem, h2]
  subst h2
  by_cases h3 : y3 = z3
  rotate_left
  · simp [go_sem, h3]
  subst h3
  by_cases h4 : y4 = z4
  rotate_left
  · simp [go_sem, h4]
  subst h4
  by_cases h5 : y5 = z5
  rotate_left
  · simp [go_sem, h5]
  subst h5
  by_cases h6 : y6 = z6
  rotate_left
  · simp [go_sem, h6]
  subst h6
  by_cases h7 : y7 = z7
  rotate_left
  · simp [go_sem, h7]
  subst h7
  by_cases h8 : y8 = z8
  rotate_left
  · simp [go_sem, h8]
  subst h8
  by_cases h9 : y9 = z9
  rotate_left
  · simp [go_sem, h9]
  subst h9
  by_cases h10 : y10 = z10
  rotate_left
  · simp [go_sem, h10]
  subst h10
  simp [go_sem]
/-- The row's block and the instruction's. -/
structure RowIn (W : World) (b c : Nat) (x : In) (r : SRow) (w : World) : Prop where
  made : Made W w
  in_ : InAt w b x
  row : SRowAt w c r
theorem RowIn.next {W w w' : World} {b c : Nat} {x : In} {r : SRow} (h : RowIn W b c x r w) (hm : Made w w') : RowIn W b c x r w' := ⟨Made.trans h.made hm, Made.heap hm h.in_, Made.heap hm h.row⟩
/-- Two instructions. -/
structure TwoIn (W : World) (b c : Nat) (x y : In) (w : World) : Prop where
  made : Made W w
  in_ : InAt w b x
  out_ : InAt w c y
theorem TwoIn.next {W w w' : World} {b c : Nat} {x y : In} (h : TwoIn W b c x y w) (hm : Made w w') : TwoIn W b c x y w' := ⟨Made.trans h.made hm, Made.heap hm h.in_, Made.heap hm h.out_⟩
section
attribute [local irreducible] World.cell?
set_option maxRecDepth 100000 in
set_option maxHeartbeats 4000000 in
theorem subOf_any (W : World) (hR : SRows W) (x : In) (hx : x.small) : Makes Tryz.prog W 100 #[x.val] (.tuple #[.int .u16 (subOf x).1, .bool (subOf x).2]) := by
  intro w hm
  have hz := hm.size
  have hin : InAt (w.alloc (.cells x.cells.toArray 40)) w.heap.size x := heap_alloc_new w _
  have K0 := Lib.hid (And.intro (hm.alloc hz (.cells x.cells.toArray 40)) hin)
  obtain ⟨R, hRR⟩ : ∃ R, R = subOf x := ⟨_, rfl⟩
  rewrite [← hRR]
  unfold subOf at hRR
  have hok := byOp_ok x.op srows srows_ok
  have hrow := Lib.hid (fun v (hv : SRows v) => rowOfOp_any v hv x.op v (Made.refl v))
  generalize byOp x.op srows = rb at *
  obtain ⟨r, ok⟩ := rb
  have HX := Lib.hid hx
  have HRR := Lib.hid hRR
  have HOK := Lib.hid hok
  clear hRR hok hm hin hx
  go_enter Tryz.func100, Tryz.ntmps100
  go_upto_region 1 with (fail)
  refine name_world (fun v => Made W v ∧ InAt v w.heap.size x) K0.out ?_
  rintro v ⟨hv, hi⟩
  have KV := Lib.hid (And.intro hv hi)
  obtain ⟨a0, a1, a2, a3, a4, a5, a6, a7, a8, a9, a10⟩ := in_cells hi
  have hl := heap_lt hi
  clear hv hi K0
  go_wp2_with (fail)
  refine (hrow.out v (hR.made KV.out.1)).mono ?_
  rintro e z1 ⟨rfl, hz1⟩
  have K1 := Lib.hid (show RowIn W w.heap.size z1.heap.size x r (z1.alloc (.cells r.cells.toArray 179)) from
    have h2 := (Made.refl z1).alloc (Nat.le_refl _) (.cells r.cells.toArray 179)
    ⟨Made.trans KV.out.1 (Made.trans hz1 h2), Made.heap h2 (Made.heap hz1 KV.out.2), heap_alloc_new z1 _⟩)
  clear hz1 a0 a1 a2 a3 a4 a5 a6 a7 a8 a9 a10 hl
  go_upto_region 2 with (fail)
  refine name_world (fun v => RowIn W w.heap.size z1.heap.size x r v) K1.out ?_
  intro v1 hv
  have KV1 := Lib.hid hv
  obtain ⟨q0, q1, q2, q3, q4, q5, q6⟩ := srow_cells hv.row
  obtain ⟨a0, a1, a2, a3, a4, a5, a6, a7, a8, a9, a10⟩ := in_cells hv.in_
  have hl := heap_lt hv.in_
  have hl2 := heap_lt hv.row
  clear hv K1 KV
  cases ok with
  | false =>
    have e1 : R = (0, false) := HRR.out
    have E1 := Lib.hid e1
    obtain rfl := E1.out
    clear e1
    go_wp2
    go_ret2
    exact ⟨rfl, KV1.out.made⟩
  | true =>
    have e1 : R = if (subInst (writeZ r x)).1 = x then (writeZ r x, true) else (0, false) := HRR.out
    have hwr := Lib.hid (write_any v1 r HOK.out x HX.out v1 (Made.refl v1))
    have hwb := writeZ_u16 r x
    generalize writeZ r x = s at *
    have hins := Lib.hid (fun v (hv : SRows v) => subInst_any v hv s hwb.1 hwb.2 v (Made.refl v))
    generalize subInst s = yo at *
    obtain ⟨y, o⟩ := yo
    have E1 := Lib.hid e1
    clear e1
    go_wp2_with (fail)
    refine hwr.out.mono ?_
    rintro e z2 ⟨rfl, hz2⟩
    have K2 := Lib.hid (KV1.out.next hz2)
    clear hz2 q0 q1 q2 q3 q4 q5 q6 a0 a1 a2 a3 a4 a5 a6 a7 a8 a9 a10 hl hl2
    go_wp2_with (fail)
    refine (hins.out z2 (hR.made K2.out.made)).mono ?_
    rintro e z3 ⟨rfl, hz3⟩
    have K3 := Lib.hid (show TwoIn W w.heap.size z3.heap.size x y (z3.alloc (.cells y.cells.toArray 40)) from
      have h2 := (Made.refl z3).alloc (Nat.le_refl _) (.cells y.cells.toArray 40)
      ⟨Made.trans K2.out.made (Made.trans hz3 h2), Made.heap h2 (Made.heap hz3 K2.out.in_), heap_alloc_new z3 _⟩)
    clear hz3
    go_upto_region 6 with (fail)
    refine name_world (fun v => TwoIn W w.heap.size z3.heap.size x y v) K3.out ?_
    intro v3 hv
    have KV3 := Lib.hid hv
    obtain ⟨a0, a1, a2, a3, a4, a5, a6, a7, a8, a9, a10⟩ := in_cells hv.in_
    obtain ⟨b0, b1, b2, b3, b4, b5, b6, b7, b8, b9, b10⟩ := in_cells hv.out_
    have hl := heap_lt hv.in_
    have hl2 := heap_lt hv.out_
    have hop := fun w => run_in_neql y x w
    clear hv K3
    by_cases hyx : y = x
    · have e2 : R = (s, true) := by rw [E1.out, if_pos hyx]
      have E2 := Lib.hid e2
      have hd : decide (y = x) = true := decide_eq_true hyx
      obtain rfl := E2.out
      clear e2 hyx
      go_wp2
      go_ret2
      exact ⟨rfl, KV3.out.made⟩
    · have e2 : R = (0, false) := by rw [E1.out, if_neg hyx]
      have E2 := Lib.hid e2
      have hd : decide (y = x) = false := decide_eq_false hyx
      obtain rfl := E2.out
      clear e2 hyx
      go_wp2
      go_ret2
      exact ⟨rfl, KV3.out.made⟩
end
end
end Go.Proofs.YtanjmoiepmadhaaGreatDoor
