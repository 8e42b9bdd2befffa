/- The document's form of a right instruction, kind by kind, is the table's; no condition but that each part lies in its Go type. · A right instruction whose parts turn one at a time: right just if its kind has the field, or nothing has turned; the values are those that the law of the turn draws. -/
import Derived.Test.YtnfmlmamgkpocaaGreatDoorGInst
namespace Go.Proofs.YtnfmlmamgkpocaaGreatDoor
section

def kindL : List Int := [0, 17, 1, 1, 1, 1, 1, 2, 3, 4, 5, 5, 5, 6, 7, 8, 8, 8, 9, 9, 9, 10, 10, 10, 11, 11, 11, 12, 13, 14, 15, 16]
def kindZ (op : Int) : Int := kindL.getD op.toNat 0
def scaleZ (op : Int) : Int := if op = 21 ∨ op = 24 then 4 else if op = 22 ∨ op = 25 then 2 else 1
def condB (x : In) : Bool := decide (x.mode ≤ 4) && decide (x.pred ≤ 3) && (decide (0 < x.mode) || decide (x.pred = 0))
/-- top is 2 ^ (n - 1). -/
def withinB (x : In) (top sc : Int) : Bool :=
  if x.ext then decide (-2147483648 ≤ x.imm) && decide (x.imm ≤ 2147483647) else decide (x.imm % sc = 0) && decide (-top ≤ x.imm / sc) && decide (x.imm / sc < top)
def aimB (v : Int) : Bool := decide (0 ≤ v) && decide (v ≤ 4294967292) && decide (v % 4 = 0)
/-- An instruction of a kind, with all for which the kind has no field struck. -/
def isK : Nat → In → In
  | 1, x => { inZero with op := x.op, mode := x.mode, pred := x.pred, d := x.d, s := x.s, t := x.t }
  | 2, x => { inZero with op := x.op, d := x.d, s := x.s, imm := x.imm, ext := x.ext }
  | 3, x => { inZero with op := x.op, mode := x.mode, pred := x.pred, d := x.d, imm := x.imm, ext := x.ext }
  | 4, x => { inZero with op := x.op, mode := x.mode, pred := x.pred, d := x.d, s := x.s }
  | 5, x => { inZero with op := x.op, d := x.d, s := x.s, t := x.t }
  | 6, x => { inZero with op := x.op, d := x.d, s := x.s, imm := x.imm, ext := x.ext }
  | 7, x => { inZero with op := x.op, d := x.d, pred := x.pred, s := x.s, t := x.t }
  | 8, x => { inZero with op := x.op, d := x.d, s := x.s, imm := x.imm }
  | 9, x => { inZero with op := x.op, d := x.d, s := x.s, t := x.t }
  | 10, x => { inZero with op := x.op, d := x.d, s := x.s, imm := x.imm, ext := x.ext }
  | 11, x => { inZero with op := x.op, s := x.s, t := x.t, new := x.new, imm := x.imm, ext := x.ext }
  | 12, x => { inZero with op := x.op, mode := x.mode, pred := x.pred, imm := x.imm, ext := x.ext }
  | 13, x => { inZero with op := x.op, mode := x.mode, pred := x.pred, s := x.s }
  | 14, x => { inZero with op := x.op, imm := x.imm, ext := x.ext }
  | 15, x => { inZero with op := x.op, n := x.n, imm := x.imm, ext := x.ext, count := x.count }
  | 16, x => { inZero with op := x.op, n := x.n, imm := x.imm, ext := x.ext, s := x.s }
  | _, x => { inZero with op := x.op }
def regsB (x : In) : Bool := decide (x.d < 32) && decide (x.s < 32) && decide (x.t < 32)
def okK : Nat → In → Bool
  | 1, x => condB x
  | 2, x => withinB x 8192 1
  | 3, x => condB x && withinB x 8192 1
  | 4, x => condB x
  | 5, x => decide (x.d < 4)
  | 6, x => decide (x.d < 4) && withinB x 8192 1
  | 7, x => decide (x.pred < 4)
  | 8, x => decide (0 ≤ x.imm) && decide (x.imm < 32)
  | 10, x => withinB x 2048 (scaleZ x.op)
  | 11, x => withinB x 2048 (scaleZ x.op)
  | 12, x => condB x && aimB x.imm
  | 13, x => condB x
  | 14, x => aimB x.imm
  | 15, x => decide (x.n < 2) && aimB x.imm && decide (x.count < 2048)
  | 16, x => decide (x.n < 2) && aimB x.imm
  | _, _ => true
def refK (k : Nat) (x : In) : Bool := regsB x && okK k x && decide (isK k x = x)
def refB (x : In) : Bool := decide (kindZ x.op ≠ 0) && refK (kindZ x.op).toNat x

set_option maxRecDepth 100000 in
set_option maxHeartbeats 2000000 in
theorem form_1 (x : In) (h : x.small) : validB x [fMode, fPred, fD, fS, fT] = refK 1 x := by
  have h1 := h.mode0
  have h2 := h.pred0
  have h3 := h.d0
  have h4 := h.s0
  have h5 := h.t0
  have h6 := h.n0
  have h7 := h.count0
  rw [Bool.eq_iff_iff]
  unfold refK okK
  obtain ⟨xo, xd, xs, xt, xn, xp, xm, xw, xe, xc, xi⟩ := x
  simp only [] at h1 h2 h3 h4 h5 h6 h7
  cases xw <;> cases xe <;> simp [validB, validFrom, hasB, inRangeB, takeV, takeR, dropExt, fMode, fPred, fD, fS, fT, fitsB, inZero, regsB, condB, isK] <;> omega
set_option maxRecDepth 100000 in
set_option maxHeartbeats 2000000 in
theorem form_2 (x : In) (h : x.small) : validB x [fD, fS, fI14] = refK 2 x := by
  have h1 := h.mode0
  have h2 := h.pred0
  have h3 := h.d0
  have h4 := h.s0
  have h5 := h.t0
  have h6 := h.n0
  have h7 := h.count0
  rw [Bool.eq_iff_iff]
  unfold refK okK
  obtain ⟨xo, xd, xs, xt, xn, xp, xm, xw, xe, xc, xi⟩ := x
  simp only [] at h1 h2 h3 h4 h5 h6 h7
  cases xw <;> cases xe <;> simp [validB, validFrom, hasB, inRangeB, takeV, takeR, dropExt, fD, fS, fI14, fitsB, inZero, regsB, withinB, isK] <;> omega
set_option maxRecDepth 100000 in
set_option maxHeartbeats 2000000 in
theorem form_3 (x : In) (h : x.small) : validB x [fMode, fPred, fD, fI14] = refK 3 x := by
  have h1 := h.mode0
  have h2 := h.pred0
  have h3 := h.d0
  have h4 := h.s0
  have h5 := h.t0
  have h6 := h.n0
  have h7 := h.count0
  rw [Bool.eq_iff_iff]
  unfold refK okK
  obtain ⟨xo, xd, xs, xt, xn, xp, xm, xw, xe, xc, xi⟩ := x
  simp only [] at h1 h2 h3 h4 h5 h6 h7
  cases xw <;> cases xe <;> simp [validB, validFrom, hasB, inRangeB, takeV, takeR, dropExt, fMode, fPred, fD, fI14, fitsB, inZero, regsB, condB, withinB, isK] <;> omega
set_option maxRecDepth 100000 in
set_option maxHeartbeats 2000000 in
theorem form_4 (x : In) (h : x.small) : validB x [fMode, fPred, fD, fS] = refK 4 x := by
  have h1 := h.mode0
  have h2 := h.pred0
  have h3 := h.d0
  have h4 := h.s0
  have h5 := h.t0
  have h6 := h.n0
  have h7 := h.count0
  rw [Bool.eq_iff_iff]
  unfold refK okK
  obtain ⟨xo, xd, xs, xt, xn, xp, xm, xw, xe, xc, xi⟩ := x
  simp only [] at h1 h2 h3 h4 h5 h6 h7
  cases xw <;> cases xe <;> simp [validB, validFrom, hasB, inRangeB, takeV, takeR, dropExt, fMode, fPred, fD, fS, fitsB, inZero, regsB, condB, isK] <;> omega
set_option maxRecDepth 100000 in
set_option maxHeartbeats 2000000 in
theorem form_5 (x : In) (h : x.small) : validB x [fDP, fS, fT] = refK 5 x := by
  have h1 := h.mode0
  have h2 := h.pred0
  have h3 := h.d0
  have h4 := h.s0
  have h5 := h.t0
  have h6 := h.n0
  have h7 := h.count0
  rw [Bool.eq_iff_iff]
  unfold refK okK
  obtain ⟨xo, xd, xs, xt, xn, xp, xm, xw, xe, xc, xi⟩ := x
  simp only [] at h1 h2 h3 h4 h5 h6 h7
  cases xw <;> cases xe <;> simp [validB, validFrom, hasB, inRangeB, takeV, takeR, dropExt, fDP, fS, fT, fitsB, inZero, regsB, isK] <;> omega
set_option maxRecDepth 100000 in
set_option maxHeartbeats 2000000 in
theorem form_6 (x : In) (h : x.small) : validB x [fDP, fS, fI14] = refK 6 x := by
  have h1 := h.mode0
  have h2 := h.pred0
  have h3 := h.d0
  have h4 := h.s0
  have h5 := h.t0
  have h6 := h.n0
  have h7 := h.count0
  rw [Bool.eq_iff_iff]
  unfold refK okK
  obtain ⟨xo, xd, xs, xt, xn, xp, xm, xw, xe, xc, xi⟩ := x
  simp only [] at h1 h2 h3 h4 h5 h6 h7
  cases xw <;> cases xe <;> simp [validB, validFrom, hasB, inRangeB, takeV, takeR, dropExt, fDP, fS, fI14, fitsB, inZero, regsB, withinB, isK] <;> omega
set_option maxRecDepth 100000 in
set_option maxHeartbeats 2000000 in
theorem form_7 (x : In) (h : x.small) : validB x [fD, fPred, fS, fT] = refK 7 x := by
  have h1 := h.mode0
  have h2 := h.pred0
  have h3 := h.d0
  have h4 := h.s0
  have h5 := h.t0
  have h6 := h.n0
  have h7 := h.count0
  rw [Bool.eq_iff_iff]
  unfold refK okK
  obtain ⟨xo, xd, xs, xt, xn, xp, xm, xw, xe, xc, xi⟩ := x
  simp only [] at h1 h2 h3 h4 h5 h6 h7
  cases xw <;> cases xe <;> simp [validB, validFrom, hasB, inRangeB, takeV, takeR, dropExt, fD, fPred, fS, fT, fitsB, inZero, regsB, isK] <;> omega
set_option maxRecDepth 100000 in
set_option maxHeartbeats 2000000 in
theorem form_8 (x : In) (h : x.small) : validB x [fD, fS, fU5] = refK 8 x := by
  have h1 := h.mode0
  have h2 := h.pred0
  have h3 := h.d0
  have h4 := h.s0
  have h5 := h.t0
  have h6 := h.n0
  have h7 := h.count0
  rw [Bool.eq_iff_iff]
  unfold refK okK
  obtain ⟨xo, xd, xs, xt, xn, xp, xm, xw, xe, xc, xi⟩ := x
  simp only [] at h1 h2 h3 h4 h5 h6 h7
  cases xw <;> cases xe <;> simp [validB, validFrom, hasB, inRangeB, takeV, takeR, dropExt, fD, fS, fU5, fitsB, inZero, regsB, isK] <;> omega
set_option maxRecDepth 100000 in
set_option maxHeartbeats 2000000 in
theorem form_9 (x : In) (h : x.small) : validB x [fD, fS, fT] = refK 9 x := by
  have h1 := h.mode0
  have h2 := h.pred0
  have h3 := h.d0
  have h4 := h.s0
  have h5 := h.t0
  have h6 := h.n0
  have h7 := h.count0
  rw [Bool.eq_iff_iff]
  unfold refK okK
  obtain ⟨xo, xd, xs, xt, xn, xp, xm, xw, xe, xc, xi⟩ := x
  simp only [] at h1 h2 h3 h4 h5 h6 h7
  cases xw <;> cases xe <;> simp [validB, validFrom, hasB, inRangeB, takeV, takeR, dropExt, fD, fS, fT, fitsB, inZero, regsB, isK] <;> omega
set_option maxRecDepth 100000 in
set_option maxHeartbeats 2000000 in
theorem form_12 (x : In) (h : x.small) : validB x [fMode, fPred, fR19] = refK 12 x := by
  have h1 := h.mode0
  have h2 := h.pred0
  have h3 := h.d0
  have h4 := h.s0
  have h5 := h.t0
  have h6 := h.n0
  have h7 := h.count0
  rw [Bool.eq_iff_iff]
  unfold refK okK
  obtain ⟨xo, xd, xs, xt, xn, xp, xm, xw, xe, xc, xi⟩ := x
  simp only [] at h1 h2 h3 h4 h5 h6 h7
  cases xw <;> cases xe <;> simp [validB, validFrom, hasB, inRangeB, takeV, takeR, dropExt, fMode, fPred, fR19, fitsB, inZero, regsB, condB, aimB, isK] <;> omega
set_option maxRecDepth 100000 in
set_option maxHeartbeats 2000000 in
theorem form_13 (x : In) (h : x.small) : validB x [fMode, fPred, fS] = refK 13 x := by
  have h1 := h.mode0
  have h2 := h.pred0
  have h3 := h.d0
  have h4 := h.s0
  have h5 := h.t0
  have h6 := h.n0
  have h7 := h.count0
  rw [Bool.eq_iff_iff]
  unfold refK okK
  obtain ⟨xo, xd, xs, xt, xn, xp, xm, xw, xe, xc, xi⟩ := x
  simp only [] at h1 h2 h3 h4 h5 h6 h7
  cases xw <;> cases xe <;> simp [validB, validFrom, hasB, inRangeB, takeV, takeR, dropExt, fMode, fPred, fS, fitsB, inZero, regsB, condB, isK] <;> omega
set_option maxRecDepth 100000 in
set_option maxHeartbeats 2000000 in
theorem form_14 (x : In) (h : x.small) : validB x [fR24] = refK 14 x := by
  have h1 := h.mode0
  have h2 := h.pred0
  have h3 := h.d0
  have h4 := h.s0
  have h5 := h.t0
  have h6 := h.n0
  have h7 := h.count0
  rw [Bool.eq_iff_iff]
  unfold refK okK
  obtain ⟨xo, xd, xs, xt, xn, xp, xm, xw, xe, xc, xi⟩ := x
  simp only [] at h1 h2 h3 h4 h5 h6 h7
  cases xw <;> cases xe <;> simp [validB, validFrom, hasB, inRangeB, takeV, takeR, dropExt, fR24, fitsB, inZero, regsB, aimB, isK] <;> omega
set_option maxRecDepth 100000 in
set_option maxHeartbeats 2000000 in
theorem form_15 (x : In) (h : x.small) : validB x [fN, fR12, fCount] = refK 15 x := by
  have h1 := h.mode0
  have h2 := h.pred0
  have h3 := h.d0
  have h4 := h.s0
  have h5 := h.t0
  have h6 := h.n0
  have h7 := h.count0
  rw [Bool.eq_iff_iff]
  unfold refK okK
  obtain ⟨xo, xd, xs, xt, xn, xp, xm, xw, xe, xc, xi⟩ := x
  simp only [] at h1 h2 h3 h4 h5 h6 h7
  cases xw <;> cases xe <;> simp [validB, validFrom, hasB, inRangeB, takeV, takeR, dropExt, fN, fR12, fCount, fitsB, inZero, regsB, aimB, isK] <;> omega
set_option maxRecDepth 100000 in
set_option maxHeartbeats 2000000 in
theorem form_16 (x : In) (h : x.small) : validB x [fN, fR12, fS] = refK 16 x := by
  have h1 := h.mode0
  have h2 := h.pred0
  have h3 := h.d0
  have h4 := h.s0
  have h5 := h.t0
  have h6 := h.n0
  have h7 := h.count0
  rw [Bool.eq_iff_iff]
  unfold refK okK
  obtain ⟨xo, xd, xs, xt, xn, xp, xm, xw, xe, xc, xi⟩ := x
  simp only [] at h1 h2 h3 h4 h5 h6 h7
  cases xw <;> cases xe <;> simp [validB, validFrom, hasB, inRangeB, takeV, takeR, dropExt, fN, fR12, fS, fitsB, inZero, regsB, aimB, isK] <;> omega
set_option maxRecDepth 100000 in
set_option maxHeartbeats 2000000 in
theorem form_17 (x : In) (h : x.small) : validB x [] = refK 17 x := by
  have h1 := h.mode0
  have h2 := h.pred0
  have h3 := h.d0
  have h4 := h.s0
  have h5 := h.t0
  have h6 := h.n0
  have h7 := h.count0
  rw [Bool.eq_iff_iff]
  unfold refK okK
  obtain ⟨xo, xd, xs, xt, xn, xp, xm, xw, xe, xc, xi⟩ := x
  simp only [] at h1 h2 h3 h4 h5 h6 h7
  cases xw <;> cases xe <;> simp [validB, validFrom, hasB, inZero, regsB, isK] <;> omega
set_option maxRecDepth 100000 in
set_option maxHeartbeats 2000000 in
theorem form_10_4 (x : In) (h : x.small) (hsc : scaleZ x.op = 4) : validB x [fD, fS, fI122] = refK 10 x := by
  have h1 := h.mode0
  have h2 := h.pred0
  have h3 := h.d0
  have h4 := h.s0
  have h5 := h.t0
  have h6 := h.n0
  have h7 := h.count0
  rw [Bool.eq_iff_iff]
  unfold refK okK
  simp only [hsc]
  obtain ⟨xo, xd, xs, xt, xn, xp, xm, xw, xe, xc, xi⟩ := x
  simp only [] at h1 h2 h3 h4 h5 h6 h7
  cases xw <;> cases xe <;> simp [validB, validFrom, hasB, inRangeB, takeV, takeR, dropExt, fD, fS, fI122, fitsB, inZero, regsB, withinB, isK] <;> omega
set_option maxRecDepth 100000 in
set_option maxHeartbeats 2000000 in
theorem form_11_4 (x : In) (h : x.small) (hsc : scaleZ x.op = 4) : validB x [fS, fNew, fT, fI122] = refK 11 x := by
  have h1 := h.mode0
  have h2 := h.pred0
  have h3 := h.d0
  have h4 := h.s0
  have h5 := h.t0
  have h6 := h.n0
  have h7 := h.count0
  rw [Bool.eq_iff_iff]
  unfold refK okK
  simp only [hsc]
  obtain ⟨xo, xd, xs, xt, xn, xp, xm, xw, xe, xc, xi⟩ := x
  simp only [] at h1 h2 h3 h4 h5 h6 h7
  cases xw <;> cases xe <;> simp [validB, validFrom, hasB, inRangeB, takeV, takeR, dropExt, fS, fNew, fT, fI122, fitsB, inZero, regsB, withinB, isK] <;> omega
set_option maxRecDepth 100000 in
set_option maxHeartbeats 2000000 in
theorem form_10_2 (x : In) (h : x.small) (hsc : scaleZ x.op = 2) : validB x [fD, fS, fI121] = refK 10 x := by
  have h1 := h.mode0
  have h2 := h.pred0
  have h3 := h.d0
  have h4 := h.s0
  have h5 := h.t0
  have h6 := h.n0
  have h7 := h.count0
  rw [Bool.eq_iff_iff]
  unfold refK okK
  simp only [hsc]
  obtain ⟨xo, xd, xs, xt, xn, xp, xm, xw, xe, xc, xi⟩ := x
  simp only [] at h1 h2 h3 h4 h5 h6 h7
  cases xw <;> cases xe <;> simp [validB, validFrom, hasB, inRangeB, takeV, takeR, dropExt, fD, fS, fI121, fitsB, inZero, regsB, withinB, isK] <;> omega
set_option maxRecDepth 100000 in
set_option maxHeartbeats 2000000 in
theorem form_11_2 (x : In) (h : x.small) (hsc : scaleZ x.op = 2) : validB x [fS, fNew, fT, fI121] = refK 11 x := by
  have h1 := h.mode0
  have h2 := h.pred0
  have h3 := h.d0
  have h4 := h.s0
  have h5 := h.t0
  have h6 := h.n0
  have h7 := h.count0
  rw [Bool.eq_iff_iff]
  unfold refK okK
  simp only [hsc]
  obtain ⟨xo, xd, xs, xt, xn, xp, xm, xw, xe, xc, xi⟩ := x
  simp only [] at h1 h2 h3 h4 h5 h6 h7
  cases xw <;> cases xe <;> simp [validB, validFrom, hasB, inRangeB, takeV, takeR, dropExt, fS, fNew, fT, fI121, fitsB, inZero, regsB, withinB, isK] <;> omega
set_option maxRecDepth 100000 in
set_option maxHeartbeats 2000000 in
theorem form_10_1 (x : In) (h : x.small) (hsc : scaleZ x.op = 1) : validB x [fD, fS, fI12] = refK 10 x := by
  have h1 := h.mode0
  have h2 := h.pred0
  have h3 := h.d0
  have h4 := h.s0
  have h5 := h.t0
  have h6 := h.n0
  have h7 := h.count0
  rw [Bool.eq_iff_iff]
  unfold refK okK
  simp only [hsc]
  obtain ⟨xo, xd, xs, xt, xn, xp, xm, xw, xe, xc, xi⟩ := x
  simp only [] at h1 h2 h3 h4 h5 h6 h7
  cases xw <;> cases xe <;> simp [validB, validFrom, hasB, inRangeB, takeV, takeR, dropExt, fD, fS, fI12, fitsB, inZero, regsB, withinB, isK] <;> omega
set_option maxRecDepth 100000 in
set_option maxHeartbeats 2000000 in
theorem form_11_1 (x : In) (h : x.small) (hsc : scaleZ x.op = 1) : validB x [fS, fNew, fT, fI12] = refK 11 x := by
  have h1 := h.mode0
  have h2 := h.pred0
  have h3 := h.d0
  have h4 := h.s0
  have h5 := h.t0
  have h6 := h.n0
  have h7 := h.count0
  rw [Bool.eq_iff_iff]
  unfold refK okK
  simp only [hsc]
  obtain ⟨xo, xd, xs, xt, xn, xp, xm, xw, xe, xc, xi⟩ := x
  simp only [] at h1 h2 h3 h4 h5 h6 h7
  cases xw <;> cases xe <;> simp [validB, validFrom, hasB, inRangeB, takeV, takeR, dropExt, fS, fNew, fT, fI12, fitsB, inZero, regsB, withinB, isK] <;> omega
theorem right_of (x : In) (op k : Int) (fs : List Fd) (hop : x.op = op) (h1 : isOp op = true) (h2 : fieldsZ op = fs) (h3 : kindZ op = k) (hk : decide (k ≠ 0) = true) (hf : validB x fs = refK k.toNat x) : rightB x = refB x := by
  unfold rightB refB
  rw [hop, h1, h2, h3, hk, Bool.true_and, Bool.true_and, hf]
theorem kind_none (op : Int) (h : op < 1 ∨ 31 < op) : kindZ op = 0 := by
  unfold kindZ
  rcases h with h | h
  · have : op.toNat = 0 := by omega
    rw [this]; rfl
  · rw [List.getD_eq_getElem?_getD, List.getElem?_eq_none (by show 32 ≤ op.toNat; omega)]; rfl
theorem right_ref (x : In) (h : x.small) : rightB x = refB x := by
  by_cases ho : 1 ≤ x.op ∧ x.op ≤ 31
  · have hc : x.op = 1 ∨ x.op = 2 ∨ x.op = 3 ∨ x.op = 4 ∨ x.op = 5 ∨ x.op = 6 ∨ x.op = 7 ∨ x.op = 8 ∨ x.op = 9 ∨ x.op = 10 ∨ x.op = 11 ∨ x.op = 12 ∨ x.op = 13 ∨ x.op = 14 ∨ x.op = 15 ∨ x.op = 16 ∨ x.op = 17 ∨ x.op = 18 ∨ x.op = 19 ∨ x.op = 20 ∨ x.op = 21 ∨ x.op = 22 ∨ x.op = 23 ∨ x.op = 24 ∨ x.op = 25 ∨ x.op = 26 ∨ x.op = 27 ∨ x.op = 28 ∨ x.op = 29 ∨ x.op = 30 ∨ x.op = 31 := by omega
    rcases hc with e | e | e | e | e | e | e | e | e | e | e | e | e | e | e | e | e | e | e | e | e | e | e | e | e | e | e | e | e | e | e
    · exact right_of x 1 17 _ e rfl rfl rfl rfl (form_17 x h)
    · exact right_of x 2 1 _ e rfl rfl rfl rfl (form_1 x h)
    · exact right_of x 3 1 _ e rfl rfl rfl rfl (form_1 x h)
    · exact right_of x 4 1 _ e rfl rfl rfl rfl (form_1 x h)
    · exact right_of x 5 1 _ e rfl rfl rfl rfl (form_1 x h)
    · exact right_of x 6 1 _ e rfl rfl rfl rfl (form_1 x h)
    · exact right_of x 7 2 _ e rfl rfl rfl rfl (form_2 x h)
    · exact right_of x 8 3 _ e rfl rfl rfl rfl (form_3 x h)
    · exact right_of x 9 4 _ e rfl rfl rfl rfl (form_4 x h)
    · exact right_of x 10 5 _ e rfl rfl rfl rfl (form_5 x h)
    · exact right_of x 11 5 _ e rfl rfl rfl rfl (form_5 x h)
    · exact right_of x 12 5 _ e rfl rfl rfl rfl (form_5 x h)
    · exact right_of x 13 6 _ e rfl rfl rfl rfl (form_6 x h)
    · exact right_of x 14 7 _ e rfl rfl rfl rfl (form_7 x h)
    · exact right_of x 15 8 _ e rfl rfl rfl rfl (form_8 x h)
    · exact right_of x 16 8 _ e rfl rfl rfl rfl (form_8 x h)
    · exact right_of x 17 8 _ e rfl rfl rfl rfl (form_8 x h)
    · exact right_of x 18 9 _ e rfl rfl rfl rfl (form_9 x h)
    · exact right_of x 19 9 _ e rfl rfl rfl rfl (form_9 x h)
    · exact right_of x 20 9 _ e rfl rfl rfl rfl (form_9 x h)
    · exact right_of x 21 10 _ e rfl rfl rfl rfl (form_10_4 x h (by rw [e]; rfl))
    · exact right_of x 22 10 _ e rfl rfl rfl rfl (form_10_2 x h (by rw [e]; rfl))
    · exact right_of x 23 10 _ e rfl rfl rfl rfl (form_10_1 x h (by rw [e]; rfl))
    · exact right_of x 24 11 _ e rfl rfl rfl rfl (form_11_4 x h (by rw [e]; rfl))
    · exact right_of x 25 11 _ e rfl rfl rfl rfl (form_11_2 x h (by rw [e]; rfl))
    · exact right_of x 26 11 _ e rfl rfl rfl rfl (form_11_1 x h (by rw [e]; rfl))
    · exact right_of x 27 12 _ e rfl rfl rfl rfl (form_12 x h)
    · exact right_of x 28 13 _ e rfl rfl rfl rfl (form_13 x h)
    · exact right_of x 29 14 _ e rfl rfl rfl rfl (form_14 x h)
    · exact right_of x 30 15 _ e rfl rfl rfl rfl (form_15 x h)
    · exact right_of x 31 16 _ e rfl rfl rfl rfl (form_16 x h)
  · have e : isOp x.op = false := by unfold isOp; simp; omega
    unfold rightB refB
    rw [e, kind_none x.op (by omega)]
    rfl
end
section

def setS (x : In) (v : Int) : In := { x with s := v }
def setT (x : In) (v : Int) : In := { x with t := v }
def setN (x : In) (v : Int) : In := { x with n := v }
def setNew (x : In) (v : Bool) : In := { x with new := v }
def setCount (x : In) (v : Int) : In := { x with count := v }
theorem turnS_1 (x : In) (v : Int) (_hv : v < 32) (h : refK 1 x = true) : refK 1 (setS x v) = (true || decide (setS x v = x)) := by
  obtain ⟨xo, xd, xs, xt, xn, xp, xm, xw, xe, xc, xi⟩ := x
  simp only [setS]
  rw [Bool.eq_iff_iff]
  cases xw <;> cases xe <;> simp [refK, regsB, okK, isK, inZero, condB] at h ⊢ <;> omega
theorem turnS_2 (x : In) (v : Int) (_hv : v < 32) (h : refK 2 x = true) : refK 2 (setS x v) = (true || decide (setS x v = x)) := by
  obtain ⟨xo, xd, xs, xt, xn, xp, xm, xw, xe, xc, xi⟩ := x
  simp only [setS]
  rw [Bool.eq_iff_iff]
  cases xw <;> cases xe <;> simp [refK, regsB, okK, isK, inZero, withinB] at h ⊢ <;> omega
theorem turnS_3 (x : In) (v : Int) (_hv : v < 32) (h : refK 3 x = true) : refK 3 (setS x v) = (false || decide (setS x v = x)) := by
  obtain ⟨xo, xd, xs, xt, xn, xp, xm, xw, xe, xc, xi⟩ := x
  simp only [setS]
  rw [Bool.eq_iff_iff]
  cases xw <;> cases xe <;> simp [refK, regsB, okK, isK, inZero, condB, withinB] at h ⊢ <;> omega
theorem turnS_4 (x : In) (v : Int) (_hv : v < 32) (h : refK 4 x = true) : refK 4 (setS x v) = (true || decide (setS x v = x)) := by
  obtain ⟨xo, xd, xs, xt, xn, xp, xm, xw, xe, xc, xi⟩ := x
  simp only [setS]
  rw [Bool.eq_iff_iff]
  cases xw <;> cases xe <;> simp [refK, regsB, okK, isK, inZero, condB] at h ⊢ <;> omega
theorem turnS_5 (x : In) (v : Int) (_hv : v < 32) (h : refK 5 x = true) : refK 5 (setS x v) = (true || decide (setS x v = x)) := by
  obtain ⟨xo, xd, xs, xt, xn, xp, xm, xw, xe, xc, xi⟩ := x
  simp only [setS]
  rw [Bool.eq_iff_iff]
  cases xw <;> cases xe <;> simp [refK, regsB, okK, isK, inZero] at h ⊢ <;> omega
theorem turnS_6 (x : In) (v : Int) (_hv : v < 32) (h : refK 6 x = true) : refK 6 (setS x v) = (true || decide (setS x v = x)) := by
  obtain ⟨xo, xd, xs, xt, xn, xp, xm, xw, xe, xc, xi⟩ := x
  simp only [setS]
  rw [Bool.eq_iff_iff]
  cases xw <;> cases xe <;> simp [refK, regsB, okK, isK, inZero, withinB] at h ⊢ <;> omega
theorem turnS_7 (x : In) (v : Int) (_hv : v < 32) (h : refK 7 x = true) : refK 7 (setS x v) = (true || decide (setS x v = x)) := by
  obtain ⟨xo, xd, xs, xt, xn, xp, xm, xw, xe, xc, xi⟩ := x
  simp only [setS]
  rw [Bool.eq_iff_iff]
  cases xw <;> cases xe <;> simp [refK, regsB, okK, isK, inZero] at h ⊢ <;> omega
theorem turnS_8 (x : In) (v : Int) (_hv : v < 32) (h : refK 8 x = true) : refK 8 (setS x v) = (true || decide (setS x v = x)) := by
  obtain ⟨xo, xd, xs, xt, xn, xp, xm, xw, xe, xc, xi⟩ := x
  simp only [setS]
  rw [Bool.eq_iff_iff]
  cases xw <;> cases xe <;> simp [refK, regsB, okK, isK, inZero] at h ⊢ <;> omega
theorem turnS_9 (x : In) (v : Int) (_hv : v < 32) (h : refK 9 x = true) : refK 9 (setS x v) = (true || decide (setS x v = x)) := by
  obtain ⟨xo, xd, xs, xt, xn, xp, xm, xw, xe, xc, xi⟩ := x
  simp only [setS]
  rw [Bool.eq_iff_iff]
  cases xw <;> cases xe <;> simp [refK, regsB, okK, isK, inZero] at h ⊢ <;> omega
theorem turnS_10 (x : In) (v : Int) (_hv : v < 32) (h : refK 10 x = true) : refK 10 (setS x v) = (true || decide (setS x v = x)) := by
  obtain ⟨xo, xd, xs, xt, xn, xp, xm, xw, xe, xc, xi⟩ := x
  simp only [setS]
  rw [Bool.eq_iff_iff]
  cases xw <;> cases xe <;> simp [refK, regsB, okK, isK, inZero, withinB] at h ⊢ <;> omega
theorem turnS_11 (x : In) (v : Int) (_hv : v < 32) (h : refK 11 x = true) : refK 11 (setS x v) = (true || decide (setS x v = x)) := by
  obtain ⟨xo, xd, xs, xt, xn, xp, xm, xw, xe, xc, xi⟩ := x
  simp only [setS]
  rw [Bool.eq_iff_iff]
  cases xw <;> cases xe <;> simp [refK, regsB, okK, isK, inZero, withinB] at h ⊢ <;> omega
theorem turnS_12 (x : In) (v : Int) (_hv : v < 32) (h : refK 12 x = true) : refK 12 (setS x v) = (false || decide (setS x v = x)) := by
  obtain ⟨xo, xd, xs, xt, xn, xp, xm, xw, xe, xc, xi⟩ := x
  simp only [setS]
  rw [Bool.eq_iff_iff]
  cases xw <;> cases xe <;> simp [refK, regsB, okK, isK, inZero, condB, aimB] at h ⊢ <;> omega
theorem turnS_13 (x : In) (v : Int) (_hv : v < 32) (h : refK 13 x = true) : refK 13 (setS x v) = (true || decide (setS x v = x)) := by
  obtain ⟨xo, xd, xs, xt, xn, xp, xm, xw, xe, xc, xi⟩ := x
  simp only [setS]
  rw [Bool.eq_iff_iff]
  cases xw <;> cases xe <;> simp [refK, regsB, okK, isK, inZero, condB] at h ⊢ <;> omega
theorem turnS_14 (x : In) (v : Int) (_hv : v < 32) (h : refK 14 x = true) : refK 14 (setS x v) = (false || decide (setS x v = x)) := by
  obtain ⟨xo, xd, xs, xt, xn, xp, xm, xw, xe, xc, xi⟩ := x
  simp only [setS]
  rw [Bool.eq_iff_iff]
  cases xw <;> cases xe <;> simp [refK, regsB, okK, isK, inZero, aimB] at h ⊢ <;> omega
theorem turnS_15 (x : In) (v : Int) (_hv : v < 32) (h : refK 15 x = true) : refK 15 (setS x v) = (false || decide (setS x v = x)) := by
  obtain ⟨xo, xd, xs, xt, xn, xp, xm, xw, xe, xc, xi⟩ := x
  simp only [setS]
  rw [Bool.eq_iff_iff]
  cases xw <;> cases xe <;> simp [refK, regsB, okK, isK, inZero, aimB] at h ⊢ <;> omega
theorem turnS_16 (x : In) (v : Int) (_hv : v < 32) (h : refK 16 x = true) : refK 16 (setS x v) = (true || decide (setS x v = x)) := by
  obtain ⟨xo, xd, xs, xt, xn, xp, xm, xw, xe, xc, xi⟩ := x
  simp only [setS]
  rw [Bool.eq_iff_iff]
  cases xw <;> cases xe <;> simp [refK, regsB, okK, isK, inZero, aimB] at h ⊢ <;> omega
theorem turnS_17 (x : In) (v : Int) (_hv : v < 32) (h : refK 17 x = true) : refK 17 (setS x v) = (false || decide (setS x v = x)) := by
  obtain ⟨xo, xd, xs, xt, xn, xp, xm, xw, xe, xc, xi⟩ := x
  simp only [setS]
  rw [Bool.eq_iff_iff]
  cases xw <;> cases xe <;> simp [refK, regsB, okK, isK, inZero] at h ⊢ <;> omega
theorem turnT_1 (x : In) (v : Int) (_hv : v < 32) (h : refK 1 x = true) : refK 1 (setT x v) = (true || decide (setT x v = x)) := by
  obtain ⟨xo, xd, xs, xt, xn, xp, xm, xw, xe, xc, xi⟩ := x
  simp only [setT]
  rw [Bool.eq_iff_iff]
  cases xw <;> cases xe <;> simp [refK, regsB, okK, isK, inZero, condB] at h ⊢ <;> omega
theorem turnT_2 (x : In) (v : Int) (_hv : v < 32) (h : refK 2 x = true) : refK 2 (setT x v) = (false || decide (setT x v = x)) := by
  obtain ⟨xo, xd, xs, xt, xn, xp, xm, xw, xe, xc, xi⟩ := x
  simp only [setT]
  rw [Bool.eq_iff_iff]
  cases xw <;> cases xe <;> simp [refK, regsB, okK, isK, inZero, withinB] at h ⊢ <;> omega
theorem turnT_3 (x : In) (v : Int) (_hv : v < 32) (h : refK 3 x = true) : refK 3 (setT x v) = (false || decide (setT x v = x)) := by
  obtain ⟨xo, xd, xs, xt, xn, xp, xm, xw, xe, xc, xi⟩ := x
  simp only [setT]
  rw [Bool.eq_iff_iff]
  cases xw <;> cases xe <;> simp [refK, regsB, okK, isK, inZero, condB, withinB] at h ⊢ <;> omega
theorem turnT_4 (x : In) (v : Int) (_hv : v < 32) (h : refK 4 x = true) : refK 4 (setT x v) = (false || decide (setT x v = x)) := by
  obtain ⟨xo, xd, xs, xt, xn, xp, xm, xw, xe, xc, xi⟩ := x
  simp only [setT]
  rw [Bool.eq_iff_iff]
  cases xw <;> cases xe <;> simp [refK, regsB, okK, isK, inZero, condB] at h ⊢ <;> omega
theorem turnT_5 (x : In) (v : Int) (_hv : v < 32) (h : refK 5 x = true) : refK 5 (setT x v) = (true || decide (setT x v = x)) := by
  obtain ⟨xo, xd, xs, xt, xn, xp, xm, xw, xe, xc, xi⟩ := x
  simp only [setT]
  rw [Bool.eq_iff_iff]
  cases xw <;> cases xe <;> simp [refK, regsB, okK, isK, inZero] at h ⊢ <;> omega
theorem turnT_6 (x : In) (v : Int) (_hv : v < 32) (h : refK 6 x = true) : refK 6 (setT x v) = (false || decide (setT x v = x)) := by
  obtain ⟨xo, xd, xs, xt, xn, xp, xm, xw, xe, xc, xi⟩ := x
  simp only [setT]
  rw [Bool.eq_iff_iff]
  cases xw <;> cases xe <;> simp [refK, regsB, okK, isK, inZero, withinB] at h ⊢ <;> omega
theorem turnT_7 (x : In) (v : Int) (_hv : v < 32) (h : refK 7 x = true) : refK 7 (setT x v) = (true || decide (setT x v = x)) := by
  obtain ⟨xo, xd, xs, xt, xn, xp, xm, xw, xe, xc, xi⟩ := x
  simp only [setT]
  rw [Bool.eq_iff_iff]
  cases xw <;> cases xe <;> simp [refK, regsB, okK, isK, inZero] at h ⊢ <;> omega
theorem turnT_8 (x : In) (v : Int) (_hv : v < 32) (h : refK 8 x = true) : refK 8 (setT x v) = (false || decide (setT x v = x)) := by
  obtain ⟨xo, xd, xs, xt, xn, xp, xm, xw, xe, xc, xi⟩ := x
  simp only [setT]
  rw [Bool.eq_iff_iff]
  cases xw <;> cases xe <;> simp [refK, regsB, okK, isK, inZero] at h ⊢ <;> omega
theorem turnT_9 (x : In) (v : Int) (_hv : v < 32) (h : refK 9 x = true) : refK 9 (setT x v) = (true || decide (setT x v = x)) := by
  obtain ⟨xo, xd, xs, xt, xn, xp, xm, xw, xe, xc, xi⟩ := x
  simp only [setT]
  rw [Bool.eq_iff_iff]
  cases xw <;> cases xe <;> simp [refK, regsB, okK, isK, inZero] at h ⊢ <;> omega
theorem turnT_10 (x : In) (v : Int) (_hv : v < 32) (h : refK 10 x = true) : refK 10 (setT x v) = (false || decide (setT x v = x)) := by
  obtain ⟨xo, xd, xs, xt, xn, xp, xm, xw, xe, xc, xi⟩ := x
  simp only [setT]
  rw [Bool.eq_iff_iff]
  cases xw <;> cases xe <;> simp [refK, regsB, okK, isK, inZero, withinB] at h ⊢ <;> omega
theorem turnT_11 (x : In) (v : Int) (_hv : v < 32) (h : refK 11 x = true) : refK 11 (setT x v) = (true || decide (setT x v = x)) := by
  obtain ⟨xo, xd, xs, xt, xn, xp, xm, xw, xe, xc, xi⟩ := x
  simp only [setT]
  rw [Bool.eq_iff_iff]
  cases xw <;> cases xe <;> simp [refK, regsB, okK, isK, inZero, withinB] at h ⊢ <;> omega
theorem turnT_12 (x : In) (v : Int) (_hv : v < 32) (h : refK 12 x = true) : refK 12 (setT x v) = (false || decide (setT x v = x)) := by
  obtain ⟨xo, xd, xs, xt, xn, xp, xm, xw, xe, xc, xi⟩ := x
  simp only [setT]
  rw [Bool.eq_iff_iff]
  cases xw <;> cases xe <;> simp [refK, regsB, okK, isK, inZero, condB, aimB] at h ⊢ <;> omega
theorem turnT_13 (x : In) (v : Int) (_hv : v < 32) (h : refK 13 x = true) : refK 13 (setT x v) = (false || decide (setT x v = x)) := by
  obtain ⟨xo, xd, xs, xt, xn, xp, xm, xw, xe, xc, xi⟩ := x
  simp only [setT]
  rw [Bool.eq_iff_iff]
  cases xw <;> cases xe <;> simp [refK, regsB, okK, isK, inZero, condB] at h ⊢ <;> omega
theorem turnT_14 (x : In) (v : Int) (_hv : v < 32) (h : refK 14 x = true) : refK 14 (setT x v) = (false || decide (setT x v = x)) := by
  obtain ⟨xo, xd, xs, xt, xn, xp, xm, xw, xe, xc, xi⟩ := x
  simp only [setT]
  rw [Bool.eq_iff_iff]
  cases xw <;> cases xe <;> simp [refK, regsB, okK, isK, inZero, aimB] at h ⊢ <;> omega
theorem turnT_15 (x : In) (v : Int) (_hv : v < 32) (h : refK 15 x = true) : refK 15 (setT x v) = (false || decide (setT x v = x)) := by
  obtain ⟨xo, xd, xs, xt, xn, xp, xm, xw, xe, xc, xi⟩ := x
  simp only [setT]
  rw [Bool.eq_iff_iff]
  cases xw <;> cases xe <;> simp [refK, regsB, okK, isK, inZero, aimB] at h ⊢ <;> omega
theorem turnT_16 (x : In) (v : Int) (_hv : v < 32) (h : refK 16 x = true) : refK 16 (setT x v) = (false || decide (setT x v = x)) := by
  obtain ⟨xo, xd, xs, xt, xn, xp, xm, xw, xe, xc, xi⟩ := x
  simp only [setT]
  rw [Bool.eq_iff_iff]
  cases xw <;> cases xe <;> simp [refK, regsB, okK, isK, inZero, aimB] at h ⊢ <;> omega
theorem turnT_17 (x : In) (v : Int) (_hv : v < 32) (h : refK 17 x = true) : refK 17 (setT x v) = (false || decide (setT x v = x)) := by
  obtain ⟨xo, xd, xs, xt, xn, xp, xm, xw, xe, xc, xi⟩ := x
  simp only [setT]
  rw [Bool.eq_iff_iff]
  cases xw <;> cases xe <;> simp [refK, regsB, okK, isK, inZero] at h ⊢ <;> omega
theorem turnN_1 (x : In) (v : Int) (_hv : v < 2) (h : refK 1 x = true) : refK 1 (setN x v) = (false || decide (setN x v = x)) := by
  obtain ⟨xo, xd, xs, xt, xn, xp, xm, xw, xe, xc, xi⟩ := x
  simp only [setN]
  rw [Bool.eq_iff_iff]
  cases xw <;> cases xe <;> simp [refK, regsB, okK, isK, inZero, condB] at h ⊢ <;> omega
theorem turnN_2 (x : In) (v : Int) (_hv : v < 2) (h : refK 2 x = true) : refK 2 (setN x v) = (false || decide (setN x v = x)) := by
  obtain ⟨xo, xd, xs, xt, xn, xp, xm, xw, xe, xc, xi⟩ := x
  simp only [setN]
  rw [Bool.eq_iff_iff]
  cases xw <;> cases xe <;> simp [refK, regsB, okK, isK, inZero, withinB] at h ⊢ <;> omega
theorem turnN_3 (x : In) (v : Int) (_hv : v < 2) (h : refK 3 x = true) : refK 3 (setN x v) = (false || decide (setN x v = x)) := by
  obtain ⟨xo, xd, xs, xt, xn, xp, xm, xw, xe, xc, xi⟩ := x
  simp only [setN]
  rw [Bool.eq_iff_iff]
  cases xw <;> cases xe <;> simp [refK, regsB, okK, isK, inZero, condB, withinB] at h ⊢ <;> omega
theorem turnN_4 (x : In) (v : Int) (_hv : v < 2) (h : refK 4 x = true) : refK 4 (setN x v) = (false || decide (setN x v = x)) := by
  obtain ⟨xo, xd, xs, xt, xn, xp, xm, xw, xe, xc, xi⟩ := x
  simp only [setN]
  rw [Bool.eq_iff_iff]
  cases xw <;> cases xe <;> simp [refK, regsB, okK, isK, inZero, condB] at h ⊢ <;> omega
theorem turnN_5 (x : In) (v : Int) (_hv : v < 2) (h : refK 5 x = true) : refK 5 (setN x v) = (false || decide (setN x v = x)) := by
  obtain ⟨xo, xd, xs, xt, xn, xp, xm, xw, xe, xc, xi⟩ := x
  simp only [setN]
  rw [Bool.eq_iff_iff]
  cases xw <;> cases xe <;> simp [refK, regsB, okK, isK, inZero] at h ⊢ <;> omega
theorem turnN_6 (x : In) (v : Int) (_hv : v < 2) (h : refK 6 x = true) : refK 6 (setN x v) = (false || decide (setN x v = x)) := by
  obtain ⟨xo, xd, xs, xt, xn, xp, xm, xw, xe, xc, xi⟩ := x
  simp only [setN]
  rw [Bool.eq_iff_iff]
  cases xw <;> cases xe <;> simp [refK, regsB, okK, isK, inZero, withinB] at h ⊢ <;> omega
theorem turnN_7 (x : In) (v : Int) (_hv : v < 2) (h : refK 7 x = true) : refK 7 (setN x v) = (false || decide (setN x v = x)) := by
  obtain ⟨xo, xd, xs, xt, xn, xp, xm, xw, xe, xc, xi⟩ := x
  simp only [setN]
  rw [Bool.eq_iff_iff]
  cases xw <;> cases xe <;> simp [refK, regsB, okK, isK, inZero] at h ⊢ <;> omega
theorem turnN_8 (x : In) (v : Int) (_hv : v < 2) (h : refK 8 x = true) : refK 8 (setN x v) = (false || decide (setN x v = x)) := by
  obtain ⟨xo, xd, xs, xt, xn, xp, xm, xw, xe, xc, xi⟩ := x
  simp only [setN]
  rw [Bool.eq_iff_iff]
  cases xw <;> cases xe <;> simp [refK, regsB, okK, isK, inZero] at h ⊢ <;> omega
theorem turnN_9 (x : In) (v : Int) (_hv : v < 2) (h : refK 9 x = true) : refK 9 (setN x v) = (false || decide (setN x v = x)) := by
  obtain ⟨xo, xd, xs, xt, xn, xp, xm, xw, xe, xc, xi⟩ := x
  simp only [setN]
  rw [Bool.eq_iff_iff]
  cases xw <;> cases xe <;> simp [refK, regsB, okK, isK, inZero] at h ⊢ <;> omega
theorem turnN_10 (x : In) (v : Int) (_hv : v < 2) (h : refK 10 x = true) : refK 10 (setN x v) = (false || decide (setN x v = x)) := by
  obtain ⟨xo, xd, xs, xt, xn, xp, xm, xw, xe, xc, xi⟩ := x
  simp only [setN]
  rw [Bool.eq_iff_iff]
  cases xw <;> cases xe <;> simp [refK, regsB, okK, isK, inZero, withinB] at h ⊢ <;> omega
theorem turnN_11 (x : In) (v : Int) (_hv : v < 2) (h : refK 11 x = true) : refK 11 (setN x v) = (false || decide (setN x v = x)) := by
  obtain ⟨xo, xd, xs, xt, xn, xp, xm, xw, xe, xc, xi⟩ := x
  simp only [setN]
  rw [Bool.eq_iff_iff]
  cases xw <;> cases xe <;> simp [refK, regsB, okK, isK, inZero, withinB] at h ⊢ <;> omega
theorem turnN_12 (x : In) (v : Int) (_hv : v < 2) (h : refK 12 x = true) : refK 12 (setN x v) = (false || decide (setN x v = x)) := by
  obtain ⟨xo, xd, xs, xt, xn, xp, xm, xw, xe, xc, xi⟩ := x
  simp only [setN]
  rw [Bool.eq_iff_iff]
  cases xw <;> cases xe <;> simp [refK, regsB, okK, isK, inZero, condB, aimB] at h ⊢ <;> omega
theorem turnN_13 (x : In) (v : Int) (_hv : v < 2) (h : refK 13 x = true) : refK 13 (setN x v) = (false || decide (setN x v = x)) := by
  obtain ⟨xo, xd, xs, xt, xn, xp, xm, xw, xe, xc, xi⟩ := x
  simp only [setN]
  rw [Bool.eq_iff_iff]
  cases xw <;> cases xe <;> simp [refK, regsB, okK, isK, inZero, condB] at h ⊢ <;> omega
theorem turnN_14 (x : In) (v : Int) (_hv : v < 2) (h : refK 14 x = true) : refK 14 (setN x v) = (false || decide (setN x v = x)) := by
  obtain ⟨xo, xd, xs, xt, xn, xp, xm, xw, xe, xc, xi⟩ := x
  simp only [setN]
  rw [Bool.eq_iff_iff]
  cases xw <;> cases xe <;> simp [refK, regsB, okK, isK, inZero, aimB] at h ⊢ <;> omega
theorem turnN_15 (x : In) (v : Int) (_hv : v < 2) (h : refK 15 x = true) : refK 15 (setN x v) = (true || decide (setN x v = x)) := by
  obtain ⟨xo, xd, xs, xt, xn, xp, xm, xw, xe, xc, xi⟩ := x
  simp only [setN]
  rw [Bool.eq_iff_iff]
  cases xw <;> cases xe <;> simp [refK, regsB, okK, isK, inZero, aimB] at h ⊢ <;> omega
theorem turnN_16 (x : In) (v : Int) (_hv : v < 2) (h : refK 16 x = true) : refK 16 (setN x v) = (true || decide (setN x v = x)) := by
  obtain ⟨xo, xd, xs, xt, xn, xp, xm, xw, xe, xc, xi⟩ := x
  simp only [setN]
  rw [Bool.eq_iff_iff]
  cases xw <;> cases xe <;> simp [refK, regsB, okK, isK, inZero, aimB] at h ⊢ <;> omega
theorem turnN_17 (x : In) (v : Int) (_hv : v < 2) (h : refK 17 x = true) : refK 17 (setN x v) = (false || decide (setN x v = x)) := by
  obtain ⟨xo, xd, xs, xt, xn, xp, xm, xw, xe, xc, xi⟩ := x
  simp only [setN]
  rw [Bool.eq_iff_iff]
  cases xw <;> cases xe <;> simp [refK, regsB, okK, isK, inZero] at h ⊢ <;> omega
theorem turnNew_1 (x : In) (v : Bool) (h : refK 1 x = true) : refK 1 (setNew x v) = (false || decide (setNew x v = x)) := by
  obtain ⟨xo, xd, xs, xt, xn, xp, xm, xw, xe, xc, xi⟩ := x
  simp only [setNew]
  rw [Bool.eq_iff_iff]
  cases v <;> cases xw <;> cases xe <;> simp [refK, regsB, okK, isK, inZero, condB] at h ⊢ <;> omega
theorem turnNew_2 (x : In) (v : Bool) (h : refK 2 x = true) : refK 2 (setNew x v) = (false || decide (setNew x v = x)) := by
  obtain ⟨xo, xd, xs, xt, xn, xp, xm, xw, xe, xc, xi⟩ := x
  simp only [setNew]
  rw [Bool.eq_iff_iff]
  cases v <;> cases xw <;> cases xe <;> simp [refK, regsB, okK, isK, inZero, withinB] at h ⊢ <;> omega
theorem turnNew_3 (x : In) (v : Bool) (h : refK 3 x = true) : refK 3 (setNew x v) = (false || decide (setNew x v = x)) := by
  obtain ⟨xo, xd, xs, xt, xn, xp, xm, xw, xe, xc, xi⟩ := x
  simp only [setNew]
  rw [Bool.eq_iff_iff]
  cases v <;> cases xw <;> cases xe <;> simp [refK, regsB, okK, isK, inZero, condB, withinB] at h ⊢ <;> omega
theorem turnNew_4 (x : In) (v : Bool) (h : refK 4 x = true) : refK 4 (setNew x v) = (false || decide (setNew x v = x)) := by
  obtain ⟨xo, xd, xs, xt, xn, xp, xm, xw, xe, xc, xi⟩ := x
  simp only [setNew]
  rw [Bool.eq_iff_iff]
  cases v <;> cases xw <;> cases xe <;> simp [refK, regsB, okK, isK, inZero, condB] at h ⊢ <;> omega
theorem turnNew_5 (x : In) (v : Bool) (h : refK 5 x = true) : refK 5 (setNew x v) = (false || decide (setNew x v = x)) := by
  obtain ⟨xo, xd, xs, xt, xn, xp, xm, xw, xe, xc, xi⟩ := x
  simp only [setNew]
  rw [Bool.eq_iff_iff]
  cases v <;> cases xw <;> cases xe <;> simp [refK, regsB, okK, isK, inZero] at h ⊢ <;> omega
theorem turnNew_6 (x : In) (v : Bool) (h : refK 6 x = true) : refK 6 (setNew x v) = (false || decide (setNew x v = x)) := by
  obtain ⟨xo, xd, xs, xt, xn, xp, xm, xw, xe, xc, xi⟩ := x
  simp only [setNew]
  rw [Bool.eq_iff_iff]
  cases v <;> cases xw <;> cases xe <;> simp [refK, regsB, okK, isK, inZero, withinB] at h ⊢ <;> omega
theorem turnNew_7 (x : In) (v : Bool) (h : refK 7 x = true) : refK 7 (setNew x v) = (false || decide (setNew x v = x)) := by
  obtain ⟨xo, xd, xs, xt, xn, xp, xm, xw, xe, xc, xi⟩ := x
  simp only [setNew]
  rw [Bool.eq_iff_iff]
  cases v <;> cases xw <;> cases xe <;> simp [refK, regsB, okK, isK, inZero] at h ⊢ <;> omega
theorem turnNew_8 (x : In) (v : Bool) (h : refK 8 x = true) : refK 8 (setNew x v) = (false || decide (setNew x v = x)) := by
  obtain ⟨xo, xd, xs, xt, xn, xp, xm, xw, xe, xc, xi⟩ := x
  simp only [setNew]
  rw [Bool.eq_iff_iff]
  cases v <;> cases xw <;> cases xe <;> simp [refK, regsB, okK, isK, inZero] at h ⊢ <;> omega
theorem turnNew_9 (x : In) (v : Bool) (h : refK 9 x = true) : refK 9 (setNew x v) = (false || decide (setNew x v = x)) := by
  obtain ⟨xo, xd, xs, xt, xn, xp, xm, xw, xe, xc, xi⟩ := x
  simp only [setNew]
  rw [Bool.eq_iff_iff]
  cases v <;> cases xw <;> cases xe <;> simp [refK, regsB, okK, isK, inZero] at h ⊢ <;> omega
theorem turnNew_10 (x : In) (v : Bool) (h : refK 10 x = true) : refK 10 (setNew x v) = (false || decide (setNew x v = x)) := by
  obtain ⟨xo, xd, xs, xt, xn, xp, xm, xw, xe, xc, xi⟩ := x
  simp only [setNew]
  rw [Bool.eq_iff_iff]
  cases v <;> cases xw <;> cases xe <;> simp [refK, regsB, okK, isK, inZero, withinB] at h ⊢ <;> omega
theorem turnNew_11 (x : In) (v : Bool) (h : refK 11 x = true) : refK 11 (setNew x v) = (true || decide (setNew x v = x)) := by
  obtain ⟨xo, xd, xs, xt, xn, xp, xm, xw, xe, xc, xi⟩ := x
  simp only [setNew]
  rw [Bool.eq_iff_iff]
  cases v <;> cases xw <;> cases xe <;> simp [refK, regsB, okK, isK, inZero, withinB] at h ⊢ <;> omega
theorem turnNew_12 (x : In) (v : Bool) (h : refK 12 x = true) : refK 12 (setNew x v) = (false || decide (setNew x v = x)) := by
  obtain ⟨xo, xd, xs, xt, xn, xp, xm, xw, xe, xc, xi⟩ := x
  simp only [setNew]
  rw [Bool.eq_iff_iff]
  cases v <;> cases xw <;> cases xe <;> simp [refK, regsB, okK, isK, inZero, condB, aimB] at h ⊢ <;> omega
theorem turnNew_13 (x : In) (v : Bool) (h : refK 13 x = true) : refK 13 (setNew x v) = (false || decide (setNew x v = x)) := by
  obtain ⟨xo, xd, xs, xt, xn, xp, xm, xw, xe, xc, xi⟩ := x
  simp only [setNew]
  rw [Bool.eq_iff_iff]
  cases v <;> cases xw <;> cases xe <;> simp [refK, regsB, okK, isK, inZero, condB] at h ⊢ <;> omega
theorem turnNew_14 (x : In) (v : Bool) (h : refK 14 x = true) : refK 14 (setNew x v) = (false || decide (setNew x v = x)) := by
  obtain ⟨xo, xd, xs, xt, xn, xp, xm, xw, xe, xc, xi⟩ := x
  simp only [setNew]
  rw [Bool.eq_iff_iff]
  cases v <;> cases xw <;> cases xe <;> simp [refK, regsB, okK, isK, inZero, aimB] at h ⊢ <;> omega
theorem turnNew_15 (x : In) (v : Bool) (h : refK 15 x = true) : refK 15 (setNew x v) = (false || decide (setNew x v = x)) := by
  obtain ⟨xo, xd, xs, xt, xn, xp, xm, xw, xe, xc, xi⟩ := x
  simp only [setNew]
  rw [Bool.eq_iff_iff]
  cases v <;> cases xw <;> cases xe <;> simp [refK, regsB, okK, isK, inZero, aimB] at h ⊢ <;> omega
theorem turnNew_16 (x : In) (v : Bool) (h : refK 16 x = true) : refK 16 (setNew x v) = (false || decide (setNew x v = x)) := by
  obtain ⟨xo, xd, xs, xt, xn, xp, xm, xw, xe, xc, xi⟩ := x
  simp only [setNew]
  rw [Bool.eq_iff_iff]
  cases v <;> cases xw <;> cases xe <;> simp [refK, regsB, okK, isK, inZero, aimB] at h ⊢ <;> omega
theorem turnNew_17 (x : In) (v : Bool) (h : refK 17 x = true) : refK 17 (setNew x v) = (false || decide (setNew x v = x)) := by
  obtain ⟨xo, xd, xs, xt, xn, xp, xm, xw, xe, xc, xi⟩ := x
  simp only [setNew]
  rw [Bool.eq_iff_iff]
  cases v <;> cases xw <;> cases xe <;> simp [refK, regsB, okK, isK, inZero] at h ⊢ <;> omega
theorem turnCount_1 (x : In) (v : Int) (_hv : v < 2048) (h : refK 1 x = true) : refK 1 (setCount x v) = (false || decide (setCount x v = x)) := by
  obtain ⟨xo, xd, xs, xt, xn, xp, xm, xw, xe, xc, xi⟩ := x
  simp only [setCount]
  rw [Bool.eq_iff_iff]
  cases xw <;> cases xe <;> simp [refK, regsB, okK, isK, inZero, condB] at h ⊢ <;> omega
theorem turnCount_2 (x : In) (v : Int) (_hv : v < 2048) (h : refK 2 x = true) : refK 2 (setCount x v) = (false || decide (setCount x v = x)) := by
  obtain ⟨xo, xd, xs, xt, xn, xp, xm, xw, xe, xc, xi⟩ := x
  simp only [setCount]
  rw [Bool.eq_iff_iff]
  cases xw <;> cases xe <;> simp [refK, regsB, okK, isK, inZero, withinB] at h ⊢ <;> omega
theorem turnCount_3 (x : In) (v : Int) (_hv : v < 2048) (h : refK 3 x = true) : refK 3 (setCount x v) = (false || decide (setCount x v = x)) := by
  obtain ⟨xo, xd, xs, xt, xn, xp, xm, xw, xe, xc, xi⟩ := x
  simp only [setCount]
  rw [Bool.eq_iff_iff]
  cases xw <;> cases xe <;> simp [refK, regsB, okK, isK, inZero, condB, withinB] at h ⊢ <;> omega
theorem turnCount_4 (x : In) (v : Int) (_hv : v < 2048) (h : refK 4 x = true) : refK 4 (setCount x v) = (false || decide (setCount x v = x)) := by
  obtain ⟨xo, xd, xs, xt, xn, xp, xm, xw, xe, xc, xi⟩ := x
  simp only [setCount]
  rw [Bool.eq_iff_iff]
  cases xw <;> cases xe <;> simp [refK, regsB, okK, isK, inZero, condB] at h ⊢ <;> omega
theorem turnCount_5 (x : In) (v : Int) (_hv : v < 2048) (h : refK 5 x = true) : refK 5 (setCount x v) = (false || decide (setCount x v = x)) := by
  obtain ⟨xo, xd, xs, xt, xn, xp, xm, xw, xe, xc, xi⟩ := x
  simp only [setCount]
  rw [Bool.eq_iff_iff]
  cases xw <;> cases xe <;> simp [refK, regsB, okK, isK, inZero] at h ⊢ <;> omega
theorem turnCount_6 (x : In) (v : Int) (_hv : v < 2048) (h : refK 6 x = true) : refK 6 (setCount x v) = (false || decide (setCount x v = x)) := by
  obtain ⟨xo, xd, xs, xt, xn, xp, xm, xw, xe, xc, xi⟩ := x
  simp only [setCount]
  rw [Bool.eq_iff_iff]
  cases xw <;> cases xe <;> simp [refK, regsB, okK, isK, inZero, withinB] at h ⊢ <;> omega
theorem turnCount_7 (x : In) (v : Int) (_hv : v < 2048) (h : refK 7 x = true) : refK 7 (setCount x v) = (false || decide (setCount x v = x)) := by
  obtain ⟨xo, xd, xs, xt, xn, xp, xm, xw, xe, xc, xi⟩ := x
  simp only [setCount]
  rw [Bool.eq_iff_iff]
  cases xw <;> cases xe <;> simp [refK, regsB, okK, isK, inZero] at h ⊢ <;> omega
theorem turnCount_8 (x : In) (v : Int) (_hv : v < 2048) (h : refK 8 x = true) : refK 8 (setCount x v) = (false || decide (setCount x v = x)) := by
  obtain ⟨xo, xd, xs, xt, xn, xp, xm, xw, xe, xc, xi⟩ := x
  simp only [setCount]
  rw [Bool.eq_iff_iff]
  cases xw <;> cases xe <;> simp [refK, regsB, okK, isK, inZero] at h ⊢ <;> omega
theorem turnCount_9 (x : In) (v : Int) (_hv : v < 2048) (h : refK 9 x = true) : refK 9 (setCount x v) = (false || decide (setCount x v = x)) := by
  obtain ⟨xo, xd, xs, xt, xn, xp, xm, xw, xe, xc, xi⟩ := x
  simp only [setCount]
  rw [Bool.eq_iff_iff]
  cases xw <;> cases xe <;> simp [refK, regsB, okK, isK, inZero] at h ⊢ <;> omega
theorem turnCount_10 (x : In) (v : Int) (_hv : v < 2048) (h : refK 10 x = true) : refK 10 (setCount x v) = (false || decide (setCount x v = x)) := by
  obtain ⟨xo, xd, xs, xt, xn, xp, xm, xw, xe, xc, xi⟩ := x
  simp only [setCount]
  rw [Bool.eq_iff_iff]
  cases xw <;> cases xe <;> simp [refK, regsB, okK, isK, inZero, withinB] at h ⊢ <;> omega
theorem turnCount_11 (x : In) (v : Int) (_hv : v < 2048) (h : refK 11 x = true) : refK 11 (setCount x v) = (false || decide (setCount x v = x)) := by
  obtain ⟨xo, xd, xs, xt, xn, xp, xm, xw, xe, xc, xi⟩ := x
  simp only [setCount]
  rw [Bool.eq_iff_iff]
  cases xw <;> cases xe <;> simp [refK, regsB, okK, isK, inZero, withinB] at h ⊢ <;> omega
theorem turnCount_12 (x : In) (v : Int) (_hv : v < 2048) (h : refK 12 x = true) : refK 12 (setCount x v) = (false || decide (setCount x v = x)) := by
  obtain ⟨xo, xd, xs, xt, xn, xp, xm, xw, xe, xc, xi⟩ := x
  simp only [setCount]
  rw [Bool.eq_iff_iff]
  cases xw <;> cases xe <;> simp [refK, regsB, okK, isK, inZero, condB, aimB] at h ⊢ <;> omega
theorem turnCount_13 (x : In) (v : Int) (_hv : v < 2048) (h : refK 13 x = true) : refK 13 (setCount x v) = (false || decide (setCount x v = x)) := by
  obtain ⟨xo, xd, xs, xt, xn, xp, xm, xw, xe, xc, xi⟩ := x
  simp only [setCount]
  rw [Bool.eq_iff_iff]
  cases xw <;> cases xe <;> simp [refK, regsB, okK, isK, inZero, condB] at h ⊢ <;> omega
theorem turnCount_14 (x : In) (v : Int) (_hv : v < 2048) (h : refK 14 x = true) : refK 14 (setCount x v) = (false || decide (setCount x v = x)) := by
  obtain ⟨xo, xd, xs, xt, xn, xp, xm, xw, xe, xc, xi⟩ := x
  simp only [setCount]
  rw [Bool.eq_iff_iff]
  cases xw <;> cases xe <;> simp [refK, regsB, okK, isK, inZero, aimB] at h ⊢ <;> omega
theorem turnCount_15 (x : In) (v : Int) (_hv : v < 2048) (h : refK 15 x = true) : refK 15 (setCount x v) = (true || decide (setCount x v = x)) := by
  obtain ⟨xo, xd, xs, xt, xn, xp, xm, xw, xe, xc, xi⟩ := x
  simp only [setCount]
  rw [Bool.eq_iff_iff]
  cases xw <;> cases xe <;> simp [refK, regsB, okK, isK, inZero, aimB] at h ⊢ <;> omega
theorem turnCount_16 (x : In) (v : Int) (_hv : v < 2048) (h : refK 16 x = true) : refK 16 (setCount x v) = (false || decide (setCount x v = x)) := by
  obtain ⟨xo, xd, xs, xt, xn, xp, xm, xw, xe, xc, xi⟩ := x
  simp only [setCount]
  rw [Bool.eq_iff_iff]
  cases xw <;> cases xe <;> simp [refK, regsB, okK, isK, inZero, aimB] at h ⊢ <;> omega
theorem turnCount_17 (x : In) (v : Int) (_hv : v < 2048) (h : refK 17 x = true) : refK 17 (setCount x v) = (false || decide (setCount x v = x)) := by
  obtain ⟨xo, xd, xs, xt, xn, xp, xm, xw, xe, xc, xi⟩ := x
  simp only [setCount]
  rw [Bool.eq_iff_iff]
  cases xw <;> cases xe <;> simp [refK, regsB, okK, isK, inZero] at h ⊢ <;> omega
def kfL : List (List Fd) := [[], [fMode, fPred, fD, fS, fT], [fD, fS, fI14], [fMode, fPred, fD, fI14], [fMode, fPred, fD, fS], [fDP, fS, fT], [fDP, fS, fI14], [fD, fPred, fS, fT], [fD, fS, fU5], [fD, fS, fT], [fD, fS, fI12], [fS, fNew, fT, fI12], [fMode, fPred, fR19], [fMode, fPred, fS], [fR24], [fN, fR12, fCount], [fN, fR12, fS], []]
def hasT (k : Nat) (kd : Int) : Bool := hasB (kfL.getD k []) kd
theorem has_tab : ∀ op, op < 32 → 1 ≤ op → (∀ kd, kd < 12 → hasB (fieldsZ (op : Nat)) (kd : Nat) = hasT (kindZ (op : Nat)).toNat (kd : Nat)) ∧ 1 ≤ kindZ (op : Nat) ∧ kindZ (op : Nat) ≤ 17 := by decide +kernel
theorem has_of {op : Int} (h0 : 1 ≤ op) (h1 : op ≤ 31) (kd : Nat) (hkd : kd < 12) : hasB (fieldsZ op) kd = hasT (kindZ op).toNat kd := by
  have := (has_tab op.toNat (by omega) (by omega)).1 kd hkd
  rwa [show ((op.toNat : Nat) : Int) = op by omega] at this
theorem kind_range {op : Int} (h0 : 1 ≤ op) (h1 : op ≤ 31) : 1 ≤ kindZ op ∧ kindZ op ≤ 17 := by
  have := (has_tab op.toNat (by omega) (by omega)).2
  rwa [show ((op.toNat : Nat) : Int) = op by omega] at this
theorem right_op {x : In} (h : rightB x = true) : 1 ≤ x.op ∧ x.op ≤ 31 := by
  unfold rightB isOp at h
  simp only [Bool.and_eq_true, decide_eq_true_eq] at h
  exact h.1
theorem ref_of {x : In} (hx : x.small) (h : rightB x = true) : refK (kindZ x.op).toNat x = true := by
  rw [right_ref x hx] at h
  unfold refB at h
  rw [Bool.and_eq_true] at h
  exact h.2
theorem right_as {x : In} (hx : x.small) (hk : kindZ x.op ≠ 0) : rightB x = refK (kindZ x.op).toNat x := by
  rw [right_ref x hx, refB, decide_eq_true hk, Bool.true_and]
theorem kind_cases {k : Int} (h0 : 1 ≤ k) (h1 : k ≤ 17) : k.toNat = 1 ∨ k.toNat = 2 ∨ k.toNat = 3 ∨ k.toNat = 4 ∨ k.toNat = 5 ∨ k.toNat = 6 ∨ k.toNat = 7 ∨ k.toNat = 8 ∨ k.toNat = 9 ∨ k.toNat = 10 ∨ k.toNat = 11 ∨ k.toNat = 12 ∨ k.toNat = 13 ∨ k.toNat = 14 ∨ k.toNat = 15 ∨ k.toNat = 16 ∨ k.toNat = 17 := by omega
theorem setS_small {x : In} (hx : x.small) (v : Int) (h0 : 0 ≤ v) (h1 : v < 32) : (setS x v).small := { hx with s0 := h0, s1 := (by omega : v ≤ 255) }
theorem turnS (x : In) (hx : x.small) (v : Int) (h0 : 0 ≤ v) (h1 : v < 32) (h : rightB x = true) : rightB (setS x v) = (hasB (fieldsZ x.op) 5 || decide (setS x v = x)) := by
  obtain ⟨o0, o1⟩ := right_op h
  obtain ⟨k0, k1⟩ := kind_range o0 o1
  have hr := ref_of hx h
  rw [right_as (setS_small hx v h0 h1) (show kindZ x.op ≠ 0 by omega), show hasB (fieldsZ x.op) 5 = hasT (kindZ x.op).toNat 5 from has_of o0 o1 5 (by decide)]
  show refK (kindZ x.op).toNat (setS x v) = _
  rcases kind_cases k0 k1 with e | e | e | e | e | e | e | e | e | e | e | e | e | e | e | e | e
  all_goals rw [e] at hr ⊢
  · exact turnS_1 x v h1 hr
  · exact turnS_2 x v h1 hr
  · exact turnS_3 x v h1 hr
  · exact turnS_4 x v h1 hr
  · exact turnS_5 x v h1 hr
  · exact turnS_6 x v h1 hr
  · exact turnS_7 x v h1 hr
  · exact turnS_8 x v h1 hr
  · exact turnS_9 x v h1 hr
  · exact turnS_10 x v h1 hr
  · exact turnS_11 x v h1 hr
  · exact turnS_12 x v h1 hr
  · exact turnS_13 x v h1 hr
  · exact turnS_14 x v h1 hr
  · exact turnS_15 x v h1 hr
  · exact turnS_16 x v h1 hr
  · exact turnS_17 x v h1 hr
theorem setT_small {x : In} (hx : x.small) (v : Int) (h0 : 0 ≤ v) (h1 : v < 32) : (setT x v).small := { hx with t0 := h0, t1 := (by omega : v ≤ 255) }
theorem turnT (x : In) (hx : x.small) (v : Int) (h0 : 0 ≤ v) (h1 : v < 32) (h : rightB x = true) : rightB (setT x v) = (hasB (fieldsZ x.op) 6 || decide (setT x v = x)) := by
  obtain ⟨o0, o1⟩ := right_op h
  obtain ⟨k0, k1⟩ := kind_range o0 o1
  have hr := ref_of hx h
  rw [right_as (setT_small hx v h0 h1) (show kindZ x.op ≠ 0 by omega), show hasB (fieldsZ x.op) 6 = hasT (kindZ x.op).toNat 6 from has_of o0 o1 6 (by decide)]
  show refK (kindZ x.op).toNat (setT x v) = _
  rcases kind_cases k0 k1 with e | e | e | e | e | e | e | e | e | e | e | e | e | e | e | e | e
  all_goals rw [e] at hr ⊢
  · exact turnT_1 x v h1 hr
  · exact turnT_2 x v h1 hr
  · exact turnT_3 x v h1 hr
  · exact turnT_4 x v h1 hr
  · exact turnT_5 x v h1 hr
  · exact turnT_6 x v h1 hr
  · exact turnT_7 x v h1 hr
  · exact turnT_8 x v h1 hr
  · exact turnT_9 x v h1 hr
  · exact turnT_10 x v h1 hr
  · exact turnT_11 x v h1 hr
  · exact turnT_12 x v h1 hr
  · exact turnT_13 x v h1 hr
  · exact turnT_14 x v h1 hr
  · exact turnT_15 x v h1 hr
  · exact turnT_16 x v h1 hr
  · exact turnT_17 x v h1 hr
theorem setN_small {x : In} (hx : x.small) (v : Int) (h0 : 0 ≤ v) (h1 : v < 2) : (setN x v).small := { hx with n0 := h0, n1 := (by omega : v ≤ 255) }
theorem turnN (x : In) (hx : x.small) (v : Int) (h0 : 0 ≤ v) (h1 : v < 2) (h : rightB x = true) : rightB (setN x v) = (hasB (fieldsZ x.op) 7 || decide (setN x v = x)) := by
  obtain ⟨o0, o1⟩ := right_op h
  obtain ⟨k0, k1⟩ := kind_range o0 o1
  have hr := ref_of hx h
  rw [right_as (setN_small hx v h0 h1) (show kindZ x.op ≠ 0 by omega), show hasB (fieldsZ x.op) 7 = hasT (kindZ x.op).toNat 7 from has_of o0 o1 7 (by decide)]
  show refK (kindZ x.op).toNat (setN x v) = _
  rcases kind_cases k0 k1 with e | e | e | e | e | e | e | e | e | e | e | e | e | e | e | e | e
  all_goals rw [e] at hr ⊢
  · exact turnN_1 x v h1 hr
  · exact turnN_2 x v h1 hr
  · exact turnN_3 x v h1 hr
  · exact turnN_4 x v h1 hr
  · exact turnN_5 x v h1 hr
  · exact turnN_6 x v h1 hr
  · exact turnN_7 x v h1 hr
  · exact turnN_8 x v h1 hr
  · exact turnN_9 x v h1 hr
  · exact turnN_10 x v h1 hr
  · exact turnN_11 x v h1 hr
  · exact turnN_12 x v h1 hr
  · exact turnN_13 x v h1 hr
  · exact turnN_14 x v h1 hr
  · exact turnN_15 x v h1 hr
  · exact turnN_16 x v h1 hr
  · exact turnN_17 x v h1 hr
theorem setNew_small {x : In} (hx : x.small) (v : Bool)  : (setNew x v).small := { hx with }
theorem turnNew (x : In) (hx : x.small) (v : Bool)  (h : rightB x = true) : rightB (setNew x v) = (hasB (fieldsZ x.op) 8 || decide (setNew x v = x)) := by
  obtain ⟨o0, o1⟩ := right_op h
  obtain ⟨k0, k1⟩ := kind_range o0 o1
  have hr := ref_of hx h
  rw [right_as (setNew_small hx v) (show kindZ x.op ≠ 0 by omega), show hasB (fieldsZ x.op) 8 = hasT (kindZ x.op).toNat 8 from has_of o0 o1 8 (by decide)]
  show refK (kindZ x.op).toNat (setNew x v) = _
  rcases kind_cases k0 k1 with e | e | e | e | e | e | e | e | e | e | e | e | e | e | e | e | e
  all_goals rw [e] at hr ⊢
  · exact turnNew_1 x v hr
  · exact turnNew_2 x v hr
  · exact turnNew_3 x v hr
  · exact turnNew_4 x v hr
  · exact turnNew_5 x v hr
  · exact turnNew_6 x v hr
  · exact turnNew_7 x v hr
  · exact turnNew_8 x v hr
  · exact turnNew_9 x v hr
  · exact turnNew_10 x v hr
  · exact turnNew_11 x v hr
  · exact turnNew_12 x v hr
  · exact turnNew_13 x v hr
  · exact turnNew_14 x v hr
  · exact turnNew_15 x v hr
  · exact turnNew_16 x v hr
  · exact turnNew_17 x v hr
theorem setCount_small {x : In} (hx : x.small) (v : Int) (h0 : 0 ≤ v) (h1 : v < 2048) : (setCount x v).small := { hx with count0 := h0, count1 := (by omega : v ≤ 65535) }
theorem turnCount (x : In) (hx : x.small) (v : Int) (h0 : 0 ≤ v) (h1 : v < 2048) (h : rightB x = true) : rightB (setCount x v) = (hasB (fieldsZ x.op) 11 || decide (setCount x v = x)) := by
  obtain ⟨o0, o1⟩ := right_op h
  obtain ⟨k0, k1⟩ := kind_range o0 o1
  have hr := ref_of hx h
  rw [right_as (setCount_small hx v h0 h1) (show kindZ x.op ≠ 0 by omega), show hasB (fieldsZ x.op) 11 = hasT (kindZ x.op).toNat 11 from has_of o0 o1 11 (by decide)]
  show refK (kindZ x.op).toNat (setCount x v) = _
  rcases kind_cases k0 k1 with e | e | e | e | e | e | e | e | e | e | e | e | e | e | e | e | e
  all_goals rw [e] at hr ⊢
  · exact turnCount_1 x v h1 hr
  · exact turnCount_2 x v h1 hr
  · exact turnCount_3 x v h1 hr
  · exact turnCount_4 x v h1 hr
  · exact turnCount_5 x v h1 hr
  · exact turnCount_6 x v h1 hr
  · exact turnCount_7 x v h1 hr
  · exact turnCount_8 x v h1 hr
  · exact turnCount_9 x v h1 hr
  · exact turnCount_10 x v h1 hr
  · exact turnCount_11 x v h1 hr
  · exact turnCount_12 x v h1 hr
  · exact turnCount_13 x v h1 hr
  · exact turnCount_14 x v h1 hr
  · exact turnCount_15 x v h1 hr
  · exact turnCount_16 x v h1 hr
  · exact turnCount_17 x v h1 hr
end
end Go.Proofs.YtnfmlmamgkpocaaGreatDoor
