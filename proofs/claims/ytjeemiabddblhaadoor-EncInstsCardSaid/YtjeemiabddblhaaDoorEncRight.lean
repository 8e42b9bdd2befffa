/- The document's form of a right instruction, op by op, is the table's; no condition but that each part lies in its Go type. Written by wip/tools/gen_encright.py. -/
import Derived.Test.YtjeemiabddblhaaDoorEncMath
namespace Go.Proofs.YtjeemiabddblhaaDoor
open Go

def numsB (x : In) (fs : List Fd) : Bool := fs.all fun f => isVal f || decide (numZ x f.kind < 2 ^ f.bits.toNat)
def endB (x : In) : Bool := if (vF x.op).kind = 10 then decide (0 ≤ x.imm) && decide (x.imm < 4294967296) && decide (x.imm % 4 = 0) else if x.ext then decide (-2147483648 ≤ x.imm) && decide (x.imm < 2147483648) else fitP x 0
def rrP (x : In) : Bool := isOp x.op && !(x.ext && !mayZ x.op) && numsB x (fieldsZ x.op) && decide (plainFrom x (fieldsZ x.op) (startIn x.op x.ext) = x) && decide (x.mode ≤ 4) && !(x.mode == 0 && x.pred != 0 && x.op != 14) && endB x
set_option maxHeartbeats 2000000 in
theorem rr_1 (x : In) (h : x.small) (ho : x.op = 1) : rrP x = refB x := by
  have h1 := h.mode0; have h2 := h.pred0; have h3 := h.d0; have h4 := h.s0; have h5 := h.t0; have h6 := h.n0; have h7 := h.count0
  have h11 := h.mode1; have h12 := h.pred1; have h13 := h.d1; have h14 := h.s1; have h15 := h.t1; have h16 := h.n1; have h17 := h.count1
  have e1 : vF 1 = fZero := by decide +kernel
  have e2 : vB 1 = false := by decide +kernel
  have e3 : mayZ 1 = false := by decide +kernel
  obtain ⟨xo, xd, xs, xt, xn, xp, xm, xw, xe, xc, xi⟩ := x
  obtain rfl : xo = 1 := ho
  dsimp only at h1 h2 h3 h4 h5 h6 h7 h11 h12 h13 h14 h15 h16 h17
  rw [Bool.eq_iff_iff]
  unfold rrP refB endB fitP fitZ valZ
  dsimp only
  rw [e1, e2, e3, show fieldsZ 1 = [] from rfl, show (kindZ 1).toNat = 17 from rfl, show decide (kindZ 1 ≠ 0) = true from rfl, show isOp 1 = true from rfl]
  clear e1 e2 e3 h
  cases xw <;> cases xe <;> simp [numsB, plainFrom, startIn, numZ, isVal, fitsB, inZero, refK, okK, regsB, isK, fZero] <;> omega
set_option maxHeartbeats 2000000 in
theorem rr_2 (x : In) (h : x.small) (ho : x.op = 2) : rrP x = refB x := by
  have h1 := h.mode0; have h2 := h.pred0; have h3 := h.d0; have h4 := h.s0; have h5 := h.t0; have h6 := h.n0; have h7 := h.count0
  have h11 := h.mode1; have h12 := h.pred1; have h13 := h.d1; have h14 := h.s1; have h15 := h.t1; have h16 := h.n1; have h17 := h.count1
  have e1 : vF 2 = fZero := by decide +kernel
  have e2 : vB 2 = false := by decide +kernel
  have e3 : mayZ 2 = false := by decide +kernel
  obtain ⟨xo, xd, xs, xt, xn, xp, xm, xw, xe, xc, xi⟩ := x
  obtain rfl : xo = 2 := ho
  dsimp only at h1 h2 h3 h4 h5 h6 h7 h11 h12 h13 h14 h15 h16 h17
  rw [Bool.eq_iff_iff]
  unfold rrP refB endB fitP fitZ valZ
  dsimp only
  rw [e1, e2, e3, show fieldsZ 2 = [fMode, fPred, fD, fS, fT] from rfl, show (kindZ 2).toNat = 1 from rfl, show decide (kindZ 2 ≠ 0) = true from rfl, show isOp 2 = true from rfl]
  clear e1 e2 e3 h
  cases xw <;> cases xe <;> simp [numsB, plainFrom, startIn, setZ, numZ, isVal, fitsB, inZero, refK, okK, regsB, condB, isK, fMode, fPred, fD, fS, fT, fZero] <;> omega
set_option maxHeartbeats 2000000 in
theorem rr_3 (x : In) (h : x.small) (ho : x.op = 3) : rrP x = refB x := by
  have h1 := h.mode0; have h2 := h.pred0; have h3 := h.d0; have h4 := h.s0; have h5 := h.t0; have h6 := h.n0; have h7 := h.count0
  have h11 := h.mode1; have h12 := h.pred1; have h13 := h.d1; have h14 := h.s1; have h15 := h.t1; have h16 := h.n1; have h17 := h.count1
  have e1 : vF 3 = fZero := by decide +kernel
  have e2 : vB 3 = false := by decide +kernel
  have e3 : mayZ 3 = false := by decide +kernel
  obtain ⟨xo, xd, xs, xt, xn, xp, xm, xw, xe, xc, xi⟩ := x
  obtain rfl : xo = 3 := ho
  dsimp only at h1 h2 h3 h4 h5 h6 h7 h11 h12 h13 h14 h15 h16 h17
  rw [Bool.eq_iff_iff]
  unfold rrP refB endB fitP fitZ valZ
  dsimp only
  rw [e1, e2, e3, show fieldsZ 3 = [fMode, fPred, fD, fS, fT] from rfl, show (kindZ 3).toNat = 1 from rfl, show decide (kindZ 3 ≠ 0) = true from rfl, show isOp 3 = true from rfl]
  clear e1 e2 e3 h
  cases xw <;> cases xe <;> simp [numsB, plainFrom, startIn, setZ, numZ, isVal, fitsB, inZero, refK, okK, regsB, condB, isK, fMode, fPred, fD, fS, fT, fZero] <;> omega
set_option maxHeartbeats 2000000 in
theorem rr_4 (x : In) (h : x.small) (ho : x.op = 4) : rrP x = refB x := by
  have h1 := h.mode0; have h2 := h.pred0; have h3 := h.d0; have h4 := h.s0; have h5 := h.t0; have h6 := h.n0; have h7 := h.count0
  have h11 := h.mode1; have h12 := h.pred1; have h13 := h.d1; have h14 := h.s1; have h15 := h.t1; have h16 := h.n1; have h17 := h.count1
  have e1 : vF 4 = fZero := by decide +kernel
  have e2 : vB 4 = false := by decide +kernel
  have e3 : mayZ 4 = false := by decide +kernel
  obtain ⟨xo, xd, xs, xt, xn, xp, xm, xw, xe, xc, xi⟩ := x
  obtain rfl : xo = 4 := ho
  dsimp only at h1 h2 h3 h4 h5 h6 h7 h11 h12 h13 h14 h15 h16 h17
  rw [Bool.eq_iff_iff]
  unfold rrP refB endB fitP fitZ valZ
  dsimp only
  rw [e1, e2, e3, show fieldsZ 4 = [fMode, fPred, fD, fS, fT] from rfl, show (kindZ 4).toNat = 1 from rfl, show decide (kindZ 4 ≠ 0) = true from rfl, show isOp 4 = true from rfl]
  clear e1 e2 e3 h
  cases xw <;> cases xe <;> simp [numsB, plainFrom, startIn, setZ, numZ, isVal, fitsB, inZero, refK, okK, regsB, condB, isK, fMode, fPred, fD, fS, fT, fZero] <;> omega
set_option maxHeartbeats 2000000 in
theorem rr_5 (x : In) (h : x.small) (ho : x.op = 5) : rrP x = refB x := by
  have h1 := h.mode0; have h2 := h.pred0; have h3 := h.d0; have h4 := h.s0; have h5 := h.t0; have h6 := h.n0; have h7 := h.count0
  have h11 := h.mode1; have h12 := h.pred1; have h13 := h.d1; have h14 := h.s1; have h15 := h.t1; have h16 := h.n1; have h17 := h.count1
  have e1 : vF 5 = fZero := by decide +kernel
  have e2 : vB 5 = false := by decide +kernel
  have e3 : mayZ 5 = false := by decide +kernel
  obtain ⟨xo, xd, xs, xt, xn, xp, xm, xw, xe, xc, xi⟩ := x
  obtain rfl : xo = 5 := ho
  dsimp only at h1 h2 h3 h4 h5 h6 h7 h11 h12 h13 h14 h15 h16 h17
  rw [Bool.eq_iff_iff]
  unfold rrP refB endB fitP fitZ valZ
  dsimp only
  rw [e1, e2, e3, show fieldsZ 5 = [fMode, fPred, fD, fS, fT] from rfl, show (kindZ 5).toNat = 1 from rfl, show decide (kindZ 5 ≠ 0) = true from rfl, show isOp 5 = true from rfl]
  clear e1 e2 e3 h
  cases xw <;> cases xe <;> simp [numsB, plainFrom, startIn, setZ, numZ, isVal, fitsB, inZero, refK, okK, regsB, condB, isK, fMode, fPred, fD, fS, fT, fZero] <;> omega
set_option maxHeartbeats 2000000 in
theorem rr_6 (x : In) (h : x.small) (ho : x.op = 6) : rrP x = refB x := by
  have h1 := h.mode0; have h2 := h.pred0; have h3 := h.d0; have h4 := h.s0; have h5 := h.t0; have h6 := h.n0; have h7 := h.count0
  have h11 := h.mode1; have h12 := h.pred1; have h13 := h.d1; have h14 := h.s1; have h15 := h.t1; have h16 := h.n1; have h17 := h.count1
  have e1 : vF 6 = fZero := by decide +kernel
  have e2 : vB 6 = false := by decide +kernel
  have e3 : mayZ 6 = false := by decide +kernel
  obtain ⟨xo, xd, xs, xt, xn, xp, xm, xw, xe, xc, xi⟩ := x
  obtain rfl : xo = 6 := ho
  dsimp only at h1 h2 h3 h4 h5 h6 h7 h11 h12 h13 h14 h15 h16 h17
  rw [Bool.eq_iff_iff]
  unfold rrP refB endB fitP fitZ valZ
  dsimp only
  rw [e1, e2, e3, show fieldsZ 6 = [fMode, fPred, fD, fS, fT] from rfl, show (kindZ 6).toNat = 1 from rfl, show decide (kindZ 6 ≠ 0) = true from rfl, show isOp 6 = true from rfl]
  clear e1 e2 e3 h
  cases xw <;> cases xe <;> simp [numsB, plainFrom, startIn, setZ, numZ, isVal, fitsB, inZero, refK, okK, regsB, condB, isK, fMode, fPred, fD, fS, fT, fZero] <;> omega
set_option maxHeartbeats 2000000 in
theorem rr_7 (x : In) (h : x.small) (ho : x.op = 7) : rrP x = refB x := by
  have h1 := h.mode0; have h2 := h.pred0; have h3 := h.d0; have h4 := h.s0; have h5 := h.t0; have h6 := h.n0; have h7 := h.count0
  have h11 := h.mode1; have h12 := h.pred1; have h13 := h.d1; have h14 := h.s1; have h15 := h.t1; have h16 := h.n1; have h17 := h.count1
  have e1 : vF 7 = fI14 := by decide +kernel
  have e2 : vB 7 = true := by decide +kernel
  have e3 : mayZ 7 = true := by decide +kernel
  obtain ⟨xo, xd, xs, xt, xn, xp, xm, xw, xe, xc, xi⟩ := x
  obtain rfl : xo = 7 := ho
  dsimp only at h1 h2 h3 h4 h5 h6 h7 h11 h12 h13 h14 h15 h16 h17
  rw [Bool.eq_iff_iff]
  unfold rrP refB endB fitP fitZ valZ
  dsimp only
  rw [e1, e2, e3, show fieldsZ 7 = [fD, fS, fI14] from rfl, show (kindZ 7).toNat = 2 from rfl, show decide (kindZ 7 ≠ 0) = true from rfl, show isOp 7 = true from rfl]
  clear e1 e2 e3 h
  cases xw <;> cases xe <;> simp [numsB, plainFrom, startIn, setZ, numZ, isVal, fitsB, inZero, refK, okK, regsB, withinB, isK, fD, fS, fI14] <;> omega
set_option maxHeartbeats 2000000 in
theorem rr_8 (x : In) (h : x.small) (ho : x.op = 8) : rrP x = refB x := by
  have h1 := h.mode0; have h2 := h.pred0; have h3 := h.d0; have h4 := h.s0; have h5 := h.t0; have h6 := h.n0; have h7 := h.count0
  have h11 := h.mode1; have h12 := h.pred1; have h13 := h.d1; have h14 := h.s1; have h15 := h.t1; have h16 := h.n1; have h17 := h.count1
  have e1 : vF 8 = fI14 := by decide +kernel
  have e2 : vB 8 = true := by decide +kernel
  have e3 : mayZ 8 = true := by decide +kernel
  obtain ⟨xo, xd, xs, xt, xn, xp, xm, xw, xe, xc, xi⟩ := x
  obtain rfl : xo = 8 := ho
  dsimp only at h1 h2 h3 h4 h5 h6 h7 h11 h12 h13 h14 h15 h16 h17
  rw [Bool.eq_iff_iff]
  unfold rrP refB endB fitP fitZ valZ
  dsimp only
  rw [e1, e2, e3, show fieldsZ 8 = [fMode, fPred, fD, fI14] from rfl, show (kindZ 8).toNat = 3 from rfl, show decide (kindZ 8 ≠ 0) = true from rfl, show isOp 8 = true from rfl]
  clear e1 e2 e3 h
  cases xw <;> cases xe <;> simp [numsB, plainFrom, startIn, setZ, numZ, isVal, fitsB, inZero, refK, okK, regsB, condB, withinB, isK, fMode, fPred, fD, fI14] <;> omega
set_option maxHeartbeats 2000000 in
theorem rr_9 (x : In) (h : x.small) (ho : x.op = 9) : rrP x = refB x := by
  have h1 := h.mode0; have h2 := h.pred0; have h3 := h.d0; have h4 := h.s0; have h5 := h.t0; have h6 := h.n0; have h7 := h.count0
  have h11 := h.mode1; have h12 := h.pred1; have h13 := h.d1; have h14 := h.s1; have h15 := h.t1; have h16 := h.n1; have h17 := h.count1
  have e1 : vF 9 = fZero := by decide +kernel
  have e2 : vB 9 = false := by decide +kernel
  have e3 : mayZ 9 = false := by decide +kernel
  obtain ⟨xo, xd, xs, xt, xn, xp, xm, xw, xe, xc, xi⟩ := x
  obtain rfl : xo = 9 := ho
  dsimp only at h1 h2 h3 h4 h5 h6 h7 h11 h12 h13 h14 h15 h16 h17
  rw [Bool.eq_iff_iff]
  unfold rrP refB endB fitP fitZ valZ
  dsimp only
  rw [e1, e2, e3, show fieldsZ 9 = [fMode, fPred, fD, fS] from rfl, show (kindZ 9).toNat = 4 from rfl, show decide (kindZ 9 ≠ 0) = true from rfl, show isOp 9 = true from rfl]
  clear e1 e2 e3 h
  cases xw <;> cases xe <;> simp [numsB, plainFrom, startIn, setZ, numZ, isVal, fitsB, inZero, refK, okK, regsB, condB, isK, fMode, fPred, fD, fS, fZero] <;> omega
set_option maxHeartbeats 2000000 in
theorem rr_10 (x : In) (h : x.small) (ho : x.op = 10) : rrP x = refB x := by
  have h1 := h.mode0; have h2 := h.pred0; have h3 := h.d0; have h4 := h.s0; have h5 := h.t0; have h6 := h.n0; have h7 := h.count0
  have h11 := h.mode1; have h12 := h.pred1; have h13 := h.d1; have h14 := h.s1; have h15 := h.t1; have h16 := h.n1; have h17 := h.count1
  have e1 : vF 10 = fZero := by decide +kernel
  have e2 : vB 10 = false := by decide +kernel
  have e3 : mayZ 10 = false := by decide +kernel
  obtain ⟨xo, xd, xs, xt, xn, xp, xm, xw, xe, xc, xi⟩ := x
  obtain rfl : xo = 10 := ho
  dsimp only at h1 h2 h3 h4 h5 h6 h7 h11 h12 h13 h14 h15 h16 h17
  rw [Bool.eq_iff_iff]
  unfold rrP refB endB fitP fitZ valZ
  dsimp only
  rw [e1, e2, e3, show fieldsZ 10 = [fDP, fS, fT] from rfl, show (kindZ 10).toNat = 5 from rfl, show decide (kindZ 10 ≠ 0) = true from rfl, show isOp 10 = true from rfl]
  clear e1 e2 e3 h
  cases xw <;> cases xe <;> simp [numsB, plainFrom, startIn, setZ, numZ, isVal, fitsB, inZero, refK, okK, regsB, isK, fDP, fS, fT, fZero] <;> omega
set_option maxHeartbeats 2000000 in
theorem rr_11 (x : In) (h : x.small) (ho : x.op = 11) : rrP x = refB x := by
  have h1 := h.mode0; have h2 := h.pred0; have h3 := h.d0; have h4 := h.s0; have h5 := h.t0; have h6 := h.n0; have h7 := h.count0
  have h11 := h.mode1; have h12 := h.pred1; have h13 := h.d1; have h14 := h.s1; have h15 := h.t1; have h16 := h.n1; have h17 := h.count1
  have e1 : vF 11 = fZero := by decide +kernel
  have e2 : vB 11 = false := by decide +kernel
  have e3 : mayZ 11 = false := by decide +kernel
  obtain ⟨xo, xd, xs, xt, xn, xp, xm, xw, xe, xc, xi⟩ := x
  obtain rfl : xo = 11 := ho
  dsimp only at h1 h2 h3 h4 h5 h6 h7 h11 h12 h13 h14 h15 h16 h17
  rw [Bool.eq_iff_iff]
  unfold rrP refB endB fitP fitZ valZ
  dsimp only
  rw [e1, e2, e3, show fieldsZ 11 = [fDP, fS, fT] from rfl, show (kindZ 11).toNat = 5 from rfl, show decide (kindZ 11 ≠ 0) = true from rfl, show isOp 11 = true from rfl]
  clear e1 e2 e3 h
  cases xw <;> cases xe <;> simp [numsB, plainFrom, startIn, setZ, numZ, isVal, fitsB, inZero, refK, okK, regsB, isK, fDP, fS, fT, fZero] <;> omega
set_option maxHeartbeats 2000000 in
theorem rr_12 (x : In) (h : x.small) (ho : x.op = 12) : rrP x = refB x := by
  have h1 := h.mode0; have h2 := h.pred0; have h3 := h.d0; have h4 := h.s0; have h5 := h.t0; have h6 := h.n0; have h7 := h.count0
  have h11 := h.mode1; have h12 := h.pred1; have h13 := h.d1; have h14 := h.s1; have h15 := h.t1; have h16 := h.n1; have h17 := h.count1
  have e1 : vF 12 = fZero := by decide +kernel
  have e2 : vB 12 = false := by decide +kernel
  have e3 : mayZ 12 = false := by decide +kernel
  obtain ⟨xo, xd, xs, xt, xn, xp, xm, xw, xe, xc, xi⟩ := x
  obtain rfl : xo = 12 := ho
  dsimp only at h1 h2 h3 h4 h5 h6 h7 h11 h12 h13 h14 h15 h16 h17
  rw [Bool.eq_iff_iff]
  unfold rrP refB endB fitP fitZ valZ
  dsimp only
  rw [e1, e2, e3, show fieldsZ 12 = [fDP, fS, fT] from rfl, show (kindZ 12).toNat = 5 from rfl, show decide (kindZ 12 ≠ 0) = true from rfl, show isOp 12 = true from rfl]
  clear e1 e2 e3 h
  cases xw <;> cases xe <;> simp [numsB, plainFrom, startIn, setZ, numZ, isVal, fitsB, inZero, refK, okK, regsB, isK, fDP, fS, fT, fZero] <;> omega
set_option maxHeartbeats 2000000 in
theorem rr_13 (x : In) (h : x.small) (ho : x.op = 13) : rrP x = refB x := by
  have h1 := h.mode0; have h2 := h.pred0; have h3 := h.d0; have h4 := h.s0; have h5 := h.t0; have h6 := h.n0; have h7 := h.count0
  have h11 := h.mode1; have h12 := h.pred1; have h13 := h.d1; have h14 := h.s1; have h15 := h.t1; have h16 := h.n1; have h17 := h.count1
  have e1 : vF 13 = fI14 := by decide +kernel
  have e2 : vB 13 = true := by decide +kernel
  have e3 : mayZ 13 = true := by decide +kernel
  obtain ⟨xo, xd, xs, xt, xn, xp, xm, xw, xe, xc, xi⟩ := x
  obtain rfl : xo = 13 := ho
  dsimp only at h1 h2 h3 h4 h5 h6 h7 h11 h12 h13 h14 h15 h16 h17
  rw [Bool.eq_iff_iff]
  unfold rrP refB endB fitP fitZ valZ
  dsimp only
  rw [e1, e2, e3, show fieldsZ 13 = [fDP, fS, fI14] from rfl, show (kindZ 13).toNat = 6 from rfl, show decide (kindZ 13 ≠ 0) = true from rfl, show isOp 13 = true from rfl]
  clear e1 e2 e3 h
  cases xw <;> cases xe <;> simp [numsB, plainFrom, startIn, setZ, numZ, isVal, fitsB, inZero, refK, okK, regsB, withinB, isK, fDP, fS, fI14] <;> omega
set_option maxHeartbeats 2000000 in
theorem rr_14 (x : In) (h : x.small) (ho : x.op = 14) : rrP x = refB x := by
  have h1 := h.mode0; have h2 := h.pred0; have h3 := h.d0; have h4 := h.s0; have h5 := h.t0; have h6 := h.n0; have h7 := h.count0
  have h11 := h.mode1; have h12 := h.pred1; have h13 := h.d1; have h14 := h.s1; have h15 := h.t1; have h16 := h.n1; have h17 := h.count1
  have e1 : vF 14 = fZero := by decide +kernel
  have e2 : vB 14 = false := by decide +kernel
  have e3 : mayZ 14 = false := by decide +kernel
  obtain ⟨xo, xd, xs, xt, xn, xp, xm, xw, xe, xc, xi⟩ := x
  obtain rfl : xo = 14 := ho
  dsimp only at h1 h2 h3 h4 h5 h6 h7 h11 h12 h13 h14 h15 h16 h17
  rw [Bool.eq_iff_iff]
  unfold rrP refB endB fitP fitZ valZ
  dsimp only
  rw [e1, e2, e3, show fieldsZ 14 = [fD, fPred, fS, fT] from rfl, show (kindZ 14).toNat = 7 from rfl, show decide (kindZ 14 ≠ 0) = true from rfl, show isOp 14 = true from rfl]
  clear e1 e2 e3 h
  cases xw <;> cases xe <;> simp [numsB, plainFrom, startIn, setZ, numZ, isVal, fitsB, inZero, refK, okK, regsB, isK, fD, fPred, fS, fT, fZero] <;> omega
set_option maxHeartbeats 2000000 in
theorem rr_15 (x : In) (h : x.small) (ho : x.op = 15) : rrP x = refB x := by
  have h1 := h.mode0; have h2 := h.pred0; have h3 := h.d0; have h4 := h.s0; have h5 := h.t0; have h6 := h.n0; have h7 := h.count0
  have h11 := h.mode1; have h12 := h.pred1; have h13 := h.d1; have h14 := h.s1; have h15 := h.t1; have h16 := h.n1; have h17 := h.count1
  have e1 : vF 15 = fU5 := by decide +kernel
  have e2 : vB 15 = true := by decide +kernel
  have e3 : mayZ 15 = false := by decide +kernel
  obtain ⟨xo, xd, xs, xt, xn, xp, xm, xw, xe, xc, xi⟩ := x
  obtain rfl : xo = 15 := ho
  dsimp only at h1 h2 h3 h4 h5 h6 h7 h11 h12 h13 h14 h15 h16 h17
  rw [Bool.eq_iff_iff]
  unfold rrP refB endB fitP fitZ valZ
  dsimp only
  rw [e1, e2, e3, show fieldsZ 15 = [fD, fS, fU5] from rfl, show (kindZ 15).toNat = 8 from rfl, show decide (kindZ 15 ≠ 0) = true from rfl, show isOp 15 = true from rfl]
  clear e1 e2 e3 h
  cases xw <;> cases xe <;> simp [numsB, plainFrom, startIn, setZ, numZ, isVal, fitsB, inZero, refK, okK, regsB, isK, fD, fS, fU5] <;> omega
set_option maxHeartbeats 2000000 in
theorem rr_16 (x : In) (h : x.small) (ho : x.op = 16) : rrP x = refB x := by
  have h1 := h.mode0; have h2 := h.pred0; have h3 := h.d0; have h4 := h.s0; have h5 := h.t0; have h6 := h.n0; have h7 := h.count0
  have h11 := h.mode1; have h12 := h.pred1; have h13 := h.d1; have h14 := h.s1; have h15 := h.t1; have h16 := h.n1; have h17 := h.count1
  have e1 : vF 16 = fU5 := by decide +kernel
  have e2 : vB 16 = true := by decide +kernel
  have e3 : mayZ 16 = false := by decide +kernel
  obtain ⟨xo, xd, xs, xt, xn, xp, xm, xw, xe, xc, xi⟩ := x
  obtain rfl : xo = 16 := ho
  dsimp only at h1 h2 h3 h4 h5 h6 h7 h11 h12 h13 h14 h15 h16 h17
  rw [Bool.eq_iff_iff]
  unfold rrP refB endB fitP fitZ valZ
  dsimp only
  rw [e1, e2, e3, show fieldsZ 16 = [fD, fS, fU5] from rfl, show (kindZ 16).toNat = 8 from rfl, show decide (kindZ 16 ≠ 0) = true from rfl, show isOp 16 = true from rfl]
  clear e1 e2 e3 h
  cases xw <;> cases xe <;> simp [numsB, plainFrom, startIn, setZ, numZ, isVal, fitsB, inZero, refK, okK, regsB, isK, fD, fS, fU5] <;> omega
set_option maxHeartbeats 2000000 in
theorem rr_17 (x : In) (h : x.small) (ho : x.op = 17) : rrP x = refB x := by
  have h1 := h.mode0; have h2 := h.pred0; have h3 := h.d0; have h4 := h.s0; have h5 := h.t0; have h6 := h.n0; have h7 := h.count0
  have h11 := h.mode1; have h12 := h.pred1; have h13 := h.d1; have h14 := h.s1; have h15 := h.t1; have h16 := h.n1; have h17 := h.count1
  have e1 : vF 17 = fU5 := by decide +kernel
  have e2 : vB 17 = true := by decide +kernel
  have e3 : mayZ 17 = false := by decide +kernel
  obtain ⟨xo, xd, xs, xt, xn, xp, xm, xw, xe, xc, xi⟩ := x
  obtain rfl : xo = 17 := ho
  dsimp only at h1 h2 h3 h4 h5 h6 h7 h11 h12 h13 h14 h15 h16 h17
  rw [Bool.eq_iff_iff]
  unfold rrP refB endB fitP fitZ valZ
  dsimp only
  rw [e1, e2, e3, show fieldsZ 17 = [fD, fS, fU5] from rfl, show (kindZ 17).toNat = 8 from rfl, show decide (kindZ 17 ≠ 0) = true from rfl, show isOp 17 = true from rfl]
  clear e1 e2 e3 h
  cases xw <;> cases xe <;> simp [numsB, plainFrom, startIn, setZ, numZ, isVal, fitsB, inZero, refK, okK, regsB, isK, fD, fS, fU5] <;> omega
set_option maxHeartbeats 2000000 in
theorem rr_18 (x : In) (h : x.small) (ho : x.op = 18) : rrP x = refB x := by
  have h1 := h.mode0; have h2 := h.pred0; have h3 := h.d0; have h4 := h.s0; have h5 := h.t0; have h6 := h.n0; have h7 := h.count0
  have h11 := h.mode1; have h12 := h.pred1; have h13 := h.d1; have h14 := h.s1; have h15 := h.t1; have h16 := h.n1; have h17 := h.count1
  have e1 : vF 18 = fZero := by decide +kernel
  have e2 : vB 18 = false := by decide +kernel
  have e3 : mayZ 18 = false := by decide +kernel
  obtain ⟨xo, xd, xs, xt, xn, xp, xm, xw, xe, xc, xi⟩ := x
  obtain rfl : xo = 18 := ho
  dsimp only at h1 h2 h3 h4 h5 h6 h7 h11 h12 h13 h14 h15 h16 h17
  rw [Bool.eq_iff_iff]
  unfold rrP refB endB fitP fitZ valZ
  dsimp only
  rw [e1, e2, e3, show fieldsZ 18 = [fD, fS, fT] from rfl, show (kindZ 18).toNat = 9 from rfl, show decide (kindZ 18 ≠ 0) = true from rfl, show isOp 18 = true from rfl]
  clear e1 e2 e3 h
  cases xw <;> cases xe <;> simp [numsB, plainFrom, startIn, setZ, numZ, isVal, fitsB, inZero, refK, okK, regsB, isK, fD, fS, fT, fZero] <;> omega
set_option maxHeartbeats 2000000 in
theorem rr_19 (x : In) (h : x.small) (ho : x.op = 19) : rrP x = refB x := by
  have h1 := h.mode0; have h2 := h.pred0; have h3 := h.d0; have h4 := h.s0; have h5 := h.t0; have h6 := h.n0; have h7 := h.count0
  have h11 := h.mode1; have h12 := h.pred1; have h13 := h.d1; have h14 := h.s1; have h15 := h.t1; have h16 := h.n1; have h17 := h.count1
  have e1 : vF 19 = fZero := by decide +kernel
  have e2 : vB 19 = false := by decide +kernel
  have e3 : mayZ 19 = false := by decide +kernel
  obtain ⟨xo, xd, xs, xt, xn, xp, xm, xw, xe, xc, xi⟩ := x
  obtain rfl : xo = 19 := ho
  dsimp only at h1 h2 h3 h4 h5 h6 h7 h11 h12 h13 h14 h15 h16 h17
  rw [Bool.eq_iff_iff]
  unfold rrP refB endB fitP fitZ valZ
  dsimp only
  rw [e1, e2, e3, show fieldsZ 19 = [fD, fS, fT] from rfl, show (kindZ 19).toNat = 9 from rfl, show decide (kindZ 19 ≠ 0) = true from rfl, show isOp 19 = true from rfl]
  clear e1 e2 e3 h
  cases xw <;> cases xe <;> simp [numsB, plainFrom, startIn, setZ, numZ, isVal, fitsB, inZero, refK, okK, regsB, isK, fD, fS, fT, fZero] <;> omega
set_option maxHeartbeats 2000000 in
theorem rr_20 (x : In) (h : x.small) (ho : x.op = 20) : rrP x = refB x := by
  have h1 := h.mode0; have h2 := h.pred0; have h3 := h.d0; have h4 := h.s0; have h5 := h.t0; have h6 := h.n0; have h7 := h.count0
  have h11 := h.mode1; have h12 := h.pred1; have h13 := h.d1; have h14 := h.s1; have h15 := h.t1; have h16 := h.n1; have h17 := h.count1
  have e1 : vF 20 = fZero := by decide +kernel
  have e2 : vB 20 = false := by decide +kernel
  have e3 : mayZ 20 = false := by decide +kernel
  obtain ⟨xo, xd, xs, xt, xn, xp, xm, xw, xe, xc, xi⟩ := x
  obtain rfl : xo = 20 := ho
  dsimp only at h1 h2 h3 h4 h5 h6 h7 h11 h12 h13 h14 h15 h16 h17
  rw [Bool.eq_iff_iff]
  unfold rrP refB endB fitP fitZ valZ
  dsimp only
  rw [e1, e2, e3, show fieldsZ 20 = [fD, fS, fT] from rfl, show (kindZ 20).toNat = 9 from rfl, show decide (kindZ 20 ≠ 0) = true from rfl, show isOp 20 = true from rfl]
  clear e1 e2 e3 h
  cases xw <;> cases xe <;> simp [numsB, plainFrom, startIn, setZ, numZ, isVal, fitsB, inZero, refK, okK, regsB, isK, fD, fS, fT, fZero] <;> omega
set_option maxHeartbeats 2000000 in
theorem rr_21 (x : In) (h : x.small) (ho : x.op = 21) : rrP x = refB x := by
  have h1 := h.mode0; have h2 := h.pred0; have h3 := h.d0; have h4 := h.s0; have h5 := h.t0; have h6 := h.n0; have h7 := h.count0
  have h11 := h.mode1; have h12 := h.pred1; have h13 := h.d1; have h14 := h.s1; have h15 := h.t1; have h16 := h.n1; have h17 := h.count1
  have e1 : vF 21 = fI122 := by decide +kernel
  have e2 : vB 21 = true := by decide +kernel
  have e3 : mayZ 21 = true := by decide +kernel
  obtain ⟨xo, xd, xs, xt, xn, xp, xm, xw, xe, xc, xi⟩ := x
  obtain rfl : xo = 21 := ho
  dsimp only at h1 h2 h3 h4 h5 h6 h7 h11 h12 h13 h14 h15 h16 h17
  rw [Bool.eq_iff_iff]
  unfold rrP refB endB fitP fitZ valZ
  dsimp only
  rw [e1, e2, e3, show fieldsZ 21 = [fD, fS, fI122] from rfl, show (kindZ 21).toNat = 10 from rfl, show decide (kindZ 21 ≠ 0) = true from rfl, show isOp 21 = true from rfl]
  clear e1 e2 e3 h
  cases xw <;> cases xe <;> simp [numsB, plainFrom, startIn, setZ, numZ, isVal, fitsB, inZero, refK, okK, regsB, withinB, scaleZ, isK, fD, fS, fI122] <;> omega
set_option maxHeartbeats 2000000 in
theorem rr_22 (x : In) (h : x.small) (ho : x.op = 22) : rrP x = refB x := by
  have h1 := h.mode0; have h2 := h.pred0; have h3 := h.d0; have h4 := h.s0; have h5 := h.t0; have h6 := h.n0; have h7 := h.count0
  have h11 := h.mode1; have h12 := h.pred1; have h13 := h.d1; have h14 := h.s1; have h15 := h.t1; have h16 := h.n1; have h17 := h.count1
  have e1 : vF 22 = fI121 := by decide +kernel
  have e2 : vB 22 = true := by decide +kernel
  have e3 : mayZ 22 = true := by decide +kernel
  obtain ⟨xo, xd, xs, xt, xn, xp, xm, xw, xe, xc, xi⟩ := x
  obtain rfl : xo = 22 := ho
  dsimp only at h1 h2 h3 h4 h5 h6 h7 h11 h12 h13 h14 h15 h16 h17
  rw [Bool.eq_iff_iff]
  unfold rrP refB endB fitP fitZ valZ
  dsimp only
  rw [e1, e2, e3, show fieldsZ 22 = [fD, fS, fI121] from rfl, show (kindZ 22).toNat = 10 from rfl, show decide (kindZ 22 ≠ 0) = true from rfl, show isOp 22 = true from rfl]
  clear e1 e2 e3 h
  cases xw <;> cases xe <;> simp [numsB, plainFrom, startIn, setZ, numZ, isVal, fitsB, inZero, refK, okK, regsB, withinB, scaleZ, isK, fD, fS, fI121] <;> omega
set_option maxHeartbeats 2000000 in
theorem rr_23 (x : In) (h : x.small) (ho : x.op = 23) : rrP x = refB x := by
  have h1 := h.mode0; have h2 := h.pred0; have h3 := h.d0; have h4 := h.s0; have h5 := h.t0; have h6 := h.n0; have h7 := h.count0
  have h11 := h.mode1; have h12 := h.pred1; have h13 := h.d1; have h14 := h.s1; have h15 := h.t1; have h16 := h.n1; have h17 := h.count1
  have e1 : vF 23 = fI12 := by decide +kernel
  have e2 : vB 23 = true := by decide +kernel
  have e3 : mayZ 23 = true := by decide +kernel
  obtain ⟨xo, xd, xs, xt, xn, xp, xm, xw, xe, xc, xi⟩ := x
  obtain rfl : xo = 23 := ho
  dsimp only at h1 h2 h3 h4 h5 h6 h7 h11 h12 h13 h14 h15 h16 h17
  rw [Bool.eq_iff_iff]
  unfold rrP refB endB fitP fitZ valZ
  dsimp only
  rw [e1, e2, e3, show fieldsZ 23 = [fD, fS, fI12] from rfl, show (kindZ 23).toNat = 10 from rfl, show decide (kindZ 23 ≠ 0) = true from rfl, show isOp 23 = true from rfl]
  clear e1 e2 e3 h
  cases xw <;> cases xe <;> simp [numsB, plainFrom, startIn, setZ, numZ, isVal, fitsB, inZero, refK, okK, regsB, withinB, scaleZ, isK, fD, fS, fI12] <;> omega
set_option maxHeartbeats 2000000 in
theorem rr_24 (x : In) (h : x.small) (ho : x.op = 24) : rrP x = refB x := by
  have h1 := h.mode0; have h2 := h.pred0; have h3 := h.d0; have h4 := h.s0; have h5 := h.t0; have h6 := h.n0; have h7 := h.count0
  have h11 := h.mode1; have h12 := h.pred1; have h13 := h.d1; have h14 := h.s1; have h15 := h.t1; have h16 := h.n1; have h17 := h.count1
  have e1 : vF 24 = fI122 := by decide +kernel
  have e2 : vB 24 = true := by decide +kernel
  have e3 : mayZ 24 = true := by decide +kernel
  obtain ⟨xo, xd, xs, xt, xn, xp, xm, xw, xe, xc, xi⟩ := x
  obtain rfl : xo = 24 := ho
  dsimp only at h1 h2 h3 h4 h5 h6 h7 h11 h12 h13 h14 h15 h16 h17
  rw [Bool.eq_iff_iff]
  unfold rrP refB endB fitP fitZ valZ
  dsimp only
  rw [e1, e2, e3, show fieldsZ 24 = [fS, fNew, fT, fI122] from rfl, show (kindZ 24).toNat = 11 from rfl, show decide (kindZ 24 ≠ 0) = true from rfl, show isOp 24 = true from rfl]
  clear e1 e2 e3 h
  cases xw <;> cases xe <;> simp [numsB, plainFrom, startIn, setZ, numZ, isVal, fitsB, inZero, refK, okK, regsB, withinB, scaleZ, isK, fS, fNew, fT, fI122] <;> omega
set_option maxHeartbeats 2000000 in
theorem rr_25 (x : In) (h : x.small) (ho : x.op = 25) : rrP x = refB x := by
  have h1 := h.mode0; have h2 := h.pred0; have h3 := h.d0; have h4 := h.s0; have h5 := h.t0; have h6 := h.n0; have h7 := h.count0
  have h11 := h.mode1; have h12 := h.pred1; have h13 := h.d1; have h14 := h.s1; have h15 := h.t1; have h16 := h.n1; have h17 := h.count1
  have e1 : vF 25 = fI121 := by decide +kernel
  have e2 : vB 25 = true := by decide +kernel
  have e3 : mayZ 25 = true := by decide +kernel
  obtain ⟨xo, xd, xs, xt, xn, xp, xm, xw, xe, xc, xi⟩ := x
  obtain rfl : xo = 25 := ho
  dsimp only at h1 h2 h3 h4 h5 h6 h7 h11 h12 h13 h14 h15 h16 h17
  rw [Bool.eq_iff_iff]
  unfold rrP refB endB fitP fitZ valZ
  dsimp only
  rw [e1, e2, e3, show fieldsZ 25 = [fS, fNew, fT, fI121] from rfl, show (kindZ 25).toNat = 11 from rfl, show decide (kindZ 25 ≠ 0) = true from rfl, show isOp 25 = true from rfl]
  clear e1 e2 e3 h
  cases xw <;> cases xe <;> simp [numsB, plainFrom, startIn, setZ, numZ, isVal, fitsB, inZero, refK, okK, regsB, withinB, scaleZ, isK, fS, fNew, fT, fI121] <;> omega
set_option maxHeartbeats 2000000 in
theorem rr_26 (x : In) (h : x.small) (ho : x.op = 26) : rrP x = refB x := by
  have h1 := h.mode0; have h2 := h.pred0; have h3 := h.d0; have h4 := h.s0; have h5 := h.t0; have h6 := h.n0; have h7 := h.count0
  have h11 := h.mode1; have h12 := h.pred1; have h13 := h.d1; have h14 := h.s1; have h15 := h.t1; have h16 := h.n1; have h17 := h.count1
  have e1 : vF 26 = fI12 := by decide +kernel
  have e2 : vB 26 = true := by decide +kernel
  have e3 : mayZ 26 = true := by decide +kernel
  obtain ⟨xo, xd, xs, xt, xn, xp, xm, xw, xe, xc, xi⟩ := x
  obtain rfl : xo = 26 := ho
  dsimp only at h1 h2 h3 h4 h5 h6 h7 h11 h12 h13 h14 h15 h16 h17
  rw [Bool.eq_iff_iff]
  unfold rrP refB endB fitP fitZ valZ
  dsimp only
  rw [e1, e2, e3, show fieldsZ 26 = [fS, fNew, fT, fI12] from rfl, show (kindZ 26).toNat = 11 from rfl, show decide (kindZ 26 ≠ 0) = true from rfl, show isOp 26 = true from rfl]
  clear e1 e2 e3 h
  cases xw <;> cases xe <;> simp [numsB, plainFrom, startIn, setZ, numZ, isVal, fitsB, inZero, refK, okK, regsB, withinB, scaleZ, isK, fS, fNew, fT, fI12] <;> omega
set_option maxHeartbeats 2000000 in
theorem rr_27 (x : In) (h : x.small) (ho : x.op = 27) : rrP x = refB x := by
  have h1 := h.mode0; have h2 := h.pred0; have h3 := h.d0; have h4 := h.s0; have h5 := h.t0; have h6 := h.n0; have h7 := h.count0
  have h11 := h.mode1; have h12 := h.pred1; have h13 := h.d1; have h14 := h.s1; have h15 := h.t1; have h16 := h.n1; have h17 := h.count1
  have e1 : vF 27 = fR19 := by decide +kernel
  have e2 : vB 27 = true := by decide +kernel
  have e3 : mayZ 27 = true := by decide +kernel
  obtain ⟨xo, xd, xs, xt, xn, xp, xm, xw, xe, xc, xi⟩ := x
  obtain rfl : xo = 27 := ho
  dsimp only at h1 h2 h3 h4 h5 h6 h7 h11 h12 h13 h14 h15 h16 h17
  rw [Bool.eq_iff_iff]
  unfold rrP refB endB fitP fitZ valZ
  dsimp only
  rw [e1, e2, e3, show fieldsZ 27 = [fMode, fPred, fR19] from rfl, show (kindZ 27).toNat = 12 from rfl, show decide (kindZ 27 ≠ 0) = true from rfl, show isOp 27 = true from rfl]
  clear e1 e2 e3 h
  cases xw <;> cases xe <;> simp [numsB, plainFrom, startIn, setZ, numZ, isVal, inZero, refK, okK, regsB, condB, aimB, isK, fMode, fPred, fR19] <;> omega
set_option maxHeartbeats 2000000 in
theorem rr_28 (x : In) (h : x.small) (ho : x.op = 28) : rrP x = refB x := by
  have h1 := h.mode0; have h2 := h.pred0; have h3 := h.d0; have h4 := h.s0; have h5 := h.t0; have h6 := h.n0; have h7 := h.count0
  have h11 := h.mode1; have h12 := h.pred1; have h13 := h.d1; have h14 := h.s1; have h15 := h.t1; have h16 := h.n1; have h17 := h.count1
  have e1 : vF 28 = fZero := by decide +kernel
  have e2 : vB 28 = false := by decide +kernel
  have e3 : mayZ 28 = false := by decide +kernel
  obtain ⟨xo, xd, xs, xt, xn, xp, xm, xw, xe, xc, xi⟩ := x
  obtain rfl : xo = 28 := ho
  dsimp only at h1 h2 h3 h4 h5 h6 h7 h11 h12 h13 h14 h15 h16 h17
  rw [Bool.eq_iff_iff]
  unfold rrP refB endB fitP fitZ valZ
  dsimp only
  rw [e1, e2, e3, show fieldsZ 28 = [fMode, fPred, fS] from rfl, show (kindZ 28).toNat = 13 from rfl, show decide (kindZ 28 ≠ 0) = true from rfl, show isOp 28 = true from rfl]
  clear e1 e2 e3 h
  cases xw <;> cases xe <;> simp [numsB, plainFrom, startIn, setZ, numZ, isVal, fitsB, inZero, refK, okK, regsB, condB, isK, fMode, fPred, fS, fZero] <;> omega
set_option maxHeartbeats 2000000 in
theorem rr_29 (x : In) (h : x.small) (ho : x.op = 29) : rrP x = refB x := by
  have h1 := h.mode0; have h2 := h.pred0; have h3 := h.d0; have h4 := h.s0; have h5 := h.t0; have h6 := h.n0; have h7 := h.count0
  have h11 := h.mode1; have h12 := h.pred1; have h13 := h.d1; have h14 := h.s1; have h15 := h.t1; have h16 := h.n1; have h17 := h.count1
  have e1 : vF 29 = fR24 := by decide +kernel
  have e2 : vB 29 = true := by decide +kernel
  have e3 : mayZ 29 = true := by decide +kernel
  obtain ⟨xo, xd, xs, xt, xn, xp, xm, xw, xe, xc, xi⟩ := x
  obtain rfl : xo = 29 := ho
  dsimp only at h1 h2 h3 h4 h5 h6 h7 h11 h12 h13 h14 h15 h16 h17
  rw [Bool.eq_iff_iff]
  unfold rrP refB endB fitP fitZ valZ
  dsimp only
  rw [e1, e2, e3, show fieldsZ 29 = [fR24] from rfl, show (kindZ 29).toNat = 14 from rfl, show decide (kindZ 29 ≠ 0) = true from rfl, show isOp 29 = true from rfl]
  clear e1 e2 e3 h
  cases xw <;> cases xe <;> simp [numsB, plainFrom, startIn, numZ, isVal, inZero, refK, okK, regsB, aimB, isK, fR24] <;> omega
set_option maxHeartbeats 2000000 in
theorem rr_30 (x : In) (h : x.small) (ho : x.op = 30) : rrP x = refB x := by
  have h1 := h.mode0; have h2 := h.pred0; have h3 := h.d0; have h4 := h.s0; have h5 := h.t0; have h6 := h.n0; have h7 := h.count0
  have h11 := h.mode1; have h12 := h.pred1; have h13 := h.d1; have h14 := h.s1; have h15 := h.t1; have h16 := h.n1; have h17 := h.count1
  have e1 : vF 30 = fR12 := by decide +kernel
  have e2 : vB 30 = true := by decide +kernel
  have e3 : mayZ 30 = true := by decide +kernel
  obtain ⟨xo, xd, xs, xt, xn, xp, xm, xw, xe, xc, xi⟩ := x
  obtain rfl : xo = 30 := ho
  dsimp only at h1 h2 h3 h4 h5 h6 h7 h11 h12 h13 h14 h15 h16 h17
  rw [Bool.eq_iff_iff]
  unfold rrP refB endB fitP fitZ valZ
  dsimp only
  rw [e1, e2, e3, show fieldsZ 30 = [fN, fR12, fCount] from rfl, show (kindZ 30).toNat = 15 from rfl, show decide (kindZ 30 ≠ 0) = true from rfl, show isOp 30 = true from rfl]
  clear e1 e2 e3 h
  cases xw <;> cases xe <;> simp [numsB, plainFrom, startIn, setZ, numZ, isVal, inZero, refK, okK, regsB, aimB, isK, fN, fR12, fCount] <;> omega
set_option maxHeartbeats 2000000 in
theorem rr_31 (x : In) (h : x.small) (ho : x.op = 31) : rrP x = refB x := by
  have h1 := h.mode0; have h2 := h.pred0; have h3 := h.d0; have h4 := h.s0; have h5 := h.t0; have h6 := h.n0; have h7 := h.count0
  have h11 := h.mode1; have h12 := h.pred1; have h13 := h.d1; have h14 := h.s1; have h15 := h.t1; have h16 := h.n1; have h17 := h.count1
  have e1 : vF 31 = fR12 := by decide +kernel
  have e2 : vB 31 = true := by decide +kernel
  have e3 : mayZ 31 = true := by decide +kernel
  obtain ⟨xo, xd, xs, xt, xn, xp, xm, xw, xe, xc, xi⟩ := x
  obtain rfl : xo = 31 := ho
  dsimp only at h1 h2 h3 h4 h5 h6 h7 h11 h12 h13 h14 h15 h16 h17
  rw [Bool.eq_iff_iff]
  unfold rrP refB endB fitP fitZ valZ
  dsimp only
  rw [e1, e2, e3, show fieldsZ 31 = [fN, fR12, fS] from rfl, show (kindZ 31).toNat = 16 from rfl, show decide (kindZ 31 ≠ 0) = true from rfl, show isOp 31 = true from rfl]
  clear e1 e2 e3 h
  cases xw <;> cases xe <;> simp [numsB, plainFrom, startIn, setZ, numZ, isVal, inZero, refK, okK, regsB, aimB, isK, fN, fR12, fS] <;> omega
theorem rr_right (x : In) (h : x.small) : rrP x = rightB x := by
  rw [right_ref x h]
  by_cases hc : x.op < 1 ∨ 31 < x.op
  · have e : isOp x.op = false := by unfold isOp; simp; omega
    have k : kindZ x.op = 0 := by
      unfold kindZ
      rw [List.getD_eq_getElem?_getD]
      rcases hc with hc | hc
      · rw [show x.op.toNat = 0 by omega]; rfl
      · rw [List.getElem?_eq_none (by show 32 ≤ _; omega)]; rfl
    unfold rrP refB
    rw [e, k]
    rfl
  · have hc2 : x.op = 1 ∨ x.op = 2 ∨ x.op = 3 ∨ x.op = 4 ∨ x.op = 5 ∨ x.op = 6 ∨ x.op = 7 ∨ x.op = 8 ∨ x.op = 9 ∨ x.op = 10 ∨ x.op = 11 ∨ x.op = 12 ∨ x.op = 13 ∨ x.op = 14 ∨ x.op = 15 ∨ x.op = 16 ∨ x.op = 17 ∨ x.op = 18 ∨ x.op = 19 ∨ x.op = 20 ∨ x.op = 21 ∨ x.op = 22 ∨ x.op = 23 ∨ x.op = 24 ∨ x.op = 25 ∨ x.op = 26 ∨ x.op = 27 ∨ x.op = 28 ∨ x.op = 29 ∨ x.op = 30 ∨ x.op = 31 := by omega
    rcases hc2 with h' | h' | h' | h' | h' | h' | h' | h' | h' | h' | h' | h' | h' | h' | h' | h' | h' | h' | h' | h' | h' | h' | h' | h' | h' | h' | h' | h' | h' | h' | h'
    · exact rr_1 x h h'
    · exact rr_2 x h h'
    · exact rr_3 x h h'
    · exact rr_4 x h h'
    · exact rr_5 x h h'
    · exact rr_6 x h h'
    · exact rr_7 x h h'
    · exact rr_8 x h h'
    · exact rr_9 x h h'
    · exact rr_10 x h h'
    · exact rr_11 x h h'
    · exact rr_12 x h h'
    · exact rr_13 x h h'
    · exact rr_14 x h h'
    · exact rr_15 x h h'
    · exact rr_16 x h h'
    · exact rr_17 x h h'
    · exact rr_18 x h h'
    · exact rr_19 x h h'
    · exact rr_20 x h h'
    · exact rr_21 x h h'
    · exact rr_22 x h h'
    · exact rr_23 x h h'
    · exact rr_24 x h h'
    · exact rr_25 x h h'
    · exact rr_26 x h h'
    · exact rr_27 x h h'
    · exact rr_28 x h h'
    · exact rr_29 x h h'
    · exact rr_30 x h h'
    · exact rr_31 x h h'
end Go.Proofs.YtjeemiabddblhaaDoor
