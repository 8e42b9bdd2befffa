/- Single instructions as plain data: the value of each field, the ranges, whether an instruction is right, what it writes and reads; no condition. -/
import Derived.Test.YtdaildmoodfocaaDoorIsaMath
import Derived.Test.YtdaildmoodfocaaDoorBitsMath
namespace Go.Proofs.YtdaildmoodfocaaDoor

structure In where
  op : Int
  d : Int
  s : Int
  t : Int
  n : Int
  pred : Int
  mode : Int
  new : Bool
  ext : Bool
  count : Int
  imm : Int
  deriving DecidableEq
def inZero : In := ⟨0, 0, 0, 0, 0, 0, 0, false, false, 0, 0⟩
/-- Each part lies in its Go type. -/
structure In.small (x : In) : Prop where
  op0 : 0 ≤ x.op
  op1 : x.op ≤ 255
  d0 : 0 ≤ x.d
  d1 : x.d ≤ 255
  s0 : 0 ≤ x.s
  s1 : x.s ≤ 255
  t0 : 0 ≤ x.t
  t1 : x.t ≤ 255
  n0 : 0 ≤ x.n
  n1 : x.n ≤ 255
  pred0 : 0 ≤ x.pred
  pred1 : x.pred ≤ 255
  mode0 : 0 ≤ x.mode
  mode1 : x.mode ≤ 255
  count0 : 0 ≤ x.count
  count1 : x.count ≤ 65535
  imm0 : -9223372036854775808 ≤ x.imm
  imm1 : x.imm ≤ 9223372036854775807
/-- The value of the field of a kind. -/
def takeV (x : In) (k : Int) : Int :=
  if k = 1 then x.mode else if k = 2 then x.pred else if k = 3 then x.d else if k = 4 then x.d else if k = 5 then x.s else if k = 6 then x.t else if k = 7 then x.n
  else if k = 8 then (if x.new then 1 else 0) else if k = 9 then x.imm else if k = 10 then x.imm else if k = 11 then x.count else 0
/-- The rest without the field of a kind. -/
def takeR (x : In) (k : Int) : In :=
  if k = 1 then { x with mode := 0 } else if k = 2 then { x with pred := 0 } else if k = 3 then { x with d := 0 } else if k = 4 then { x with d := 0 } else if k = 5 then { x with s := 0 }
  else if k = 6 then { x with t := 0 } else if k = 7 then { x with n := 0 } else if k = 8 then { x with new := false } else if k = 9 then { x with imm := 0 } else if k = 10 then { x with imm := 0 }
  else if k = 11 then { x with count := 0 } else x
def inRangeB (v : Int) (f : Fd) (ext : Bool) : Bool :=
  if f.kind = 1 then decide (v ≤ 4) else if f.kind = 10 then fitsB v 30 2 false else if f.ext && ext then fitsB v 32 0 true else fitsB v f.bits f.shift f.sg
def dropExt (x : In) (f : Fd) : In := if f.ext then { x with ext := false } else x
def validFrom (ext : Bool) : List Fd → In → Bool
  | [], x => decide (x = inZero)
  | f :: r, x => inRangeB (takeV x f.kind) f ext && validFrom ext r (dropExt (takeR x f.kind) f)
def hasB (fs : List Fd) (k : Int) : Bool := fs.any fun f => f.kind == k
def validB (x : In) (fs : List Fd) : Bool := !(x.mode == 0 && x.pred != 0 && hasB fs 1) && validFrom x.ext fs { x with op := 0 }
def rightB (x : In) : Bool := isOp x.op && validB x (fieldsZ x.op)

theorem ite_of {α : Type} (P : α → Prop) {c : Prop} [Decidable c] {a b : α} (ha : P a) (hb : P b) : P (if c then a else b) := by
  by_cases h : c
  · rw [if_pos h]; exact ha
  · rw [if_neg h]; exact hb
def inI64 (v : Int) : Prop := -9223372036854775808 ≤ v ∧ v ≤ 9223372036854775807
theorem takeV_small {x : In} (h : x.small) (k : Int) : -9223372036854775808 ≤ takeV x k ∧ takeV x k ≤ 9223372036854775807 := by
  have h1 := h.mode0; have h2 := h.mode1; have h3 := h.pred0; have h4 := h.pred1; have h5 := h.d0; have h6 := h.d1; have h7 := h.s0; have h8 := h.s1; have h9 := h.t0; have h10 := h.t1
  have h11 := h.n0; have h12 := h.n1; have h13 := h.imm0; have h14 := h.imm1; have h15 := h.count0; have h16 := h.count1
  have i1 : inI64 (if x.new then 1 else 0) := ite_of inI64 ⟨by decide, by decide⟩ ⟨by decide, by decide⟩
  have j1 : inI64 x.mode := ⟨by omega, by omega⟩
  have j2 : inI64 x.pred := ⟨by omega, by omega⟩
  have j3 : inI64 x.d := ⟨by omega, by omega⟩
  have j4 : inI64 x.s := ⟨by omega, by omega⟩
  have j5 : inI64 x.t := ⟨by omega, by omega⟩
  have j6 : inI64 x.n := ⟨by omega, by omega⟩
  have j7 : inI64 x.imm := ⟨by omega, by omega⟩
  have j8 : inI64 x.count := ⟨by omega, by omega⟩
  have j9 : inI64 0 := ⟨by decide, by decide⟩
  have key : inI64 (takeV x k) := ite_of inI64 j1 (ite_of inI64 j2 (ite_of inI64 j3 (ite_of inI64 j3 (ite_of inI64 j4 (ite_of inI64 j5 (ite_of inI64 j6 (ite_of inI64 i1 (ite_of inI64 j7 (ite_of inI64 j7 (ite_of inI64 j8 j9))))))))))
  exact key
theorem takeR_small {x : In} (h : x.small) (k : Int) : (takeR x k).small := by
  have z0 : (0 : Int) ≤ 0 := by decide
  have z1 : (0 : Int) ≤ 255 := by decide
  have z2 : (0 : Int) ≤ 65535 := by decide
  have z3 : -9223372036854775808 ≤ (0 : Int) := by decide
  have z4 : (0 : Int) ≤ 9223372036854775807 := by decide
  unfold takeR
  refine ite_of In.small { h with mode0 := z0, mode1 := z1 } ?_
  refine ite_of In.small { h with pred0 := z0, pred1 := z1 } ?_
  refine ite_of In.small { h with d0 := z0, d1 := z1 } ?_
  refine ite_of In.small { h with d0 := z0, d1 := z1 } ?_
  refine ite_of In.small { h with s0 := z0, s1 := z1 } ?_
  refine ite_of In.small { h with t0 := z0, t1 := z1 } ?_
  refine ite_of In.small { h with n0 := z0, n1 := z1 } ?_
  refine ite_of In.small { h with } ?_
  refine ite_of In.small { h with imm0 := z3, imm1 := z4 } ?_
  refine ite_of In.small { h with imm0 := z3, imm1 := z4 } ?_
  exact ite_of In.small { h with count0 := z0, count1 := z2 } h
theorem dropExt_small {x : In} (h : x.small) (f : Fd) : (dropExt x f).small := ite_of In.small { h with } h
theorem validFrom_drop (ext : Bool) (l : List Fd) (k : Nat) (h : k < l.length) (x : In) :
    validFrom ext (l.drop k) x = (inRangeB (takeV x l[k].kind) l[k] ext && validFrom ext (l.drop (k + 1)) (dropExt (takeR x l[k].kind) l[k])) := by
  rw [List.drop_eq_getElem_cons h]; rfl

/-! What an instruction writes, reads, asks, and where it leads (was part of InstFns). -/
def writesP (x : In) : Int × Bool := if rightB x then (if x.op = 29 then (31, true) else if hasB (fieldsZ x.op) 3 then (x.d, true) else (0, false)) else (0, false)
def wpredP (x : In) : Int × Bool := if rightB x && hasB (fieldsZ x.op) 4 then (x.d, true) else (0, false)
def rpredP (x : In) : Int × Bool × Bool :=
  if rightB x && hasB (fieldsZ x.op) 2 && !(hasB (fieldsZ x.op) 1 && x.mode == 0) then (x.pred, x.mode == 3 || x.mode == 4, true) else (0, false, false)
def targetP (x : In) : Int × Bool := if rightB x && hasB (fieldsZ x.op) 10 then (x.imm % 4294967296, true) else (0, false)
end Go.Proofs.YtdaildmoodfocaaDoor
