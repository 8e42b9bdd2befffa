/- What Fits of package bits returns, for every argument of the Go types. · What isField, lowMask, Get, Put, Sext of package bits return, for every argument of the Go types. · Single instructions as plain data: the value of each field, the ranges, whether an instruction is right, what it writes and reads; no condition. · An instruction as a value of the program: its eleven cells, and the block of a variable that holds one; no condition. · An instruction among a law's arguments: its reading opened into its parts, and shut again; no condition but the reading's own. · Instructions written out, and the block of a variable that holds one and is kept; no condition. · What take and inRange of package inst return and leave, for every instruction, field and kind. · Two instructions compared by Go's == : equal just if each part is; no condition. -/
import Derived.Test.YtnfmlmamgkpocaaGreatDoorGBase
import Derived.Test.YtnfmlmamgkpocaaGreatDoorGIsa
import Derived.Test.YtnfmlmamgkpocaaGreatDoorGOf
import Derived.WalkKit
import Derived.ProofKit
import Derived.OpenShut
import Derived.Laws.StructEq
namespace Go.Proofs.YtnfmlmamgkpocaaGreatDoor
section
open Go.ChangeShapes Go.WideShapes Go.ChangeAt Go.RowKit

theorem tmod_of_dvd {v m : Int} (h : v % m = 0) : v.tmod m = 0 := Int.tmod_eq_zero_of_dvd (Int.dvd_of_emod_eq_zero h)
theorem dvd_of_tmod {v m : Int} (h : v.tmod m = 0) : v % m = 0 := Int.emod_eq_zero_of_dvd (Int.dvd_of_tmod_eq_zero h)
theorem tdiv_of_dvd {v m : Int} (h : v % m = 0) : v.tdiv m = v / m := by
  obtain ⟨k, rfl⟩ := Int.dvd_of_emod_eq_zero h
  by_cases hm : m = 0
  · subst hm; simp
  · rw [Int.mul_tdiv_cancel_left _ hm, Int.mul_ediv_cancel_left _ hm]

theorem fits_any (v n s : Int) (sg : Bool) (hv : isI v) : Quiet Tryz.prog 163 #[.int .i64 v, .int .i64 n, .int .i64 s, .bool sg] (.bool (fitsB v n s sg)) := by
  intro w
  obtain ⟨hv0, hv1⟩ := hv
  by_cases h : 1 ≤ n ∧ n ≤ 32 ∧ 0 ≤ s ∧ s ≤ 8
  · obtain ⟨h1, h2, h3, h4⟩ := h
    have hp := pow_le_of n.toNat (by omega)
    have hp2 := pow_le_of (n.toNat - 1) (by omega)
    have hp3 := pow_le_of s.toNat (by omega)
    have e2 : (n - 1).toNat = n.toNat - 1 := by omega
    have b1 : ((2:Int) ^ (n - 1).toNat) ≤ 4294967296 := by rw [e2]; omega
    have b0 : 1 ≤ ((2:Int) ^ (n - 1).toNat) := by rw [e2]; omega
    by_cases hd : v % 2 ^ s.toNat = 0
    · have hm := tmod_of_dvd hd
      have hq := tdiv_of_dvd hd
      have hf : fitsB v n s sg = (if sg then decide (-2 ^ (n.toNat - 1) ≤ v / 2 ^ s.toNat) && decide (v / 2 ^ s.toNat < 2 ^ (n.toNat - 1)) else decide (0 ≤ v / 2 ^ s.toNat) && decide (v / 2 ^ s.toNat < 2 ^ n.toNat)) := by
        simp [fitsB, h1, h2, h3, h4, hd]
      have HF := Lib.hid hf
      have hq0 : -9223372036854775808 ≤ v / 2 ^ s.toNat ∧ v / 2 ^ s.toNat ≤ 9223372036854775807 := by
        have : s.toNat = 0 ∨ s.toNat = 1 ∨ s.toNat = 2 ∨ s.toNat = 3 ∨ s.toNat = 4 ∨ s.toNat = 5 ∨ s.toNat = 6 ∨ s.toNat = 7 ∨ s.toNat = 8 := by omega
        rcases this with e | e | e | e | e | e | e | e | e <;> rw [e] <;> omega
      obtain ⟨hq1, hq2⟩ := hq0
      clear hf hd
      cases sg
      · go_enter Tryz.func163, Tryz.ntmps163
        go_wp2
        go_quiet (fail)
        go_wp2
        all_goals
          go_ret
          refine ⟨ret_bool ?_, _, rfl⟩
          rw [HF.out]
          have : (v / 2 ^ s.toNat ≤ 2 ^ n.toNat - 1) = (v / 2 ^ s.toNat < 2 ^ n.toNat) := propext ⟨fun h => by omega, fun h => by omega⟩
          simp [*] <;> omega
      · go_enter Tryz.func163, Tryz.ntmps163
        go_wp2
        go_quiet (fail)
        go_wp2
        go_quiet (fail)
        go_wp2
        all_goals
          go_ret
          refine ⟨ret_bool ?_, _, rfl⟩
          rw [HF.out]
          have : (v / 2 ^ s.toNat ≤ 2 ^ (n.toNat - 1) - 1) = (v / 2 ^ s.toNat < 2 ^ (n.toNat - 1)) := propext ⟨fun h => by omega, fun h => by omega⟩
          simp [*] <;> omega
    · have hf : fitsB v n s sg = false := by simp [fitsB, hd]
      have hm : ¬ v.tmod (2 ^ s.toNat) = 0 := fun h => hd (dvd_of_tmod h)
      go_enter Tryz.func163, Tryz.ntmps163
      go_wp2
      go_ret
      first | exact ⟨rfl, 0, rfl⟩ | exact ⟨ret_bool hf.symm, 0, rfl⟩
  · have hf : fitsB v n s sg = false := by
      have : ¬ (1 ≤ n ∧ n ≤ 32 ∧ 0 ≤ s ∧ s ≤ 8) := h
      simp only [fitsB, Bool.and_eq_false_iff, decide_eq_false_iff_not]
      omega
    by_cases h1 : 1 ≤ n
    · by_cases h2 : n ≤ 32
      · by_cases h3 : 0 ≤ s
        all_goals
          go_enter Tryz.func163, Tryz.ntmps163
          go_wp2
          go_ret
          first | exact ⟨rfl, 0, rfl⟩ | exact ⟨ret_bool hf.symm, 0, rfl⟩
      · go_enter Tryz.func163, Tryz.ntmps163
        go_wp2
        go_ret
        first | exact ⟨rfl, 0, rfl⟩ | exact ⟨ret_bool hf.symm, 0, rfl⟩
    · go_enter Tryz.func163, Tryz.ntmps163
      go_wp2
      go_ret
      first | exact ⟨rfl, 0, rfl⟩ | exact ⟨ret_bool hf.symm, 0, rfl⟩
end
section
open Go.ChangeShapes Go.WideShapes Go.ChangeAt Go.RowKit

/-! ### bits.isField, lowMask, Get, Put, Sext, Fits -/
end
section

structure In where
  op : Int
  d : Int
  s : Int
  t : Int
  n : Int
  pred : Int
  mode : Int
  new : Bool
  ext : Bool
  count : Int
  imm : Int
  deriving DecidableEq
def inZero : In := ⟨0, 0, 0, 0, 0, 0, 0, false, false, 0, 0⟩
/-- Each part lies in its Go type. -/
structure In.small (x : In) : Prop where
  op0 : 0 ≤ x.op
  op1 : x.op ≤ 255
  d0 : 0 ≤ x.d
  d1 : x.d ≤ 255
  s0 : 0 ≤ x.s
  s1 : x.s ≤ 255
  t0 : 0 ≤ x.t
  t1 : x.t ≤ 255
  n0 : 0 ≤ x.n
  n1 : x.n ≤ 255
  pred0 : 0 ≤ x.pred
  pred1 : x.pred ≤ 255
  mode0 : 0 ≤ x.mode
  mode1 : x.mode ≤ 255
  count0 : 0 ≤ x.count
  count1 : x.count ≤ 65535
  imm0 : -9223372036854775808 ≤ x.imm
  imm1 : x.imm ≤ 9223372036854775807
/-- The value of the field of a kind. -/
def takeV (x : In) (k : Int) : Int :=
  if k = 1 then x.mode else if k = 2 then x.pred else if k = 3 then x.d else if k = 4 then x.d else if k = 5 then x.s else if k = 6 then x.t else if k = 7 then x.n
  else if k = 8 then (if x.new then 1 else 0) else if k = 9 then x.imm else if k = 10 then x.imm else if k = 11 then x.count else 0
/-- The rest without the field of a kind. -/
def takeR (x : In) (k : Int) : In :=
  if k = 1 then { x with mode := 0 } else if k = 2 then { x with pred := 0 } else if k = 3 then { x with d := 0 } else if k = 4 then { x with d := 0 } else if k = 5 then { x with s := 0 }
  else if k = 6 then { x with t := 0 } else if k = 7 then { x with n := 0 } else if k = 8 then { x with new := false } else if k = 9 then { x with imm := 0 } else if k = 10 then { x with imm := 0 }
  else if k = 11 then { x with count := 0 } else x
def inRangeB (v : Int) (f : Fd) (ext : Bool) : Bool :=
  if f.kind = 1 then decide (v ≤ 4) else if f.kind = 10 then fitsB v 30 2 false else if f.ext && ext then fitsB v 32 0 true else fitsB v f.bits f.shift f.sg
def dropExt (x : In) (f : Fd) : In := if f.ext then { x with ext := false } else x
def validFrom (ext : Bool) : List Fd → In → Bool
  | [], x => decide (x = inZero)
  | f :: r, x => inRangeB (takeV x f.kind) f ext && validFrom ext r (dropExt (takeR x f.kind) f)
def hasB (fs : List Fd) (k : Int) : Bool := fs.any fun f => f.kind == k
def validB (x : In) (fs : List Fd) : Bool := !(x.mode == 0 && x.pred != 0 && hasB fs 1) && validFrom x.ext fs { x with op := 0 }
def rightB (x : In) : Bool := isOp x.op && validB x (fieldsZ x.op)

theorem ite_of {α : Type} (P : α → Prop) {c : Prop} [Decidable c] {a b : α} (ha : P a) (hb : P b) : P (if c then a else b) := by
  by_cases h : c
  · rw [if_pos h]; exact ha
  · rw [if_neg h]; exact hb
def inI64 (v : Int) : Prop := -9223372036854775808 ≤ v ∧ v ≤ 9223372036854775807
theorem takeV_small {x : In} (h : x.small) (k : Int) : -9223372036854775808 ≤ takeV x k ∧ takeV x k ≤ 9223372036854775807 := by
  have h1 := h.mode0; have h2 := h.mode1; have h3 := h.pred0; have h4 := h.pred1; have h5 := h.d0; have h6 := h.d1; have h7 := h.s0; have h8 := h.s1; have h9 := h.t0; have h10 := h.t1
  have h11 := h.n0; have h12 := h.n1; have h13 := h.imm0; have h14 := h.imm1; have h15 := h.count0; have h16 := h.count1
  have i1 : inI64 (if x.new then 1 else 0) := ite_of inI64 ⟨by decide, by decide⟩ ⟨by decide, by decide⟩
  have j1 : inI64 x.mode := ⟨by omega, by omega⟩
  have j2 : inI64 x.pred := ⟨by omega, by omega⟩
  have j3 : inI64 x.d := ⟨by omega, by omega⟩
  have j4 : inI64 x.s := ⟨by omega, by omega⟩
  have j5 : inI64 x.t := ⟨by omega, by omega⟩
  have j6 : inI64 x.n := ⟨by omega, by omega⟩
  have j7 : inI64 x.imm := ⟨by omega, by omega⟩
  have j8 : inI64 x.count := ⟨by omega, by omega⟩
  have j9 : inI64 0 := ⟨by decide, by decide⟩
  have key : inI64 (takeV x k) := ite_of inI64 j1 (ite_of inI64 j2 (ite_of inI64 j3 (ite_of inI64 j3 (ite_of inI64 j4 (ite_of inI64 j5 (ite_of inI64 j6 (ite_of inI64 i1 (ite_of inI64 j7 (ite_of inI64 j7 (ite_of inI64 j8 j9))))))))))
  exact key
theorem takeR_small {x : In} (h : x.small) (k : Int) : (takeR x k).small := by
  have z0 : (0 : Int) ≤ 0 := by decide
  have z1 : (0 : Int) ≤ 255 := by decide
  have z2 : (0 : Int) ≤ 65535 := by decide
  have z3 : -9223372036854775808 ≤ (0 : Int) := by decide
  have z4 : (0 : Int) ≤ 9223372036854775807 := by decide
  unfold takeR
  refine ite_of In.small { h with mode0 := z0, mode1 := z1 } ?_
  refine ite_of In.small { h with pred0 := z0, pred1 := z1 } ?_
  refine ite_of In.small { h with d0 := z0, d1 := z1 } ?_
  refine ite_of In.small { h with d0 := z0, d1 := z1 } ?_
  refine ite_of In.small { h with s0 := z0, s1 := z1 } ?_
  refine ite_of In.small { h with t0 := z0, t1 := z1 } ?_
  refine ite_of In.small { h with n0 := z0, n1 := z1 } ?_
  refine ite_of In.small { h with } ?_
  refine ite_of In.small { h with imm0 := z3, imm1 := z4 } ?_
  refine ite_of In.small { h with imm0 := z3, imm1 := z4 } ?_
  exact ite_of In.small { h with count0 := z0, count1 := z2 } h
theorem dropExt_small {x : In} (h : x.small) (f : Fd) : (dropExt x f).small := ite_of In.small { h with } h
theorem validFrom_drop (ext : Bool) (l : List Fd) (k : Nat) (h : k < l.length) (x : In) :
    validFrom ext (l.drop k) x = (inRangeB (takeV x l[k].kind) l[k] ext && validFrom ext (l.drop (k + 1)) (dropExt (takeR x l[k].kind) l[k])) := by
  rw [List.drop_eq_getElem_cons h]; rfl

/-! What an instruction writes, reads, asks, and where it leads (was part of InstFns). -/
def writesP (x : In) : Int × Bool := if rightB x then (if x.op = 29 then (31, true) else if hasB (fieldsZ x.op) 3 then (x.d, true) else (0, false)) else (0, false)
def wpredP (x : In) : Int × Bool := if rightB x && hasB (fieldsZ x.op) 4 then (x.d, true) else (0, false)
def rpredP (x : In) : Int × Bool × Bool :=
  if rightB x && hasB (fieldsZ x.op) 2 && !(hasB (fieldsZ x.op) 1 && x.mode == 0) then (x.pred, x.mode == 3 || x.mode == 4, true) else (0, false, false)
def targP (x : In) : Int × Bool := if rightB x && hasB (fieldsZ x.op) 10 then (x.imm % 4294967296, true) else (0, false)
end
section
open Go.ChangeShapes Go.WideShapes Go.ChangeAt Go.RowKit Go.Sort

def In.cells (x : In) : List Value := [.int .u8 x.op, .int .u8 x.d, .int .u8 x.s, .int .u8 x.t, .int .u8 x.n, .int .u8 x.pred, .int .u8 x.mode, .bool x.new, .bool x.ext, .int .u16 x.count, .int .i64 x.imm]
abbrev In.val (x : In) : Value := .agg #[.int .u8 x.op, .int .u8 x.d, .int .u8 x.s, .int .u8 x.t, .int .u8 x.n, .int .u8 x.pred, .int .u8 x.mode, .bool x.new, .bool x.ext, .int .u16 x.count, .int .i64 x.imm]
/-- The block of a variable that holds an instruction. -/
abbrev InAt (w : World) (b : Nat) (x : In) : Prop := w.heap[b]? = some (.cells x.cells.toArray 26 (0, 0))
theorem in_cells {w : World} {b : Nat} {x : In} (h : InAt w b x) :
    w.cell? ⟨b, 0, none⟩ = some (.int .u8 x.op) ∧ w.cell? ⟨b, 1, none⟩ = some (.int .u8 x.d) ∧ w.cell? ⟨b, 2, none⟩ = some (.int .u8 x.s) ∧ w.cell? ⟨b, 3, none⟩ = some (.int .u8 x.t) ∧
    w.cell? ⟨b, 4, none⟩ = some (.int .u8 x.n) ∧ w.cell? ⟨b, 5, none⟩ = some (.int .u8 x.pred) ∧ w.cell? ⟨b, 6, none⟩ = some (.int .u8 x.mode) ∧ w.cell? ⟨b, 7, none⟩ = some (.bool x.new) ∧
    w.cell? ⟨b, 8, none⟩ = some (.bool x.ext) ∧ w.cell? ⟨b, 9, none⟩ = some (.int .u16 x.count) ∧ w.cell? ⟨b, 10, none⟩ = some (.int .i64 x.imm) :=
  ⟨cell_of_lit h 0, cell_of_lit h 1, cell_of_lit h 2, cell_of_lit h 3, cell_of_lit h 4, cell_of_lit h 5, cell_of_lit h 6, cell_of_lit h 7, cell_of_lit h 8, cell_of_lit h 9, cell_of_lit h 10⟩
end
section
open Go.ChangeShapes Go.WideShapes Go.ChangeAt Go.RowKit

theorem array11 {α : Type} {cs : Array α} (h : cs.size = 11) : ∃ c0 c1 c2 c3 c4 c5 c6 c7 c8 c9 c10, cs = #[c0, c1, c2, c3, c4, c5, c6, c7, c8, c9, c10] := by
  obtain ⟨l⟩ := cs
  match l, h with
  | [c0, c1, c2, c3, c4, c5, c6, c7, c8, c9, c10], _ => exact ⟨c0, c1, c2, c3, c4, c5, c6, c7, c8, c9, c10, rfl⟩
theorem list11 {α : Type} {l : List α} (h : l.length = 11) : ∃ c0 c1 c2 c3 c4 c5 c6 c7 c8 c9 c10, l = [c0, c1, c2, c3, c4, c5, c6, c7, c8, c9, c10] := by
  match l, h with
  | [c0, c1, c2, c3, c4, c5, c6, c7, c8, c9, c10], _ => exact ⟨c0, c1, c2, c3, c4, c5, c6, c7, c8, c9, c10, rfl⟩
def In.data {H : Type} (x : In) : DataW H := .agg [.lit (.int .u8 x.op), .lit (.int .u8 x.d), .lit (.int .u8 x.s), .lit (.int .u8 x.t), .lit (.int .u8 x.n), .lit (.int .u8 x.pred), .lit (.int .u8 x.mode), .lit (.bool x.new), .lit (.bool x.ext), .lit (.int .u16 x.count), .lit (.int .i64 x.imm)]
theorem u8_wf {n : Int} (h : (Lit.int .u8 n).wf = true) : 0 ≤ n ∧ n ≤ 255 := by
  simp only [Lit.wf, Bool.and_eq_true, decide_eq_true_eq] at h
  have h1 : IntKind.u8.min = 0 := rfl
  have h2 : IntKind.u8.max = 255 := rfl
  exact ⟨by omega, by omega⟩
theorem u16_wf {n : Int} (h : (Lit.int .u16 n).wf = true) : 0 ≤ n ∧ n ≤ 65535 := by
  simp only [Lit.wf, Bool.and_eq_true, decide_eq_true_eq] at h
  have h1 : IntKind.u16.min = 0 := rfl
  have h2 : IntKind.u16.max = 65535 := rfl
  exact ⟨by omega, by omega⟩
theorem i64_wf {n : Int} (h : (Lit.int .i64 n).wf = true) : -9223372036854775808 ≤ n ∧ n ≤ 9223372036854775807 := by
  simp only [Lit.wf, Bool.and_eq_true, decide_eq_true_eq] at h
  have h1 : IntKind.i64.min = -9223372036854775808 := rfl
  have h2 : IntKind.i64.max = 9223372036854775807 := rfl
  exact ⟨by omega, by omega⟩
theorem wf_u8 {n : Int} (h0 : 0 ≤ n) (h1 : n ≤ 255) : (Lit.int .u8 n).wf = true := by
  simp only [Lit.wf, Bool.and_eq_true, decide_eq_true_eq]
  exact ⟨h0, h1⟩
theorem wf_u16 {n : Int} (h0 : 0 ≤ n) (h1 : n ≤ 65535) : (Lit.int .u16 n).wf = true := by
  simp only [Lit.wf, Bool.and_eq_true, decide_eq_true_eq]
  exact ⟨h0, h1⟩
theorem wf_i64 {n : Int} (h0 : -9223372036854775808 ≤ n) (h1 : n ≤ 9223372036854775807) : (Lit.int .i64 n).wf = true := by
  simp only [Lit.wf, Bool.and_eq_true, decide_eq_true_eq]
  exact ⟨h0, h1⟩
theorem cells_u8 : Tryz.prog.cellsOf 5 = 1 := by kernel_rfl
theorem cells_bool : Tryz.prog.cellsOf 4 = 1 := by kernel_rfl
theorem cells_u16 : Tryz.prog.cellsOf 24 = 1 := by kernel_rfl
theorem cells_i64 : Tryz.prog.cellsOf 2 = 1 := by kernel_rfl
theorem cells_inst : Tryz.prog.cellsOf 26 = 11 := by kernel_rfl
section
variable {H : Type} {enc : TypeId × Value → H} {w : World} {base : Nat} {spare : Nat → Bool} {held : Bool}
set_option maxRecDepth 100000 in
theorem open_inst {r : Reach} {b0 : Nat} {v : Value} {d : DataW H} {ps : List MemPlace} (hv : Value.okWide Tryz.prog w r b0 26 v) (h : DataW.Trod enc Tryz.prog w base spare held 26 v d ps) :
    ∃ x : In, v = x.val ∧ d = x.data ∧ ps = [] ∧ x.small := by
  obtain ⟨cs, rfl, hsz⟩ := okWide_struct Tryz.underlying26 hv
  obtain ⟨fuel, hf⟩ := h
  obtain ⟨xs, n, _, hx, _, hlen, hfld⟩ := DataW.trod_struct Tryz.underlying26 hf
  obtain ⟨c0, c1, c2, c3, c4, c5, c6, c7, c8, c9, c10, rfl⟩ := array11 (hsz.trans cells_inst)
  obtain ⟨y0, y1, y2, y3, y4, y5, y6, y7, y8, y9, y10, rfl⟩ := list11 hlen
  have h0 : DataW.trod enc Tryz.prog w base spare held n 5 [c0] = some y0 := by simpa [Value.cells, cells_u8] using hfld 0 _ rfl
  obtain ⟨a0, e0, hy0, w0⟩ := DataW.trod_int Tryz.underlying5 h0
  obtain rfl : c0 = _ := List.head_eq_of_cons_eq e0
  subst hy0
  have h1 : DataW.trod enc Tryz.prog w base spare held n 5 [c1] = some y1 := by simpa [Value.cells, cells_u8] using hfld 1 _ rfl
  obtain ⟨a1, e1, hy1, w1⟩ := DataW.trod_int Tryz.underlying5 h1
  obtain rfl : c1 = _ := List.head_eq_of_cons_eq e1
  subst hy1
  have h2 : DataW.trod enc Tryz.prog w base spare held n 5 [c2] = some y2 := by simpa [Value.cells, cells_u8] using hfld 2 _ rfl
  obtain ⟨a2, e2, hy2, w2⟩ := DataW.trod_int Tryz.underlying5 h2
  obtain rfl : c2 = _ := List.head_eq_of_cons_eq e2
  subst hy2
  have h3 : DataW.trod enc Tryz.prog w base spare held n 5 [c3] = some y3 := by simpa [Value.cells, cells_u8] using hfld 3 _ rfl
  obtain ⟨a3, e3, hy3, w3⟩ := DataW.trod_int Tryz.underlying5 h3
  obtain rfl : c3 = _ := List.head_eq_of_cons_eq e3
  subst hy3
  have h4 : DataW.trod enc Tryz.prog w base spare held n 5 [c4] = some y4 := by simpa [Value.cells, cells_u8] using hfld 4 _ rfl
  obtain ⟨a4, e4, hy4, w4⟩ := DataW.trod_int Tryz.underlying5 h4
  obtain rfl : c4 = _ := List.head_eq_of_cons_eq e4
  subst hy4
  have h5 : DataW.trod enc Tryz.prog w base spare held n 5 [c5] = some y5 := by simpa [Value.cells, cells_u8] using hfld 5 _ rfl
  obtain ⟨a5, e5, hy5, w5⟩ := DataW.trod_int Tryz.underlying5 h5
  obtain rfl : c5 = _ := List.head_eq_of_cons_eq e5
  subst hy5
  have h6 : DataW.trod enc Tryz.prog w base spare held n 5 [c6] = some y6 := by simpa [Value.cells, cells_u8] using hfld 6 _ rfl
  obtain ⟨a6, e6, hy6, w6⟩ := DataW.trod_int Tryz.underlying5 h6
  obtain rfl : c6 = _ := List.head_eq_of_cons_eq e6
  subst hy6
  have h7 : DataW.trod enc Tryz.prog w base spare held n 4 [c7] = some y7 := by simpa [Value.cells, cells_bool] using hfld 7 _ rfl
  obtain ⟨a7, e7, hy7⟩ := DataW.trod_bool Tryz.underlying4 h7
  obtain rfl : c7 = _ := List.head_eq_of_cons_eq e7
  subst hy7
  have h8 : DataW.trod enc Tryz.prog w base spare held n 4 [c8] = some y8 := by simpa [Value.cells, cells_bool] using hfld 8 _ rfl
  obtain ⟨a8, e8, hy8⟩ := DataW.trod_bool Tryz.underlying4 h8
  obtain rfl : c8 = _ := List.head_eq_of_cons_eq e8
  subst hy8
  have h9 : DataW.trod enc Tryz.prog w base spare held n 24 [c9] = some y9 := by simpa [Value.cells, cells_u16] using hfld 9 _ rfl
  obtain ⟨a9, e9, hy9, w9⟩ := DataW.trod_int Tryz.underlying24 h9
  obtain rfl : c9 = _ := List.head_eq_of_cons_eq e9
  subst hy9
  have h10 : DataW.trod enc Tryz.prog w base spare held n 2 [c10] = some y10 := by simpa [Value.cells, cells_i64] using hfld 10 _ rfl
  obtain ⟨a10, e10, hy10, w10⟩ := DataW.trod_int Tryz.underlying2 h10
  obtain rfl : c10 = _ := List.head_eq_of_cons_eq e10
  subst hy10
  simp only [Prod.mk.injEq] at hx
  exact ⟨⟨a0, a1, a2, a3, a4, a5, a6, a7, a8, a9, a10⟩, rfl, hx.1, by simpa using hx.2, ⟨(u8_wf w0).1, (u8_wf w0).2, (u8_wf w1).1, (u8_wf w1).2, (u8_wf w2).1, (u8_wf w2).2, (u8_wf w3).1, (u8_wf w3).2, (u8_wf w4).1, (u8_wf w4).2, (u8_wf w5).1, (u8_wf w5).2, (u8_wf w6).1, (u8_wf w6).2, (u16_wf w9).1, (u16_wf w9).2, (i64_wf w10).1, (i64_wf w10).2⟩⟩
theorem shut_inst (x : In) (hx : x.small) : DataW.Trod enc Tryz.prog w base spare held 26 x.val x.data [] := by
  have h0 : DataW.trod enc Tryz.prog w base spare held 1 5 [.int .u8 x.op] = some (.lit (.int .u8 x.op), []) := by simp [DataW.trod, Tryz.underlying5, wf_u8 hx.op0 hx.op1]
  have h1 : DataW.trod enc Tryz.prog w base spare held 1 5 [.int .u8 x.d] = some (.lit (.int .u8 x.d), []) := by simp [DataW.trod, Tryz.underlying5, wf_u8 hx.d0 hx.d1]
  have h2 : DataW.trod enc Tryz.prog w base spare held 1 5 [.int .u8 x.s] = some (.lit (.int .u8 x.s), []) := by simp [DataW.trod, Tryz.underlying5, wf_u8 hx.s0 hx.s1]
  have h3 : DataW.trod enc Tryz.prog w base spare held 1 5 [.int .u8 x.t] = some (.lit (.int .u8 x.t), []) := by simp [DataW.trod, Tryz.underlying5, wf_u8 hx.t0 hx.t1]
  have h4 : DataW.trod enc Tryz.prog w base spare held 1 5 [.int .u8 x.n] = some (.lit (.int .u8 x.n), []) := by simp [DataW.trod, Tryz.underlying5, wf_u8 hx.n0 hx.n1]
  have h5 : DataW.trod enc Tryz.prog w base spare held 1 5 [.int .u8 x.pred] = some (.lit (.int .u8 x.pred), []) := by simp [DataW.trod, Tryz.underlying5, wf_u8 hx.pred0 hx.pred1]
  have h6 : DataW.trod enc Tryz.prog w base spare held 1 5 [.int .u8 x.mode] = some (.lit (.int .u8 x.mode), []) := by simp [DataW.trod, Tryz.underlying5, wf_u8 hx.mode0 hx.mode1]
  have h7 : DataW.trod enc Tryz.prog w base spare held 1 4 [.bool x.new] = some (.lit (.bool x.new), []) := by simp [DataW.trod, Tryz.underlying4]
  have h8 : DataW.trod enc Tryz.prog w base spare held 1 4 [.bool x.ext] = some (.lit (.bool x.ext), []) := by simp [DataW.trod, Tryz.underlying4]
  have h9 : DataW.trod enc Tryz.prog w base spare held 1 24 [.int .u16 x.count] = some (.lit (.int .u16 x.count), []) := by simp [DataW.trod, Tryz.underlying24, wf_u16 hx.count0 hx.count1]
  have h10 : DataW.trod enc Tryz.prog w base spare held 1 2 [.int .i64 x.imm] = some (.lit (.int .i64 x.imm), []) := by simp [DataW.trod, Tryz.underlying2, wf_i64 hx.imm0 hx.imm1]
  have ts := trod_struct_mk (enc := enc) (w := w) (base := base) (spare := spare) (held := held) (n := 1) (cs := x.cells)
    (xs := [(.lit (.int .u8 x.op), []), (.lit (.int .u8 x.d), []), (.lit (.int .u8 x.s), []), (.lit (.int .u8 x.t), []), (.lit (.int .u8 x.n), []), (.lit (.int .u8 x.pred), []), (.lit (.int .u8 x.mode), []), (.lit (.bool x.new), []), (.lit (.bool x.ext), []), (.lit (.int .u16 x.count), []), (.lit (.int .i64 x.imm), [])]) Tryz.underlying26 (by rw [cells_inst]; rfl)
    (by simp [In.cells, cells_u8, cells_bool, cells_u16, cells_i64, h0, h1, h2, h3, h4, h5, h6, h7, h8, h9, h10])
  exact ⟨_, ts⟩
end
end
section
open Go.ChangeShapes Go.WideShapes Go.ChangeAt Go.RowKit Go.Sort

def smallB (x : In) : Bool :=
  decide (0 ≤ x.op) && decide (x.op ≤ 255) && decide (0 ≤ x.d) && decide (x.d ≤ 255) && decide (0 ≤ x.s) && decide (x.s ≤ 255) && decide (0 ≤ x.t) && decide (x.t ≤ 255) && decide (0 ≤ x.n) && decide (x.n ≤ 255) &&
    decide (0 ≤ x.pred) && decide (x.pred ≤ 255) && decide (0 ≤ x.mode) && decide (x.mode ≤ 255) && decide (0 ≤ x.count) && decide (x.count ≤ 65535) && decide (-9223372036854775808 ≤ x.imm) && decide (x.imm ≤ 9223372036854775807)
theorem small_of {x : In} (h : smallB x = true) : x.small := by
  unfold smallB at h
  simp only [Bool.and_eq_true, decide_eq_true_eq] at h
  obtain ⟨⟨⟨⟨⟨⟨⟨⟨⟨⟨⟨⟨⟨⟨⟨⟨⟨h0, h1⟩, h2⟩, h3⟩, h4⟩, h5⟩, h6⟩, h7⟩, h8⟩, h9⟩, h10⟩, h11⟩, h12⟩, h13⟩, h14⟩, h15⟩, h16⟩, h17⟩ := h
  exact ⟨h0, h1, h2, h3, h4, h5, h6, h7, h8, h9, h10, h11, h12, h13, h14, h15, h16, h17⟩
abbrev litIn (op d s t n pred mode : Int) (new ext : Bool) (count imm : Int) : In := ⟨op, d, s, t, n, pred, mode, new, ext, count, imm⟩
/-- A variable that holds the instruction, kept. -/
structure Own (W : World) (B : Nat) (x : In) (w : World) : Prop where
  made : Made W w
  in_ : InAt w B x
theorem Own.next {W w w' : World} {B : Nat} {x : In} (h : Own W B x w) (hm : Made w w') : Own W B x w' := ⟨Made.trans h.made hm, hm.heap h.in_⟩
end
section
open Go.ChangeShapes Go.WideShapes Go.ChangeAt Go.RowKit Go.Sort

/-- The world behind take. -/
def takeW (w : World) (b : Nat) (x : In) (k : Int) : World :=
  if k = 1 then w.setCell ⟨b, 6, none⟩ (.int .u8 0) else if k = 2 then w.setCell ⟨b, 5, none⟩ (.int .u8 0) else if k = 3 then w.setCell ⟨b, 1, none⟩ (.int .u8 0) else if k = 4 then w.setCell ⟨b, 1, none⟩ (.int .u8 0)
  else if k = 5 then w.setCell ⟨b, 2, none⟩ (.int .u8 0) else if k = 6 then w.setCell ⟨b, 3, none⟩ (.int .u8 0) else if k = 7 then w.setCell ⟨b, 4, none⟩ (.int .u8 0)
  else if k = 8 then (if x.new then w.setCell ⟨b, 7, none⟩ (.bool false) else w) else if k = 9 then w.setCell ⟨b, 10, none⟩ (.int .i64 0) else if k = 10 then w.setCell ⟨b, 10, none⟩ (.int .i64 0)
  else if k = 11 then w.setCell ⟨b, 9, none⟩ (.int .u16 0) else w
set_option maxRecDepth 100000 in
set_option maxHeartbeats 1000000 in
theorem take_any (w : World) (b : Nat) (x : In) (k : Int) (hx : InAt w b x) (hs : x.small) :
    Calls Tryz.prog 124 #[.pointer (some ⟨b, 0, none⟩), .int .u8 k] w fun e w' => e = .returned (.int .i64 (takeV x k)) ∧ w' = takeW w b x k := by
  obtain ⟨c0, c1, c2, c3, c4, c5, c6, c7, c8, c9, c10⟩ := in_cells hx
  have fz := free_of_lit hx
  have hlt := heap_lt hx
  obtain ⟨xo, xd, xs, xt, xn, xp, xm, xw, xe, xc, xi⟩ := x
  have g1 : 0 ≤ xd := hs.d0
  have g2 : xd ≤ 255 := hs.d1
  have g3 : 0 ≤ xs := hs.s0
  have g4 : xs ≤ 255 := hs.s1
  have g5 : 0 ≤ xt := hs.t0
  have g6 : xt ≤ 255 := hs.t1
  have g7 : 0 ≤ xn := hs.n0
  have g8 : xn ≤ 255 := hs.n1
  have g9 : 0 ≤ xp := hs.pred0
  have g10 : xp ≤ 255 := hs.pred1
  have g11 : 0 ≤ xm := hs.mode0
  have g12 : xm ≤ 255 := hs.mode1
  have g13 : 0 ≤ xc := hs.count0
  have g14 : xc ≤ 65535 := hs.count1
  clear hs
  clear hx
  have hc : k = 1 ∨ k = 2 ∨ k = 3 ∨ k = 4 ∨ k = 5 ∨ k = 6 ∨ k = 7 ∨ k = 8 ∨ k = 9 ∨ k = 10 ∨ k = 11 ∨ (k < 1 ∨ 11 < k) := by omega
  rcases hc with rfl | rfl | rfl | rfl | rfl | rfl | rfl | rfl | rfl | rfl | rfl | hc
  case inr.inr.inr.inr.inr.inr.inr.inr.inr.inr.inr =>
    have e1 : takeV ⟨xo, xd, xs, xt, xn, xp, xm, xw, xe, xc, xi⟩ k = 0 ∧ takeW w b ⟨xo, xd, xs, xt, xn, xp, xm, xw, xe, xc, xi⟩ k = w := by
      unfold takeV takeW
      refine ⟨?_, ?_⟩ <;> iterate 11 (rw [if_neg (by omega)])
    have E := Lib.hid e1
    have n1 : (k == 1) = false := beq_eq_false_iff_ne.2 (by omega)
    have n2 : (k == 2) = false := beq_eq_false_iff_ne.2 (by omega)
    have n3 : (k == 3) = false := beq_eq_false_iff_ne.2 (by omega)
    have n4 : (k == 4) = false := beq_eq_false_iff_ne.2 (by omega)
    have n5 : (k == 5) = false := beq_eq_false_iff_ne.2 (by omega)
    have n6 : (k == 6) = false := beq_eq_false_iff_ne.2 (by omega)
    have n7 : (k == 7) = false := beq_eq_false_iff_ne.2 (by omega)
    have n8 : (k == 8) = false := beq_eq_false_iff_ne.2 (by omega)
    have n9 : (k == 9) = false := beq_eq_false_iff_ne.2 (by omega)
    have n10 : (k == 10) = false := beq_eq_false_iff_ne.2 (by omega)
    have n11 : (k == 11) = false := beq_eq_false_iff_ne.2 (by omega)
    clear e1 hc
    go_enter Tryz.func124, Tryz.ntmps124
    go_wp2
    go_ret
    rw [E.out.1, E.out.2]
    exact ⟨rfl, rfl⟩
  case inr.inr.inr.inr.inr.inr.inr.inl =>
    cases xw
    all_goals
      go_enter Tryz.func124, Tryz.ntmps124
      go_wp2
      go_ret
      exact ⟨rfl, rfl⟩
  all_goals
    go_enter Tryz.func124, Tryz.ntmps124
    go_wp2
    go_ret
    exact ⟨rfl, rfl⟩

/-- What stands behind take: the block holds the rest; all else is as it was. -/
structure Took (w w' : World) (b : Nat) (x : In) : Prop where
  at_ : InAt w' b x
  far : ∀ i, i ≠ b → w'.heap[i]? = w.heap[i]?
  size : w'.heap.size = w.heap.size
  made : ∀ W : World, W.heap.size ≤ b → Made W w → Made W w'
theorem took_set {w : World} {b j : Nat} {x y : In} {v : Value} (hx : InAt w b x) (h : x.cells.toArray.setIfInBounds j v = y.cells.toArray) : Took w (w.setCell ⟨b, j, none⟩ v) b y := by
  refine ⟨?_, fun i hi => Below.heap_setCell w ⟨b, j, none⟩ v i hi, by simp, fun W hW hm => hm.setCell (p := ⟨b, j, none⟩) hW v⟩
  have := heap_setCell_same w b j x.cells.toArray 26 v hx
  rwa [h] at this
theorem took_any {w : World} {b : Nat} {x : In} (k : Int) (hx : InAt w b x) : Took w (takeW w b x k) b (takeR x k) := by
  obtain ⟨xo, xd, xs, xt, xn, xp, xm, xw, xe, xc, xi⟩ := x
  have hc : k = 1 ∨ k = 2 ∨ k = 3 ∨ k = 4 ∨ k = 5 ∨ k = 6 ∨ k = 7 ∨ k = 8 ∨ k = 9 ∨ k = 10 ∨ k = 11 ∨ (k < 1 ∨ 11 < k) := by omega
  rcases hc with rfl | rfl | rfl | rfl | rfl | rfl | rfl | rfl | rfl | rfl | rfl | hc
  case inr.inr.inr.inr.inr.inr.inr.inl =>
    cases xw
    · exact ⟨hx, fun _ _ => rfl, rfl, fun _ _ h => h⟩
    · exact took_set hx rfl
  case inr.inr.inr.inr.inr.inr.inr.inr.inr.inr.inr =>
    have e1 : takeR ⟨xo, xd, xs, xt, xn, xp, xm, xw, xe, xc, xi⟩ k = ⟨xo, xd, xs, xt, xn, xp, xm, xw, xe, xc, xi⟩ ∧ takeW w b ⟨xo, xd, xs, xt, xn, xp, xm, xw, xe, xc, xi⟩ k = w := by
      unfold takeR takeW
      refine ⟨?_, ?_⟩ <;> iterate 11 (rw [if_neg (by omega)])
    rw [e1.1, e1.2]
    exact ⟨hx, fun _ _ => rfl, rfl, fun _ _ h => h⟩
  all_goals exact took_set hx rfl

abbrev Fd.put (f : Fd) : Value := .agg #[.int .u8 f.kind, .int .i64 f.bits, .int .i64 f.shift, .bool f.sg, .bool f.ext]
set_option maxRecDepth 100000 in
set_option maxHeartbeats 1000000 in
theorem inRange_any (v : Int) (f : Fd) (ext : Bool) (hv : inI64 v) (W : World) : Makes Tryz.prog W 123 #[.int .i64 v, f.put, .bool ext] (.bool (inRangeB v f ext)) := by
  intro w hm
  have hz := hm.size
  obtain ⟨fk, fb, fs, fg, fe⟩ := f
  have hv2 : isI v := hv
  have hf := fun n s sg => fits_any v n s sg hv2
  obtain ⟨hv0, hv1⟩ := hv
  have HF := Lib.hid hf
  clear hf hv2
  have HM := Lib.hid hm
  clear hm
  by_cases h1 : fk = 1
  · subst h1
    have e : inRangeB v ⟨1, fb, fs, fg, fe⟩ ext = decide (v ≤ 4) := rfl
    have E := Lib.hid e
    clear e
    go_enter Tryz.func123, Tryz.ntmps123
    go_wp2
    go_ret
    exact ⟨ret_bool E.out.symm, HM.out.alloc hz _⟩
  · have k1 : (fk == 1) = false := beq_eq_false_iff_ne.2 h1
    by_cases h2 : fk = 10
    · subst h2
      have e : inRangeB v ⟨10, fb, fs, fg, fe⟩ ext = fitsB v 30 2 false := rfl
      have E := Lib.hid e
      clear e h1 k1
      go_enter Tryz.func123, Tryz.ntmps123
      go_wp2_with (fail)
      refine (HF.out 30 2 false _).mono ?_
      rintro e w1 ⟨rfl, n1, rfl⟩
      go_wp2
      go_ret
      exact ⟨ret_bool E.out.symm, below_drewN (HM.out.alloc hz _) _⟩
    · have k2 : (fk == 10) = false := beq_eq_false_iff_ne.2 h2
      cases fe with
      | false =>
        have e : inRangeB v ⟨fk, fb, fs, fg, false⟩ ext = fitsB v fb fs fg := by unfold inRangeB; rw [if_neg h1, if_neg h2]; rfl
        have E := Lib.hid e
        clear e h1 h2
        go_enter Tryz.func123, Tryz.ntmps123
        go_wp2_with (fail)
        refine (HF.out fb fs fg _).mono ?_
        rintro e w1 ⟨rfl, n1, rfl⟩
        go_wp2
        go_ret
        exact ⟨ret_bool E.out.symm, below_drewN (HM.out.alloc hz _) _⟩
      | true =>
        cases ext with
        | false =>
          have e : inRangeB v ⟨fk, fb, fs, fg, true⟩ false = fitsB v fb fs fg := by unfold inRangeB; rw [if_neg h1, if_neg h2]; rfl
          have E := Lib.hid e
          clear e h1 h2
          go_enter Tryz.func123, Tryz.ntmps123
          go_wp2_with (fail)
          refine (HF.out fb fs fg _).mono ?_
          rintro e w1 ⟨rfl, n1, rfl⟩
          go_wp2
          go_ret
          exact ⟨ret_bool E.out.symm, below_drewN (HM.out.alloc hz _) _⟩
        | true =>
          have e : inRangeB v ⟨fk, fb, fs, fg, true⟩ true = fitsB v 32 0 true := by unfold inRangeB; rw [if_neg h1, if_neg h2]; rfl
          have E := Lib.hid e
          clear e h1 h2
          go_enter Tryz.func123, Tryz.ntmps123
          go_wp2_with (fail)
          refine (HF.out 32 0 true _).mono ?_
          rintro e w1 ⟨rfl, n1, rfl⟩
          go_wp2
          go_ret
          exact ⟨ret_bool E.out.symm, below_drewN (HM.out.alloc hz _) _⟩
end
section
open Go.ChangeShapes Go.WideShapes Go.ChangeAt Go.RowKit Go.Sort

set_option maxRecDepth 100000 in
set_option maxHeartbeats 1000000 in
theorem run_in_eql (y z : In) (w : World) : (binOp .eql 26 y.val z.val).run Tryz.prog w = .ok (.bool (decide (y = z))) w := by
  obtain ⟨y0, y1, y2, y3, y4, y5, y6, y7, y8, y9, y10⟩ := y
  obtain ⟨z0, z1, z2, z3, z4, z5, z6, z7, z8, z9, z10⟩ := z
  by_cases h0 : y0 = z0
  rotate_left
  · simp [go_sem, h0]
  subst h0
  by_cases h1 : y1 = z1
  rotate_left
  · simp [go_sem, h1]
  subst h1
  by_cases h2 : y2 = z2
  rotate_left
  · simp [go_sem, h2]
  subst h2
  by_cases h3 : y3 = z3
  rotate_left
  · simp [go_sem, h3]
  subst h3
  by_cases h4 : y4 = z4
  rotate_left
  · simp [go_sem, h4]
  subst h4
  by_cases h5 : y5 = z5
  rotate_left
  · simp [go_sem, h5]
  subst h5
  by_cases h6 : y6 = z6
  rotate_left
  · simp [go_sem, h6]
  subst h6
  by_cases h7 : y7 = z7
  rotate_left
  · simp [go_sem, h7]
  subst h7
  by_cases h8 : y8 = z8
  rotate_left
  · simp [go_sem, h8]
  subst h8
  by_cases h9 : y9 = z9
  rotate_left
  · simp [go_sem, h9]
  subst h9
  by_cases h10 : y10 = z10
  rotate_left
  · simp [go_sem, h10]
  subst h10
  simp [go_sem]
abbrev zeroV : Value := .agg #[.int .u8 0, .int .u8 0, .int .u8 0, .int .u8 0, .int .u8 0, .int .u8 0, .int .u8 0, .bool false, .bool false, .int .u16 0, .int .i64 0]
theorem run_in_zero (y : In) (w : World) : (binOp .eql 26 y.val zeroV).run Tryz.prog w = .ok (.bool (decide (y = inZero))) w := run_in_eql y inZero w
theorem run_in_zero0 (x : In) (w : World) : (binOp .eql 26 (.agg #[.int .u8 0, .int .u8 x.d, .int .u8 x.s, .int .u8 x.t, .int .u8 x.n, .int .u8 x.pred, .int .u8 x.mode, .bool x.new, .bool x.ext, .int .u16 x.count, .int .i64 x.imm]) zeroV).run Tryz.prog w =
    .ok (.bool (decide ({ x with op := 0 } = inZero))) w := run_in_eql { x with op := 0 } inZero w
end
end Go.Proofs.YtnfmlmamgkpocaaGreatDoor
