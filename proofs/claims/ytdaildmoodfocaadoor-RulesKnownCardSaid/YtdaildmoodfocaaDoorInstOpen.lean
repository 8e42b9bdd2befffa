/- An instruction among a law's arguments: its reading opened into its parts, and shut again; no condition but the reading's own. -/
import Derived.Test.YtdaildmoodfocaaDoorInstIn
import Derived.WalkKit
import Derived.ProofKit
import Derived.OpenShut
namespace Go.Proofs.YtdaildmoodfocaaDoor
open Go.ChangeShapes Go.WideShapes Go.ChangeAt Go.RowKit

theorem array11 {α : Type} {cs : Array α} (h : cs.size = 11) : ∃ c0 c1 c2 c3 c4 c5 c6 c7 c8 c9 c10, cs = #[c0, c1, c2, c3, c4, c5, c6, c7, c8, c9, c10] := by
  obtain ⟨l⟩ := cs
  match l, h with
  | [c0, c1, c2, c3, c4, c5, c6, c7, c8, c9, c10], _ => exact ⟨c0, c1, c2, c3, c4, c5, c6, c7, c8, c9, c10, rfl⟩
theorem list11 {α : Type} {l : List α} (h : l.length = 11) : ∃ c0 c1 c2 c3 c4 c5 c6 c7 c8 c9 c10, l = [c0, c1, c2, c3, c4, c5, c6, c7, c8, c9, c10] := by
  match l, h with
  | [c0, c1, c2, c3, c4, c5, c6, c7, c8, c9, c10], _ => exact ⟨c0, c1, c2, c3, c4, c5, c6, c7, c8, c9, c10, rfl⟩
def In.data {H : Type} (x : In) : DataW H := .agg [.lit (.int .u8 x.op), .lit (.int .u8 x.d), .lit (.int .u8 x.s), .lit (.int .u8 x.t), .lit (.int .u8 x.n), .lit (.int .u8 x.pred), .lit (.int .u8 x.mode), .lit (.bool x.new), .lit (.bool x.ext), .lit (.int .u16 x.count), .lit (.int .i64 x.imm)]
theorem u8_wf {n : Int} (h : (Lit.int .u8 n).wf = true) : 0 ≤ n ∧ n ≤ 255 := by
  simp only [Lit.wf, Bool.and_eq_true, decide_eq_true_eq] at h
  have h1 : IntKind.u8.min = 0 := rfl
  have h2 : IntKind.u8.max = 255 := rfl
  exact ⟨by omega, by omega⟩
theorem u16_wf {n : Int} (h : (Lit.int .u16 n).wf = true) : 0 ≤ n ∧ n ≤ 65535 := by
  simp only [Lit.wf, Bool.and_eq_true, decide_eq_true_eq] at h
  have h1 : IntKind.u16.min = 0 := rfl
  have h2 : IntKind.u16.max = 65535 := rfl
  exact ⟨by omega, by omega⟩
theorem i64_wf {n : Int} (h : (Lit.int .i64 n).wf = true) : -9223372036854775808 ≤ n ∧ n ≤ 9223372036854775807 := by
  simp only [Lit.wf, Bool.and_eq_true, decide_eq_true_eq] at h
  have h1 : IntKind.i64.min = -9223372036854775808 := rfl
  have h2 : IntKind.i64.max = 9223372036854775807 := rfl
  exact ⟨by omega, by omega⟩
theorem wf_u8 {n : Int} (h0 : 0 ≤ n) (h1 : n ≤ 255) : (Lit.int .u8 n).wf = true := by
  simp only [Lit.wf, Bool.and_eq_true, decide_eq_true_eq]
  exact ⟨h0, h1⟩
theorem wf_u16 {n : Int} (h0 : 0 ≤ n) (h1 : n ≤ 65535) : (Lit.int .u16 n).wf = true := by
  simp only [Lit.wf, Bool.and_eq_true, decide_eq_true_eq]
  exact ⟨h0, h1⟩
theorem wf_i64 {n : Int} (h0 : -9223372036854775808 ≤ n) (h1 : n ≤ 9223372036854775807) : (Lit.int .i64 n).wf = true := by
  simp only [Lit.wf, Bool.and_eq_true, decide_eq_true_eq]
  exact ⟨h0, h1⟩
theorem cells_u8 : Tryd.prog.cellsOf 5 = 1 := by kernel_rfl
theorem cells_bool : Tryd.prog.cellsOf 4 = 1 := by kernel_rfl
theorem cells_u16 : Tryd.prog.cellsOf 22 = 1 := by kernel_rfl
theorem cells_i64 : Tryd.prog.cellsOf 2 = 1 := by kernel_rfl
theorem cells_inst : Tryd.prog.cellsOf 24 = 11 := by kernel_rfl
section
variable {H : Type} {enc : TypeId × Value → H} {w : World} {base : Nat} {spare : Nat → Bool} {held : Bool}
set_option maxRecDepth 100000 in
theorem open_inst {r : Reach} {b0 : Nat} {v : Value} {d : DataW H} {ps : List MemPlace} (hv : Value.okWide Tryd.prog w r b0 24 v) (h : DataW.Trod enc Tryd.prog w base spare held 24 v d ps) :
    ∃ x : In, v = x.val ∧ d = x.data ∧ ps = [] ∧ x.small := by
  obtain ⟨cs, rfl, hsz⟩ := okWide_struct Tryd.underlying24 hv
  obtain ⟨fuel, hf⟩ := h
  obtain ⟨xs, n, _, hx, _, hlen, hfld⟩ := DataW.trod_struct Tryd.underlying24 hf
  obtain ⟨c0, c1, c2, c3, c4, c5, c6, c7, c8, c9, c10, rfl⟩ := array11 (hsz.trans cells_inst)
  obtain ⟨y0, y1, y2, y3, y4, y5, y6, y7, y8, y9, y10, rfl⟩ := list11 hlen
  have h0 : DataW.trod enc Tryd.prog w base spare held n 5 [c0] = some y0 := by simpa [Value.cells, cells_u8] using hfld 0 _ rfl
  obtain ⟨a0, e0, hy0, w0⟩ := DataW.trod_int Tryd.underlying5 h0
  obtain rfl : c0 = _ := List.head_eq_of_cons_eq e0
  subst hy0
  have h1 : DataW.trod enc Tryd.prog w base spare held n 5 [c1] = some y1 := by simpa [Value.cells, cells_u8] using hfld 1 _ rfl
  obtain ⟨a1, e1, hy1, w1⟩ := DataW.trod_int Tryd.underlying5 h1
  obtain rfl : c1 = _ := List.head_eq_of_cons_eq e1
  subst hy1
  have h2 : DataW.trod enc Tryd.prog w base spare held n 5 [c2] = some y2 := by simpa [Value.cells, cells_u8] using hfld 2 _ rfl
  obtain ⟨a2, e2, hy2, w2⟩ := DataW.trod_int Tryd.underlying5 h2
  obtain rfl : c2 = _ := List.head_eq_of_cons_eq e2
  subst hy2
  have h3 : DataW.trod enc Tryd.prog w base spare held n 5 [c3] = some y3 := by simpa [Value.cells, cells_u8] using hfld 3 _ rfl
  obtain ⟨a3, e3, hy3, w3⟩ := DataW.trod_int Tryd.underlying5 h3
  obtain rfl : c3 = _ := List.head_eq_of_cons_eq e3
  subst hy3
  have h4 : DataW.trod enc Tryd.prog w base spare held n 5 [c4] = some y4 := by simpa [Value.cells, cells_u8] using hfld 4 _ rfl
  obtain ⟨a4, e4, hy4, w4⟩ := DataW.trod_int Tryd.underlying5 h4
  obtain rfl : c4 = _ := List.head_eq_of_cons_eq e4
  subst hy4
  have h5 : DataW.trod enc Tryd.prog w base spare held n 5 [c5] = some y5 := by simpa [Value.cells, cells_u8] using hfld 5 _ rfl
  obtain ⟨a5, e5, hy5, w5⟩ := DataW.trod_int Tryd.underlying5 h5
  obtain rfl : c5 = _ := List.head_eq_of_cons_eq e5
  subst hy5
  have h6 : DataW.trod enc Tryd.prog w base spare held n 5 [c6] = some y6 := by simpa [Value.cells, cells_u8] using hfld 6 _ rfl
  obtain ⟨a6, e6, hy6, w6⟩ := DataW.trod_int Tryd.underlying5 h6
  obtain rfl : c6 = _ := List.head_eq_of_cons_eq e6
  subst hy6
  have h7 : DataW.trod enc Tryd.prog w base spare held n 4 [c7] = some y7 := by simpa [Value.cells, cells_bool] using hfld 7 _ rfl
  obtain ⟨a7, e7, hy7⟩ := DataW.trod_bool Tryd.underlying4 h7
  obtain rfl : c7 = _ := List.head_eq_of_cons_eq e7
  subst hy7
  have h8 : DataW.trod enc Tryd.prog w base spare held n 4 [c8] = some y8 := by simpa [Value.cells, cells_bool] using hfld 8 _ rfl
  obtain ⟨a8, e8, hy8⟩ := DataW.trod_bool Tryd.underlying4 h8
  obtain rfl : c8 = _ := List.head_eq_of_cons_eq e8
  subst hy8
  have h9 : DataW.trod enc Tryd.prog w base spare held n 22 [c9] = some y9 := by simpa [Value.cells, cells_u16] using hfld 9 _ rfl
  obtain ⟨a9, e9, hy9, w9⟩ := DataW.trod_int Tryd.underlying22 h9
  obtain rfl : c9 = _ := List.head_eq_of_cons_eq e9
  subst hy9
  have h10 : DataW.trod enc Tryd.prog w base spare held n 2 [c10] = some y10 := by simpa [Value.cells, cells_i64] using hfld 10 _ rfl
  obtain ⟨a10, e10, hy10, w10⟩ := DataW.trod_int Tryd.underlying2 h10
  obtain rfl : c10 = _ := List.head_eq_of_cons_eq e10
  subst hy10
  simp only [Prod.mk.injEq] at hx
  exact ⟨⟨a0, a1, a2, a3, a4, a5, a6, a7, a8, a9, a10⟩, rfl, hx.1, by simpa using hx.2, ⟨(u8_wf w0).1, (u8_wf w0).2, (u8_wf w1).1, (u8_wf w1).2, (u8_wf w2).1, (u8_wf w2).2, (u8_wf w3).1, (u8_wf w3).2, (u8_wf w4).1, (u8_wf w4).2, (u8_wf w5).1, (u8_wf w5).2, (u8_wf w6).1, (u8_wf w6).2, (u16_wf w9).1, (u16_wf w9).2, (i64_wf w10).1, (i64_wf w10).2⟩⟩
theorem shut_inst (x : In) (hx : x.small) : DataW.Trod enc Tryd.prog w base spare held 24 x.val x.data [] := by
  have h0 : DataW.trod enc Tryd.prog w base spare held 1 5 [.int .u8 x.op] = some (.lit (.int .u8 x.op), []) := by simp [DataW.trod, Tryd.underlying5, wf_u8 hx.op0 hx.op1]
  have h1 : DataW.trod enc Tryd.prog w base spare held 1 5 [.int .u8 x.d] = some (.lit (.int .u8 x.d), []) := by simp [DataW.trod, Tryd.underlying5, wf_u8 hx.d0 hx.d1]
  have h2 : DataW.trod enc Tryd.prog w base spare held 1 5 [.int .u8 x.s] = some (.lit (.int .u8 x.s), []) := by simp [DataW.trod, Tryd.underlying5, wf_u8 hx.s0 hx.s1]
  have h3 : DataW.trod enc Tryd.prog w base spare held 1 5 [.int .u8 x.t] = some (.lit (.int .u8 x.t), []) := by simp [DataW.trod, Tryd.underlying5, wf_u8 hx.t0 hx.t1]
  have h4 : DataW.trod enc Tryd.prog w base spare held 1 5 [.int .u8 x.n] = some (.lit (.int .u8 x.n), []) := by simp [DataW.trod, Tryd.underlying5, wf_u8 hx.n0 hx.n1]
  have h5 : DataW.trod enc Tryd.prog w base spare held 1 5 [.int .u8 x.pred] = some (.lit (.int .u8 x.pred), []) := by simp [DataW.trod, Tryd.underlying5, wf_u8 hx.pred0 hx.pred1]
  have h6 : DataW.trod enc Tryd.prog w base spare held 1 5 [.int .u8 x.mode] = some (.lit (.int .u8 x.mode), []) := by simp [DataW.trod, Tryd.underlying5, wf_u8 hx.mode0 hx.mode1]
  have h7 : DataW.trod enc Tryd.prog w base spare held 1 4 [.bool x.new] = some (.lit (.bool x.new), []) := by simp [DataW.trod, Tryd.underlying4]
  have h8 : DataW.trod enc Tryd.prog w base spare held 1 4 [.bool x.ext] = some (.lit (.bool x.ext), []) := by simp [DataW.trod, Tryd.underlying4]
  have h9 : DataW.trod enc Tryd.prog w base spare held 1 22 [.int .u16 x.count] = some (.lit (.int .u16 x.count), []) := by simp [DataW.trod, Tryd.underlying22, wf_u16 hx.count0 hx.count1]
  have h10 : DataW.trod enc Tryd.prog w base spare held 1 2 [.int .i64 x.imm] = some (.lit (.int .i64 x.imm), []) := by simp [DataW.trod, Tryd.underlying2, wf_i64 hx.imm0 hx.imm1]
  have ts := trod_struct_mk (enc := enc) (w := w) (base := base) (spare := spare) (held := held) (n := 1) (cs := x.cells)
    (xs := [(.lit (.int .u8 x.op), []), (.lit (.int .u8 x.d), []), (.lit (.int .u8 x.s), []), (.lit (.int .u8 x.t), []), (.lit (.int .u8 x.n), []), (.lit (.int .u8 x.pred), []), (.lit (.int .u8 x.mode), []), (.lit (.bool x.new), []), (.lit (.bool x.ext), []), (.lit (.int .u16 x.count), []), (.lit (.int .i64 x.imm), [])]) Tryd.underlying24 (by rw [cells_inst]; rfl)
    (by simp [In.cells, cells_u8, cells_bool, cells_u16, cells_i64, h0, h1, h2, h3, h4, h5, h6, h7, h8, h9, h10])
  exact ⟨_, ts⟩
end
end Go.Proofs.YtdaildmoodfocaaDoor
