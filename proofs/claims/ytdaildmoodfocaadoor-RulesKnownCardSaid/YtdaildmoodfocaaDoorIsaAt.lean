/- What At of package isa returns, for every op and every kind, in every world that has grown out of one that holds the table of names. -/
import Derived.Test.YtdaildmoodfocaaDoorIsaOf
namespace Go.Proofs.YtdaildmoodfocaaDoor
open Go.ChangeShapes Go.WideShapes Go.ChangeAt Go.RowKit Go.Sort

/-- What At tells: the field, its place, whether it is there. -/
def atF (op k : Int) : Fd := match atZ op k with | some (f, _) => f | none => fZero
def atP (op k : Int) : Int := match atZ op k with | some (_, p) => p | none => 0
def atB (op k : Int) : Bool := (atZ op k).isSome
def Fd.small (f : Fd) : Prop := 0 ≤ f.kind ∧ f.kind ≤ 11 ∧ 0 ≤ f.bits ∧ f.bits ≤ 24 ∧ 0 ≤ f.shift ∧ f.shift ≤ 2
theorem fields_small (op : Int) : ∀ f ∈ fieldsZ op, f.small := by
  have h : ∀ l ∈ fieldsL, ∀ f ∈ l, (decide (0 ≤ f.kind) && decide (f.kind ≤ 11) && decide (0 ≤ f.bits) && decide (f.bits ≤ 24) && decide (0 ≤ f.shift) && decide (f.shift ≤ 2)) = true := by decide +kernel
  intro f hf
  unfold fieldsZ at hf
  have : f.small ∨ False := by
    rewrite [List.getD_eq_getElem?_getD] at hf
    cases hg : fieldsL[op.toNat]? with
    | none => rewrite [hg] at hf; cases hf
    | some l =>
      rewrite [hg, Option.getD_some] at hf
      have := h l (List.mem_of_getElem? hg) f hf
      simp only [Bool.and_eq_true, decide_eq_true_eq] at this
      exact .inl ⟨this.1.1.1.1.1, this.1.1.1.1.2, this.1.1.1.2, this.1.1.2, this.1.2, this.2⟩
  exact this.resolve_right id
theorem fields_few (op : Int) : (fieldsZ op).length ≤ 5 := by
  have h : ∀ l ∈ fieldsL, l.length ≤ 5 := by decide +kernel
  unfold fieldsZ
  rw [List.getD_eq_getElem?_getD]
  cases hg : fieldsL[op.toNat]? with
  | none => simp
  | some l => exact h l (List.mem_of_getElem? hg)
theorem flat_at (l : List Fd) (k : Nat) (h : k < l.length) : (flatF l)[k * 5]? = some (.int .u8 l[k].kind) ∧ (flatF l)[k * 5 + 1]? = some (.int .i64 l[k].bits) ∧ (flatF l)[k * 5 + 2]? = some (.int .i64 l[k].shift) ∧
    (flatF l)[k * 5 + 3]? = some (.bool l[k].sg) ∧ (flatF l)[k * 5 + 4]? = some (.bool l[k].ext) := by
  induction l generalizing k with
  | nil => simp at h
  | cons f r ih =>
    have e : flatF (f :: r) = f.cells ++ flatF r := rfl
    cases k with
    | zero => simp [e, Fd.cells]
    | succ k =>
      have hk : k < r.length := by simpa using h
      have h5 : f.cells.length = 5 := rfl
      have := ih k hk
      rw [e]
      refine ⟨?_, ?_, ?_, ?_, ?_⟩ <;> rw [List.getElem?_append_right (by rw [h5]; omega)] <;> rw [h5]
      · rw [show (k + 1) * 5 - 5 = k * 5 by omega]; exact this.1
      · rw [show (k + 1) * 5 + 1 - 5 = k * 5 + 1 by omega]; exact this.2.1
      · rw [show (k + 1) * 5 + 2 - 5 = k * 5 + 2 by omega]; exact this.2.2.1
      · rw [show (k + 1) * 5 + 3 - 5 = k * 5 + 3 by omega]; exact this.2.2.2.1
      · rw [show (k + 1) * 5 + 4 - 5 = k * 5 + 4 by omega]; exact this.2.2.2.2
theorem atIn_drop (l : List Fd) (k : Nat) (h : k < l.length) (L kd : Int) : atIn (l.drop k) L kd = if l[k].kind = kd then some (l[k], L - l[k].bits) else atIn (l.drop (k + 1)) (L - l[k].bits) kd := by
  rw [List.drop_eq_getElem_cons h]; rfl
/-- The cells of a row that the call owns, where it holds any. -/
theorem owns_cells {w : World} {B : Nat} {E : TypeId} {p : Option Addr} {n cap : Nat} {fs : List Fd} (h : w.ownsRow B E 5 (.slice p n cap) fs.length (flatF fs)) :
    (fs = [] ∧ p = none ∧ n = 0 ∧ cap = 0) ∨ (∃ b, p = some ⟨b, 0, none⟩ ∧ n = fs.length ∧ B ≤ b ∧ b < w.heap.size ∧ n ≤ cap ∧ cap ≤ maxLen ∧ ∀ j, j < fs.length * 5 → w.cell? ⟨b, j, none⟩ = (flatF fs)[j]?) := by
  rcases h.2 with ⟨hv, hn⟩ | ⟨g, c, cur, hv, hb, hg, hnc, hcm, hcs, ht⟩
  · cases hv
    exact .inl ⟨List.eq_nil_of_length_eq_zero hn, rfl, rfl, rfl⟩
  · cases hv
    exact .inr ⟨g, rfl, rfl, hb, heap_lt hg, hnc, hcm, fun j hj => h.cellAt j hj⟩

def IsAt (W : World) (op k : Int) (e : Ending) (w' : World) : Prop := e = .returned (.tuple #[.agg #[.int .u8 (atF op k).kind, .int .i64 (atF op k).bits, .int .i64 (atF op k).shift, .bool (atF op k).sg, .bool (atF op k).ext], .int .i64 (atP op k), .bool (atB op k)]) ∧ Made W w'
theorem row_fields (o c s : Int) (nm : ByteArray) (p : Option Addr) (n cap : Nat) (w : World) : (Instr.field 56 (.agg #[.int .u8 o, .string nm, .int .u8 c, .int .u8 s, .slice p n cap]) 4).run Tryd.prog w = .ok (.slice p n cap) w := by kernel_rfl
theorem at_close {W w : World} {op k L : Int} {f : Fd} {n0 : Nat} (h : atZ op k = some (f, L)) (hM : Made W w) (hz : W.heap.size ≤ n0) (v0 v1 v2 v3 v4 : Value) (o : Obj) :
    IsAt W op k (.returned (.tuple #[.agg #[.int .u8 f.kind, .int .i64 f.bits, .int .i64 f.shift, .bool f.sg, .bool f.ext], .int .i64 L, .bool true]))
      ((((((w.setCell ⟨n0, 0, none⟩ v0).setCell ⟨n0, 1, none⟩ v1).setCell ⟨n0, 2, none⟩ v2).setCell ⟨n0, 3, none⟩ v3).setCell ⟨n0, 4, none⟩ v4).alloc o) := by
  unfold IsAt atF atP atB
  rw [h]
  have k := (((((hM.setCell (p := ⟨n0, 0, none⟩) hz v0).setCell (p := ⟨n0, 1, none⟩) hz v1).setCell (p := ⟨n0, 2, none⟩) hz v2).setCell (p := ⟨n0, 3, none⟩) hz v3).setCell (p := ⟨n0, 4, none⟩) hz v4)
  exact ⟨rfl, k.alloc k.size o⟩
end Go.Proofs.YtdaildmoodfocaaDoor
