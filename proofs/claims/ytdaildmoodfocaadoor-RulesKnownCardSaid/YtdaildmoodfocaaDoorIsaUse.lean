/- What a caller of package isa takes of its contracts: rows and fields opened, cells that stay; no law of isa's own. -/
import Derived.Test.YtdaildmoodfocaaDoorIsaAt
namespace Go.Proofs.YtdaildmoodfocaaDoor
open Go.ChangeShapes Go.WideShapes Go.ChangeAt Go.RowKit Go.Sort BigFrame

theorem isOf_row {W : World} {op : Int} {e : Ending} {w' : World} (h : IsOf W op e w') (nm : ByteArray) (o c s : Int) (ok : Bool) (fs : List Fd) (hfs : fieldsZ (opN op) = fs) (ho : opN op = o) (hn : nameZ (opN op) = nm) (hc : classZ (opN op) = c) (hs : slotsZ c = s) (hk : isOp op = ok) (hne : fs ≠ []) :
    ∃ b cap, e = .returned (.tuple #[.agg #[.int .u8 o, .string nm, .int .u8 c, .int .u8 s, .slice (some ⟨b, 0, none⟩) fs.length cap], .bool ok]) ∧ Made W w' := by
  obtain ⟨p, n, cap, rfl, hm, hw⟩ := h
  rw [hfs] at hw
  rw [hn, hc, hs, hk, ho]
  rcases owns_cells hw with ⟨h, _⟩ | ⟨b, rfl, rfl, _⟩
  · exact absurd h hne
  · exact ⟨b, cap, rfl, hm⟩
theorem isOf_none {W : World} {op : Int} {e : Ending} {w' : World} (h : IsOf W op e w') (nm : ByteArray) (o c s : Int) (ok : Bool) (hfs : fieldsZ (opN op) = []) (ho : opN op = o) (hn : nameZ (opN op) = nm) (hc : classZ (opN op) = c) (hs : slotsZ c = s) (hk : isOp op = ok) :
    ∃ p cap, e = .returned (.tuple #[.agg #[.int .u8 o, .string nm, .int .u8 c, .int .u8 s, .slice p 0 cap], .bool ok]) ∧ Made W w' := by
  obtain ⟨p, n, cap, rfl, hm, hw⟩ := h
  rw [hfs] at hw
  rw [hn, hc, hs, hk, ho]
  rcases owns_cells hw with ⟨_, rfl, rfl, rfl⟩ | ⟨b, rfl, rfl, _⟩
  · exact ⟨_, _, rfl, hm⟩
  · exact ⟨_, _, rfl, hm⟩
/-- The cells of a row's block that still stands. -/
theorem row_cells {w : World} {b : Nat} {T : TypeId} {v0 v1 v2 v3 v4 : Value} (h : w.heap[b]? = some (.cells #[v0, v1, v2, v3, v4] T (0, 0))) :
    w.cell? ⟨b, 0, none⟩ = some v0 ∧ w.cell? ⟨b, 1, none⟩ = some v1 ∧ w.cell? ⟨b, 2, none⟩ = some v2 ∧ w.cell? ⟨b, 3, none⟩ = some v3 ∧ w.cell? ⟨b, 4, none⟩ = some v4 :=
  ⟨cell_of_lit (cs := [v0, v1, v2, v3, v4]) h 0, cell_of_lit (cs := [v0, v1, v2, v3, v4]) h 1, cell_of_lit (cs := [v0, v1, v2, v3, v4]) h 2, cell_of_lit (cs := [v0, v1, v2, v3, v4]) h 3, cell_of_lit (cs := [v0, v1, v2, v3, v4]) h 4⟩
theorem keep {w w' : World} {o o' : Obj} {b : Nat} (h : w.heap[b]? = some o) (hm : Made (w.alloc o') w') : w'.heap[b]? = some o := hm.heap ((Below.heap_alloc w o' b (heap_lt h)).trans h)
theorem keepN {w w' : World} {o : Obj} {b : Nat} (h : w.heap[b]? = some o) (hm : Made w w') : w'.heap[b]? = some o := hm.heap h
theorem lt_next {w w' : World} {o' : Obj} {b : Nat} (h : b < w.heap.size) (hm : Made (w.alloc o') w') : b < w'.heap.size := by
  have := hm.size; simp only [World.size_alloc] at this; omega
theorem lt_new {w w' : World} {o' : Obj} (hm : Made (w.alloc o') w') : w.heap.size < w'.heap.size := by
  have := hm.size; simp only [World.size_alloc] at this; omega
theorem isOf_any {W : World} {op : Int} {e : Ending} {w' : World} (h : IsOf W op e w') : ∃ (p : Option Addr) (cap : Nat) (fs : List Fd) (o : Int) (nm : ByteArray) (c s : Int), fs = fieldsZ (opN op) ∧ o = opN op ∧ nm = nameZ (opN op) ∧ c = classZ (opN op) ∧ s = slotsZ (classZ (opN op)) ∧
    e = .returned (.tuple #[.agg #[.int .u8 o, .string nm, .int .u8 c, .int .u8 s, .slice p fs.length cap], .bool (isOp op)]) ∧ Made W w' ∧
    (fs = [] ∨ ∃ b cur, p = some ⟨b, 0, none⟩ ∧ W.heap.size ≤ b ∧ w'.heap[b]? = some (.cells cur 69 (0, 0)) ∧ fs.length * 5 ≤ cur.size ∧ fs.length ≤ cap ∧ cap ≤ maxLen ∧ ∀ j, j < fs.length * 5 → w'.cell? ⟨b, j, none⟩ = (flatF fs)[j]?) := by
  obtain ⟨p, n, cap, rfl, hm, hw⟩ := h
  rcases hw.2 with ⟨hv, hn⟩ | ⟨g, c, cur, hv, hb, hg, hnc, hcm, hcs, ht⟩
  · cases hv
    have he : fieldsZ (opN op) = [] := List.eq_nil_of_length_eq_zero hn
    exact ⟨none, 0, [], _, _, _, _, he.symm, rfl, rfl, rfl, rfl, rfl, hm, .inl rfl⟩
  · cases hv
    exact ⟨_, cap, _, _, _, _, _, rfl, rfl, rfl, rfl, rfl, rfl, hm, .inr ⟨g, cur, rfl, hb, hg, by rw [hcs]; exact Nat.mul_le_mul_right 5 hnc, hnc, hcm, fun j hj => hw.cellAt j hj⟩⟩
theorem u8_of_wf {n : Int} (h : (Lit.int .u8 n).wf = true) : 0 ≤ n ∧ n < 256 := by
  simp only [Lit.wf, Bool.and_eq_true, decide_eq_true_eq] at h
  have h1 : IntKind.u8.min = 0 := rfl
  have h2 : IntKind.u8.max = 255 := rfl
  exact ⟨by omega, by omega⟩
/-- Some cell of a block that is known whole. -/
theorem cell_some {w : World} {b j : Nat} {cs : Array Value} {T : TypeId} (h : w.heap[b]? = some (.cells cs T (0, 0))) (hj : j < cs.size) : w.cell? ⟨b, j, none⟩ = some cs[j] := by
  simp [World.cell?, h, hj]
def lowF (fs : List Fd) : Nat → Int
  | 0 => 24
  | k + 1 => lowF fs k - (fs.getD k fZero).bits
def kindsApart (fs : List Fd) (k : Nat) : Bool := (List.range k).all fun j => decide ((fs.getD j fZero).kind ≠ (fs.getD k fZero).kind)
def fieldOk (op : Nat) (k : Nat) : Bool :=
  decide (atZ op ((fieldsZ op).getD k fZero).kind = some ((fieldsZ op).getD k fZero, lowF (fieldsZ op) (k + 1))) && decide (1 ≤ ((fieldsZ op).getD k fZero).bits) && decide (0 ≤ lowF (fieldsZ op) (k + 1)) && decide (lowF (fieldsZ op) k ≤ 24) &&
    (!((fieldsZ op).getD k fZero).ext || (decide (8 ≤ ((fieldsZ op).getD k fZero).bits) && ((fieldsZ op).getD k fZero).sg && (decide (((fieldsZ op).getD k fZero).kind = 9) || decide (((fieldsZ op).getD k fZero).kind = 10)))) && kindsApart (fieldsZ op) k
theorem fields_ok : ((List.range 32).all fun op => (List.range (fieldsZ (op : Nat)).length).all fun k => fieldOk op k) = true := by decide +kernel
structure FieldAt (op : Int) (fs : List Fd) (k : Nat) (f : Fd) : Prop where
  at_ : atZ op f.kind = some (f, lowF fs (k + 1))
  low : lowF fs (k + 1) = lowF fs k - f.bits
  one : 1 ≤ f.bits
  zero : 0 ≤ lowF fs (k + 1)
  top : lowF fs k ≤ 24
  ext : f.ext = false ∨ (f.ext = true ∧ 8 ≤ f.bits ∧ f.sg = true ∧ f.kind = 9) ∨ (f.ext = true ∧ 8 ≤ f.bits ∧ f.sg = true ∧ f.kind = 10)
  apart : ∀ j, j < k → ∀ h : j < fs.length, fs[j].kind ≠ f.kind
theorem field_at {op : Int} (h0 : 0 ≤ op) (h31 : op ≤ 31) {k : Nat} (hk : k < (fieldsZ op).length) : FieldAt op (fieldsZ op) k (fieldsZ op)[k] := by
  obtain ⟨m, rfl⟩ := Int.eq_ofNat_of_zero_le h0
  have h := List.all_eq_true.1 (List.all_eq_true.1 fields_ok m (List.mem_range.2 (by omega))) k (List.mem_range.2 hk)
  have e : (fieldsZ (m : Int)).getD k fZero = (fieldsZ (m : Int))[k] := by rw [List.getD_eq_getElem?_getD, List.getElem?_eq_getElem hk]; rfl
  unfold fieldOk at h
  rw [e] at h
  simp only [Bool.and_eq_true, decide_eq_true_eq] at h
  obtain ⟨⟨⟨⟨⟨h1, h2⟩, h3⟩, h4⟩, h5⟩, h6⟩ := h
  refine ⟨h1, ?_, h2, h3, h4, ?_, fun j hj hl => ?_⟩
  · show lowF (fieldsZ (m : Int)) k - ((fieldsZ (m : Int)).getD k fZero).bits = _
    rw [e]
  · cases hx : (fieldsZ (m : Int))[k].ext with
    | false => exact .inl rfl
    | true =>
      rw [hx] at h5
      simp only [Bool.not_true, Bool.false_or, Bool.and_eq_true, Bool.or_eq_true, decide_eq_true_eq] at h5
      rcases h5.2 with h | h
      · exact .inr (.inl ⟨rfl, h5.1.1, h5.1.2, h⟩)
      · exact .inr (.inr ⟨rfl, h5.1.1, h5.1.2, h⟩)
  · have := List.all_eq_true.1 h6 j (List.mem_range.2 hj)
    rw [e, List.getD_eq_getElem?_getD, List.getElem?_eq_getElem hl] at this
    exact of_decide_eq_true this
theorem row_ok : ∀ op, op < 32 → 1 ≤ op → byZ (nameL (op : Nat)) = (((op : Nat) : Int), true) ∧ slotsZ (classZ (op : Nat)) ≠ 0 ∧ 0 ≤ classZ (op : Nat) ∧ classZ (op : Nat) < 256 := by decide +kernel
theorem isAt_some {W : World} {op kd L : Int} {f : Fd} {e : Ending} {w' : World} (h : IsAt W op kd e w') (hz : atZ op kd = some (f, L)) :
    e = .returned (.tuple #[.agg #[.int .u8 f.kind, .int .i64 f.bits, .int .i64 f.shift, .bool f.sg, .bool f.ext], .int .i64 L, .bool true]) ∧ Made W w' := by
  unfold IsAt atF atP atB at h
  rw [hz] at h
  exact h

theorem hop2 {W : World} {op kd : Int} {e : Ending} {w' : World} (ho : opN op = op) (h : IsAt W (opN op) kd e w') : IsAt W op kd e w' := ho ▸ h
end Go.Proofs.YtdaildmoodfocaaDoor
