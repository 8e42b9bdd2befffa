/- What At of package isa returns, for every op and every kind, in every world that has grown out of one that holds the table of names. -/
import Derived.Test.YtkmnndiciihefaaDoorIsaOf
namespace Go.Proofs.YtkmnndiciihefaaDoor
open Go.ChangeShapes Go.WideShapes Go.ChangeAt Go.RowKit Go.Sort

/-- What At tells: the field, its place, whether it is there. -/
def atF (op k : Int) : Fd := match atZ op k with | some (f, _) => f | none => fZero
def atP (op k : Int) : Int := match atZ op k with | some (_, p) => p | none => 0
def atB (op k : Int) : Bool := (atZ op k).isSome
def Fd.small (f : Fd) : Prop := 0 ≤ f.kind ∧ f.kind ≤ 11 ∧ 0 ≤ f.bits ∧ f.bits ≤ 24 ∧ 0 ≤ f.shift ∧ f.shift ≤ 2
theorem fields_small (op : Int) : ∀ f ∈ fieldsZ op, f.small := by
  have h : ∀ l ∈ fieldsL, ∀ f ∈ l, (decide (0 ≤ f.kind) && decide (f.kind ≤ 11) && decide (0 ≤ f.bits) && decide (f.bits ≤ 24) && decide (0 ≤ f.shift) && decide (f.shift ≤ 2)) = true := by decide +kernel
  intro f hf
  unfold fieldsZ at hf
  have : f.small ∨ False := by
    rewrite [List.getD_eq_getElem?_getD] at hf
    cases hg : fieldsL[op.toNat]? with
    | none => rewrite [hg] at hf; cases hf
    | some l =>
      rewrite [hg, Option.getD_some] at hf
      have := h l (List.mem_of_getElem? hg) f hf
      simp only [Bool.and_eq_true, decide_eq_true_eq] at this
      exact .inl ⟨this.1.1.1.1.1, this.1.1.1.1.2, this.1.1.1.2, this.1.1.2, this.1.2, this.2⟩
  exact this.resolve_right id
theorem fields_few (op : Int) : (fieldsZ op).length ≤ 5 := by
  have h : ∀ l ∈ fieldsL, l.length ≤ 5 := by decide +kernel
  unfold fieldsZ
  rw [List.getD_eq_getElem?_getD]
  cases hg : fieldsL[op.toNat]? with
  | none => simp
  | some l => exact h l (List.mem_of_getElem? hg)
theorem flat_at (l : List Fd) (k : Nat) (h : k < l.length) : (flatF l)[k * 5]? = some (.int .u8 l[k].kind) ∧ (flatF l)[k * 5 + 1]? = some (.int .i64 l[k].bits) ∧ (flatF l)[k * 5 + 2]? = some (.int .i64 l[k].shift) ∧
    (flatF l)[k * 5 + 3]? = some (.bool l[k].sg) ∧ (flatF l)[k * 5 + 4]? = some (.bool l[k].ext) := by
  induction l generalizing k with
  | nil => simp at h
  | cons f r ih =>
    have e : flatF (f :: r) = f.cells ++ flatF r := rfl
    cases k with
    | zero => simp [e, Fd.cells]
    | succ k =>
      have hk : k < r.length := by simpa using h
      have h5 : f.cells.length = 5 := rfl
      have := ih k hk
      rw [e]
      refine ⟨?_, ?_, ?_, ?_, ?_⟩ <;> rw [List.getElem?_append_right (by rw [h5]; omega)] <;> rw [h5]
      · rw [show (k + 1) * 5 - 5 = k * 5 by omega]; exact this.1
      · rw [show (k + 1) * 5 + 1 - 5 = k * 5 + 1 by omega]; exact this.2.1
      · rw [show (k + 1) * 5 + 2 - 5 = k * 5 + 2 by omega]; exact this.2.2.1
      · rw [show (k + 1) * 5 + 3 - 5 = k * 5 + 3 by omega]; exact this.2.2.2.1
      · rw [show (k + 1) * 5 + 4 - 5 = k * 5 + 4 by omega]; exact this.2.2.2.2
theorem atIn_drop (l : List Fd) (k : Nat) (h : k < l.length) (L kd : Int) : atIn (l.drop k) L kd = if l[k].kind = kd then some (l[k], L - l[k].bits) else atIn (l.drop (k + 1)) (L - l[k].bits) kd := by
  rw [List.drop_eq_getElem_cons h]; rfl
/-- The cells of a row that the call owns, where it holds any. -/
theorem owns_cells {w : World} {B : Nat} {E : TypeId} {p : Option Addr} {n cap : Nat} {fs : List Fd} (h : w.ownsRow B E 5 (.slice p n cap) fs.length (flatF fs)) :
    (fs = [] ∧ p = none ∧ n = 0 ∧ cap = 0) ∨ (∃ b, p = some ⟨b, 0, none⟩ ∧ n = fs.length ∧ B ≤ b ∧ b < w.heap.size ∧ n ≤ cap ∧ cap ≤ maxLen ∧ ∀ j, j < fs.length * 5 → w.cell? ⟨b, j, none⟩ = (flatF fs)[j]?) := by
  rcases h.2 with ⟨hv, hn⟩ | ⟨g, c, cur, hv, hb, hg, hnc, hcm, hcs, ht⟩
  · cases hv
    exact .inl ⟨List.eq_nil_of_length_eq_zero hn, rfl, rfl, rfl⟩
  · cases hv
    exact .inr ⟨g, rfl, rfl, hb, heap_lt hg, hnc, hcm, fun j hj => h.cellAt j hj⟩

def IsAt (W : World) (op k : Int) (e : Ending) (w' : World) : Prop := e = .returned (.tuple #[.agg #[.int .u8 (atF op k).kind, .int .i64 (atF op k).bits, .int .i64 (atF op k).shift, .bool (atF op k).sg, .bool (atF op k).ext], .int .i64 (atP op k), .bool (atB op k)]) ∧ Made W w'
theorem row_fields (o c s : Int) (nm : ByteArray) (p : Option Addr) (n cap : Nat) (w : World) : (Instr.field 49 (.agg #[.int .u8 o, .string nm, .int .u8 c, .int .u8 s, .slice p n cap]) 4).run Tryd.prog w = .ok (.slice p n cap) w := by kernel_rfl
theorem at_close {W w : World} {op k L : Int} {f : Fd} {n0 : Nat} (h : atZ op k = some (f, L)) (hM : Made W w) (hz : W.heap.size ≤ n0) (v0 v1 v2 v3 v4 : Value) (o : Obj) :
    IsAt W op k (.returned (.tuple #[.agg #[.int .u8 f.kind, .int .i64 f.bits, .int .i64 f.shift, .bool f.sg, .bool f.ext], .int .i64 L, .bool true]))
      ((((((w.setCell ⟨n0, 0, none⟩ v0).setCell ⟨n0, 1, none⟩ v1).setCell ⟨n0, 2, none⟩ v2).setCell ⟨n0, 3, none⟩ v3).setCell ⟨n0, 4, none⟩ v4).alloc o) := by
  unfold IsAt atF atP atB
  rw [h]
  have k := (((((hM.setCell (p := ⟨n0, 0, none⟩) hz v0).setCell (p := ⟨n0, 1, none⟩) hz v1).setCell (p := ⟨n0, 2, none⟩) hz v2).setCell (p := ⟨n0, 3, none⟩) hz v3).setCell (p := ⟨n0, 4, none⟩) hz v4)
  exact ⟨rfl, k.alloc k.size o⟩
section
attribute [local irreducible] World.cell?
set_option maxHeartbeats 1000000 in
theorem at_any (W : World) (hN : Names W) (op kd : Int) (h0 : 0 ≤ op) (w : World) (hm : Made W w) : Calls Tryd.prog 24 #[.int .u8 op, .int .u8 kd] w (IsAt W (opN op) kd) := by
  have hz := hm.size
  have hfld := row_fields
  go_enter Tryd.func24, Tryd.ntmps24
  go_wp2_with (fail)
  refine (rowOf_any _ (hN.made (hm.alloc hz _)) op h0 _ (Made.refl _)).mono ?_
  rintro e w1 ⟨p, n, cap, rfl, h1, ho⟩
  have hr1 := h1.heap (heap_alloc_new w _)
  have hzz : w.heap.size + 1 ≤ w1.heap.size := by have := h1.size; simp only [World.size_alloc] at this; omega
  have hlt : w.heap.size < w1.heap.size := by omega
  have HM := Lib.hid (Made.trans (hm.alloc hz _) h1)
  have hfew := fields_few (opN op)
  have hsm := fields_small (opN op)
  rewrite [World.size_alloc] at ho
  have hat : IsAt W (opN op) kd = IsAt W (opN op) kd := rfl
  generalize hfs : fieldsZ (opN op) = fs at *
  have HFS := Lib.hid hfs
  have HR := Lib.hid hr1
  have H1 := Lib.hid h1
  clear hfs hr1 h1 hat
  rcases owns_cells ho with ⟨rfl, rfl, rfl, rfl⟩ | ⟨b, rfl, rfl, hb, hbl, hnc, hcm, hcell⟩
  · clear ho
    have hfin : atF (opN op) kd = fZero ∧ atP (opN op) kd = 0 ∧ atB (opN op) kd = false := by simp [atF, atP, atB, atZ, HFS.out, atIn]
    have HF := Lib.hid hfin
    have c0 : w1.cell? ⟨w.heap.size, 0, none⟩ = some (.int .u8 0) := cell_of_lit (cs := fZero.cells) HR.out 0
    have c1 : w1.cell? ⟨w.heap.size, 1, none⟩ = some (.int .i64 0) := cell_of_lit (cs := fZero.cells) HR.out 1
    have c2 : w1.cell? ⟨w.heap.size, 2, none⟩ = some (.int .i64 0) := cell_of_lit (cs := fZero.cells) HR.out 2
    have c3 : w1.cell? ⟨w.heap.size, 3, none⟩ = some (.bool false) := cell_of_lit (cs := fZero.cells) HR.out 3
    have c4 : w1.cell? ⟨w.heap.size, 4, none⟩ = some (.bool false) := cell_of_lit (cs := fZero.cells) HR.out 4
    have fz := free_of_lit HR.out
    clear hfin
    go_wp2_with (fail)
    refine wp_loop_rounds 1 ?_
    rewrite [rounds_succ]
    go_wp2
    refine bodyPost_ret (v := .tuple #[.agg #[.int .u8 0, .int .i64 0, .int .i64 0, .bool false, .bool false], .int .i64 0, .bool false]) (by simp [results, Tryd.results24, go_sem, c0, c1, c2, c3, c4]) rfl ?_
    unfold IsAt
    rewrite [HF.out.1, HF.out.2.1, HF.out.2.2]
    exact ⟨rfl, (((((HM.out.setCell hz _).setCell hz _).setCell hz _).setCell hz _).setCell hz _)⟩
  · have HC := Lib.hid hcell
    have HA := Lib.hid (show atZ (opN op) kd = atIn fs 24 kd by unfold atZ; rw [HFS.out])
    have HS := Lib.hid hsm
    unfold maxLen at hcm
    clear hcell ho hsm
    go_wp2_with (fail)
    go_loopw [7, 14] (fun lo i wr => ∃ (k : Nat) (L : Int), k ≤ fs.length ∧ i = .int .i64 k ∧ lo = .int .i64 L ∧ atIn (fs.drop k) L kd = atIn fs 24 kd ∧ L ≤ 24 ∧ 24 - 24 * (k : Int) ≤ L ∧ Made w1 wr) (fun _ i _ => fs.length - (intOf i).toNat)
    case atStart => exact ⟨0, 24, Nat.zero_le _, rfl, rfl, rfl, by omega, by omega, Made.refl _⟩
    case round =>
      obtain ⟨k, L, hk, rfl, rfl, hat, hL, hL2, hwr⟩ := hrel
      have hrr := hwr.heap HR.out
      have c0 : wr.cell? ⟨w.heap.size, 0, none⟩ = some (.int .u8 0) := cell_of_lit (cs := fZero.cells) hrr 0
      have c1 : wr.cell? ⟨w.heap.size, 1, none⟩ = some (.int .i64 0) := cell_of_lit (cs := fZero.cells) hrr 1
      have c2 : wr.cell? ⟨w.heap.size, 2, none⟩ = some (.int .i64 0) := cell_of_lit (cs := fZero.cells) hrr 2
      have c3 : wr.cell? ⟨w.heap.size, 3, none⟩ = some (.bool false) := cell_of_lit (cs := fZero.cells) hrr 3
      have c4 : wr.cell? ⟨w.heap.size, 4, none⟩ = some (.bool false) := cell_of_lit (cs := fZero.cells) hrr 4
      have fz := free_of_lit hrr
      have hbr : b < wr.heap.size := Nat.lt_of_lt_of_le hbl hwr.size
      have hlr : w.heap.size < wr.heap.size := Nat.lt_of_lt_of_le hlt hwr.size
      have HW := Lib.hid hwr
      clear hrr hwr
      by_cases hlt2 : k < fs.length
      · have hd := atIn_drop fs k hlt2 L kd
        have hs := HS.out fs[k] (List.getElem_mem _)
        have hfl := flat_at fs k hlt2
        have hce := fun r (hr : r < 5) => (bcell HW.out).1 b (k * 5 + r) hbl ▸ HC.out (k * 5 + r) (by omega)
        have k0 : wr.cell? ⟨b, k * 5, none⟩ = _ := (hce 0 (by omega)).trans hfl.1
        have k1 := (hce 1 (by omega)).trans hfl.2.1
        have k2 := (hce 2 (by omega)).trans hfl.2.2.1
        have k3 := (hce 3 (by omega)).trans hfl.2.2.2.1
        have k4 := (hce 4 (by omega)).trans hfl.2.2.2.2
        obtain ⟨hs1, hs2, hs3, hs4, hs5, hs6⟩ := hs
        generalize fs[k] = f at *
        rewrite [hat] at hd
        clear hce hfl hat
        by_cases hkd : f.kind = kd
        · have hkb : (f.kind == kd) = true := beq_iff_eq.2 hkd
          rewrite [if_pos hkd] at hd
          have HD := Lib.hid hd
          clear hd hkd
          go_wp2
          refine bodyPost_ret (v := .tuple #[.agg #[.int .u8 f.kind, .int .i64 f.bits, .int .i64 f.shift, .bool f.sg, .bool f.ext], .int .i64 (L - f.bits), .bool true]) (by simp [results, Tryd.results24, go_sem, c0, c1, c2, c3, c4, hlr]) rfl ?_
          exact at_close (HA.out.trans HD.out) (Made.trans HM.out HW.out) hz _ _ _ _ _ _
        · have hkb : (f.kind == kd) = false := beq_eq_false_iff_ne.2 hkd
          rewrite [if_neg hkd] at hd
          have HD := Lib.hid hd
          clear hd hkd
          go_wp2
          go_roundw
          case rel => exact ⟨k + 1, L - f.bits, by omega, by go_num, by go_num, HD.out.symm, by omega, by omega, HW.out.alloc HW.out.size _⟩
          case measure => simp [intOf]; omega
      · obtain rfl : k = fs.length := by omega
        rewrite [List.drop_length] at hat
        have HF := Lib.hid hat
        clear hat
        go_wp2
        refine bodyPost_ret (v := .tuple #[.agg #[.int .u8 0, .int .i64 0, .int .i64 0, .bool false, .bool false], .int .i64 0, .bool false]) (by simp [results, Tryd.results24, go_sem, c0, c1, c2, c3, c4]) rfl ?_
        have e : atZ (opN op) kd = none := HA.out.trans HF.out.symm
        unfold IsAt atF atP atB
        rewrite [e]
        have hM := Made.trans HM.out HW.out
        exact ⟨rfl, (((((hM.setCell hz _).setCell hz _).setCell hz _).setCell hz _).setCell hz _)⟩
end
end Go.Proofs.YtkmnndiciihefaaDoor
