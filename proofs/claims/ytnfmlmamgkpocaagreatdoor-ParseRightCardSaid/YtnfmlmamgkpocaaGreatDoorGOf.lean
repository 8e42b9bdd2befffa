/- What rowOf, Of of package isa return, for every op, in every world that has grown out of one that holds the table of names. · What At of package isa returns, for every op and every kind, in every world that has grown out of one that holds the table of names. · What a caller of package isa takes of its contracts: rows and fields opened, cells that stay; no law of isa's own. -/
import Derived.Test.YtnfmlmamgkpocaaGreatDoorGRowA
import Derived.Test.YtnfmlmamgkpocaaGreatDoorGRowB
namespace Go.Proofs.YtnfmlmamgkpocaaGreatDoor
section
open Go.ChangeShapes Go.WideShapes Go.ChangeAt Go.RowKit Go.Sort

def opN (op : Int) : Int := if isOp op then op else 0
set_option maxRecDepth 100000 in
set_option maxHeartbeats 1000000 in
theorem rowOf_none (W : World) (op : Int) (h0 : op < 1 ∨ 31 < op) (w : World) (hm : Made W w) : Calls Tryz.prog 46 #[.int .u8 op] w (IsRowOf W 0) := by
  have hz := hm.size
  have n1 : (op == 1) = false := beq_eq_false_iff_ne.2 (by omega)
  have n2 : (op == 2) = false := beq_eq_false_iff_ne.2 (by omega)
  have n3 : (op == 3) = false := beq_eq_false_iff_ne.2 (by omega)
  have n4 : (op == 4) = false := beq_eq_false_iff_ne.2 (by omega)
  have n5 : (op == 5) = false := beq_eq_false_iff_ne.2 (by omega)
  have n6 : (op == 6) = false := beq_eq_false_iff_ne.2 (by omega)
  have n7 : (op == 7) = false := beq_eq_false_iff_ne.2 (by omega)
  have n8 : (op == 8) = false := beq_eq_false_iff_ne.2 (by omega)
  have n9 : (op == 9) = false := beq_eq_false_iff_ne.2 (by omega)
  have n10 : (op == 10) = false := beq_eq_false_iff_ne.2 (by omega)
  have n11 : (op == 11) = false := beq_eq_false_iff_ne.2 (by omega)
  have n12 : (op == 12) = false := beq_eq_false_iff_ne.2 (by omega)
  have n13 : (op == 13) = false := beq_eq_false_iff_ne.2 (by omega)
  have n14 : (op == 14) = false := beq_eq_false_iff_ne.2 (by omega)
  have n15 : (op == 15) = false := beq_eq_false_iff_ne.2 (by omega)
  have n16 : (op == 16) = false := beq_eq_false_iff_ne.2 (by omega)
  have n17 : (op == 17) = false := beq_eq_false_iff_ne.2 (by omega)
  have n18 : (op == 18) = false := beq_eq_false_iff_ne.2 (by omega)
  have n19 : (op == 19) = false := beq_eq_false_iff_ne.2 (by omega)
  have n20 : (op == 20) = false := beq_eq_false_iff_ne.2 (by omega)
  have n21 : (op == 21) = false := beq_eq_false_iff_ne.2 (by omega)
  have n22 : (op == 22) = false := beq_eq_false_iff_ne.2 (by omega)
  have n23 : (op == 23) = false := beq_eq_false_iff_ne.2 (by omega)
  have n24 : (op == 24) = false := beq_eq_false_iff_ne.2 (by omega)
  have n25 : (op == 25) = false := beq_eq_false_iff_ne.2 (by omega)
  have n26 : (op == 26) = false := beq_eq_false_iff_ne.2 (by omega)
  have n27 : (op == 27) = false := beq_eq_false_iff_ne.2 (by omega)
  have n28 : (op == 28) = false := beq_eq_false_iff_ne.2 (by omega)
  have n29 : (op == 29) = false := beq_eq_false_iff_ne.2 (by omega)
  have n30 : (op == 30) = false := beq_eq_false_iff_ne.2 (by omega)
  have n31 : (op == 31) = false := beq_eq_false_iff_ne.2 (by omega)
  clear h0
  go_enter Tryz.func46, Tryz.ntmps46
  go_wp2_with (fail)
  refine (plain_any _ _ _ _ (Made.refl _)).mono ?_
  rintro e w1 ⟨rfl, h1⟩
  go_wp2_with (fail)
  refine (plain_any _ _ _ _ h1).mono ?_
  rintro e w2 ⟨rfl, h2⟩
  go_wp2_with (fail)
  refine (plain_any _ _ _ _ h2).mono ?_
  rintro e w3 ⟨rfl, h3⟩
  go_wp2_with (fail)
  refine (plain_any _ _ _ _ h3).mono ?_
  rintro e w4 ⟨rfl, h4⟩
  clear h1 h2 h3
  have hz4 : w.heap.size < w4.heap.size := by have := h4.size; simp only [World.size_alloc] at this; omega
  have hW4 : Made W w4 := Made.trans (hm.alloc hz _) h4
  have hr4 : w4.heap[w.heap.size]? = some (.cells rowLit 98 (0, 0)) := h4.heap (heap_alloc_new w _)
  clear h4
  go_upto_region 2 with (fail)
  refine name_world (fun u => RowVars W w.heap.size w4.heap.size u) (rowVars_of hW4 hz4 hr4) ?_
  rintro u ⟨hM, hr, hD, hP, hS, hT, hzu⟩
  clear hW4 hr4
  have HM := Lib.hid hM
  have hn0u : w.heap.size < u.heap.size := by omega
  have c0 : u.cell? ⟨w.heap.size, 0, none⟩ = some (.int .u8 0) := cell_of_lit hr 0
  have c1 : u.cell? ⟨w.heap.size, 1, none⟩ = some (.string { data := #[] }) := cell_of_lit hr 1
  have c2 : u.cell? ⟨w.heap.size, 2, none⟩ = some (.int .u8 0) := cell_of_lit hr 2
  have c3 : u.cell? ⟨w.heap.size, 3, none⟩ = some (.int .u8 0) := cell_of_lit hr 3
  have c4 : u.cell? ⟨w.heap.size, 4, none⟩ = some (.slice none 0 0) := cell_of_lit hr 4
  have fz := free_of_lit hr
  have HO := Lib.hid (World.ownsRow_nil u u.heap.size 51 5)
  clear hr hD hP hS hT hM
  go_wp2
  refine bodyPost_ret (v := .agg #[.int .u8 0, .string { data := #[] }, .int .u8 0, .int .u8 0, .slice none 0 0]) (by simp [results, Tryz.results46, go_sem, c0, c1, c2, c3, c4]) rfl ?_
  exact ⟨_, _, _, rfl, row_close HM.out (Made.refl u) hz hn0u HO.out _ _ _ _ _⟩

theorem rowOf_any (W : World) (hN : Names W) (op : Int) (h0 : 0 ≤ op) (w : World) (hm : Made W w) : Calls Tryz.prog 46 #[.int .u8 op] w (IsRowOf W (opN op)) := by
  by_cases h : op < 1 ∨ 31 < op
  · have e : opN op = 0 := by unfold opN isOp; rw [if_neg (by simp; omega)]
    rw [e]
    exact rowOf_none W op h w hm
  · have e : opN op = op := by unfold opN isOp; rw [if_pos (by simp; omega)]
    rw [e]
    have hc : op = 1 ∨ op = 2 ∨ op = 3 ∨ op = 4 ∨ op = 5 ∨ op = 6 ∨ op = 7 ∨ op = 8 ∨ op = 9 ∨ op = 10 ∨ op = 11 ∨ op = 12 ∨ op = 13 ∨ op = 14 ∨ op = 15 ∨ op = 16 ∨ op = 17 ∨ op = 18 ∨ op = 19 ∨ op = 20 ∨ op = 21 ∨ op = 22 ∨ op = 23 ∨ op = 24 ∨ op = 25 ∨ op = 26 ∨ op = 27 ∨ op = 28 ∨ op = 29 ∨ op = 30 ∨ op = 31 := by omega
    rcases hc with rfl | rfl | rfl | rfl | rfl | rfl | rfl | rfl | rfl | rfl | rfl | rfl | rfl | rfl | rfl | rfl | rfl | rfl | rfl | rfl | rfl | rfl | rfl | rfl | rfl | rfl | rfl | rfl | rfl | rfl | rfl
    · exact rowOf_1 W hN w hm
    · exact rowOf_2 W hN w hm
    · exact rowOf_3 W hN w hm
    · exact rowOf_4 W hN w hm
    · exact rowOf_5 W hN w hm
    · exact rowOf_6 W hN w hm
    · exact rowOf_7 W hN w hm
    · exact rowOf_8 W hN w hm
    · exact rowOf_9 W hN w hm
    · exact rowOf_10 W hN w hm
    · exact rowOf_11 W hN w hm
    · exact rowOf_12 W hN w hm
    · exact rowOf_13 W hN w hm
    · exact rowOf_14 W hN w hm
    · exact rowOf_15 W hN w hm
    · exact rowOf_16 W hN w hm
    · exact rowOf_17 W hN w hm
    · exact rowOf_18 W hN w hm
    · exact rowOf_19 W hN w hm
    · exact rowOf_20 W hN w hm
    · exact rowOf_21 W hN w hm
    · exact rowOf_22 W hN w hm
    · exact rowOf_23 W hN w hm
    · exact rowOf_24 W hN w hm
    · exact rowOf_25 W hN w hm
    · exact rowOf_26 W hN w hm
    · exact rowOf_27 W hN w hm
    · exact rowOf_28 W hN w hm
    · exact rowOf_29 W hN w hm
    · exact rowOf_30 W hN w hm
    · exact rowOf_31 W hN w hm

theorem opN_ne (op : Int) : (opN op != 0) = isOp op := by
  unfold opN
  cases h : isOp op with
  | false => rfl
  | true =>
    simp only [isOp, Bool.and_eq_true, decide_eq_true_eq] at h
    rw [if_pos rfl, bne_iff_ne]
    omega
def IsOf (W : World) (op : Int) (e : Ending) (w' : World) : Prop := ∃ p n cap, e = .returned (.tuple #[.agg #[.int .u8 (opN op), .string (nameZ (opN op)), .int .u8 (classZ (opN op)), .int .u8 (slotsZ (classZ (opN op))), .slice p n cap], .bool (isOp op)]) ∧ Made W w' ∧
  w'.ownsRow W.heap.size 51 5 (.slice p n cap) (fieldsZ (opN op)).length (flatF (fieldsZ (opN op)))
section
attribute [local irreducible] World.cell?
set_option maxRecDepth 100000 in
set_option maxHeartbeats 1000000 in
theorem of_any (W : World) (hN : Names W) (op : Int) (h0 : 0 ≤ op) (w : World) (hm : Made W w) : Calls Tryz.prog 69 #[.int .u8 op] w (IsOf W op) := by
  have hz := hm.size
  go_enter Tryz.func69, Tryz.ntmps69
  go_wp2_with (fail)
  refine (rowOf_any _ (hN.made (hm.alloc hz _)) op h0 _ (Made.refl _)).mono ?_
  rintro e w1 ⟨p, n, cap, rfl, h1, ho⟩
  have hr1 := h1.heap (heap_alloc_new w _)
  have hzz : w.heap.size + 1 ≤ w1.heap.size := by have := h1.size; simp only [World.size_alloc] at this; omega
  have hlt : w.heap.size < w1.heap.size := by omega
  have HO := Lib.hid ho
  have H1 := Lib.hid h1
  have c0 : w1.cell? ⟨w.heap.size, 0, none⟩ = some (.int .u8 0) := cell_of_lit (cs := rowLit.toList) hr1 0
  have c1 : w1.cell? ⟨w.heap.size, 1, none⟩ = some (.string { data := #[] }) := cell_of_lit (cs := rowLit.toList) hr1 1
  have c2 : w1.cell? ⟨w.heap.size, 2, none⟩ = some (.int .u8 0) := cell_of_lit (cs := rowLit.toList) hr1 2
  have c3 : w1.cell? ⟨w.heap.size, 3, none⟩ = some (.int .u8 0) := cell_of_lit (cs := rowLit.toList) hr1 3
  have c4 : w1.cell? ⟨w.heap.size, 4, none⟩ = some (.slice none 0 0) := cell_of_lit (cs := rowLit.toList) hr1 4
  have fz := free_of_lit hr1
  clear hr1 ho h1
  go_wp2_with (fail)
  go_region
  go_wp2
  refine bodyPost_ret (v := .tuple #[.agg #[.int .u8 (opN op), .string (nameZ (opN op)), .int .u8 (classZ (opN op)), .int .u8 (slotsZ (classZ (opN op))), .slice p n cap], .bool (opN op != 0)]) (by simp [results, Tryz.results69, go_sem, c0, c1, c2, c3, c4, hlt]) rfl ?_
  rewrite [opN_ne]
  have K := row_close (hm.alloc hz _) H1.out hz (by simp) HO.out (.int .u8 (opN op)) (.string (nameZ (opN op))) (.int .u8 (classZ (opN op))) (.int .u8 (slotsZ (classZ (opN op)))) (.slice p n cap)
  exact ⟨p, n, cap, rfl, (K.1.alloc K.1.size _).drew, owns_made K.2 ((Made.refl _).alloc (Nat.le_refl _) _).drew⟩
end
end
section
open Go.ChangeShapes Go.WideShapes Go.ChangeAt Go.RowKit Go.Sort

/-- What At tells: the field, its place, whether it is there. -/
def atF (op k : Int) : Fd := match atZ op k with | some (f, _) => f | none => fZero
def atP (op k : Int) : Int := match atZ op k with | some (_, p) => p | none => 0
def atB (op k : Int) : Bool := (atZ op k).isSome
def Fd.small (f : Fd) : Prop := 0 ≤ f.kind ∧ f.kind ≤ 11 ∧ 0 ≤ f.bits ∧ f.bits ≤ 24 ∧ 0 ≤ f.shift ∧ f.shift ≤ 2
theorem fields_small (op : Int) : ∀ f ∈ fieldsZ op, f.small := by
  have h : ∀ l ∈ fieldsL, ∀ f ∈ l, (decide (0 ≤ f.kind) && decide (f.kind ≤ 11) && decide (0 ≤ f.bits) && decide (f.bits ≤ 24) && decide (0 ≤ f.shift) && decide (f.shift ≤ 2)) = true := by decide +kernel
  intro f hf
  unfold fieldsZ at hf
  have : f.small ∨ False := by
    rewrite [List.getD_eq_getElem?_getD] at hf
    cases hg : fieldsL[op.toNat]? with
    | none => rewrite [hg] at hf; cases hf
    | some l =>
      rewrite [hg, Option.getD_some] at hf
      have := h l (List.mem_of_getElem? hg) f hf
      simp only [Bool.and_eq_true, decide_eq_true_eq] at this
      exact .inl ⟨this.1.1.1.1.1, this.1.1.1.1.2, this.1.1.1.2, this.1.1.2, this.1.2, this.2⟩
  exact this.resolve_right id
theorem fields_few (op : Int) : (fieldsZ op).length ≤ 5 := by
  have h : ∀ l ∈ fieldsL, l.length ≤ 5 := by decide +kernel
  unfold fieldsZ
  rw [List.getD_eq_getElem?_getD]
  cases hg : fieldsL[op.toNat]? with
  | none => simp
  | some l => exact h l (List.mem_of_getElem? hg)
theorem flat_at (l : List Fd) (k : Nat) (h : k < l.length) : (flatF l)[k * 5]? = some (.int .u8 l[k].kind) ∧ (flatF l)[k * 5 + 1]? = some (.int .i64 l[k].bits) ∧ (flatF l)[k * 5 + 2]? = some (.int .i64 l[k].shift) ∧
    (flatF l)[k * 5 + 3]? = some (.bool l[k].sg) ∧ (flatF l)[k * 5 + 4]? = some (.bool l[k].ext) := by
  induction l generalizing k with
  | nil => simp at h
  | cons f r ih =>
    have e : flatF (f :: r) = f.cells ++ flatF r := rfl
    cases k with
    | zero => simp [e, Fd.cells]
    | succ k =>
      have hk : k < r.length := by simpa using h
      have h5 : f.cells.length = 5 := rfl
      have := ih k hk
      rw [e]
      refine ⟨?_, ?_, ?_, ?_, ?_⟩ <;> rw [List.getElem?_append_right (by rw [h5]; omega)] <;> rw [h5]
      · rw [show (k + 1) * 5 - 5 = k * 5 by omega]; exact this.1
      · rw [show (k + 1) * 5 + 1 - 5 = k * 5 + 1 by omega]; exact this.2.1
      · rw [show (k + 1) * 5 + 2 - 5 = k * 5 + 2 by omega]; exact this.2.2.1
      · rw [show (k + 1) * 5 + 3 - 5 = k * 5 + 3 by omega]; exact this.2.2.2.1
      · rw [show (k + 1) * 5 + 4 - 5 = k * 5 + 4 by omega]; exact this.2.2.2.2
theorem atIn_drop (l : List Fd) (k : Nat) (h : k < l.length) (L kd : Int) : atIn (l.drop k) L kd = if l[k].kind = kd then some (l[k], L - l[k].bits) else atIn (l.drop (k + 1)) (L - l[k].bits) kd := by
  rw [List.drop_eq_getElem_cons h]; rfl
/-- The cells of a row that the call owns, where it holds any. -/
theorem owns_cells {w : World} {B : Nat} {E : TypeId} {p : Option Addr} {n cap : Nat} {fs : List Fd} (h : w.ownsRow B E 5 (.slice p n cap) fs.length (flatF fs)) :
    (fs = [] ∧ p = none ∧ n = 0 ∧ cap = 0) ∨ (∃ b, p = some ⟨b, 0, none⟩ ∧ n = fs.length ∧ B ≤ b ∧ b < w.heap.size ∧ n ≤ cap ∧ cap ≤ maxLen ∧ ∀ j, j < fs.length * 5 → w.cell? ⟨b, j, none⟩ = (flatF fs)[j]?) := by
  rcases h.2 with ⟨hv, hn⟩ | ⟨g, c, cur, hv, hb, hg, hnc, hcm, hcs, ht⟩
  · cases hv
    exact .inl ⟨List.eq_nil_of_length_eq_zero hn, rfl, rfl, rfl⟩
  · cases hv
    exact .inr ⟨g, rfl, rfl, hb, heap_lt hg, hnc, hcm, fun j hj => h.cellAt j hj⟩

def IsAt (W : World) (op k : Int) (e : Ending) (w' : World) : Prop := e = .returned (.tuple #[.agg #[.int .u8 (atF op k).kind, .int .i64 (atF op k).bits, .int .i64 (atF op k).shift, .bool (atF op k).sg, .bool (atF op k).ext], .int .i64 (atP op k), .bool (atB op k)]) ∧ Made W w'
theorem row_fields (o c s : Int) (nm : ByteArray) (p : Option Addr) (n cap : Nat) (w : World) : (Instr.field 98 (.agg #[.int .u8 o, .string nm, .int .u8 c, .int .u8 s, .slice p n cap]) 4).run Tryz.prog w = .ok (.slice p n cap) w := by kernel_rfl
theorem at_close {W w : World} {op k L : Int} {f : Fd} {n0 : Nat} (h : atZ op k = some (f, L)) (hM : Made W w) (hz : W.heap.size ≤ n0) (v0 v1 v2 v3 v4 : Value) (o : Obj) :
    IsAt W op k (.returned (.tuple #[.agg #[.int .u8 f.kind, .int .i64 f.bits, .int .i64 f.shift, .bool f.sg, .bool f.ext], .int .i64 L, .bool true]))
      ((((((w.setCell ⟨n0, 0, none⟩ v0).setCell ⟨n0, 1, none⟩ v1).setCell ⟨n0, 2, none⟩ v2).setCell ⟨n0, 3, none⟩ v3).setCell ⟨n0, 4, none⟩ v4).alloc o) := by
  unfold IsAt atF atP atB
  rw [h]
  have k := (((((hM.setCell (p := ⟨n0, 0, none⟩) hz v0).setCell (p := ⟨n0, 1, none⟩) hz v1).setCell (p := ⟨n0, 2, none⟩) hz v2).setCell (p := ⟨n0, 3, none⟩) hz v3).setCell (p := ⟨n0, 4, none⟩) hz v4)
  exact ⟨rfl, k.alloc k.size o⟩
section
attribute [local irreducible] World.cell?
set_option maxRecDepth 100000 in
set_option maxHeartbeats 1000000 in
theorem at_any (W : World) (hN : Names W) (op kd : Int) (h0 : 0 ≤ op) (w : World) (hm : Made W w) : Calls Tryz.prog 23 #[.int .u8 op, .int .u8 kd] w (IsAt W (opN op) kd) := by
  have hz := hm.size
  have hfld := row_fields
  go_enter Tryz.func23, Tryz.ntmps23
  go_wp2_with (fail)
  refine (rowOf_any _ (hN.made (hm.alloc hz _)) op h0 _ (Made.refl _)).mono ?_
  rintro e w1 ⟨p, n, cap, rfl, h1, ho⟩
  have hr1 := h1.heap (heap_alloc_new w _)
  have hzz : w.heap.size + 1 ≤ w1.heap.size := by have := h1.size; simp only [World.size_alloc] at this; omega
  have hlt : w.heap.size < w1.heap.size := by omega
  have HM := Lib.hid (Made.trans (hm.alloc hz _) h1)
  have hfew := fields_few (opN op)
  have hsm := fields_small (opN op)
  rewrite [World.size_alloc] at ho
  have hat : IsAt W (opN op) kd = IsAt W (opN op) kd := rfl
  generalize hfs : fieldsZ (opN op) = fs at *
  have HFS := Lib.hid hfs
  have HR := Lib.hid hr1
  have H1 := Lib.hid h1
  clear hfs hr1 h1 hat
  rcases owns_cells ho with ⟨rfl, rfl, rfl, rfl⟩ | ⟨b, rfl, rfl, hb, hbl, hnc, hcm, hcell⟩
  · clear ho
    have hfin : atF (opN op) kd = fZero ∧ atP (opN op) kd = 0 ∧ atB (opN op) kd = false := by simp [atF, atP, atB, atZ, HFS.out, atIn]
    have HF := Lib.hid hfin
    have c0 : w1.cell? ⟨w.heap.size, 0, none⟩ = some (.int .u8 0) := cell_of_lit (cs := fZero.cells) HR.out 0
    have c1 : w1.cell? ⟨w.heap.size, 1, none⟩ = some (.int .i64 0) := cell_of_lit (cs := fZero.cells) HR.out 1
    have c2 : w1.cell? ⟨w.heap.size, 2, none⟩ = some (.int .i64 0) := cell_of_lit (cs := fZero.cells) HR.out 2
    have c3 : w1.cell? ⟨w.heap.size, 3, none⟩ = some (.bool false) := cell_of_lit (cs := fZero.cells) HR.out 3
    have c4 : w1.cell? ⟨w.heap.size, 4, none⟩ = some (.bool false) := cell_of_lit (cs := fZero.cells) HR.out 4
    have fz := free_of_lit HR.out
    clear hfin
    go_wp2_with (fail)
    refine wp_loop_rounds 1 ?_
    rewrite [rounds_succ]
    go_wp2
    refine bodyPost_ret (v := .tuple #[.agg #[.int .u8 0, .int .i64 0, .int .i64 0, .bool false, .bool false], .int .i64 0, .bool false]) (by simp [results, Tryz.results23, go_sem, c0, c1, c2, c3, c4]) rfl ?_
    unfold IsAt
    rewrite [HF.out.1, HF.out.2.1, HF.out.2.2]
    exact ⟨rfl, (((((HM.out.setCell hz _).setCell hz _).setCell hz _).setCell hz _).setCell hz _)⟩
  · have HC := Lib.hid hcell
    have HA := Lib.hid (show atZ (opN op) kd = atIn fs 24 kd by unfold atZ; rw [HFS.out])
    have HS := Lib.hid hsm
    unfold maxLen at hcm
    clear hcell ho hsm
    go_wp2_with (fail)
    go_loopw [7, 14] (fun lo i wr => ∃ (k : Nat) (L : Int), k ≤ fs.length ∧ i = .int .i64 k ∧ lo = .int .i64 L ∧ atIn (fs.drop k) L kd = atIn fs 24 kd ∧ L ≤ 24 ∧ 24 - 24 * (k : Int) ≤ L ∧ Made w1 wr) (fun _ i _ => fs.length - (intOf i).toNat)
    case atStart => exact ⟨0, 24, Nat.zero_le _, rfl, rfl, rfl, by omega, by omega, Made.refl _⟩
    case round =>
      obtain ⟨k, L, hk, rfl, rfl, hat, hL, hL2, hwr⟩ := hrel
      have hrr := hwr.heap HR.out
      have c0 : wr.cell? ⟨w.heap.size, 0, none⟩ = some (.int .u8 0) := cell_of_lit (cs := fZero.cells) hrr 0
      have c1 : wr.cell? ⟨w.heap.size, 1, none⟩ = some (.int .i64 0) := cell_of_lit (cs := fZero.cells) hrr 1
      have c2 : wr.cell? ⟨w.heap.size, 2, none⟩ = some (.int .i64 0) := cell_of_lit (cs := fZero.cells) hrr 2
      have c3 : wr.cell? ⟨w.heap.size, 3, none⟩ = some (.bool false) := cell_of_lit (cs := fZero.cells) hrr 3
      have c4 : wr.cell? ⟨w.heap.size, 4, none⟩ = some (.bool false) := cell_of_lit (cs := fZero.cells) hrr 4
      have fz := free_of_lit hrr
      have hbr : b < wr.heap.size := Nat.lt_of_lt_of_le hbl hwr.size
      have hlr : w.heap.size < wr.heap.size := Nat.lt_of_lt_of_le hlt hwr.size
      have HW := Lib.hid hwr
      clear hrr hwr
      by_cases hlt2 : k < fs.length
      · have hd := atIn_drop fs k hlt2 L kd
        have hs := HS.out fs[k] (List.getElem_mem _)
        have hfl := flat_at fs k hlt2
        have hce := fun r (hr : r < 5) => (bcell HW.out).1 b (k * 5 + r) hbl ▸ HC.out (k * 5 + r) (by omega)
        have k0 : wr.cell? ⟨b, k * 5, none⟩ = _ := (hce 0 (by omega)).trans hfl.1
        have k1 := (hce 1 (by omega)).trans hfl.2.1
        have k2 := (hce 2 (by omega)).trans hfl.2.2.1
        have k3 := (hce 3 (by omega)).trans hfl.2.2.2.1
        have k4 := (hce 4 (by omega)).trans hfl.2.2.2.2
        obtain ⟨hs1, hs2, hs3, hs4, hs5, hs6⟩ := hs
        generalize fs[k] = f at *
        rewrite [hat] at hd
        clear hce hfl hat
        by_cases hkd : f.kind = kd
        · have hkb : (f.kind == kd) = true := beq_iff_eq.2 hkd
          rewrite [if_pos hkd] at hd
          have HD := Lib.hid hd
          clear hd hkd
          go_wp2
          refine bodyPost_ret (v := .tuple #[.agg #[.int .u8 f.kind, .int .i64 f.bits, .int .i64 f.shift, .bool f.sg, .bool f.ext], .int .i64 (L - f.bits), .bool true]) (by simp [results, Tryz.results23, go_sem, c0, c1, c2, c3, c4, hlr]) rfl ?_
          exact at_close (HA.out.trans HD.out) (Made.trans HM.out HW.out) hz _ _ _ _ _ _
        · have hkb : (f.kind == kd) = false := beq_eq_false_iff_ne.2 hkd
          rewrite [if_neg hkd] at hd
          have HD := Lib.hid hd
          clear hd hkd
          go_wp2
          go_roundw
          case rel => exact ⟨k + 1, L - f.bits, by omega, by go_num, by go_num, HD.out.symm, by omega, by omega, HW.out.alloc HW.out.size _⟩
          case measure => simp [intOf]; omega
      · obtain rfl : k = fs.length := by omega
        rewrite [List.drop_length] at hat
        have HF := Lib.hid hat
        clear hat
        go_wp2
        refine bodyPost_ret (v := .tuple #[.agg #[.int .u8 0, .int .i64 0, .int .i64 0, .bool false, .bool false], .int .i64 0, .bool false]) (by simp [results, Tryz.results23, go_sem, c0, c1, c2, c3, c4]) rfl ?_
        have e : atZ (opN op) kd = none := HA.out.trans HF.out.symm
        unfold IsAt atF atP atB
        rewrite [e]
        have hM := Made.trans HM.out HW.out
        exact ⟨rfl, (((((hM.setCell hz _).setCell hz _).setCell hz _).setCell hz _).setCell hz _)⟩
end
end
section
open Go.ChangeShapes Go.WideShapes Go.ChangeAt Go.RowKit Go.Sort BigFrame

theorem isOf_row {W : World} {op : Int} {e : Ending} {w' : World} (h : IsOf W op e w') (nm : ByteArray) (o c s : Int) (ok : Bool) (fs : List Fd) (hfs : fieldsZ (opN op) = fs) (ho : opN op = o) (hn : nameZ (opN op) = nm) (hc : classZ (opN op) = c) (hs : slotsZ c = s) (hk : isOp op = ok) (hne : fs ≠ []) :
    ∃ b cap, e = .returned (.tuple #[.agg #[.int .u8 o, .string nm, .int .u8 c, .int .u8 s, .slice (some ⟨b, 0, none⟩) fs.length cap], .bool ok]) ∧ Made W w' := by
  obtain ⟨p, n, cap, rfl, hm, hw⟩ := h
  rw [hfs] at hw
  rw [hn, hc, hs, hk, ho]
  rcases owns_cells hw with ⟨h, _⟩ | ⟨b, rfl, rfl, _⟩
  · exact absurd h hne
  · exact ⟨b, cap, rfl, hm⟩
theorem isOf_none {W : World} {op : Int} {e : Ending} {w' : World} (h : IsOf W op e w') (nm : ByteArray) (o c s : Int) (ok : Bool) (hfs : fieldsZ (opN op) = []) (ho : opN op = o) (hn : nameZ (opN op) = nm) (hc : classZ (opN op) = c) (hs : slotsZ c = s) (hk : isOp op = ok) :
    ∃ p cap, e = .returned (.tuple #[.agg #[.int .u8 o, .string nm, .int .u8 c, .int .u8 s, .slice p 0 cap], .bool ok]) ∧ Made W w' := by
  obtain ⟨p, n, cap, rfl, hm, hw⟩ := h
  rw [hfs] at hw
  rw [hn, hc, hs, hk, ho]
  rcases owns_cells hw with ⟨_, rfl, rfl, rfl⟩ | ⟨b, rfl, rfl, _⟩
  · exact ⟨_, _, rfl, hm⟩
  · exact ⟨_, _, rfl, hm⟩
/-- The cells of a row's block that still stands. -/
theorem row_cells {w : World} {b : Nat} {T : TypeId} {v0 v1 v2 v3 v4 : Value} (h : w.heap[b]? = some (.cells #[v0, v1, v2, v3, v4] T (0, 0))) :
    w.cell? ⟨b, 0, none⟩ = some v0 ∧ w.cell? ⟨b, 1, none⟩ = some v1 ∧ w.cell? ⟨b, 2, none⟩ = some v2 ∧ w.cell? ⟨b, 3, none⟩ = some v3 ∧ w.cell? ⟨b, 4, none⟩ = some v4 :=
  ⟨cell_of_lit (cs := [v0, v1, v2, v3, v4]) h 0, cell_of_lit (cs := [v0, v1, v2, v3, v4]) h 1, cell_of_lit (cs := [v0, v1, v2, v3, v4]) h 2, cell_of_lit (cs := [v0, v1, v2, v3, v4]) h 3, cell_of_lit (cs := [v0, v1, v2, v3, v4]) h 4⟩
theorem at_lit {W : World} (hN : Names W) (op kd : Int) (h0 : 0 ≤ op) (f : Fd) (p : Int) (b : Bool) (hf : atF (opN op) kd = f) (hp : atP (opN op) kd = p) (hb : atB (opN op) kd = b) (w : World) (hm : Made W w) :
    Calls Tryz.prog 23 #[.int .u8 op, .int .u8 kd] w fun e w' => e = .returned (.tuple #[.agg #[.int .u8 f.kind, .int .i64 f.bits, .int .i64 f.shift, .bool f.sg, .bool f.ext], .int .i64 p, .bool b]) ∧ Made W w' := by
  subst hf; subst hp; subst hb
  exact (at_any W hN op kd h0 w hm).mono fun _ _ h => h
theorem keep {w w' : World} {o o' : Obj} {b : Nat} (h : w.heap[b]? = some o) (hm : Made (w.alloc o') w') : w'.heap[b]? = some o := hm.heap ((Below.heap_alloc w o' b (heap_lt h)).trans h)
theorem keepN {w w' : World} {o : Obj} {b : Nat} (h : w.heap[b]? = some o) (hm : Made w w') : w'.heap[b]? = some o := hm.heap h
theorem lt_next {w w' : World} {o' : Obj} {b : Nat} (h : b < w.heap.size) (hm : Made (w.alloc o') w') : b < w'.heap.size := by
  have := hm.size; simp only [World.size_alloc] at this; omega
theorem lt_new {w w' : World} {o' : Obj} (hm : Made (w.alloc o') w') : w.heap.size < w'.heap.size := by
  have := hm.size; simp only [World.size_alloc] at this; omega
theorem isOf_any {W : World} {op : Int} {e : Ending} {w' : World} (h : IsOf W op e w') : ∃ (p : Option Addr) (cap : Nat) (fs : List Fd) (o : Int) (nm : ByteArray) (c s : Int), fs = fieldsZ (opN op) ∧ o = opN op ∧ nm = nameZ (opN op) ∧ c = classZ (opN op) ∧ s = slotsZ (classZ (opN op)) ∧
    e = .returned (.tuple #[.agg #[.int .u8 o, .string nm, .int .u8 c, .int .u8 s, .slice p fs.length cap], .bool (isOp op)]) ∧ Made W w' ∧
    (fs = [] ∨ ∃ b cur, p = some ⟨b, 0, none⟩ ∧ W.heap.size ≤ b ∧ w'.heap[b]? = some (.cells cur 51 (0, 0)) ∧ fs.length * 5 ≤ cur.size ∧ fs.length ≤ cap ∧ cap ≤ maxLen ∧ ∀ j, j < fs.length * 5 → w'.cell? ⟨b, j, none⟩ = (flatF fs)[j]?) := by
  obtain ⟨p, n, cap, rfl, hm, hw⟩ := h
  rcases hw.2 with ⟨hv, hn⟩ | ⟨g, c, cur, hv, hb, hg, hnc, hcm, hcs, ht⟩
  · cases hv
    have he : fieldsZ (opN op) = [] := List.eq_nil_of_length_eq_zero hn
    exact ⟨none, 0, [], _, _, _, _, he.symm, rfl, rfl, rfl, rfl, rfl, hm, .inl rfl⟩
  · cases hv
    exact ⟨_, cap, _, _, _, _, _, rfl, rfl, rfl, rfl, rfl, rfl, hm, .inr ⟨g, cur, rfl, hb, hg, by rw [hcs]; exact Nat.mul_le_mul_right 5 hnc, hnc, hcm, fun j hj => hw.cellAt j hj⟩⟩
theorem u8_of_wf {n : Int} (h : (Lit.int .u8 n).wf = true) : 0 ≤ n ∧ n < 256 := by
  simp only [Lit.wf, Bool.and_eq_true, decide_eq_true_eq] at h
  have h1 : IntKind.u8.min = 0 := rfl
  have h2 : IntKind.u8.max = 255 := rfl
  exact ⟨by omega, by omega⟩
/-- Some cell of a block that is known whole. -/
theorem cell_some {w : World} {b j : Nat} {cs : Array Value} {T : TypeId} (h : w.heap[b]? = some (.cells cs T (0, 0))) (hj : j < cs.size) : w.cell? ⟨b, j, none⟩ = some cs[j] := by
  simp [World.cell?, h, hj]
def lowF (fs : List Fd) : Nat → Int
  | 0 => 24
  | k + 1 => lowF fs k - (fs.getD k fZero).bits
def kindsApart (fs : List Fd) (k : Nat) : Bool := (List.range k).all fun j => decide ((fs.getD j fZero).kind ≠ (fs.getD k fZero).kind)
def fieldOk (op : Nat) (k : Nat) : Bool :=
  decide (atZ op ((fieldsZ op).getD k fZero).kind = some ((fieldsZ op).getD k fZero, lowF (fieldsZ op) (k + 1))) && decide (1 ≤ ((fieldsZ op).getD k fZero).bits) && decide (0 ≤ lowF (fieldsZ op) (k + 1)) && decide (lowF (fieldsZ op) k ≤ 24) &&
    (!((fieldsZ op).getD k fZero).ext || (decide (8 ≤ ((fieldsZ op).getD k fZero).bits) && ((fieldsZ op).getD k fZero).sg && (decide (((fieldsZ op).getD k fZero).kind = 9) || decide (((fieldsZ op).getD k fZero).kind = 10)))) && kindsApart (fieldsZ op) k
theorem fields_ok : ((List.range 32).all fun op => (List.range (fieldsZ (op : Nat)).length).all fun k => fieldOk op k) = true := by decide +kernel
structure FieldAt (op : Int) (fs : List Fd) (k : Nat) (f : Fd) : Prop where
  at_ : atZ op f.kind = some (f, lowF fs (k + 1))
  low : lowF fs (k + 1) = lowF fs k - f.bits
  one : 1 ≤ f.bits
  zero : 0 ≤ lowF fs (k + 1)
  top : lowF fs k ≤ 24
  ext : f.ext = false ∨ (f.ext = true ∧ 8 ≤ f.bits ∧ f.sg = true ∧ f.kind = 9) ∨ (f.ext = true ∧ 8 ≤ f.bits ∧ f.sg = true ∧ f.kind = 10)
  apart : ∀ j, j < k → ∀ h : j < fs.length, fs[j].kind ≠ f.kind
theorem field_at {op : Int} (h0 : 0 ≤ op) (h31 : op ≤ 31) {k : Nat} (hk : k < (fieldsZ op).length) : FieldAt op (fieldsZ op) k (fieldsZ op)[k] := by
  obtain ⟨m, rfl⟩ := Int.eq_ofNat_of_zero_le h0
  have h := List.all_eq_true.1 (List.all_eq_true.1 fields_ok m (List.mem_range.2 (by omega))) k (List.mem_range.2 hk)
  have e : (fieldsZ (m : Int)).getD k fZero = (fieldsZ (m : Int))[k] := by rw [List.getD_eq_getElem?_getD, List.getElem?_eq_getElem hk]; rfl
  unfold fieldOk at h
  rw [e] at h
  simp only [Bool.and_eq_true, decide_eq_true_eq] at h
  obtain ⟨⟨⟨⟨⟨h1, h2⟩, h3⟩, h4⟩, h5⟩, h6⟩ := h
  refine ⟨h1, ?_, h2, h3, h4, ?_, fun j hj hl => ?_⟩
  · show lowF (fieldsZ (m : Int)) k - ((fieldsZ (m : Int)).getD k fZero).bits = _
    rw [e]
  · cases hx : (fieldsZ (m : Int))[k].ext with
    | false => exact .inl rfl
    | true =>
      rw [hx] at h5
      simp only [Bool.not_true, Bool.false_or, Bool.and_eq_true, Bool.or_eq_true, decide_eq_true_eq] at h5
      rcases h5.2 with h | h
      · exact .inr (.inl ⟨rfl, h5.1.1, h5.1.2, h⟩)
      · exact .inr (.inr ⟨rfl, h5.1.1, h5.1.2, h⟩)
  · have := List.all_eq_true.1 h6 j (List.mem_range.2 hj)
    rw [e, List.getD_eq_getElem?_getD, List.getElem?_eq_getElem hl] at this
    exact of_decide_eq_true this
theorem row_ok : ∀ op, op < 32 → 1 ≤ op → byZ (nameL (op : Nat)) = (((op : Nat) : Int), true) ∧ slotsZ (classZ (op : Nat)) ≠ 0 ∧ 0 ≤ classZ (op : Nat) ∧ classZ (op : Nat) < 256 := by decide +kernel
theorem isAt_some {W : World} {op kd L : Int} {f : Fd} {e : Ending} {w' : World} (h : IsAt W op kd e w') (hz : atZ op kd = some (f, L)) :
    e = .returned (.tuple #[.agg #[.int .u8 f.kind, .int .i64 f.bits, .int .i64 f.shift, .bool f.sg, .bool f.ext], .int .i64 L, .bool true]) ∧ Made W w' := by
  unfold IsAt atF atP atB at h
  rw [hz] at h
  exact h

theorem hop2 {W : World} {op kd : Int} {e : Ending} {w' : World} (ho : opN op = op) (h : IsAt W (opN op) kd e w') : IsAt W op kd e w' := ho ▸ h
end
end Go.Proofs.YtnfmlmamgkpocaaGreatDoor
