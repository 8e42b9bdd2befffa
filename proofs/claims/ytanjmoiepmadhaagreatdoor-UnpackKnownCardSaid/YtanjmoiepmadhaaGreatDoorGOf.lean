/- What rowOf, Of of package isa return, for every op, in every world that has grown out of one that holds the table of names. · What At of package isa returns, for every op and every kind, in every world that has grown out of one that holds the table of names. · What a caller of package isa takes of its contracts: rows and fields opened, cells that stay; no law of isa's own. -/
import Derived.Test.YtanjmoiepmadhaaGreatDoorGRowA
import Derived.Test.YtanjmoiepmadhaaGreatDoorGRowB
namespace Go.Proofs.YtanjmoiepmadhaaGreatDoor
section
open Go.ChangeShapes Go.WideShapes Go.ChangeAt Go.RowKit Go.Sort

def opN (op : Int) : Int := if isOp op then op else 0
set_option maxRecDepth 100000 in
set_option maxHeartbeats 1000000 in
theorem rowOf_none (W : World) (op : Int) (h0 : op < 1 ∨ 31 < op) (w : World) (hm : Made W w) : Calls Tryz.prog 126 #[.int .u8 op] w (IsRowOf W 0) := by
  have hz := hm.size
  have n1 : (op == 1) = false := beq_eq_false_iff_ne.2 (by omega)
  have n2 : (op == 2) = false := beq_eq_false_iff_ne.2 (by omega)
  have n3 : (op == 3) = false := beq_eq_false_iff_ne.2 (by omega)
  have n4 : (op == 4) = false := beq_eq_false_iff_ne.2 (by omega)
  have n5 : (op == 5) = false := beq_eq_false_iff_ne.2 (by omega)
  have n6 : (op == 6) = false := beq_eq_false_iff_ne.2 (by omega)
  have n7 : (op == 7) = false := beq_eq_false_iff_ne.2 (by omega)
  have n8 : (op == 8) = false := beq_eq_false_iff_ne.2 (by omega)
  have n9 : (op == 9) = false := beq_eq_false_iff_ne.2 (by omega)
  have n10 : (op == 10) = false := beq_eq_false_iff_ne.2 (by omega)
  have n11 : (op == 11) = false := beq_eq_false_iff_ne.2 (by omega)
  have n12 : (op == 12) = false := beq_eq_false_iff_ne.2 (by omega)
  have n13 : (op == 13) = false := beq_eq_false_iff_ne.2 (by omega)
  have n14 : (op == 14) = false := beq_eq_false_iff_ne.2 (by omega)
  have n15 : (op == 15) = false := beq_eq_false_iff_ne.2 (by omega)
  have n16 : (op == 16) = false := beq_eq_false_iff_ne.2 (by omega)
  have n17 : (op == 17) = false := beq_eq_false_iff_ne.2 (by omega)
  have n18 : (op == 18) = false := beq_eq_false_iff_ne.2 (by omega)
  have n19 : (op == 19) = false := beq_eq_false_iff_ne.2 (by omega)
  have n20 : (op == 20) = false := beq_eq_false_iff_ne.2 (by omega)
  have n21 : (op == 21) = false := beq_eq_false_iff_ne.2 (by omega)
  have n22 : (op == 22) = false := beq_eq_false_iff_ne.2 (by omega)
  have n23 : (op == 23) = false := beq_eq_false_iff_ne.2 (by omega)
  have n24 : (op == 24) = false := beq_eq_false_iff_ne.2 (by omega)
  have n25 : (op == 25) = false := beq_eq_false_iff_ne.2 (by omega)
  have n26 : (op == 26) = false := beq_eq_false_iff_ne.2 (by omega)
  have n27 : (op == 27) = false := beq_eq_false_iff_ne.2 (by omega)
  have n28 : (op == 28) = false := beq_eq_false_iff_ne.2 (by omega)
  have n29 : (op == 29) = false := beq_eq_false_iff_ne.2 (by omega)
  have n30 : (op == 30) = false := beq_eq_false_iff_ne.2 (by omega)
  have n31 : (op == 31) = false := beq_eq_false_iff_ne.2 (by omega)
  clear h0
  go_enter Tryz.func126, Tryz.ntmps126
  go_wp2_with (fail)
  refine (plain_any _ _ _ _ (Made.refl _)).mono ?_
  rintro e w1 ⟨rfl, h1⟩
  go_wp2_with (fail)
  refine (plain_any _ _ _ _ h1).mono ?_
  rintro e w2 ⟨rfl, h2⟩
  go_wp2_with (fail)
  refine (plain_any _ _ _ _ h2).mono ?_
  rintro e w3 ⟨rfl, h3⟩
  go_wp2_with (fail)
  refine (plain_any _ _ _ _ h3).mono ?_
  rintro e w4 ⟨rfl, h4⟩
  clear h1 h2 h3
  have hz4 : w.heap.size < w4.heap.size := by have := h4.size; simp only [World.size_alloc] at this; omega
  have hW4 : Made W w4 := Made.trans (hm.alloc hz _) h4
  have hr4 : w4.heap[w.heap.size]? = some (.cells rowLit 122 (0, 0)) := h4.heap (heap_alloc_new w _)
  clear h4
  go_upto_region 2 with (fail)
  refine name_world (fun u => RowVars W w.heap.size w4.heap.size u) (rowVars_of hW4 hz4 hr4) ?_
  rintro u ⟨hM, hr, hD, hP, hS, hT, hzu⟩
  clear hW4 hr4
  have HM := Lib.hid hM
  have hn0u : w.heap.size < u.heap.size := by omega
  have c0 : u.cell? ⟨w.heap.size, 0, none⟩ = some (.int .u8 0) := cell_of_lit hr 0
  have c1 : u.cell? ⟨w.heap.size, 1, none⟩ = some (.string { data := #[] }) := cell_of_lit hr 1
  have c2 : u.cell? ⟨w.heap.size, 2, none⟩ = some (.int .u8 0) := cell_of_lit hr 2
  have c3 : u.cell? ⟨w.heap.size, 3, none⟩ = some (.int .u8 0) := cell_of_lit hr 3
  have c4 : u.cell? ⟨w.heap.size, 4, none⟩ = some (.slice none 0 0) := cell_of_lit hr 4
  have fz := free_of_lit hr
  have HO := Lib.hid (World.ownsRow_nil u u.heap.size 157 5)
  clear hr hD hP hS hT hM
  go_wp2
  refine bodyPost_ret (v := .agg #[.int .u8 0, .string { data := #[] }, .int .u8 0, .int .u8 0, .slice none 0 0]) (by simp [results, Tryz.results126, go_sem, c0, c1, c2, c3, c4]) rfl ?_
  exact ⟨_, _, _, rfl, row_close HM.out (Made.refl u) hz hn0u HO.out _ _ _ _ _⟩

theorem rowOf_any (W : World) (hN : Names W) (op : Int) (h0 : 0 ≤ op) (w : World) (hm : Made W w) : Calls Tryz.prog 126 #[.int .u8 op] w (IsRowOf W (opN op)) := by
  by_cases h : op < 1 ∨ 31 < op
  · have e : opN op = 0 := by unfold opN isOp; rw [if_neg (by simp; omega)]
    rw [e]
    exact rowOf_none W op h w hm
  · have e : opN op = op := by unfold opN isOp; rw [if_pos (by simp; omega)]
    rw [e]
    have hc : op = 1 ∨ op = 2 ∨ op = 3 ∨ op = 4 ∨ op = 5 ∨ op = 6 ∨ op = 7 ∨ op = 8 ∨ op = 9 ∨ op = 10 ∨ op = 11 ∨ op = 12 ∨ op = 13 ∨ op = 14 ∨ op = 15 ∨ op = 16 ∨ op = 17 ∨ op = 18 ∨ op = 19 ∨ op = 20 ∨ op = 21 ∨ op = 22 ∨ op = 23 ∨ op = 24 ∨ op = 25 ∨ op = 26 ∨ op = 27 ∨ op = 28 ∨ op = 29 ∨ op = 30 ∨ op = 31 := by omega
    rcases hc with rfl | rfl | rfl | rfl | rfl | rfl | rfl | rfl | rfl | rfl | rfl | rfl | rfl | rfl | rfl | rfl | rfl | rfl | rfl | rfl | rfl | rfl | rfl | rfl | rfl | rfl | rfl | rfl | rfl | rfl | rfl
    · exact rowOf_1 W hN w hm
    · exact rowOf_2 W hN w hm
    · exact rowOf_3 W hN w hm
    · exact rowOf_4 W hN w hm
    · exact rowOf_5 W hN w hm
    · exact rowOf_6 W hN w hm
    · exact rowOf_7 W hN w hm
    · exact rowOf_8 W hN w hm
    · exact rowOf_9 W hN w hm
    · exact rowOf_10 W hN w hm
    · exact rowOf_11 W hN w hm
    · exact rowOf_12 W hN w hm
    · exact rowOf_13 W hN w hm
    · exact rowOf_14 W hN w hm
    · exact rowOf_15 W hN w hm
    · exact rowOf_16 W hN w hm
    · exact rowOf_17 W hN w hm
    · exact rowOf_18 W hN w hm
    · exact rowOf_19 W hN w hm
    · exact rowOf_20 W hN w hm
    · exact rowOf_21 W hN w hm
    · exact rowOf_22 W hN w hm
    · exact rowOf_23 W hN w hm
    · exact rowOf_24 W hN w hm
    · exact rowOf_25 W hN w hm
    · exact rowOf_26 W hN w hm
    · exact rowOf_27 W hN w hm
    · exact rowOf_28 W hN w hm
    · exact rowOf_29 W hN w hm
    · exact rowOf_30 W hN w hm
    · exact rowOf_31 W hN w hm

theorem opN_ne (op : Int) : (opN op != 0) = isOp op := by
  unfold opN
  cases h : isOp op with
  | false => rfl
  | true =>
    simp only [isOp, Bool.and_eq_true, decide_eq_true_eq] at h
    rw [if_pos rfl, bne_iff_ne]
    omega
def IsOf (W : World) (op : Int) (e : Ending) (w' : World) : Prop := ∃ p n cap, e = .returned (.tuple #[.agg #[.int .u8 (opN op), .string (nameZ (opN op)), .int .u8 (classZ (opN op)), .int .u8 (slotsZ (classZ (opN op))), .slice p n cap], .bool (isOp op)]) ∧ Made W w' ∧
  w'.ownsRow W.heap.size 157 5 (.slice p n cap) (fieldsZ (opN op)).length (flatF (fieldsZ (opN op)))
section
attribute [local irreducible] World.cell?
set_option maxRecDepth 100000 in
set_option maxHeartbeats 1000000 in
theorem of_any (W : World) (hN : Names W) (op : Int) (h0 : 0 ≤ op) (w : World) (hm : Made W w) : Calls Tryz.prog 92 #[.int .u8 op] w (IsOf W op) := by
  have hz := hm.size
  go_enter Tryz.func92, Tryz.ntmps92
  go_wp2_with (fail)
  refine (rowOf_any _ (hN.made (hm.alloc hz _)) op h0 _ (Made.refl _)).mono ?_
  rintro e w1 ⟨p, n, cap, rfl, h1, ho⟩
  have hr1 := h1.heap (heap_alloc_new w _)
  have hzz : w.heap.size + 1 ≤ w1.heap.size := by have := h1.size; simp only [World.size_alloc] at this; omega
  have hlt : w.heap.size < w1.heap.size := by omega
  have HO := Lib.hid ho
  have H1 := Lib.hid h1
  have c0 : w1.cell? ⟨w.heap.size, 0, none⟩ = some (.int .u8 0) := cell_of_lit (cs := rowLit.toList) hr1 0
  have c1 : w1.cell? ⟨w.heap.size, 1, none⟩ = some (.string { data := #[] }) := cell_of_lit (cs := rowLit.toList) hr1 1
  have c2 : w1.cell? ⟨w.heap.size, 2, none⟩ = some (.int .u8 0) := cell_of_lit (cs := rowLit.toList) hr1 2
  have c3 : w1.cell? ⟨w.heap.size, 3, none⟩ = some (.int .u8 0) := cell_of_lit (cs := rowLit.toList) hr1 3
  have c4 : w1.cell? ⟨w.heap.size, 4, none⟩ = some (.slice none 0 0) := cell_of_lit (cs := rowLit.toList) hr1 4
  have fz := free_of_lit hr1
  clear hr1 ho h1
  go_wp2_with (fail)
  go_region
  go_wp2
  refine bodyPost_ret (v := .tuple #[.agg #[.int .u8 (opN op), .string (nameZ (opN op)), .int .u8 (classZ (opN op)), .int .u8 (slotsZ (classZ (opN op))), .slice p n cap], .bool (opN op != 0)]) (by simp [results, Tryz.results92, go_sem, c0, c1, c2, c3, c4, hlt]) rfl ?_
  rewrite [opN_ne]
  have K := row_close (hm.alloc hz _) H1.out hz (by simp) HO.out (.int .u8 (opN op)) (.string (nameZ (opN op))) (.int .u8 (classZ (opN op))) (.int .u8 (slotsZ (classZ (opN op)))) (.slice p n cap)
  exact ⟨p, n, cap, rfl, (K.1.alloc K.1.size _).drew, owns_made K.2 ((Made.refl _).alloc (Nat.le_refl _) _).drew⟩
end
end
section
open Go.ChangeShapes Go.WideShapes Go.ChangeAt Go.RowKit Go.Sort

def atB (op k : Int) : Bool := (atZ op k).isSome
def Fd.small (f : Fd) : Prop := 0 ≤ f.kind ∧ f.kind ≤ 11 ∧ 0 ≤ f.bits ∧ f.bits ≤ 24 ∧ 0 ≤ f.shift ∧ f.shift ≤ 2
theorem fields_small (op : Int) : ∀ f ∈ fieldsZ op, f.small := by
  have h : ∀ l ∈ fieldsL, ∀ f ∈ l, (decide (0 ≤ f.kind) && decide (f.kind ≤ 11) && decide (0 ≤ f.bits) && decide (f.bits ≤ 24) && decide (0 ≤ f.shift) && decide (f.shift ≤ 2)) = true := by decide +kernel
  intro f hf
  unfold fieldsZ at hf
  have : f.small ∨ False := by
    rewrite [List.getD_eq_getElem?_getD] at hf
    cases hg : fieldsL[op.toNat]? with
    | none => rewrite [hg] at hf; cases hf
    | some l =>
      rewrite [hg, Option.getD_some] at hf
      have := h l (List.mem_of_getElem? hg) f hf
      simp only [Bool.and_eq_true, decide_eq_true_eq] at this
      exact .inl ⟨this.1.1.1.1.1, this.1.1.1.1.2, this.1.1.1.2, this.1.1.2, this.1.2, this.2⟩
  exact this.resolve_right id
theorem fields_few (op : Int) : (fieldsZ op).length ≤ 5 := by
  have h : ∀ l ∈ fieldsL, l.length ≤ 5 := by decide +kernel
  unfold fieldsZ
  rw [List.getD_eq_getElem?_getD]
  cases hg : fieldsL[op.toNat]? with
  | none => simp
  | some l => exact h l (List.mem_of_getElem? hg)
theorem flat_at (l : List Fd) (k : Nat) (h : k < l.length) : (flatF l)[k * 5]? = some (.int .u8 l[k].kind) ∧ (flatF l)[k * 5 + 1]? = some (.int .i64 l[k].bits) ∧ (flatF l)[k * 5 + 2]? = some (.int .i64 l[k].shift) ∧
    (flatF l)[k * 5 + 3]? = some (.bool l[k].sg) ∧ (flatF l)[k * 5 + 4]? = some (.bool l[k].ext) := by
  induction l generalizing k with
  | nil => simp at h
  | cons f r ih =>
    have e : flatF (f :: r) = f.cells ++ flatF r := rfl
    cases k with
    | zero => simp [e, Fd.cells]
    | succ k =>
      have hk : k < r.length := by simpa using h
      have h5 : f.cells.length = 5 := rfl
      have := ih k hk
      rw [e]
      refine ⟨?_, ?_, ?_, ?_, ?_⟩ <;> rw [List.getElem?_append_right (by rw [h5]; omega)] <;> rw [h5]
      · rw [show (k + 1) * 5 - 5 = k * 5 by omega]; exact this.1
      · rw [show (k + 1) * 5 + 1 - 5 = k * 5 + 1 by omega]; exact this.2.1
      · rw [show (k + 1) * 5 + 2 - 5 = k * 5 + 2 by omega]; exact this.2.2.1
      · rw [show (k + 1) * 5 + 3 - 5 = k * 5 + 3 by omega]; exact this.2.2.2.1
      · rw [show (k + 1) * 5 + 4 - 5 = k * 5 + 4 by omega]; exact this.2.2.2.2
end
section
open Go.ChangeShapes Go.WideShapes Go.ChangeAt Go.RowKit Go.Sort BigFrame

/-- The cells of a row's block that still stands. -/
theorem row_cells {w : World} {b : Nat} {T : TypeId} {v0 v1 v2 v3 v4 : Value} (h : w.heap[b]? = some (.cells #[v0, v1, v2, v3, v4] T (0, 0))) :
    w.cell? ⟨b, 0, none⟩ = some v0 ∧ w.cell? ⟨b, 1, none⟩ = some v1 ∧ w.cell? ⟨b, 2, none⟩ = some v2 ∧ w.cell? ⟨b, 3, none⟩ = some v3 ∧ w.cell? ⟨b, 4, none⟩ = some v4 :=
  ⟨cell_of_lit (cs := [v0, v1, v2, v3, v4]) h 0, cell_of_lit (cs := [v0, v1, v2, v3, v4]) h 1, cell_of_lit (cs := [v0, v1, v2, v3, v4]) h 2, cell_of_lit (cs := [v0, v1, v2, v3, v4]) h 3, cell_of_lit (cs := [v0, v1, v2, v3, v4]) h 4⟩
theorem keep {w w' : World} {o o' : Obj} {b : Nat} (h : w.heap[b]? = some o) (hm : Made (w.alloc o') w') : w'.heap[b]? = some o := hm.heap ((Below.heap_alloc w o' b (heap_lt h)).trans h)
theorem lt_next {w w' : World} {o' : Obj} {b : Nat} (h : b < w.heap.size) (hm : Made (w.alloc o') w') : b < w'.heap.size := by
  have := hm.size; simp only [World.size_alloc] at this; omega
theorem isOf_any {W : World} {op : Int} {e : Ending} {w' : World} (h : IsOf W op e w') : ∃ (p : Option Addr) (cap : Nat) (fs : List Fd) (o : Int) (nm : ByteArray) (c s : Int), fs = fieldsZ (opN op) ∧ o = opN op ∧ nm = nameZ (opN op) ∧ c = classZ (opN op) ∧ s = slotsZ (classZ (opN op)) ∧
    e = .returned (.tuple #[.agg #[.int .u8 o, .string nm, .int .u8 c, .int .u8 s, .slice p fs.length cap], .bool (isOp op)]) ∧ Made W w' ∧
    (fs = [] ∨ ∃ b cur, p = some ⟨b, 0, none⟩ ∧ W.heap.size ≤ b ∧ w'.heap[b]? = some (.cells cur 157 (0, 0)) ∧ fs.length * 5 ≤ cur.size ∧ fs.length ≤ cap ∧ cap ≤ maxLen ∧ ∀ j, j < fs.length * 5 → w'.cell? ⟨b, j, none⟩ = (flatF fs)[j]?) := by
  obtain ⟨p, n, cap, rfl, hm, hw⟩ := h
  rcases hw.2 with ⟨hv, hn⟩ | ⟨g, c, cur, hv, hb, hg, hnc, hcm, hcs, ht⟩
  · cases hv
    have he : fieldsZ (opN op) = [] := List.eq_nil_of_length_eq_zero hn
    exact ⟨none, 0, [], _, _, _, _, he.symm, rfl, rfl, rfl, rfl, rfl, hm, .inl rfl⟩
  · cases hv
    exact ⟨_, cap, _, _, _, _, _, rfl, rfl, rfl, rfl, rfl, rfl, hm, .inr ⟨g, cur, rfl, hb, hg, by rw [hcs]; exact Nat.mul_le_mul_right 5 hnc, hnc, hcm, fun j hj => hw.cellAt j hj⟩⟩
end
end Go.Proofs.YtanjmoiepmadhaaGreatDoor
