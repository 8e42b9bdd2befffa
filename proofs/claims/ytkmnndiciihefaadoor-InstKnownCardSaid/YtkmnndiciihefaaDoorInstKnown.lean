/- InstKnown of the laws of inst returns true, in every world that holds the table of names. -/
import Derived.Test.YtkmnndiciihefaaDoorInstLaws
import Derived.Great.Walk
namespace Go.Proofs.YtkmnndiciihefaaDoor
open Go.ChangeShapes Go.WideShapes Go.ChangeAt Go.RowKit Go.Sort BigFrame

namespace instKnown
abbrev x_eq : In := litIn 13 2 4 0 0 0 0 false false 0 (-8192)
abbrev x_great : In := litIn 13 2 4 0 0 0 0 false false 0 8192
abbrev x_far : In := litIn 13 2 4 0 0 0 0 false true 0 8192
abbrev x_st : In := litIn 24 0 5 5 0 0 0 true false 0 4
abbrev x_odd : In := litIn 24 0 5 5 0 0 0 true false 0 6
abbrev x_call : In := litIn 29 0 0 0 0 0 0 false false 0 4294967292
abbrev x_mux : In := litIn 14 9 8 7 0 3 0 false false 0 0
abbrev x_nop : In := litIn 1 0 0 0 0 0 0 false false 0 0
abbrev x_none : In := litIn 0 0 0 0 0 0 0 false false 0 0
def bad : List In := [litIn 0 0 0 0 0 0 0 false false 0 0,
  litIn 32 0 0 0 0 0 0 false false 0 0,
  litIn 1 1 0 0 0 0 0 false false 0 0,
  litIn 8 0 0 0 0 1 0 false false 0 0,
  litIn 8 0 0 0 0 0 5 false false 0 0,
  litIn 2 32 0 0 0 0 0 false false 0 0,
  litIn 10 4 0 0 0 0 0 false false 0 0,
  litIn 15 0 0 0 0 0 0 false false 0 32,
  litIn 15 0 0 0 0 0 0 false false 0 (-1),
  litIn 15 0 0 0 0 0 0 false true 0 0,
  litIn 27 0 0 0 0 0 0 false false 0 2,
  litIn 27 0 0 0 0 0 0 false false 0 4294967296,
  litIn 27 0 0 0 0 0 0 false false 0 (-4),
  litIn 30 0 0 0 2 0 0 false false 0 0,
  litIn 30 0 0 0 0 0 0 false false 2048 0,
  litIn 31 0 0 0 0 0 0 false false 1 0,
  litIn 14 0 0 0 0 0 1 false false 0 0,
  litIn 8 0 0 0 0 0 0 false true 0 2147483648,
  litIn 21 0 0 0 0 0 0 true false 0 0]
theorem bad_all : (bad.all fun x => !rightB x && smallB x) = true := by decide +kernel
def flatI (l : List In) : List Value := l.flatMap In.cells
theorem flatI_at (l : List In) (k : Nat) (h : k < l.length) (j : Nat) (hj : j < 11) : (flatI l)[k * 11 + j]? = (l[k].cells)[j]? := by
  induction l generalizing k with
  | nil => simp at h
  | cons f r ih =>
    have e : flatI (f :: r) = f.cells ++ flatI r := rfl
    have h11 : f.cells.length = 11 := rfl
    cases k with
    | zero => rw [e, List.getElem?_append_left (by rw [h11]; omega)]; simp
    | succ k =>
      have hk : k < r.length := by simpa using h
      rw [e, List.getElem?_append_right (by rw [h11]; omega), h11, show (k + 1) * 11 + j - 11 = k * 11 + j by omega]
      exact ih k hk
/-- The six variables. -/
structure Six (W w : World) : Prop where
  made : Made W w
  eq : InAt w (W.heap.size) x_eq
  great : InAt w (W.heap.size + 1) x_great
  far : InAt w (W.heap.size + 1 + 1) x_far
  st : InAt w (W.heap.size + 1 + 1 + 1) x_st
  odd : InAt w (W.heap.size + 1 + 1 + 1 + 1) x_odd
  call : InAt w (W.heap.size + 1 + 1 + 1 + 1 + 1) x_call
theorem Six.next {W w w' : World} (h : Six W w) (hm : Made w w') : Six W w' := ⟨Made.trans h.made hm, hm.heap h.eq, hm.heap h.great, hm.heap h.far, hm.heap h.st, hm.heap h.odd, hm.heap h.call⟩
theorem six_of (W : World) : Six W ((((((W.alloc (.cells x_eq.cells.toArray 24)).alloc (.cells x_great.cells.toArray 24)).alloc (.cells x_far.cells.toArray 24)).alloc (.cells x_st.cells.toArray 24)).alloc (.cells x_odd.cells.toArray 24)).alloc (.cells x_call.cells.toArray 24)) := by
  have e := Below.heap_alloc
  refine ⟨((((((Made.refl W).alloc (Nat.le_refl _) _).alloc (by simp) _).alloc (by simp only [World.size_alloc]; omega) _).alloc (by simp only [World.size_alloc]; omega) _).alloc (by simp only [World.size_alloc]; omega) _).alloc (by simp only [World.size_alloc]; omega) _, ?_, ?_, ?_, ?_, ?_, ?_⟩
  · show (_ : World).heap[_]? = _; rw [e _ _ _ (by simp only [World.size_alloc]; omega), e _ _ _ (by simp only [World.size_alloc]; omega), e _ _ _ (by simp only [World.size_alloc]; omega), e _ _ _ (by simp only [World.size_alloc]; omega), e _ _ _ (by simp only [World.size_alloc]; omega)]; exact heap_at (by first | rfl | simp only [World.size_alloc])
  · show (_ : World).heap[_]? = _; rw [e _ _ _ (by simp only [World.size_alloc]; omega), e _ _ _ (by simp only [World.size_alloc]; omega), e _ _ _ (by simp only [World.size_alloc]; omega), e _ _ _ (by simp only [World.size_alloc]; omega)]; exact heap_at (by first | rfl | simp only [World.size_alloc])
  · show (_ : World).heap[_]? = _; rw [e _ _ _ (by simp only [World.size_alloc]; omega), e _ _ _ (by simp only [World.size_alloc]; omega), e _ _ _ (by simp only [World.size_alloc]; omega)]; exact heap_at (by first | rfl | simp only [World.size_alloc])
  · show (_ : World).heap[_]? = _; rw [e _ _ _ (by simp only [World.size_alloc]; omega), e _ _ _ (by simp only [World.size_alloc]; omega)]; exact heap_at (by first | rfl | simp only [World.size_alloc])
  · show (_ : World).heap[_]? = _; rw [e _ _ _ (by simp only [World.size_alloc]; omega)]; exact heap_at (by first | rfl | simp only [World.size_alloc])
  · exact heap_at (by first | rfl | simp only [World.size_alloc])
/-- What stands in a round. -/
structure Rnd (W : World) (K X : Nat) (x : In) (w : World) : Prop where
  six : Six W w
  keys : w.heap[K]? = some (.cells (flatI bad).toArray 24 (0, 0))
  in_ : InAt w X x
theorem Rnd.next {W w w' : World} {K X : Nat} {x : In} (h : Rnd W K X x w) (hm : Made w w') : Rnd W K X x w' := ⟨h.six.next hm, hm.heap h.keys, hm.heap h.in_⟩
structure Mux (W : World) (X : Nat) (w : World) : Prop where
  made : Made W w
  in_ : InAt w X x_mux
theorem Mux.next {W w w' : World} {X : Nat} (h : Mux W X w) (hm : Made w w') : Mux W X w' := ⟨Made.trans h.made hm, hm.heap h.in_⟩
theorem writes_no {x : In} (h : rightB x = false) : writesP x = (0, false) := by unfold writesP; rw [h]; rfl
theorem wpred_no {x : In} (h : rightB x = false) : wpredP x = (0, false) := by unfold wpredP; rw [h]; rfl
theorem rpred_no {x : In} (h : rightB x = false) : rpredP x = (0, false, false) := by unfold rpredP; rw [h]; rfl
theorem target_no {x : In} (h : rightB x = false) : targetP x = (0, false) := by unfold targetP; rw [h]; rfl
theorem reads_no {x : In} (h : rightB x = false) : readsL x = [] := by unfold readsL; rw [h]; rfl
section
attribute [local irreducible] World.cell?
set_option maxRecDepth 100000 in
set_option maxHeartbeats 8000000 in
theorem walk (W : World) (hN : Names W) : Calls Tryd.prog 3 #[] W fun e w' => e = .returned (.bool true) ∧ Made W w' := by
  go_enter Tryd.func3, Tryd.ntmps3
  go_upto_region 9 with (fail)
  refine name_world (fun u => Six W u) (six_of W) ?_
  intro w0 h
  have S0 := Lib.hid h
  clear h
  obtain ⟨a0, a1, a2, a3, a4, a5, a6, a7, a8, a9, a10⟩ := in_cells S0.out.eq
  have hl := heap_lt S0.out.eq
  go_wp2_with (fail)
  refine (writesPred_lit (hN.made S0.out.made) x_eq (by decide +kernel) 2 true (by decide +kernel) _ (Made.refl _)).mono ?_
  rintro e w1 ⟨rfl, h1⟩
  have S1 := Lib.hid (S0.out.next h1)
  clear a0 a1 a2 a3 a4 a5 a6 a7 a8 a9 a10 hl
  clear h1
  obtain ⟨a0, a1, a2, a3, a4, a5, a6, a7, a8, a9, a10⟩ := in_cells S1.out.st
  have hl := heap_lt S1.out.st
  go_wp2_with (fail)
  refine (reads_lit (hN.made S1.out.made) x_st (by decide +kernel) [5] (by decide +kernel) _ (Made.refl _)).mono ?_
  intro e w2 h
  obtain ⟨g, cap, rfl, h1, hg, hcell⟩ := regs_some h (by decide)
  clear h
  have c0 : w2.cell? ⟨g, 0, none⟩ = some (.int .u8 5) := hcell 0 (by decide)
  have C2 := Lib.hid c0
  have G2 := Lib.hid hg
  clear hcell c0 hg
  have S2 := Lib.hid (S1.out.next h1)
  clear a0 a1 a2 a3 a4 a5 a6 a7 a8 a9 a10 hl
  clear h1
  obtain ⟨a0, a1, a2, a3, a4, a5, a6, a7, a8, a9, a10⟩ := in_cells S2.out.st
  have hl := heap_lt S2.out.st
  go_wp2_with (fail)
  refine (writes_lit (hN.made S2.out.made) x_st (by decide +kernel) 0 false (by decide +kernel) _ (Made.refl _)).mono ?_
  rintro e w3 ⟨rfl, h1⟩
  have C3 := Lib.hid (((bcell h1).1 g 0 G2.out).trans C2.out)
  have G3 := Lib.hid (Nat.lt_of_lt_of_le G2.out h1.size)
  have S3 := Lib.hid (S2.out.next h1)
  clear a0 a1 a2 a3 a4 a5 a6 a7 a8 a9 a10 hl
  clear h1
  obtain ⟨a0, a1, a2, a3, a4, a5, a6, a7, a8, a9, a10⟩ := in_cells S3.out.call
  have hl := heap_lt S3.out.call
  go_wp2_with (fail)
  refine (writes_lit (hN.made S3.out.made) x_call (by decide +kernel) 31 true (by decide +kernel) _ (Made.refl _)).mono ?_
  rintro e w4 ⟨rfl, h1⟩
  have C4 := Lib.hid (((bcell h1).1 g 0 G3.out).trans C3.out)
  have G4 := Lib.hid (Nat.lt_of_lt_of_le G3.out h1.size)
  have S4 := Lib.hid (S3.out.next h1)
  clear a0 a1 a2 a3 a4 a5 a6 a7 a8 a9 a10 hl
  clear h1
  obtain ⟨a0, a1, a2, a3, a4, a5, a6, a7, a8, a9, a10⟩ := in_cells S4.out.call
  have hl := heap_lt S4.out.call
  go_wp2_with (fail)
  refine (target_lit (hN.made S4.out.made) x_call (by decide +kernel) 4294967292 true (by decide +kernel) _ (Made.refl _)).mono ?_
  rintro e w5 ⟨rfl, h1⟩
  have C5 := Lib.hid (((bcell h1).1 g 0 G4.out).trans C4.out)
  have G5 := Lib.hid (Nat.lt_of_lt_of_le G4.out h1.size)
  have S5 := Lib.hid (S4.out.next h1)
  clear a0 a1 a2 a3 a4 a5 a6 a7 a8 a9 a10 hl
  clear h1
  obtain ⟨a0, a1, a2, a3, a4, a5, a6, a7, a8, a9, a10⟩ := in_cells S5.out.eq
  have hl := heap_lt S5.out.eq
  go_wp2_with (fail)
  refine (right_lit (hN.made S5.out.made) x_eq (by decide +kernel) true (by decide +kernel) _ (Made.refl _)).mono ?_
  rintro e w6 ⟨rfl, h1⟩
  have C6 := Lib.hid (((bcell h1).1 g 0 G5.out).trans C5.out)
  have G6 := Lib.hid (Nat.lt_of_lt_of_le G5.out h1.size)
  have S6 := Lib.hid (S5.out.next h1)
  clear a0 a1 a2 a3 a4 a5 a6 a7 a8 a9 a10 hl
  clear h1
  obtain ⟨a0, a1, a2, a3, a4, a5, a6, a7, a8, a9, a10⟩ := in_cells S6.out.great
  have hl := heap_lt S6.out.great
  go_wp2_with (fail)
  refine (right_lit (hN.made S6.out.made) x_great (by decide +kernel) false (by decide +kernel) _ (Made.refl _)).mono ?_
  rintro e w7 ⟨rfl, h1⟩
  have C7 := Lib.hid (((bcell h1).1 g 0 G6.out).trans C6.out)
  have G7 := Lib.hid (Nat.lt_of_lt_of_le G6.out h1.size)
  have S7 := Lib.hid (S6.out.next h1)
  clear a0 a1 a2 a3 a4 a5 a6 a7 a8 a9 a10 hl
  clear h1
  obtain ⟨a0, a1, a2, a3, a4, a5, a6, a7, a8, a9, a10⟩ := in_cells S7.out.far
  have hl := heap_lt S7.out.far
  go_wp2_with (fail)
  refine (right_lit (hN.made S7.out.made) x_far (by decide +kernel) true (by decide +kernel) _ (Made.refl _)).mono ?_
  rintro e w8 ⟨rfl, h1⟩
  have C8 := Lib.hid (((bcell h1).1 g 0 G7.out).trans C7.out)
  have G8 := Lib.hid (Nat.lt_of_lt_of_le G7.out h1.size)
  have S8 := Lib.hid (S7.out.next h1)
  clear a0 a1 a2 a3 a4 a5 a6 a7 a8 a9 a10 hl
  clear h1
  obtain ⟨a0, a1, a2, a3, a4, a5, a6, a7, a8, a9, a10⟩ := in_cells S8.out.st
  have hl := heap_lt S8.out.st
  go_wp2_with (fail)
  refine (right_lit (hN.made S8.out.made) x_st (by decide +kernel) true (by decide +kernel) _ (Made.refl _)).mono ?_
  rintro e w9 ⟨rfl, h1⟩
  have C9 := Lib.hid (((bcell h1).1 g 0 G8.out).trans C8.out)
  have G9 := Lib.hid (Nat.lt_of_lt_of_le G8.out h1.size)
  have S9 := Lib.hid (S8.out.next h1)
  clear a0 a1 a2 a3 a4 a5 a6 a7 a8 a9 a10 hl
  clear h1
  have c9 := C9.out
  have g9 := G9.out
  obtain ⟨a0, a1, a2, a3, a4, a5, a6, a7, a8, a9, a10⟩ := in_cells S9.out.odd
  have hl := heap_lt S9.out.odd
  go_wp2_with (fail)
  refine (right_lit (hN.made S9.out.made) x_odd (by decide +kernel) false (by decide +kernel) _ (Made.refl _)).mono ?_
  rintro e w10 ⟨rfl, h1⟩
  clear c9 g9
  have S10 := Lib.hid (S9.out.next h1)
  clear a0 a1 a2 a3 a4 a5 a6 a7 a8 a9 a10 hl
  clear h1
  go_wp2_with (fail)
  refine (right_lit (hN.made S10.out.made) x_nop (by decide +kernel) true (by decide +kernel) _ (Made.refl _)).mono ?_
  rintro e w11 ⟨rfl, h1⟩
  have S11 := Lib.hid (S10.out.next h1)
  clear h1
  go_upto_block 0 with (refine Great.wpList_buildSliceTo rfl 33 24 19 _ rfl _ rfl _ rfl Tryd.underlying33 (flatI bad).toArray (by kernel_rfl) ?_)
  refine name_world (fun u => Six W u ∧ u.heap[w11.heap.size]? = some (.cells (flatI bad).toArray 24 (0, 0))) ⟨S11.out.next ((Made.refl _).alloc (Nat.le_refl _) _), heap_alloc_new _ _⟩ ?_
  rintro u ⟨hS, hK⟩
  have SU := Lib.hid hS
  have KU := Lib.hid hK
  clear hS hK
  generalize w11.heap.size = K at *
  go_wp2_with (fail)
  go_loopw [146] (fun i wr => ∃ k : Nat, k ≤ 19 ∧ i = .int .i64 k ∧ Six W wr ∧ wr.heap[K]? = some (.cells (flatI bad).toArray 24 (0, 0))) (fun i _ => 19 - (intOf i).toNat)
  case atStart => exact ⟨0, Nat.zero_le _, rfl, SU.out, KU.out⟩
  case round =>
    obtain ⟨k, hk, rfl, hS, hK⟩ := hrel
    have SR := Lib.hid hS
    have KR := Lib.hid hK
    clear hS
    by_cases hlt : k < 19
    · have hlb : k < bad.length := hlt
      have hb := List.all_eq_true.1 bad_all bad[k] (List.getElem_mem _)
      simp only [Bool.and_eq_true, Bool.not_eq_true'] at hb
      have hce := fun j (hj : j < 11) => (cell_of_lit hK (k * 11 + j)).trans (flatI_at bad k hlb j hj)
      have hbk := heap_lt hK
      generalize bad[k] = x at *
      obtain ⟨hr, hsm⟩ := hb
      have HR := Lib.hid hr
      have HS := Lib.hid hsm
      have k0 : wr.cell? ⟨K, k * 11, none⟩ = some (.int .u8 x.op) := hce 0 (by decide)
      have k1 : wr.cell? ⟨K, k * 11 + 1, none⟩ = some (.int .u8 x.d) := hce 1 (by decide)
      have k2 : wr.cell? ⟨K, k * 11 + 2, none⟩ = some (.int .u8 x.s) := hce 2 (by decide)
      have k3 : wr.cell? ⟨K, k * 11 + 3, none⟩ = some (.int .u8 x.t) := hce 3 (by decide)
      have k4 : wr.cell? ⟨K, k * 11 + 4, none⟩ = some (.int .u8 x.n) := hce 4 (by decide)
      have k5 : wr.cell? ⟨K, k * 11 + 5, none⟩ = some (.int .u8 x.pred) := hce 5 (by decide)
      have k6 : wr.cell? ⟨K, k * 11 + 6, none⟩ = some (.int .u8 x.mode) := hce 6 (by decide)
      have k7 : wr.cell? ⟨K, k * 11 + 7, none⟩ = some (.bool x.new) := hce 7 (by decide)
      have k8 : wr.cell? ⟨K, k * 11 + 8, none⟩ = some (.bool x.ext) := hce 8 (by decide)
      have k9 : wr.cell? ⟨K, k * 11 + 9, none⟩ = some (.int .u16 x.count) := hce 9 (by decide)
      have k10 : wr.cell? ⟨K, k * 11 + 10, none⟩ = some (.int .i64 x.imm) := hce 10 (by decide)
      have hR : Rnd W K wr.heap.size x (wr.alloc (.cells x.cells.toArray 24)) := ⟨SR.out.next ((Made.refl _).alloc (Nat.le_refl _) _), (Below.heap_alloc _ _ _ hbk).trans KR.out, heap_alloc_new wr _⟩
      have R0 := Lib.hid hR
      clear hce hK hr hsm hR
      go_wp2_with (fail)
      refine (writes_lit (hN.made R0.out.six.made) x HS.out 0 false (writes_no HR.out) _ (Made.refl _)).mono ?_
      rintro e v1 ⟨rfl, h1⟩
      have R1 := Lib.hid (R0.out.next h1)
      clear h1 k0 k1 k2 k3 k4 k5 k6 k7 k8 k9 k10
      obtain ⟨a0, a1, a2, a3, a4, a5, a6, a7, a8, a9, a10⟩ := in_cells R1.out.in_
      have hl := heap_lt R1.out.in_
      go_wp2_with (fail)
      refine (writesPred_lit (hN.made R1.out.six.made) x HS.out 0 false (wpred_no HR.out) _ (Made.refl _)).mono ?_
      rintro e v2 ⟨rfl, h1⟩
      have R2 := Lib.hid (R1.out.next h1)
      clear h1 a0 a1 a2 a3 a4 a5 a6 a7 a8 a9 a10 hl
      obtain ⟨a0, a1, a2, a3, a4, a5, a6, a7, a8, a9, a10⟩ := in_cells R2.out.in_
      have hl := heap_lt R2.out.in_
      go_wp2_with (fail)
      refine (readsPred_lit (hN.made R2.out.six.made) x HS.out 0 false false (rpred_no HR.out) _ (Made.refl _)).mono ?_
      rintro e v3 ⟨rfl, h1⟩
      have R3 := Lib.hid (R2.out.next h1)
      clear h1 a0 a1 a2 a3 a4 a5 a6 a7 a8 a9 a10 hl
      obtain ⟨a0, a1, a2, a3, a4, a5, a6, a7, a8, a9, a10⟩ := in_cells R3.out.in_
      have hl := heap_lt R3.out.in_
      go_wp2_with (fail)
      refine (target_lit (hN.made R3.out.six.made) x HS.out 0 false (target_no HR.out) _ (Made.refl _)).mono ?_
      rintro e v4 ⟨rfl, h1⟩
      have R4 := Lib.hid (R3.out.next h1)
      clear h1 a0 a1 a2 a3 a4 a5 a6 a7 a8 a9 a10 hl
      obtain ⟨a0, a1, a2, a3, a4, a5, a6, a7, a8, a9, a10⟩ := in_cells R4.out.in_
      have hl := heap_lt R4.out.in_
      go_wp2_with (fail)
      refine (right_lit (hN.made R4.out.six.made) x HS.out false HR.out _ (Made.refl _)).mono ?_
      rintro e v5 ⟨rfl, h1⟩
      have R5 := Lib.hid (R4.out.next h1)
      clear h1 a0 a1 a2 a3 a4 a5 a6 a7 a8 a9 a10 hl
      obtain ⟨a0, a1, a2, a3, a4, a5, a6, a7, a8, a9, a10⟩ := in_cells R5.out.in_
      have hl := heap_lt R5.out.in_
      go_wp2_with (fail)
      refine (reads_lit (hN.made R5.out.six.made) x HS.out [] (reads_no HR.out) _ (Made.refl _)).mono ?_
      rintro e v6 ⟨p', cap', rfl, h1, -⟩
      have R6 := Lib.hid (R5.out.next h1)
      clear h1 a0 a1 a2 a3 a4 a5 a6 a7 a8 a9 a10 hl
      go_wp2
      go_roundw
      case rel => exact ⟨k + 1, by omega, by go_num, R6.out.six, R6.out.keys⟩
      case measure => simp [intOf]; omega
    · obtain rfl : k = 19 := by omega
      have hM0 : Mux W wr.heap.size (wr.alloc (.cells x_mux.cells.toArray 24)) := ⟨SR.out.made.alloc SR.out.made.size _, heap_alloc_new wr _⟩
      have R0 := Lib.hid hM0
      clear hK hM0
      go_wp2_with (fail)
      refine (readsPred_lit (hN.made R0.out.made) x_mux (by decide +kernel) 3 false true (by decide +kernel) _ (Made.refl _)).mono ?_
      rintro e v1 ⟨rfl, h1⟩
      have R1 := Lib.hid (R0.out.next h1)
      clear h1
      obtain ⟨a0, a1, a2, a3, a4, a5, a6, a7, a8, a9, a10⟩ := in_cells R1.out.in_
      have hl := heap_lt R1.out.in_
      go_wp2_with (fail)
      refine (right_lit (hN.made R1.out.made) x_mux (by decide +kernel) true (by decide +kernel) _ (Made.refl _)).mono ?_
      rintro e v2 ⟨rfl, h1⟩
      have R2 := Lib.hid (R1.out.next h1)
      clear h1 a0 a1 a2 a3 a4 a5 a6 a7 a8 a9 a10 hl
      go_wp2_with (fail)
      refine (class_lit (hN.made R2.out.made) x_none (by decide +kernel) 0 (by decide +kernel) _ (Made.refl _)).mono ?_
      rintro e v3 ⟨rfl, h1⟩
      have R3 := Lib.hid (R2.out.next h1)
      clear h1
      obtain ⟨a0, a1, a2, a3, a4, a5, a6, a7, a8, a9, a10⟩ := in_cells R3.out.in_
      have hl := heap_lt R3.out.in_
      go_wp2_with (fail)
      refine (cond_lit (hN.made R3.out.made) x_mux (by decide +kernel) false (by decide +kernel) _ (Made.refl _)).mono ?_
      rintro e v4 ⟨rfl, h1⟩
      have R4 := Lib.hid (R3.out.next h1)
      clear h1 a0 a1 a2 a3 a4 a5 a6 a7 a8 a9 a10 hl
      go_wp2_with (fail)
      refine (awake_any _ (hN.made R4.out.made) _ (Made.refl _)).mono ?_
      rintro e v5 ⟨rfl, h1⟩
      have M5 := Lib.hid (Made.trans R4.out.made h1)
      clear h1
      go_wp2
      go_ret
      exact ⟨rfl, M5.out⟩
end
end instKnown
end Go.Proofs.YtkmnndiciihefaaDoor
