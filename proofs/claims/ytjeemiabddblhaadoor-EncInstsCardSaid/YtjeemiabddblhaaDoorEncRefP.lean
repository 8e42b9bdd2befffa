/- What pieces of the document's answer returns, for every op. Written by wip/tools/gen_encps.py. -/
import Derived.Test.YtjeemiabddblhaaDoorEncRef
namespace Go.Proofs.YtjeemiabddblhaaDoor
open Go.ChangeShapes Go.WideShapes Go.ChangeAt Go.RowKit Go.Sort BigFrame

/-- A row of pieces, cell by cell. -/
def flatP : List Fd → List Value
  | [] => []
  | f :: r => .int .u8 (letterZ f.kind) :: .int .i64 f.bits :: flatP r
def HoldsP (w : World) (p : Option Addr) (n cap : Nat) (fs : List Fd) : Prop :=
  n = fs.length ∧ (fs = [] ∨ ∃ b, p = some ⟨b, 0, none⟩ ∧ b < w.heap.size ∧ n ≤ cap ∧ cap ≤ maxLen ∧ ∀ j, j < fs.length * 2 → w.cell? ⟨b, j, none⟩ = (flatP fs)[j]?)
theorem HoldsP.made {w w' : World} {p : Option Addr} {n cap : Nat} {fs : List Fd} (h : HoldsP w p n cap fs) (hm : Made w w') : HoldsP w' p n cap fs := by
  obtain ⟨hn, h⟩ := h
  refine ⟨hn, ?_⟩
  rcases h with h | ⟨b, hp, hb, h1, h2, hc⟩
  · exact .inl h
  · exact .inr ⟨b, hp, Nat.lt_of_lt_of_le hb hm.size, h1, h2, fun j hj => (hm.cell (p := ⟨b, j, none⟩) hb).trans (hc j hj)⟩
def IsPs (W : World) (op : Int) (e : Ending) (w' : World) : Prop := ∃ p cap, e = .returned (.tuple #[.slice p (fieldsZ (opN op)).length cap, .bool (isOp op)]) ∧ Made W w' ∧ HoldsP w' p (fieldsZ (opN op)).length cap (fieldsZ (opN op))
theorem ps_mk {W v : World} {op : Int} (fs : List Fd) {k : Nat} {T : TypeId} {cs : Array Value} (hfs : fieldsZ (opN op) = fs) (hok : isOp op = true) (hm : Made W v) (hk : fs.length = k) (hc : cs = (flatP fs).toArray) (hs : k ≤ 5) :
    IsPs W op (.returned (.tuple #[.slice (some ⟨v.heap.size, 0, none⟩) k k, .bool true])) (v.alloc (.cells cs T)) := by
  subst hk
  subst hc
  refine ⟨some ⟨v.heap.size, 0, none⟩, fs.length, ?_, hm.alloc hm.size _, ?_⟩
  · rw [hfs, hok]
  · rw [hfs]
    refine ⟨rfl, .inr ⟨v.heap.size, rfl, by simp, Nat.le_refl _, by unfold maxLen; omega, fun j _ => ?_⟩⟩
    exact cell_of_lit (cs := flatP fs) (heap_alloc_new v (.cells (flatP fs).toArray T)) j
theorem ps_nil {W v : World} {op : Int} {ok : Bool} (hfs : fieldsZ (opN op) = []) (hok : isOp op = ok) (hm : Made W v) : IsPs W op (.returned (.tuple #[.slice none 0 0, .bool ok])) v := by
  refine ⟨none, 0, ?_, hm, ?_⟩
  · rw [hfs, hok]; rfl
  · rw [hfs]; exact ⟨rfl, .inl rfl⟩
theorem field5_bits (a b : Int) (c d e : Bool) (w : World) : (Instr.field 56 (.agg #[.int .i64 a, .int .i64 b, .bool c, .bool d, .bool e]) 0).run Tryd.prog w = .ok (.int .i64 a) w := by kernel_rfl
/-- The seven variables. -/
structure PVars (W : World) (w w1 : World) (B : Int) (u : World) : Prop where
  made : Made W u
  m : u.heap[w.heap.size]? = some (.cells #[.int .u8 109, .int .i64 3] 62 (0, 0))
  p : u.heap[w.heap.size + 1]? = some (.cells #[.int .u8 112, .int .i64 2] 62 (0, 0))
  d : u.heap[w.heap.size + 1 + 1]? = some (.cells #[.int .u8 100, .int .i64 5] 62 (0, 0))
  q : u.heap[w.heap.size + 1 + 1 + 1]? = some (.cells #[.int .u8 113, .int .i64 2] 62 (0, 0))
  s : u.heap[w.heap.size + 1 + 1 + 1 + 1]? = some (.cells #[.int .u8 115, .int .i64 5] 62 (0, 0))
  t : u.heap[w.heap.size + 1 + 1 + 1 + 1 + 1]? = some (.cells #[.int .u8 116, .int .i64 5] 62 (0, 0))
  v : u.heap[w1.heap.size]? = some (.cells #[.int .u8 118, .int .i64 B] 62 (0, 0))
theorem two_cells {w : World} {b : Nat} {T : TypeId} {v0 v1 : Value} (h : w.heap[b]? = some (.cells #[v0, v1] T (0, 0))) : w.cell? ⟨b, 0, none⟩ = some v0 ∧ w.cell? ⟨b, 1, none⟩ = some v1 :=
  ⟨cell_of_lit (cs := [v0, v1]) h 0, cell_of_lit (cs := [v0, v1]) h 1⟩
abbrev pvW (w : World) : World := (((((w.alloc (.cells #[.int .u8 109, .int .i64 3] 62)).alloc (.cells #[.int .u8 112, .int .i64 2] 62)).alloc (.cells #[.int .u8 100, .int .i64 5] 62)).alloc (.cells #[.int .u8 113, .int .i64 2] 62)).alloc (.cells #[.int .u8 115, .int .i64 5] 62)).alloc (.cells #[.int .u8 116, .int .i64 5] 62)
theorem pvW_made {W w : World} (h : Made W w) : Made W (pvW w) := by
  have h1 := h.alloc h.size (.cells #[.int .u8 109, .int .i64 3] 62)
  have h2 := h1.alloc h1.size (.cells #[.int .u8 112, .int .i64 2] 62)
  have h3 := h2.alloc h2.size (.cells #[.int .u8 100, .int .i64 5] 62)
  have h4 := h3.alloc h3.size (.cells #[.int .u8 113, .int .i64 2] 62)
  have h5 := h4.alloc h4.size (.cells #[.int .u8 115, .int .i64 5] 62)
  exact h5.alloc h5.size _
theorem heap_old {w : World} {o : Obj} {i : Nat} {x : Obj} (h : w.heap[i]? = some x) : (w.alloc o).heap[i]? = some x := (Below.heap_alloc w o i (heap_lt h)).trans h
theorem pvars_of {W w w1 : World} (B : Int) (h : Made W w) (h1 : Made (pvW w) w1) : PVars W w w1 B (w1.alloc (.cells #[.int .u8 118, .int .i64 B] 62)) := by
  have hm := Made.trans (pvW_made h) h1
  refine ⟨hm.alloc hm.size _, heap_old (h1.heap ?_), heap_old (h1.heap ?_), heap_old (h1.heap ?_), heap_old (h1.heap ?_), heap_old (h1.heap ?_), heap_old (h1.heap ?_), heap_alloc_new w1 _⟩
  · exact heap_old (heap_old (heap_old (heap_old (heap_old (heap_at rfl)))))
  · exact heap_old (heap_old (heap_old (heap_old (heap_at (by simp)))))
  · exact heap_old (heap_old (heap_old (heap_at (by simp))))
  · exact heap_old (heap_old (heap_at (by simp)))
  · exact heap_old (heap_at (by simp))
  · exact heap_at (by simp)
section
attribute [local irreducible] World.cell?
set_option maxRecDepth 100000 in
set_option maxHeartbeats 16000000 in
theorem pieces_any (W : World) (op : Int) (w : World) (hm : Made W w) : Calls Tryd.prog 24 #[.int .u8 op] w (IsPs W op) := by
  have hz := hm.size
  have HM := Lib.hid hm
  have hof := Lib.hid (fun u => refOf_any u op)
  have hfb := field5_bits
  obtain ⟨B, hB⟩ : ∃ B, B = (vF op).bits := ⟨_, rfl⟩
  rewrite [← hB] at hof
  have HB := Lib.hid hB
  clear hB hm
  go_enter Tryd.func24, Tryd.ntmps24
  go_wp2_with (fail)
  refine (hof.out _ _ (Made.refl _)).mono ?_
  rintro e w1 ⟨rfl, h1⟩
  have PV := Lib.hid (pvars_of B HM.out h1)
  clear h1
  go_upto_region 8 with (fail)
  refine name_world (fun u => PVars W w w1 B u) PV.out ?_
  intro u hu
  have KU := Lib.hid hu.made
  obtain ⟨m0, m1⟩ := two_cells hu.m
  obtain ⟨p0, p1⟩ := two_cells hu.p
  obtain ⟨d0, d1⟩ := two_cells hu.d
  obtain ⟨q0, q1⟩ := two_cells hu.q
  obtain ⟨s0, s1⟩ := two_cells hu.s
  obtain ⟨t0, t1⟩ := two_cells hu.t
  obtain ⟨v0, v1⟩ := two_cells hu.v
  clear hu PV
  have hc : op = 1 ∨ op = 2 ∨ op = 3 ∨ op = 4 ∨ op = 5 ∨ op = 6 ∨ op = 7 ∨ op = 8 ∨ op = 9 ∨ op = 10 ∨ op = 11 ∨ op = 12 ∨ op = 13 ∨ op = 14 ∨ op = 15 ∨ op = 16 ∨ op = 17 ∨ op = 18 ∨ op = 19 ∨ op = 20 ∨ op = 21 ∨ op = 22 ∨ op = 23 ∨ op = 24 ∨ op = 25 ∨ op = 26 ∨ op = 27 ∨ op = 28 ∨ op = 29 ∨ op = 30 ∨ op = 31 ∨ (op < 1 ∨ 31 < op) := by omega
  rcases hc with rfl | rfl | rfl | rfl | rfl | rfl | rfl | rfl | rfl | rfl | rfl | rfl | rfl | rfl | rfl | rfl | rfl | rfl | rfl | rfl | rfl | rfl | rfl | rfl | rfl | rfl | rfl | rfl | rfl | rfl | rfl | hc
  case inl =>
    obtain rfl : B = 0 := HB.out.trans (by decide +kernel)
    go_wp2
    go_ret2
    exact ps_nil rfl rfl KU.out
  case inr.inl =>
    obtain rfl : B = 0 := HB.out.trans (by decide +kernel)
    go_wp2
    go_ret2
    exact ps_mk [fMode, fPred, fD, fS, fT] rfl rfl KU.out rfl rfl (by decide)
  case inr.inr.inl =>
    obtain rfl : B = 0 := HB.out.trans (by decide +kernel)
    go_wp2
    go_ret2
    exact ps_mk [fMode, fPred, fD, fS, fT] rfl rfl KU.out rfl rfl (by decide)
  case inr.inr.inr.inl =>
    obtain rfl : B = 0 := HB.out.trans (by decide +kernel)
    go_wp2
    go_ret2
    exact ps_mk [fMode, fPred, fD, fS, fT] rfl rfl KU.out rfl rfl (by decide)
  case inr.inr.inr.inr.inl =>
    obtain rfl : B = 0 := HB.out.trans (by decide +kernel)
    go_wp2
    go_ret2
    exact ps_mk [fMode, fPred, fD, fS, fT] rfl rfl KU.out rfl rfl (by decide)
  case inr.inr.inr.inr.inr.inl =>
    obtain rfl : B = 0 := HB.out.trans (by decide +kernel)
    go_wp2
    go_ret2
    exact ps_mk [fMode, fPred, fD, fS, fT] rfl rfl KU.out rfl rfl (by decide)
  case inr.inr.inr.inr.inr.inr.inl =>
    obtain rfl : B = 14 := HB.out.trans (by decide +kernel)
    go_wp2
    go_ret2
    exact ps_mk [fD, fS, fI14] rfl rfl KU.out rfl rfl (by decide)
  case inr.inr.inr.inr.inr.inr.inr.inl =>
    obtain rfl : B = 14 := HB.out.trans (by decide +kernel)
    go_wp2
    go_ret2
    exact ps_mk [fMode, fPred, fD, fI14] rfl rfl KU.out rfl rfl (by decide)
  case inr.inr.inr.inr.inr.inr.inr.inr.inl =>
    obtain rfl : B = 0 := HB.out.trans (by decide +kernel)
    go_wp2
    go_ret2
    exact ps_mk [fMode, fPred, fD, fS] rfl rfl KU.out rfl rfl (by decide)
  case inr.inr.inr.inr.inr.inr.inr.inr.inr.inl =>
    obtain rfl : B = 0 := HB.out.trans (by decide +kernel)
    go_wp2
    go_ret2
    exact ps_mk [fDP, fS, fT] rfl rfl KU.out rfl rfl (by decide)
  case inr.inr.inr.inr.inr.inr.inr.inr.inr.inr.inl =>
    obtain rfl : B = 0 := HB.out.trans (by decide +kernel)
    go_wp2
    go_ret2
    exact ps_mk [fDP, fS, fT] rfl rfl KU.out rfl rfl (by decide)
  case inr.inr.inr.inr.inr.inr.inr.inr.inr.inr.inr.inl =>
    obtain rfl : B = 0 := HB.out.trans (by decide +kernel)
    go_wp2
    go_ret2
    exact ps_mk [fDP, fS, fT] rfl rfl KU.out rfl rfl (by decide)
  case inr.inr.inr.inr.inr.inr.inr.inr.inr.inr.inr.inr.inl =>
    obtain rfl : B = 14 := HB.out.trans (by decide +kernel)
    go_wp2
    go_ret2
    exact ps_mk [fDP, fS, fI14] rfl rfl KU.out rfl rfl (by decide)
  case inr.inr.inr.inr.inr.inr.inr.inr.inr.inr.inr.inr.inr.inl =>
    obtain rfl : B = 0 := HB.out.trans (by decide +kernel)
    go_wp2
    go_ret2
    exact ps_mk [fD, fPred, fS, fT] rfl rfl KU.out rfl rfl (by decide)
  case inr.inr.inr.inr.inr.inr.inr.inr.inr.inr.inr.inr.inr.inr.inl =>
    obtain rfl : B = 5 := HB.out.trans (by decide +kernel)
    go_wp2
    go_ret2
    exact ps_mk [fD, fS, fU5] rfl rfl KU.out rfl rfl (by decide)
  case inr.inr.inr.inr.inr.inr.inr.inr.inr.inr.inr.inr.inr.inr.inr.inl =>
    obtain rfl : B = 5 := HB.out.trans (by decide +kernel)
    go_wp2
    go_ret2
    exact ps_mk [fD, fS, fU5] rfl rfl KU.out rfl rfl (by decide)
  case inr.inr.inr.inr.inr.inr.inr.inr.inr.inr.inr.inr.inr.inr.inr.inr.inl =>
    obtain rfl : B = 5 := HB.out.trans (by decide +kernel)
    go_wp2
    go_ret2
    exact ps_mk [fD, fS, fU5] rfl rfl KU.out rfl rfl (by decide)
  case inr.inr.inr.inr.inr.inr.inr.inr.inr.inr.inr.inr.inr.inr.inr.inr.inr.inl =>
    obtain rfl : B = 0 := HB.out.trans (by decide +kernel)
    go_wp2
    go_ret2
    exact ps_mk [fD, fS, fT] rfl rfl KU.out rfl rfl (by decide)
  case inr.inr.inr.inr.inr.inr.inr.inr.inr.inr.inr.inr.inr.inr.inr.inr.inr.inr.inl =>
    obtain rfl : B = 0 := HB.out.trans (by decide +kernel)
    go_wp2
    go_ret2
    exact ps_mk [fD, fS, fT] rfl rfl KU.out rfl rfl (by decide)
  case inr.inr.inr.inr.inr.inr.inr.inr.inr.inr.inr.inr.inr.inr.inr.inr.inr.inr.inr.inl =>
    obtain rfl : B = 0 := HB.out.trans (by decide +kernel)
    go_wp2
    go_ret2
    exact ps_mk [fD, fS, fT] rfl rfl KU.out rfl rfl (by decide)
  case inr.inr.inr.inr.inr.inr.inr.inr.inr.inr.inr.inr.inr.inr.inr.inr.inr.inr.inr.inr.inl =>
    obtain rfl : B = 12 := HB.out.trans (by decide +kernel)
    go_wp2
    go_ret2
    exact ps_mk [fD, fS, fI122] rfl rfl KU.out rfl rfl (by decide)
  case inr.inr.inr.inr.inr.inr.inr.inr.inr.inr.inr.inr.inr.inr.inr.inr.inr.inr.inr.inr.inr.inl =>
    obtain rfl : B = 12 := HB.out.trans (by decide +kernel)
    go_wp2
    go_ret2
    exact ps_mk [fD, fS, fI121] rfl rfl KU.out rfl rfl (by decide)
  case inr.inr.inr.inr.inr.inr.inr.inr.inr.inr.inr.inr.inr.inr.inr.inr.inr.inr.inr.inr.inr.inr.inl =>
    obtain rfl : B = 12 := HB.out.trans (by decide +kernel)
    go_wp2
    go_ret2
    exact ps_mk [fD, fS, fI12] rfl rfl KU.out rfl rfl (by decide)
  case inr.inr.inr.inr.inr.inr.inr.inr.inr.inr.inr.inr.inr.inr.inr.inr.inr.inr.inr.inr.inr.inr.inr.inl =>
    obtain rfl : B = 12 := HB.out.trans (by decide +kernel)
    go_wp2
    go_ret2
    exact ps_mk [fS, fNew, fT, fI122] rfl rfl KU.out rfl rfl (by decide)
  case inr.inr.inr.inr.inr.inr.inr.inr.inr.inr.inr.inr.inr.inr.inr.inr.inr.inr.inr.inr.inr.inr.inr.inr.inl =>
    obtain rfl : B = 12 := HB.out.trans (by decide +kernel)
    go_wp2
    go_ret2
    exact ps_mk [fS, fNew, fT, fI121] rfl rfl KU.out rfl rfl (by decide)
  case inr.inr.inr.inr.inr.inr.inr.inr.inr.inr.inr.inr.inr.inr.inr.inr.inr.inr.inr.inr.inr.inr.inr.inr.inr.inl =>
    obtain rfl : B = 12 := HB.out.trans (by decide +kernel)
    go_wp2
    go_ret2
    exact ps_mk [fS, fNew, fT, fI12] rfl rfl KU.out rfl rfl (by decide)
  case inr.inr.inr.inr.inr.inr.inr.inr.inr.inr.inr.inr.inr.inr.inr.inr.inr.inr.inr.inr.inr.inr.inr.inr.inr.inr.inl =>
    obtain rfl : B = 19 := HB.out.trans (by decide +kernel)
    go_wp2
    go_ret2
    exact ps_mk [fMode, fPred, fR19] rfl rfl KU.out rfl rfl (by decide)
  case inr.inr.inr.inr.inr.inr.inr.inr.inr.inr.inr.inr.inr.inr.inr.inr.inr.inr.inr.inr.inr.inr.inr.inr.inr.inr.inr.inl =>
    obtain rfl : B = 0 := HB.out.trans (by decide +kernel)
    go_wp2
    go_ret2
    exact ps_mk [fMode, fPred, fS] rfl rfl KU.out rfl rfl (by decide)
  case inr.inr.inr.inr.inr.inr.inr.inr.inr.inr.inr.inr.inr.inr.inr.inr.inr.inr.inr.inr.inr.inr.inr.inr.inr.inr.inr.inr.inl =>
    obtain rfl : B = 24 := HB.out.trans (by decide +kernel)
    go_wp2
    go_ret2
    exact ps_mk [fR24] rfl rfl KU.out rfl rfl (by decide)
  case inr.inr.inr.inr.inr.inr.inr.inr.inr.inr.inr.inr.inr.inr.inr.inr.inr.inr.inr.inr.inr.inr.inr.inr.inr.inr.inr.inr.inr.inl =>
    obtain rfl : B = 12 := HB.out.trans (by decide +kernel)
    go_wp2
    go_ret2
    exact ps_mk [fN, fR12, fCount] rfl rfl KU.out rfl rfl (by decide)
  case inr.inr.inr.inr.inr.inr.inr.inr.inr.inr.inr.inr.inr.inr.inr.inr.inr.inr.inr.inr.inr.inr.inr.inr.inr.inr.inr.inr.inr.inr.inl =>
    obtain rfl : B = 12 := HB.out.trans (by decide +kernel)
    go_wp2
    go_ret2
    exact ps_mk [fN, fR12, fS] rfl rfl KU.out rfl rfl (by decide)
  case inr.inr.inr.inr.inr.inr.inr.inr.inr.inr.inr.inr.inr.inr.inr.inr.inr.inr.inr.inr.inr.inr.inr.inr.inr.inr.inr.inr.inr.inr.inr =>
    have n1 : (op == 1) = false := beq_eq_false_iff_ne.2 (by omega)
    have n2 : (op == 2) = false := beq_eq_false_iff_ne.2 (by omega)
    have n3 : (op == 3) = false := beq_eq_false_iff_ne.2 (by omega)
    have n4 : (op == 4) = false := beq_eq_false_iff_ne.2 (by omega)
    have n5 : (op == 5) = false := beq_eq_false_iff_ne.2 (by omega)
    have n6 : (op == 6) = false := beq_eq_false_iff_ne.2 (by omega)
    have n7 : (op == 7) = false := beq_eq_false_iff_ne.2 (by omega)
    have n8 : (op == 8) = false := beq_eq_false_iff_ne.2 (by omega)
    have n9 : (op == 9) = false := beq_eq_false_iff_ne.2 (by omega)
    have n10 : (op == 10) = false := beq_eq_false_iff_ne.2 (by omega)
    have n11 : (op == 11) = false := beq_eq_false_iff_ne.2 (by omega)
    have n12 : (op == 12) = false := beq_eq_false_iff_ne.2 (by omega)
    have n13 : (op == 13) = false := beq_eq_false_iff_ne.2 (by omega)
    have n14 : (op == 14) = false := beq_eq_false_iff_ne.2 (by omega)
    have n15 : (op == 15) = false := beq_eq_false_iff_ne.2 (by omega)
    have n16 : (op == 16) = false := beq_eq_false_iff_ne.2 (by omega)
    have n17 : (op == 17) = false := beq_eq_false_iff_ne.2 (by omega)
    have n18 : (op == 18) = false := beq_eq_false_iff_ne.2 (by omega)
    have n19 : (op == 19) = false := beq_eq_false_iff_ne.2 (by omega)
    have n20 : (op == 20) = false := beq_eq_false_iff_ne.2 (by omega)
    have n21 : (op == 21) = false := beq_eq_false_iff_ne.2 (by omega)
    have n22 : (op == 22) = false := beq_eq_false_iff_ne.2 (by omega)
    have n23 : (op == 23) = false := beq_eq_false_iff_ne.2 (by omega)
    have n24 : (op == 24) = false := beq_eq_false_iff_ne.2 (by omega)
    have n25 : (op == 25) = false := beq_eq_false_iff_ne.2 (by omega)
    have n26 : (op == 26) = false := beq_eq_false_iff_ne.2 (by omega)
    have n27 : (op == 27) = false := beq_eq_false_iff_ne.2 (by omega)
    have n28 : (op == 28) = false := beq_eq_false_iff_ne.2 (by omega)
    have n29 : (op == 29) = false := beq_eq_false_iff_ne.2 (by omega)
    have n30 : (op == 30) = false := beq_eq_false_iff_ne.2 (by omega)
    have n31 : (op == 31) = false := beq_eq_false_iff_ne.2 (by omega)
    have e1 : isOp op = false := by unfold isOp; simp; omega
    have e2 : fieldsZ (opN op) = [] := by unfold opN; rw [e1]; rfl
    have E := Lib.hid (And.intro e1 e2)
    clear e1 e2 hc
    go_wp2
    go_ret2
    exact ps_nil E.out.2 E.out.1 KU.out
end
end Go.Proofs.YtjeemiabddblhaaDoor
