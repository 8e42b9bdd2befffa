/- Insertion into a sorted list, by exchanging neighbours, for lists of anything and any order that is total; no condition but those named. · What slices.SortFunc does to at most 12 structs of a call's own, whatever function is handed in: the same ones, in order. -/
import Derived.Test.YtanjmoiepmadhaaGreatDoorGBase
import Derived.Test.YtanjmoiepmadhaaGreatDoorGRules
import Derived.Test.YtanjmoiepmadhaaGreatDoorGLegal
import Derived.BigRegion
namespace Go.Proofs.YtanjmoiepmadhaaGreatDoor
section
set_option maxRecDepth 100000

section
variable {α : Type} (le : α → α → Bool)
/-- The first k stand in order. -/
def InRow (xs : List α) (k : Nat) : Prop := ∀ p q (_ : p < q) (_ : q < k) (hq : q < xs.length), le (xs[p]'(by omega)) xs[q] = true
/-- All but the one at j of the first i + 1 stand in order, and it is ahead of those behind it. -/
structure Insd (xs : List α) (i j : Nat) : Prop where
  lt : i < xs.length
  jle : j ≤ i
  rest : ∀ p q (_ : p < q) (hq : q ≤ i), p ≠ j → q ≠ j → le (xs[p]'(by omega)) (xs[q]'(by omega)) = true
  after : ∀ q (_ : j < q) (hq : q ≤ i), le (xs[j]'(by omega)) (xs[q]'(by omega)) = true
variable {le}
theorem inrow_one (xs : List α) : InRow le xs 1 := fun p q h1 h2 _ => by omega
theorem inrow_all {xs : List α} (h : InRow le xs xs.length) : xs.Pairwise (fun a b => le a b = true) := List.pairwise_iff_getElem.2 fun p q _ hq hpq => h p q hpq hq hq
theorem ins_start {xs : List α} {i : Nat} (h : InRow le xs i) (hi : i < xs.length) : Insd le xs i i := ⟨hi, Nat.le_refl _, fun p q hpq hq h1 h2 => h p q hpq (by omega) (by omega), fun q h1 h2 => by omega⟩
theorem ins_swap {xs : List α} {i j : Nat} (h : Insd le xs i j) (hj : 0 < j) (x y : α) (hx : xs[j]'(by have := h.lt; have := h.jle; omega) = x) (hy : xs[j - 1]'(by have := h.lt; have := h.jle; omega) = y) (hle : le x y = true) : Insd le ((xs.set j y).set (j - 1) x) i (j - 1) := by
  have hlt := h.lt
  have hjle := h.jle
  have at_ : ∀ t (ht : t < xs.length), ((xs.set j y).set (j - 1) x)[t]'(by simpa using ht) = if t = j - 1 then x else if t = j then y else xs[t] := fun t ht => by
    rw [List.getElem_set, List.getElem_set]
    repeat' split
    all_goals first | rfl | (exfalso; omega)
  refine ⟨by simpa using hlt, by omega, fun p q hpq hq h1 h2 => ?_, fun q h1 hq => ?_⟩
  · rw [at_ p (by omega), at_ q (by omega), if_neg h1, if_neg h2]
    by_cases hp : p = j
    · rw [if_pos hp, if_neg (by omega), ← hy]
      exact h.rest (j - 1) q (by omega) hq (by omega) (by omega)
    · rw [if_neg hp]
      by_cases hq2 : q = j
      · rw [if_pos hq2, ← hy]
        exact h.rest p (j - 1) (by omega) (by omega) hp (by omega)
      · rw [if_neg hq2]
        exact h.rest p q hpq hq hp hq2
  · rw [at_ (j - 1) (by omega), at_ q (by omega), if_pos rfl, if_neg (by omega)]
    by_cases hq2 : q = j
    · rw [if_pos hq2]
      exact hle
    · rw [if_neg hq2, ← hx]
      exact h.after q (by omega) hq
theorem ins_stop {xs : List α} {i j : Nat} (trans : ∀ a b c, le a b = true → le b c = true → le a c = true) (h : Insd le xs i j) (hd : j = 0 ∨ le (xs[j - 1]'(by have := h.lt; have := h.jle; omega)) (xs[j]'(by have := h.lt; have := h.jle; omega)) = true) : InRow le xs (i + 1) := by
  have hlt := h.lt
  have hjle := h.jle
  intro p q hpq hq hql
  by_cases hp : p = j
  · subst hp
    exact h.after q hpq (by omega)
  · by_cases hq2 : q = j
    · subst hq2
      have hd2 := hd.resolve_left (by omega)
      by_cases hp1 : p = q - 1
      · subst hp1
        exact hd2
      · exact trans _ _ _ (h.rest p (q - 1) (by omega) (by omega) hp (by omega)) hd2
    · exact h.rest p q hpq (by omega) hp hq2
theorem near_perm {xs : List α} {j : Nat} (hl : j < xs.length) (x y : α) (hx : xs[j] = x) (hy : xs[j - 1] = y) : ((xs.set j y).set (j - 1) x).Perm xs := by
  subst hx hy
  have h := Array.swap_perm (xs := xs.toArray) (i := j) (j := j - 1) (by simpa using hl) (by simp; omega)
  have h2 := h.toList
  simpa [Array.swap] using h2
theorem near_perm' {xs : List α} {j k : Nat} (hk : k + 1 = j) (hl : j < xs.length) (x y : α) (hx : xs[j] = x) (hy : xs[k]'(by omega) = y) : ((xs.set j y).set k x).Perm xs := by
  subst hk
  exact near_perm hl x y hx hy
theorem ins_swap' {xs : List α} {i j k : Nat} (h : Insd le xs i j) (hk : k + 1 = j) (hl : j < xs.length) (x y : α) (hx : xs[j] = x) (hy : xs[k]'(by omega) = y) (hle : le x y = true) : Insd le ((xs.set j y).set k x) i k := by
  subst hk
  exact ins_swap h (by omega) x y hx hy hle
theorem ins_stop' {xs : List α} {i j k : Nat} (trans : ∀ a b c, le a b = true → le b c = true → le a c = true) (h : Insd le xs i j) (hk : k + 1 = j) (hl : j < xs.length) (x y : α) (hx : xs[j] = x) (hy : xs[k]'(by omega) = y) (hle : le y x = true) : InRow le xs (i + 1) := by
  subst hk hx hy
  exact ins_stop trans h (.inr hle)
end
end
section
set_option maxRecDepth 100000
open Go.ChangeShapes Go.WideShapes Go.ChangeAt Go.RowKit Go.Sort BigFrame

structure Ent where
  x : In
  rank : Int
  word : Int
  upper : Int
  ext : Bool
def Ent.cells (e : Ent) : List Value := [.int .u8 e.x.op, .int .u8 e.x.d, .int .u8 e.x.s, .int .u8 e.x.t, .int .u8 e.x.n, .int .u8 e.x.pred, .int .u8 e.x.mode, .bool e.x.new, .bool e.x.ext, .int .u16 e.x.count, .int .i64 e.x.imm, .int .i64 e.rank, .int .u32 e.word, .int .u32 e.upper, .bool e.ext]
abbrev Ent.val (e : Ent) : Value := .agg #[.int .u8 e.x.op, .int .u8 e.x.d, .int .u8 e.x.s, .int .u8 e.x.t, .int .u8 e.x.n, .int .u8 e.x.pred, .int .u8 e.x.mode, .bool e.x.new, .bool e.x.ext, .int .u16 e.x.count, .int .i64 e.x.imm, .int .i64 e.rank, .int .u32 e.word, .int .u32 e.upper, .bool e.ext]
abbrev flatE (l : List Ent) : List Value := l.flatMap Ent.cells
theorem flatE_len : ∀ l : List Ent, (flatE l).length = l.length * 15
  | [] => rfl
  | x :: l => by
    have e : flatE (x :: l) = x.cells ++ flatE l := rfl
    have hl : x.cells.length = 15 := rfl
    rw [e, List.length_append, flatE_len l, List.length_cons, hl]
    omega
theorem flatE_at : ∀ (l : List Ent) (t r : Nat) (h : t < l.length), r < 15 → (flatE l)[t * 15 + r]? = (l[t].cells)[r]?
  | x :: l, 0, r, _, hr => by
    have hl : x.cells.length = 15 := rfl
    simp only [flatE, List.flatMap_cons, Nat.zero_mul, Nat.zero_add, List.getElem_cons_zero]
    rw [List.getElem?_append_left (by omega)]
  | x :: l, t + 1, r, h, hr => by
    have hl : x.cells.length = 15 := rfl
    simp only [flatE, List.flatMap_cons, List.getElem_cons_succ]
    rw [List.getElem?_append_right (by omega), show (t + 1) * 15 + r - x.cells.length = t * 15 + r by omega]
    exact flatE_at l t r (by simpa using h) hr
/-- One stored cell by cell. -/
abbrev putE (w : World) (g o : Nat) (e : Ent) : World :=
  (((((((((((((((w.setCell ⟨g, o, none⟩ (.int .u8 e.x.op)).setCell ⟨g, o + 1, none⟩ (.int .u8 e.x.d)).setCell ⟨g, o + 2, none⟩ (.int .u8 e.x.s)).setCell ⟨g, o + 3, none⟩ (.int .u8 e.x.t)).setCell ⟨g, o + 4, none⟩ (.int .u8 e.x.n)).setCell ⟨g, o + 5, none⟩ (.int .u8 e.x.pred)).setCell ⟨g, o + 6, none⟩ (.int .u8 e.x.mode)).setCell ⟨g, o + 7, none⟩ (.bool e.x.new)).setCell ⟨g, o + 8, none⟩ (.bool e.x.ext)).setCell ⟨g, o + 9, none⟩ (.int .u16 e.x.count)).setCell ⟨g, o + 10, none⟩ (.int .i64 e.x.imm)).setCell ⟨g, o + 11, none⟩ (.int .i64 e.rank)).setCell ⟨g, o + 12, none⟩ (.int .u32 e.word)).setCell ⟨g, o + 13, none⟩ (.int .u32 e.upper)).setCell ⟨g, o + 14, none⟩ (.bool e.ext))
theorem flatE_set : ∀ (l : List Ent) (t : Nat) (_ : t < l.length) (e : Ent), ((((((((((((((((flatE l).set (t * 15) (.int .u8 e.x.op)).set (t * 15 + 1) (.int .u8 e.x.d)).set (t * 15 + 2) (.int .u8 e.x.s)).set (t * 15 + 3) (.int .u8 e.x.t)).set (t * 15 + 4) (.int .u8 e.x.n)).set (t * 15 + 5) (.int .u8 e.x.pred)).set (t * 15 + 6) (.int .u8 e.x.mode)).set (t * 15 + 7) (.bool e.x.new)).set (t * 15 + 8) (.bool e.x.ext)).set (t * 15 + 9) (.int .u16 e.x.count)).set (t * 15 + 10) (.int .i64 e.x.imm)).set (t * 15 + 11) (.int .i64 e.rank)).set (t * 15 + 12) (.int .u32 e.word)).set (t * 15 + 13) (.int .u32 e.upper)).set (t * 15 + 14) (.bool e.ext)) = flatE (l.set t e)
  | y :: l, 0, _, e => by simp [flatE, Ent.cells]
  | y :: l, t + 1, h, e => by
    have ih := flatE_set l t (by simpa using h) e
    have hc : ∀ (L : List Value) (j : Nat) (v : Value), (y.cells ++ L).set ((t + 1) * 15 + j) v = y.cells ++ L.set (t * 15 + j) v := fun L j v => by
      have hl : y.cells.length = 15 := rfl
      rw [List.set_append_right _ _ (by omega), hl, show (t + 1) * 15 + j - 15 = t * 15 + j by omega]
    have hc0 : ∀ (L : List Value) (v : Value), (y.cells ++ L).set ((t + 1) * 15) v = y.cells ++ L.set (t * 15) v := fun L v => hc L 0 v
    have e1 : flatE (y :: l) = y.cells ++ flatE l := rfl
    have e2 : flatE ((y :: l).set (t + 1) e) = y.cells ++ flatE (l.set t e) := rfl
    rw [e1, e2, hc0, hc, hc, hc, hc, hc, hc, hc, hc, hc, hc, hc, hc, hc, hc, ih]
/-- The structs that are sorted: in one block of the call's own. -/
structure SortAt (W : World) (B g c : Nat) (l : List Ent) (w : World) : Prop where
  made : Made W w
  low : W.heap.size ≤ B
  row : w.ownsRow B 93 15 (.slice (some ⟨g, 0, none⟩) l.length c) l.length (flatE l)
theorem SortAt.next {W w w' : World} {B g c : Nat} {l : List Ent} (h : SortAt W B g c l w) (hm : Made w w') : SortAt W B g c l w' := ⟨Made.trans h.made hm, h.low, owns_made h.row hm⟩
theorem SortAt.drew {W w : World} {B g c : Nat} {l : List Ent} (h : SortAt W B g c l w) : SortAt W B g c l w.drew := ⟨made_drew h.made, h.low, h.row.drew⟩
theorem SortAt.put {W w : World} {B g c : Nat} {l : List Ent} (h : SortAt W B g c l w) {t : Nat} (ht : t < l.length) (e : Ent) : SortAt W B g c (l.set t e) (putE w g (t * 15) e) := by
  have hlow := h.low
  have hgB : B ≤ g := (h.row.lt g rfl).1
  have hg : W.heap.size ≤ g := by omega
  refine ⟨(Below.setCell ((Below.setCell ((Below.setCell ((Below.setCell ((Below.setCell ((Below.setCell ((Below.setCell ((Below.setCell ((Below.setCell ((Below.setCell ((Below.setCell ((Below.setCell ((Below.setCell ((Below.setCell ((Below.setCell (h.made) (p := ⟨g, t * 15, none⟩) hg _)) (p := ⟨g, t * 15 + 1, none⟩) hg _)) (p := ⟨g, t * 15 + 2, none⟩) hg _)) (p := ⟨g, t * 15 + 3, none⟩) hg _)) (p := ⟨g, t * 15 + 4, none⟩) hg _)) (p := ⟨g, t * 15 + 5, none⟩) hg _)) (p := ⟨g, t * 15 + 6, none⟩) hg _)) (p := ⟨g, t * 15 + 7, none⟩) hg _)) (p := ⟨g, t * 15 + 8, none⟩) hg _)) (p := ⟨g, t * 15 + 9, none⟩) hg _)) (p := ⟨g, t * 15 + 10, none⟩) hg _)) (p := ⟨g, t * 15 + 11, none⟩) hg _)) (p := ⟨g, t * 15 + 12, none⟩) hg _)) (p := ⟨g, t * 15 + 13, none⟩) hg _)) (p := ⟨g, t * 15 + 14, none⟩) hg _), hlow, ?_⟩
  rw [List.length_set, ← flatE_set l t ht e]
  exact (((((((((((((((h.row.stored _ _).1.stored _ _).1.stored _ _).1.stored _ _).1.stored _ _).1.stored _ _).1.stored _ _).1.stored _ _).1.stored _ _).1.stored _ _).1.stored _ _).1.stored _ _).1.stored _ _).1.stored _ _).1.stored _ _).1
theorem SortAt.swap {W w : World} {B g c : Nat} {l : List Ent} (h : SortAt W B g c l w) {i j : Nat} (hi : i < l.length) (hj : j < l.length) (x y : Ent) : SortAt W B g c ((l.set i y).set j x) (putE (putE w g (i * 15) y) g (j * 15) x).drew :=
  ((h.put hi y).put (t := j) (by simpa using hj) x).drew
theorem SortAt.cells {W w : World} {B g c : Nat} {l : List Ent} (h : SortAt W B g c l w) {t : Nat} (ht : t < l.length) (e : Ent) (he : l[t] = e) : w.cell? ⟨g, t * 15, none⟩ = some (.int .u8 e.x.op) ∧ w.cell? ⟨g, t * 15 + 1, none⟩ = some (.int .u8 e.x.d) ∧ w.cell? ⟨g, t * 15 + 2, none⟩ = some (.int .u8 e.x.s) ∧ w.cell? ⟨g, t * 15 + 3, none⟩ = some (.int .u8 e.x.t) ∧ w.cell? ⟨g, t * 15 + 4, none⟩ = some (.int .u8 e.x.n) ∧ w.cell? ⟨g, t * 15 + 5, none⟩ = some (.int .u8 e.x.pred) ∧ w.cell? ⟨g, t * 15 + 6, none⟩ = some (.int .u8 e.x.mode) ∧ w.cell? ⟨g, t * 15 + 7, none⟩ = some (.bool e.x.new) ∧ w.cell? ⟨g, t * 15 + 8, none⟩ = some (.bool e.x.ext) ∧ w.cell? ⟨g, t * 15 + 9, none⟩ = some (.int .u16 e.x.count) ∧ w.cell? ⟨g, t * 15 + 10, none⟩ = some (.int .i64 e.x.imm) ∧ w.cell? ⟨g, t * 15 + 11, none⟩ = some (.int .i64 e.rank) ∧ w.cell? ⟨g, t * 15 + 12, none⟩ = some (.int .u32 e.word) ∧ w.cell? ⟨g, t * 15 + 13, none⟩ = some (.int .u32 e.upper) ∧ w.cell? ⟨g, t * 15 + 14, none⟩ = some (.bool e.ext) := by
  subst he
  have key : ∀ r, r < 15 → w.cell? ⟨g, t * 15 + r, none⟩ = (l[t].cells)[r]? := fun r hr => (h.row.cellAt (t * 15 + r) (by omega)).trans (flatE_at l t r ht hr)
  exact ⟨key 0 (by omega), key 1 (by omega), key 2 (by omega), key 3 (by omega), key 4 (by omega), key 5 (by omega), key 6 (by omega), key 7 (by omega), key 8 (by omega), key 9 (by omega), key 10 (by omega), key 11 (by omega), key 12 (by omega), key 13 (by omega), key 14 (by omega)⟩
/-- What the function that is handed in tells of each two. -/
abbrev CmpOf (W : World) (K : FuncId) (caps : Array Value) (cz : Ent → Ent → Int) (l : List Ent) : Prop := ∀ x ∈ l, ∀ y ∈ l, ∀ u : World, Made W u → Makes Tryz.prog u K (#[x.val, y.val] ++ caps) (.int .i64 (cz x y))
/-- The order that it tells. -/
abbrev leZ (cz : Ent → Ent → Int) (a b : Ent) : Bool := !decide (cz b a < 0)
/-- What stands behind the sort. -/
def SortedBy (W : World) (B g c : Nat) (cz : Ent → Ent → Int) (l : List Ent) (e : Ending) (w' : World) : Prop := e = .returned (.tuple #[]) ∧ ∃ l', l'.Perm l ∧ l'.Pairwise (fun a b => leZ cz a b = true) ∧ SortAt W B g c l' w'
section
attribute [local irreducible] World.cell?
set_option maxRecDepth 100000 in
set_option maxHeartbeats 32000000 in
theorem insertion_any (K : FuncId) (caps : Array Value) (cz : Ent → Ent → Int) (W : World) (B g c : Nat) (l : List Ent) (w : World) (hS : SortAt W B g c l w) (h0 : 0 < l.length) (hn : l.length ≤ 12) (hK : Enters K) (hcmp : CmpOf W K caps cz l)
    (htr : ∀ a b c, leZ cz a b = true → leZ cz b c = true → leZ cz a c = true) (hanti : ∀ a b, cz a b < 0 → leZ cz a b = true) :
    Calls Tryz.prog 128 #[.slice (some ⟨g, 0, none⟩) l.length c, .int .i64 0, .int .i64 l.length, .func (.func K) #[] caps] w (SortedBy W B g c cz l) := by
  have HS := Lib.hid hS
  have HC := Lib.hid hcmp
  have HTR := Lib.hid htr
  have HAN := Lib.hid hanti
  clear hS hcmp htr hanti
  go_enter Tryz.func128, Tryz.ntmps128
  go_wp2_with (fail)
  go_loopw [8] (fun v wr => ∃ (i : Nat) (m : List Ent), 1 ≤ i ∧ i ≤ l.length ∧ v = .int .i64 i ∧ m.Perm l ∧ InRow (leZ cz) m i ∧ SortAt W B g c m wr) (fun v _ => l.length - (intOf v).toNat)
  case atStart => exact ⟨1, l, by omega, by omega, rfl, List.Perm.refl _, inrow_one l, HS.out⟩
  case round =>
    obtain ⟨i, m, hi1, hi, rfl, hP, hpre, hR⟩ := hrel
    have HP := Lib.hid hP
    have HPR := Lib.hid hpre
    have HR := Lib.hid hR
    have hml : m.length = l.length := hP.length_eq
    clear hP hpre hR HS
    by_cases hlt : i < l.length
    · go_wp2_with (fail)
      go_loopw [9] (fun v wz => ∃ (j : Nat) (m : List Ent), j ≤ i ∧ v = .int .i64 j ∧ m.Perm l ∧ Insd (leZ cz) m i j ∧ SortAt W B g c m wz) (fun v _ => (intOf v).toNat)
      case atStart => exact ⟨i, m, Nat.le_refl _, rfl, HP.out, ins_start HPR.out (by omega), HR.out⟩
      case round =>
        clear HP HPR HR hml
        obtain ⟨j, m, hji, rfl, hP, hins, hR⟩ := hrel
        have HP := Lib.hid hP
        have HIN := Lib.hid hins
        have HR := Lib.hid hR
        have hml : m.length = l.length := hP.length_eq
        clear hP hins hR
        by_cases hj0 : 0 < j
        · obtain ⟨k, hk⟩ : ∃ k, k + 1 = j := ⟨j - 1, by omega⟩
          have hjl : j < m.length := by omega
          have hkl : k < m.length := by omega
          obtain ⟨x, hx⟩ : ∃ x, m[j] = x := ⟨_, rfl⟩
          obtain ⟨y, hy⟩ : ∃ y, m[k] = y := ⟨_, rfl⟩
          have hgt : decide ((j : Int) > 0) = true := decide_eq_true (by omega)
          have hwr : IntKind.i64.wrap ((j : Int) - 1) = (k : Int) := by rw [IntKind.wrap_i64]; omega
          have hj1 : (0 : Int) ≤ (j : Int) := by omega
          have hj2 : (j : Int) < (l.length : Int) := by omega
          have hk1 : (0 : Int) ≤ (k : Int) := by omega
          have hk2 : (k : Int) < (l.length : Int) := by omega
          have HM := Lib.hid (HC.out x (HP.out.mem_iff.1 (hx ▸ List.getElem_mem hjl)) y (HP.out.mem_iff.1 (hy ▸ List.getElem_mem hkl)) wr HR.out.made)
          obtain ⟨c0, c1, c2, c3, c4, c5, c6, c7, c8, c9, c10, c11, c12, c13, c14⟩ := HR.out.cells hjl x hx
          obtain ⟨d0, d1, d2, d3, d4, d5, d6, d7, d8, d9, d10, d11, d12, d13, d14⟩ := HR.out.cells hkl y hy
          have lg := (HR.out.row.lt g rfl).2
          have HX := Lib.hid hx
          have HY := Lib.hid hy
          clear hx hy
          have gc0 := fun u os => cell_regrown c0 u os
          have gc1 := fun u os => cell_regrown c1 u os
          have gc2 := fun u os => cell_regrown c2 u os
          have gc3 := fun u os => cell_regrown c3 u os
          have gc4 := fun u os => cell_regrown c4 u os
          have gc5 := fun u os => cell_regrown c5 u os
          have gc6 := fun u os => cell_regrown c6 u os
          have gc7 := fun u os => cell_regrown c7 u os
          have gc8 := fun u os => cell_regrown c8 u os
          have gc9 := fun u os => cell_regrown c9 u os
          have gc10 := fun u os => cell_regrown c10 u os
          have gc11 := fun u os => cell_regrown c11 u os
          have gc12 := fun u os => cell_regrown c12 u os
          have gc13 := fun u os => cell_regrown c13 u os
          have gc14 := fun u os => cell_regrown c14 u os
          have gd0 := fun u os => cell_regrown d0 u os
          have gd1 := fun u os => cell_regrown d1 u os
          have gd2 := fun u os => cell_regrown d2 u os
          have gd3 := fun u os => cell_regrown d3 u os
          have gd4 := fun u os => cell_regrown d4 u os
          have gd5 := fun u os => cell_regrown d5 u os
          have gd6 := fun u os => cell_regrown d6 u os
          have gd7 := fun u os => cell_regrown d7 u os
          have gd8 := fun u os => cell_regrown d8 u os
          have gd9 := fun u os => cell_regrown d9 u os
          have gd10 := fun u os => cell_regrown d10 u os
          have gd11 := fun u os => cell_regrown d11 u os
          have gd12 := fun u os => cell_regrown d12 u os
          have gd13 := fun u os => cell_regrown d13 u os
          have gd14 := fun u os => cell_regrown d14 u os
          rewrite [← hml] at hj2 hk2
          obtain ⟨q, hq⟩ : ∃ q, decide (cz x y < 0) = q := ⟨_, rfl⟩
          go_upto_region 4 with (fail)
          refine wp_region_quiet_below (by kernel_rfl) (by kernel_rfl) ?_
          repeat (go_big_quiet_step ((with_reducible exact HM.out.again _ _)))
          refine wpQuiet_nil ?_
          intro z hz
          have RZ := Lib.hid (HR.out.next (made_regrown hz))
          clear hz HM HR gc0 c0 gc1 c1 gc2 c2 gc3 c3 gc4 c4 gc5 c5 gc6 c6 gc7 c7 gc8 c8 gc9 c9 gc10 c10 gc11 c11 gc12 c12 gc13 c13 gc14 c14 gd0 d0 gd1 d1 gd2 d2 gd3 d3 gd4 d4 gd5 d5 gd6 d6 gd7 d7 gd8 d8 gd9 d9 gd10 d10 gd11 d11 gd12 d12 gd13 d13 gd14 d14
          have HQ := Lib.hid hq
          clear hq
          cases q
          case true =>
            have hc : cz x y < 0 := of_decide_eq_true HQ.out
            have HSW := Lib.hid (RZ.out.swap hjl hkl x y)
            have HNP := Lib.hid ((near_perm' hk hjl x y HX.out HY.out).trans HP.out)
            have HNI := Lib.hid (ins_swap' HIN.out hk hjl x y HX.out HY.out (HAN.out x y hc))
            obtain ⟨c0, c1, c2, c3, c4, c5, c6, c7, c8, c9, c10, c11, c12, c13, c14⟩ := RZ.out.cells hjl x HX.out
            obtain ⟨d0, d1, d2, d3, d4, d5, d6, d7, d8, d9, d10, d11, d12, d13, d14⟩ := RZ.out.cells hkl y HY.out
            have fr := RZ.out.row.frozenAt
            have lg := (RZ.out.row.lt g rfl).2
            clear hc
            go_upto_region 6 with (fail)
            go_region
            all_goals
              go_upto_region 5 with (fail)
              refine name_world (fun u => SortAt W B g c ((m.set j y).set k x) u) HSW.out ?_
              intro u3 hu3
              have KS := Lib.hid hu3
              clear hu3 HSW fr lg c0 d0 c1 d1 c2 d2 c3 d3 c4 d4 c5 d5 c6 d6 c7 d7 c8 d8 c9 d9 c10 d10 c11 d11 c12 d12 c13 d13 c14 d14
              go_wp2
              go_roundw
              case rel => exact ⟨k, (m.set j y).set k x, by omega, by go_num, HNP.out, HNI.out, KS.out⟩
              case measure => simp [intOf]; omega
          case false =>
            have HPP := Lib.hid (ins_stop' HTR.out HIN.out hk hjl x y HX.out HY.out (by unfold leZ; rw [HQ.out]; rfl))
            go_wp2
            go_roundw
            case rel => exact ⟨i + 1, m, by omega, by omega, by go_num, HP.out, HPP.out, RZ.out⟩
            case measure => simp [intOf]; omega
        · have HPP := Lib.hid (ins_stop HTR.out HIN.out (.inl (by omega)))
          obtain rfl : j = 0 := by omega
          clear hj0
          go_upto_region 4 with (fail)
          go_quiet (fail)
          rename_i nq
          have RZ := Lib.hid (HR.out.next (below_drewN (Made.refl wr) nq))
          go_wp2
          go_roundw
          case rel => exact ⟨i + 1, m, by omega, by omega, by go_num, HP.out, HPP.out, RZ.out⟩
          case measure => simp [intOf]; omega
    · obtain rfl : i = l.length := by omega
      have HPA := Lib.hid (inrow_all (by have h := HPR.out; rw [← hml] at h; exact h))
      go_wp2
      go_end0
      exact ⟨rfl, m, HP.out, HPA.out, HR.out⟩
set_option maxHeartbeats 4000000 in
set_option maxRecDepth 100000 in
theorem len64_dozen (n : Int) (h0 : 0 ≤ n) (h1 : n ≤ 12) (w : World) : Calls Tryz.prog 137 #[.int .u64 n] w fun e w' => (∃ r : Int, e = .returned (.int .i64 r)) ∧ w = w' := by
  go_enter Tryz.func137, Tryz.ntmps137
  go_wp2
  go_ret
  exact ⟨⟨_, rfl⟩, rfl⟩
theorem len_dozen (n : Int) (h0 : 0 ≤ n) (h1 : n ≤ 12) (w : World) : Calls Tryz.prog 95 #[.int .u64 n] w fun e w' => (∃ r : Int, e = .returned (.int .i64 r)) ∧ w = w' := by
  go_enter Tryz.func95, Tryz.ntmps95
  go_wp2_with (go_at_call 137; refine (len64_dozen _ h0 h1 _).mono ?_; rintro e w' ⟨⟨r, rfl⟩, rfl⟩)
  go_ret
  exact ⟨⟨_, rfl⟩, rfl⟩
set_option maxRecDepth 100000 in
theorem pdq_any (K : FuncId) (caps : Array Value) (cz : Ent → Ent → Int) (W : World) (B g c : Nat) (l : List Ent) (r : Int) (w : World) (hS : SortAt W B g c l w) (h0 : 0 < l.length) (hn : l.length ≤ 12) (hK : Enters K) (hcmp : CmpOf W K caps cz l)
    (htr : ∀ a b c, leZ cz a b = true → leZ cz b c = true → leZ cz a c = true) (hanti : ∀ a b, cz a b < 0 → leZ cz a b = true) :
    Calls Tryz.prog 94 #[.slice (some ⟨g, 0, none⟩) l.length c, .int .i64 0, .int .i64 l.length, .int .i64 r, .func (.func K) #[] caps] w (SortedBy W B g c cz l) := by
  have H := Lib.hid (insertion_any K caps cz W B g c l w hS h0 hn hK hcmp htr hanti)
  have hle : decide ((l.length : Int) ≤ 12) = true := decide_eq_true (by omega)
  clear hS hcmp htr hanti
  go_enter Tryz.func94, Tryz.ntmps94
  go_wp2_with (fail)
  refine wp_loop_rounds 1 ?_
  rewrite [rounds_succ]
  go_wp2_with (fail)
  refine H.out.mono ?_
  rintro e w' ⟨rfl, h⟩
  have HS := Lib.hid h
  clear h
  go_wp2
  refine bodyPost_ret (results_none rfl _ _ _) rfl ?_
  exact ⟨rfl, HS.out⟩
set_option maxRecDepth 100000 in
theorem sort_any (K : FuncId) (caps : Array Value) (cz : Ent → Ent → Int) (W : World) (B g c : Nat) (l : List Ent) (w : World) (hS : SortAt W B g c l w) (h0 : 0 < l.length) (hn : l.length ≤ 12) (hK : Enters K) (hcmp : CmpOf W K caps cz l)
    (htr : ∀ a b c, leZ cz a b = true → leZ cz b c = true → leZ cz a c = true) (hanti : ∀ a b, cz a b < 0 → leZ cz a b = true) :
    Calls Tryz.prog 62 #[.slice (some ⟨g, 0, none⟩) l.length c, .func (.func K) #[] caps] w (SortedBy W B g c cz l) := by
  have H := Lib.hid (fun r => pdq_any K caps cz W B g c l r w hS h0 hn hK hcmp htr hanti)
  clear hS hcmp htr hanti
  go_enter Tryz.func62, Tryz.ntmps62
  go_wp2_with (fail)
  refine (len_dozen l.length (by omega) (by omega) w).mono ?_
  rintro e w' ⟨⟨r, rfl⟩, rfl⟩
  go_wp2_with (fail)
  refine (H.out r).mono ?_
  rintro e w' ⟨rfl, h⟩
  have HS := Lib.hid h
  clear h
  go_wp2
  go_end0
  exact ⟨rfl, HS.out⟩
theorem insertion_none (p : Option Addr) (c : Nat) (fv : Value) (w : World) : Calls Tryz.prog 128 #[.slice p 0 c, .int .i64 0, .int .i64 0, fv] w fun e w' => e = .returned (.tuple #[]) ∧ w = w' := by
  go_enter Tryz.func128, Tryz.ntmps128
  go_wp2_with (fail)
  refine wp_loop_rounds 1 ?_
  rewrite [rounds_succ]
  go_wp2
  go_end0
  exact ⟨rfl, rfl⟩
theorem pdq_none (p : Option Addr) (c : Nat) (fv : Value) (r : Int) (w : World) : Calls Tryz.prog 94 #[.slice p 0 c, .int .i64 0, .int .i64 0, .int .i64 r, fv] w fun e w' => e = .returned (.tuple #[]) ∧ w = w' := by
  go_enter Tryz.func94, Tryz.ntmps94
  go_wp2_with (fail)
  refine wp_loop_rounds 1 ?_
  rewrite [rounds_succ]
  go_wp2_with (fail)
  refine (insertion_none p c fv w).mono ?_
  rintro e w' ⟨rfl, rfl⟩
  go_wp2
  refine bodyPost_ret (results_none rfl _ _ _) rfl ?_
  exact ⟨rfl, rfl⟩
theorem sort_none (p : Option Addr) (c : Nat) (fv : Value) (w : World) : Calls Tryz.prog 62 #[.slice p 0 c, fv] w fun e w' => e = .returned (.tuple #[]) ∧ w = w' := by
  go_enter Tryz.func62, Tryz.ntmps62
  go_wp2_with (fail)
  refine (len_dozen 0 (by omega) (by omega) w).mono ?_
  rintro e w' ⟨⟨r, rfl⟩, rfl⟩
  go_wp2_with (fail)
  refine (pdq_none p c fv r w).mono ?_
  rintro e w' ⟨rfl, rfl⟩
  go_wp2
  go_end0
  exact ⟨rfl, rfl⟩
end
end
end Go.Proofs.YtanjmoiepmadhaaGreatDoor
