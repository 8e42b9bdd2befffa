/- The scanner of package lex in memory: its variable, its two rows; what column, read and takes return; no condition but those named. -/
import Derived.Test.YtnfmlmamgkpocaaGreatDoorGLexR
import Derived.Test.YtnfmlmamgkpocaaGreatDoorGLexF
import Derived.Test.YtnfmlmamgkpocaaGreatDoorGBase
import Derived.OwnWalk
import Derived.Deep.Cut
namespace Go.Proofs.YtnfmlmamgkpocaaGreatDoor
open Go.ChangeShapes Go.WideShapes Go.ChangeAt Go.RowKit Go.Sort BigFrame

theorem row_far {w : World} {B s n b : Nat} {T TL : TypeId} {v : Value} {xs : List Value} {cs : Array Value} {fr : Nat × Nat} (h : w.ownsRow B T s v n xs) (hb : w.heap[b]? = some (.cells cs TL fr)) (hT : T ≠ TL) : ∀ g, v.ownBlock = some g → g ≠ b := by
  intro g hg e
  subst e
  rcases h.2 with ⟨rfl, _⟩ | ⟨a, _, _, rfl, _, ha, _⟩
  · simp [Value.ownBlock] at hg
  simp only [Value.ownBlock, Option.some.injEq] at hg
  subst hg
  rw [ha] at hb
  simp only [Option.some.injEq, Obj.cells.injEq] at hb
  exact hT hb.2.1
abbrev TT : TypeId := 46
abbrev TD : TypeId := 65
abbrev TL : TypeId := 116
theorem tt_td : TT ≠ 64 ∧ TT ≠ TD ∧ TT ≠ TL ∧ TD ≠ TL := by decide
abbrev lxCells (S : ByteArray) (f t ln lb : Int) (v1 v2 : Value) : List Value := [.string S, .int .i64 f, .int .i64 t, .int .i64 ln, .int .i64 lb, v1, v2]
/-- The scanner's variable in block b, whose parts for the rows are c1 and c2; the rows themselves are v1 and v2. -/
structure LxP (W : World) (b : Nat) (S : ByteArray) (f t ln lb : Int) (c1 c2 v1 v2 : Value) (l1 : List Tk) (l2 : List Wr) (w : World) : Prop where
  two : LineTwo TT TD W v1 v2 l1 l2 w
  blk : w.heap[b]? = some (.cells (lxCells S f t ln lb c1 c2).toArray TL (0, 0))
  lo : W.heap.size ≤ b
section
variable {W w w1 : World} {b : Nat} {S : ByteArray} {f t ln lb : Int} {c1 c2 v1 v2 : Value} {l1 : List Tk} {l2 : List Wr}
theorem LxP.made (h : LxP W b S f t ln lb c1 c2 v1 v2 l1 l2 w) : Made W w := h.two.made
theorem LxP.next (h : LxP W b S f t ln lb c1 c2 v1 v2 l1 l2 w) (hm : Made w w1) : LxP W b S f t ln lb c1 c2 v1 v2 l1 l2 w1 := ⟨h.two.next hm, hm.heap h.blk, h.lo⟩
theorem LxP.set (h : LxP W b S f t ln lb c1 c2 v1 v2 l1 l2 w) (j : Nat) (v : Value) {S' : ByteArray} {f' t' ln' lb' : Int} {c1' c2' : Value} (he : (lxCells S f t ln lb c1 c2).toArray.setIfInBounds j v = (lxCells S' f' t' ln' lb' c1' c2').toArray) :
    LxP W b S' f' t' ln' lb' c1' c2' v1 v2 l1 l2 (w.setCell ⟨b, j, none⟩ v) := by
  have hm : Made W (w.setCell ⟨b, j, none⟩ v) := Below.setCell h.two.made (p := ⟨b, j, none⟩) h.lo v
  have hb : ∀ g, g ≠ b → (w.setCell ⟨b, j, none⟩ v).heap[g]? = w.heap[g]? := fun g hg => heap_setCell_other w ⟨b, j, none⟩ g v hg
  refine ⟨⟨⟨hm, h.two.fst.low, owns_of_block h.two.fst.row fun g hg => hb g (row_far h.two.fst.row h.blk tt_td.2.2.1 g hg)⟩, ⟨hm, h.two.snd.low, owns_of_block h.two.snd.row fun g hg => hb g (row_far h.two.snd.row h.blk tt_td.2.2.2 g hg)⟩⟩, ?_, h.lo⟩
  have := heap_setCell_same w b j (lxCells S f t ln lb c1 c2).toArray TL v h.blk
  rwa [he] at this
theorem LxP.more1 {u1 : Value} {m1 : List Tk} {n : Nat} (h : LxP W b S f t ln lb c1 c2 v1 v2 l1 l2 w) (hn : l1.length + m1.length = n) (own : w1.ownsRow W.heap.size TT 5 u1 n (l1.flatMap Tk.cells ++ m1.flatMap Tk.cells)) (gr : w.grownBy w1 v1.ownBlock) : LxP W b S f t ln lb c1 c2 u1 v2 (l1 ++ m1) l2 w1 :=
  ⟨h.two.more1 tt_td.2.1 hn own gr, (gr.block b (heap_lt h.blk) fun e => row_far h.two.fst.row h.blk tt_td.2.2.1 b e.symm rfl).trans h.blk, h.lo⟩
theorem LxP.more2 {u2 : Value} {m2 : List Wr} {n : Nat} (h : LxP W b S f t ln lb c1 c2 v1 v2 l1 l2 w) (hn : l2.length + m2.length = n) (own : w1.ownsRow W.heap.size TD 3 u2 n (l2.flatMap Wr.cells ++ m2.flatMap Wr.cells)) (gr : w.grownBy w1 v2.ownBlock) : LxP W b S f t ln lb c1 c2 v1 u2 l1 (l2 ++ m2) w1 :=
  ⟨h.two.more2 tt_td.2.1 hn own gr, (gr.block b (heap_lt h.blk) fun e => row_far h.two.snd.row h.blk tt_td.2.2.2 b e.symm rfl).trans h.blk, h.lo⟩
theorem lx_cells (h : LxP W b S f t ln lb c1 c2 v1 v2 l1 l2 w) : w.cell? ⟨b, 0, none⟩ = some (.string S) ∧ w.cell? ⟨b, 1, none⟩ = some (.int .i64 f) ∧ w.cell? ⟨b, 2, none⟩ = some (.int .i64 t) ∧ w.cell? ⟨b, 3, none⟩ = some (.int .i64 ln) ∧ w.cell? ⟨b, 4, none⟩ = some (.int .i64 lb) ∧ w.cell? ⟨b, 5, none⟩ = some c1 ∧ w.cell? ⟨b, 6, none⟩ = some c2 :=
  ⟨cell_of_lit h.blk 0, cell_of_lit h.blk 1, cell_of_lit h.blk 2, cell_of_lit h.blk 3, cell_of_lit h.blk 4, cell_of_lit h.blk 5, cell_of_lit h.blk 6⟩
end
abbrev lxPtr (b : Nat) : Value := .pointer (some ⟨b, 0, none⟩)
section
attribute [local irreducible] World.cell?
variable {W : World} {b : Nat} {S : ByteArray} {c1 c2 v1 v2 : Value} {l1 : List Tk} {l2 : List Wr}
set_option maxRecDepth 100000 in
set_option maxHeartbeats 4000000 in
theorem column_any (f t ln lb : Int) (hf0 : 0 ≤ lb) (hf1 : lb ≤ f) (hf2 : f ≤ 100000) (u : World) (hu : LxP W b S f t ln lb c1 c2 v1 v2 l1 l2 u) : Makes Tryz.prog u 155 #[lxPtr b] (.int .i64 (f - lb + 1)) := by
  intro w hm
  have HM := Lib.hid hm
  obtain ⟨a0, a1, a2, a3, a4, a5, a6⟩ := lx_cells (hu.next hm)
  clear hm hu
  go_enter Tryz.func155, Tryz.ntmps155
  go_wp2_with (fail)
  go_quiet (fail)
  go_wp2
  go_ret
  exact ⟨rfl, below_drewN HM.out _⟩
set_option maxRecDepth 100000 in
set_option maxHeartbeats 4000000 in
theorem read_any (i j : Nat) (ln lb : Int) (hij : i ≤ j) (hj : j ≤ S.size) (u : World) (hu : LxP W b S i j ln lb c1 c2 v1 v2 l1 l2 u) : Makes Tryz.prog u 113 #[lxPtr b] (.string (S.extract i j)) := by
  intro w hm
  have HM := Lib.hid hm
  obtain ⟨a0, a1, a2, a3, a4, a5, a6⟩ := lx_cells (hu.next hm)
  have k0 : (0 : Int) ≤ (i : Int) := by omega
  have k1 : (i : Int) ≤ (j : Int) := by omega
  have k2 : (j : Int) ≤ (S.size : Int) := by omega
  clear hm hu
  go_enter Tryz.func113, Tryz.ntmps113
  go_wp2_with (fail)
  go_quiet (fail)
  go_wp2
  go_ret
  exact ⟨rfl, below_drewN HM.out _⟩
end
/-- Whether the next byte is taken. -/
def TookSays (W : World) (b : Nat) (S : ByteArray) (l : List UInt8) (p : UInt8 → Bool) (f : Int) (j : Nat) (ln lb : Int) (v1 v2 : Value) (l1 : List Tk) (l2 : List Wr) (e : Ending) (w' : World) : Prop :=
  (e = .returned (.bool true) ∧ LxP W b S f ((j : Int) + 1) ln lb v1 v2 v1 v2 l1 l2 w' ∧ ∃ h : j < l.length, p l[j] = true) ∨ (e = .returned (.bool false) ∧ LxP W b S f j ln lb v1 v2 v1 v2 l1 l2 w' ∧ ∀ h : j < l.length, p l[j] = false)
section
attribute [local irreducible] World.cell?
variable {W : World} {b : Nat} {S : ByteArray} {v1 v2 : Value} {l1 : List Tk} {l2 : List Wr}
set_option maxRecDepth 100000 in
set_option maxHeartbeats 4000000 in
theorem took_name (l : List UInt8) (hS : IsStr S l) (f : Int) (j : Nat) (ln lb : Int) (hj : j ≤ l.length) (hl : l.length ≤ 100000) (w : World) (hw : LxP W b S f j ln lb v1 v2 v1 v2 l1 l2 w) : Calls Tryz.prog 107 #[lxPtr b, .func (.func 108) #[] #[]] w (TookSays W b S l isNam f j ln lb v1 v2 l1 l2) := by
  have hz := str_size hS
  have HW := Lib.hid hw
  have hlo := hw.lo
  have lt := heap_lt hw.blk
  have ft := free_of_lit hw.blk
  obtain ⟨a0, a1, a2, a3, a4, a5, a6⟩ := lx_cells hw
  clear hw
  by_cases hlt : j < l.length
  · have hg : ((j : Int) == (S.size : Int)) = false := beq_eq_false_iff_ne.2 (by omega)
    obtain ⟨c, hc⟩ : ∃ c, l[j] = c := ⟨_, rfl⟩
    have HI := fun u => str_at hS hlt c hc u
    have HC := Lib.hid (inName_any c)
    have HP := Lib.hid (show ∀ d, isNam c = d → ∀ h : j < l.length, isNam l[j] = d from fun d hd h => by rw [hc]; exact hd)
    have HD := Lib.hid (show ∃ d, isNam c = d from ⟨_, rfl⟩)
    have hjj : (j : Int) + 1 ≤ 100000 := by omega
    clear hS hc hz
    obtain ⟨d, hd⟩ := HD.out
    have HR := Lib.hid (HP.out d hd)
    rewrite [hd] at HC
    clear HP hd HD
    cases d with
    | false =>
      go_enter Tryz.func107, Tryz.ntmps107
      go_wp2_with (fail)
      go_quiet ((go_at_call 108; exact (HC.out _).mono fun e w' ⟨he, hw⟩ => ⟨he, _, hw.symm⟩))
      go_wp2
      go_ret
      exact .inr ⟨rfl, HW.out.next (below_drewN (Made.refl _) _), HR.out⟩
    | true =>
      have HS := Lib.hid (fun n => (HW.out.next (below_drewN (Made.refl _) n)).set 2 (.int .i64 ((j : Int) + 1)) (S' := S) (f' := f) (t' := (j : Int) + 1) (ln' := ln) (lb' := lb) (c1' := v1) (c2' := v2) rfl)
      go_enter Tryz.func107, Tryz.ntmps107
      go_wp2_with (fail)
      go_quiet ((go_at_call 108; exact (HC.out _).mono fun e w' ⟨he, hw⟩ => ⟨he, _, hw.symm⟩))
      go_wp2
      go_ret
      exact .inl ⟨rfl, HS.out _, hlt, HR.out hlt⟩
  · have hg : ((j : Int) == (S.size : Int)) = true := beq_iff_eq.2 (by omega)
    have HE := Lib.hid (show ∀ h : j < l.length, isNam l[j] = false from fun h => absurd h hlt)
    clear hS hz
    go_enter Tryz.func107, Tryz.ntmps107
    go_wp2_with (fail)
    go_quiet (fail)
    go_wp2
    go_ret
    exact .inr ⟨rfl, HW.out.next (below_drewN (Made.refl _) _), HE.out⟩
set_option maxRecDepth 100000 in
set_option maxHeartbeats 4000000 in
theorem took_number (l : List UInt8) (hS : IsStr S l) (f : Int) (j : Nat) (ln lb : Int) (hj : j ≤ l.length) (hl : l.length ≤ 100000) (w : World) (hw : LxP W b S f j ln lb v1 v2 v1 v2 l1 l2 w) : Calls Tryz.prog 107 #[lxPtr b, .func (.func 110) #[] #[]] w (TookSays W b S l isWrd f j ln lb v1 v2 l1 l2) := by
  have hz := str_size hS
  have HW := Lib.hid hw
  have hlo := hw.lo
  have lt := heap_lt hw.blk
  have ft := free_of_lit hw.blk
  obtain ⟨a0, a1, a2, a3, a4, a5, a6⟩ := lx_cells hw
  clear hw
  by_cases hlt : j < l.length
  · have hg : ((j : Int) == (S.size : Int)) = false := beq_eq_false_iff_ne.2 (by omega)
    obtain ⟨c, hc⟩ : ∃ c, l[j] = c := ⟨_, rfl⟩
    have HI := fun u => str_at hS hlt c hc u
    have HC := Lib.hid (inNumber_any c)
    have HP := Lib.hid (show ∀ d, isWrd c = d → ∀ h : j < l.length, isWrd l[j] = d from fun d hd h => by rw [hc]; exact hd)
    have HD := Lib.hid (show ∃ d, isWrd c = d from ⟨_, rfl⟩)
    have hjj : (j : Int) + 1 ≤ 100000 := by omega
    clear hS hc hz
    obtain ⟨d, hd⟩ := HD.out
    have HR := Lib.hid (HP.out d hd)
    rewrite [hd] at HC
    clear HP hd HD
    cases d with
    | false =>
      go_enter Tryz.func107, Tryz.ntmps107
      go_wp2_with (fail)
      go_quiet ((go_at_call 110; exact (HC.out _).mono fun e w' ⟨he, hw⟩ => ⟨he, _, hw.symm⟩))
      go_wp2
      go_ret
      exact .inr ⟨rfl, HW.out.next (below_drewN (Made.refl _) _), HR.out⟩
    | true =>
      have HS := Lib.hid (fun n => (HW.out.next (below_drewN (Made.refl _) n)).set 2 (.int .i64 ((j : Int) + 1)) (S' := S) (f' := f) (t' := (j : Int) + 1) (ln' := ln) (lb' := lb) (c1' := v1) (c2' := v2) rfl)
      go_enter Tryz.func107, Tryz.ntmps107
      go_wp2_with (fail)
      go_quiet ((go_at_call 110; exact (HC.out _).mono fun e w' ⟨he, hw⟩ => ⟨he, _, hw.symm⟩))
      go_wp2
      go_ret
      exact .inl ⟨rfl, HS.out _, hlt, HR.out hlt⟩
  · have hg : ((j : Int) == (S.size : Int)) = true := beq_iff_eq.2 (by omega)
    have HE := Lib.hid (show ∀ h : j < l.length, isWrd l[j] = false from fun h => absurd h hlt)
    clear hS hz
    go_enter Tryz.func107, Tryz.ntmps107
    go_wp2_with (fail)
    go_quiet (fail)
    go_wp2
    go_ret
    exact .inr ⟨rfl, HW.out.next (below_drewN (Made.refl _) _), HE.out⟩
set_option maxRecDepth 100000 in
set_option maxHeartbeats 4000000 in
theorem took_hash (l : List UInt8) (hS : IsStr S l) (f : Int) (j : Nat) (ln lb : Int) (hj : j ≤ l.length) (hl : l.length ≤ 100000) (w : World) (hw : LxP W b S f j ln lb v1 v2 v1 v2 l1 l2 w) : Calls Tryz.prog 107 #[lxPtr b, .func (.func 105) #[] #[]] w (TookSays W b S l (fun b => decide (b.toNat = 35)) f j ln lb v1 v2 l1 l2) := by
  have hz := str_size hS
  have HW := Lib.hid hw
  have hlo := hw.lo
  have lt := heap_lt hw.blk
  have ft := free_of_lit hw.blk
  obtain ⟨a0, a1, a2, a3, a4, a5, a6⟩ := lx_cells hw
  clear hw
  by_cases hlt : j < l.length
  · have hg : ((j : Int) == (S.size : Int)) = false := beq_eq_false_iff_ne.2 (by omega)
    obtain ⟨c, hc⟩ : ∃ c, l[j] = c := ⟨_, rfl⟩
    have HI := fun u => str_at hS hlt c hc u
    have HC := Lib.hid (hash_any c)
    have HP := Lib.hid (show ∀ d, decide (c.toNat = 35) = d → ∀ h : j < l.length, (fun b => decide (b.toNat = 35)) l[j] = d from fun d hd h => by rw [hc]; exact hd)
    have HD := Lib.hid (show ∃ d, decide (c.toNat = 35) = d from ⟨_, rfl⟩)
    have hjj : (j : Int) + 1 ≤ 100000 := by omega
    clear hS hc hz
    obtain ⟨d, hd⟩ := HD.out
    have HR := Lib.hid (HP.out d hd)
    rewrite [hd] at HC
    clear HP hd HD
    cases d with
    | false =>
      go_enter Tryz.func107, Tryz.ntmps107
      go_wp2_with (fail)
      go_quiet ((go_at_call 105; exact (HC.out _).mono fun e w' ⟨he, hw⟩ => ⟨he, _, hw.symm⟩))
      go_wp2
      go_ret
      exact .inr ⟨rfl, HW.out.next (below_drewN (Made.refl _) _), HR.out⟩
    | true =>
      have HS := Lib.hid (fun n => (HW.out.next (below_drewN (Made.refl _) n)).set 2 (.int .i64 ((j : Int) + 1)) (S' := S) (f' := f) (t' := (j : Int) + 1) (ln' := ln) (lb' := lb) (c1' := v1) (c2' := v2) rfl)
      go_enter Tryz.func107, Tryz.ntmps107
      go_wp2_with (fail)
      go_quiet ((go_at_call 105; exact (HC.out _).mono fun e w' ⟨he, hw⟩ => ⟨he, _, hw.symm⟩))
      go_wp2
      go_ret
      exact .inl ⟨rfl, HS.out _, hlt, HR.out hlt⟩
  · have hg : ((j : Int) == (S.size : Int)) = true := beq_iff_eq.2 (by omega)
    have HE := Lib.hid (show ∀ h : j < l.length, (fun b => decide (b.toNat = 35)) l[j] = false from fun h => absurd h hlt)
    clear hS hz
    go_enter Tryz.func107, Tryz.ntmps107
    go_wp2_with (fail)
    go_quiet (fail)
    go_wp2
    go_ret
    exact .inr ⟨rfl, HW.out.next (below_drewN (Made.refl _) _), HE.out⟩
set_option maxRecDepth 100000 in
set_option maxHeartbeats 4000000 in
theorem took_slash (l : List UInt8) (hS : IsStr S l) (f : Int) (j : Nat) (ln lb : Int) (hj : j ≤ l.length) (hl : l.length ≤ 100000) (w : World) (hw : LxP W b S f j ln lb v1 v2 v1 v2 l1 l2 w) : Calls Tryz.prog 107 #[lxPtr b, .func (.func 106) #[] #[]] w (TookSays W b S l (fun b => decide (b.toNat = 47)) f j ln lb v1 v2 l1 l2) := by
  have hz := str_size hS
  have HW := Lib.hid hw
  have hlo := hw.lo
  have lt := heap_lt hw.blk
  have ft := free_of_lit hw.blk
  obtain ⟨a0, a1, a2, a3, a4, a5, a6⟩ := lx_cells hw
  clear hw
  by_cases hlt : j < l.length
  · have hg : ((j : Int) == (S.size : Int)) = false := beq_eq_false_iff_ne.2 (by omega)
    obtain ⟨c, hc⟩ : ∃ c, l[j] = c := ⟨_, rfl⟩
    have HI := fun u => str_at hS hlt c hc u
    have HC := Lib.hid (slash_any c)
    have HP := Lib.hid (show ∀ d, decide (c.toNat = 47) = d → ∀ h : j < l.length, (fun b => decide (b.toNat = 47)) l[j] = d from fun d hd h => by rw [hc]; exact hd)
    have HD := Lib.hid (show ∃ d, decide (c.toNat = 47) = d from ⟨_, rfl⟩)
    have hjj : (j : Int) + 1 ≤ 100000 := by omega
    clear hS hc hz
    obtain ⟨d, hd⟩ := HD.out
    have HR := Lib.hid (HP.out d hd)
    rewrite [hd] at HC
    clear HP hd HD
    cases d with
    | false =>
      go_enter Tryz.func107, Tryz.ntmps107
      go_wp2_with (fail)
      go_quiet ((go_at_call 106; exact (HC.out _).mono fun e w' ⟨he, hw⟩ => ⟨he, _, hw.symm⟩))
      go_wp2
      go_ret
      exact .inr ⟨rfl, HW.out.next (below_drewN (Made.refl _) _), HR.out⟩
    | true =>
      have HS := Lib.hid (fun n => (HW.out.next (below_drewN (Made.refl _) n)).set 2 (.int .i64 ((j : Int) + 1)) (S' := S) (f' := f) (t' := (j : Int) + 1) (ln' := ln) (lb' := lb) (c1' := v1) (c2' := v2) rfl)
      go_enter Tryz.func107, Tryz.ntmps107
      go_wp2_with (fail)
      go_quiet ((go_at_call 106; exact (HC.out _).mono fun e w' ⟨he, hw⟩ => ⟨he, _, hw.symm⟩))
      go_wp2
      go_ret
      exact .inl ⟨rfl, HS.out _, hlt, HR.out hlt⟩
  · have hg : ((j : Int) == (S.size : Int)) = true := beq_iff_eq.2 (by omega)
    have HE := Lib.hid (show ∀ h : j < l.length, (fun b => decide (b.toNat = 47)) l[j] = false from fun h => absurd h hlt)
    clear hS hz
    go_enter Tryz.func107, Tryz.ntmps107
    go_wp2_with (fail)
    go_quiet (fail)
    go_wp2
    go_ret
    exact .inr ⟨rfl, HW.out.next (below_drewN (Made.refl _) _), HE.out⟩
set_option maxRecDepth 100000 in
set_option maxHeartbeats 4000000 in
theorem took_comment (l : List UInt8) (hS : IsStr S l) (f : Int) (j : Nat) (ln lb : Int) (hj : j ≤ l.length) (hl : l.length ≤ 100000) (w : World) (hw : LxP W b S f j ln lb v1 v2 v1 v2 l1 l2 w) : Calls Tryz.prog 107 #[lxPtr b, .func (.func 114) #[] #[]] w (TookSays W b S l notLf f j ln lb v1 v2 l1 l2) := by
  have hz := str_size hS
  have HW := Lib.hid hw
  have hlo := hw.lo
  have lt := heap_lt hw.blk
  have ft := free_of_lit hw.blk
  obtain ⟨a0, a1, a2, a3, a4, a5, a6⟩ := lx_cells hw
  clear hw
  by_cases hlt : j < l.length
  · have hg : ((j : Int) == (S.size : Int)) = false := beq_eq_false_iff_ne.2 (by omega)
    obtain ⟨c, hc⟩ : ∃ c, l[j] = c := ⟨_, rfl⟩
    have HI := fun u => str_at hS hlt c hc u
    have HC := Lib.hid (inComment_any c)
    have HP := Lib.hid (show ∀ d, notLf c = d → ∀ h : j < l.length, notLf l[j] = d from fun d hd h => by rw [hc]; exact hd)
    have HD := Lib.hid (show ∃ d, notLf c = d from ⟨_, rfl⟩)
    have hjj : (j : Int) + 1 ≤ 100000 := by omega
    clear hS hc hz
    obtain ⟨d, hd⟩ := HD.out
    have HR := Lib.hid (HP.out d hd)
    rewrite [hd] at HC
    clear HP hd HD
    cases d with
    | false =>
      go_enter Tryz.func107, Tryz.ntmps107
      go_wp2_with (fail)
      go_quiet ((go_at_call 114; exact (HC.out _).mono fun e w' ⟨he, hw⟩ => ⟨he, _, hw.symm⟩))
      go_wp2
      go_ret
      exact .inr ⟨rfl, HW.out.next (below_drewN (Made.refl _) _), HR.out⟩
    | true =>
      have HS := Lib.hid (fun n => (HW.out.next (below_drewN (Made.refl _) n)).set 2 (.int .i64 ((j : Int) + 1)) (S' := S) (f' := f) (t' := (j : Int) + 1) (ln' := ln) (lb' := lb) (c1' := v1) (c2' := v2) rfl)
      go_enter Tryz.func107, Tryz.ntmps107
      go_wp2_with (fail)
      go_quiet ((go_at_call 114; exact (HC.out _).mono fun e w' ⟨he, hw⟩ => ⟨he, _, hw.symm⟩))
      go_wp2
      go_ret
      exact .inl ⟨rfl, HS.out _, hlt, HR.out hlt⟩
  · have hg : ((j : Int) == (S.size : Int)) = true := beq_iff_eq.2 (by omega)
    have HE := Lib.hid (show ∀ h : j < l.length, notLf l[j] = false from fun h => absurd h hlt)
    clear hS hz
    go_enter Tryz.func107, Tryz.ntmps107
    go_wp2_with (fail)
    go_quiet (fail)
    go_wp2
    go_ret
    exact .inr ⟨rfl, HW.out.next (below_drewN (Made.refl _) _), HE.out⟩
end
end Go.Proofs.YtnfmlmamgkpocaaGreatDoor
