/- What byteMember, number, setNumber and isValueField of package enc return and leave, for every instruction and kind. Written by wip/tools/gen_encfns.py. · What split and join of package enc return, for every instruction, value field and parts, in every world that has grown out of one that holds the table of names. · What Word of package enc returns, for every instruction and address, in every world that has grown out of one that holds the tables of names and of pieces. -/
import Derived.Test.YtanjmoiepmadhaaGreatDoorGEncM
import Derived.Test.YtanjmoiepmadhaaGreatDoorGExt
import Derived.Test.YtanjmoiepmadhaaGreatDoorGInst
import Derived.Test.YtanjmoiepmadhaaGreatDoorGDup
import Derived.Test.YtanjmoiepmadhaaGreatDoorGFns
import Derived.Deep.CutRange
namespace Go.Proofs.YtanjmoiepmadhaaGreatDoor
section
set_option maxRecDepth 100000
open Go.ChangeShapes Go.WideShapes Go.ChangeAt Go.RowKit Go.Sort BigFrame

/-- The cell of the member that a field of a kind holds. -/
def membP (b : Nat) (k : Int) : Option Addr := if k = 1 then some ⟨b, 6, none⟩ else if k = 2 then some ⟨b, 5, none⟩ else if k = 3 then some ⟨b, 1, none⟩ else if k = 4 then some ⟨b, 1, none⟩ else if k = 5 then some ⟨b, 2, none⟩ else if k = 6 then some ⟨b, 3, none⟩ else if k = 7 then some ⟨b, 4, none⟩ else none
set_option maxHeartbeats 1000000 in
theorem member_any (w : World) (b : Nat) (k : Int) (p : Option Addr) (hp : membP b k = p) : Calls Tryz.prog 157 #[.pointer (some ⟨b, 0, none⟩), .int .u8 k] w fun e w' => e = .returned (.pointer p) ∧ w' = w := by
  subst hp
  have hc : k = 1 ∨ k = 2 ∨ k = 3 ∨ k = 4 ∨ k = 5 ∨ k = 6 ∨ k = 7 ∨ (k < 1 ∨ 7 < k) := by omega
  rcases hc with rfl | rfl | rfl | rfl | rfl | rfl | rfl | hc
  case inr.inr.inr.inr.inr.inr.inr =>
    have e1 : membP b k = none := by unfold membP; iterate 7 (rw [if_neg (by omega)])
    have n1 : (k == 1) = false := beq_eq_false_iff_ne.2 (by omega)
    have n2 : (k == 2) = false := beq_eq_false_iff_ne.2 (by omega)
    have n3 : (k == 3) = false := beq_eq_false_iff_ne.2 (by omega)
    have n4 : (k == 4) = false := beq_eq_false_iff_ne.2 (by omega)
    have n5 : (k == 5) = false := beq_eq_false_iff_ne.2 (by omega)
    have n6 : (k == 6) = false := beq_eq_false_iff_ne.2 (by omega)
    have n7 : (k == 7) = false := beq_eq_false_iff_ne.2 (by omega)
    rewrite [e1]
    clear e1 hc
    go_enter Tryz.func157, Tryz.ntmps157
    go_wp2
    go_ret
    exact ⟨rfl, rfl⟩
  all_goals
    go_enter Tryz.func157, Tryz.ntmps157
    go_wp2
    go_ret
    exact ⟨rfl, rfl⟩
theorem isValueField_any (W : World) (f : Fd) : Makes Tryz.prog W 124 #[.agg #[.int .u8 f.kind, .int .i64 f.bits, .int .i64 f.shift, .bool f.sg, .bool f.ext]] (.bool (isVal f)) := by
  intro w hm
  have hz := hm.size
  have M := Lib.hid (hm.alloc hz (.cells f.cells.toArray 157))
  obtain ⟨fk, fb, fs, fg, fe⟩ := f
  have e : isVal ⟨fk, fb, fs, fg, fe⟩ = (fk == 9 || fk == 10) := rfl
  rewrite [e]
  clear e
  cases h9 : (fk == 9) <;> cases h10 : (fk == 10)
  all_goals
    go_enter Tryz.func124, Tryz.ntmps124
    go_wp2
    go_ret
    exact ⟨rfl, M.out⟩
section
attribute [local irreducible] World.cell?
set_option maxHeartbeats 4000000 in
theorem number_any (W : World) (x : In) (hx : x.small) (k : Int) : Makes Tryz.prog W 123 #[x.val, .int .u8 k] (.int .u32 (numZ x k)) := by
  intro w hm
  have hz := hm.size
  have M := Lib.hid (hm.alloc hz (.cells x.cells.toArray 40))
  have hin : InAt (w.alloc (.cells x.cells.toArray 40)) w.heap.size x := heap_alloc_new w _
  have hm := fun k p hp => member_any (w.alloc (.cells x.cells.toArray 40)) w.heap.size k p hp
  have HI := Lib.hid hin
  clear hin
  have mode0 := hx.mode0
  have mode1 := hx.mode1
  have pred0 := hx.pred0
  have pred1 := hx.pred1
  have d0 := hx.d0
  have d1 := hx.d1
  have s0 := hx.s0
  have s1 := hx.s1
  have t0 := hx.t0
  have t1 := hx.t1
  have n0 := hx.n0
  have n1 := hx.n1
  have count0 := hx.count0
  have count1 := hx.count1
  clear hx
  obtain ⟨xo, xd, xs, xt, xn, xp, xm, xw, xe, xc, xi⟩ := x
  have HM := Lib.hid hm
  clear hm
  have hc : k = 1 ∨ k = 2 ∨ k = 3 ∨ k = 4 ∨ k = 5 ∨ k = 6 ∨ k = 7 ∨ k = 8 ∨ k = 11 ∨ (k ≠ 1 ∧ k ≠ 2 ∧ k ≠ 3 ∧ k ≠ 4 ∧ k ≠ 5 ∧ k ≠ 6 ∧ k ≠ 7 ∧ k ≠ 8 ∧ k ≠ 11) := by omega
  rcases hc with rfl | rfl | rfl | rfl | rfl | rfl | rfl | rfl | rfl | hc
  case inl =>
    go_enter Tryz.func123, Tryz.ntmps123
    go_wp2_with (fail)
    refine (HM.out 1 (some ⟨w.heap.size, 6, none⟩) rfl).mono ?_
    rintro e w1 ⟨rfl, hw1⟩
    have hi1 : InAt w1 w.heap.size _ := hw1 ▸ HI.out
    have M1 := Lib.hid (show Made W w1 from hw1 ▸ M.out)
    obtain ⟨c0, c1, c2, c3, c4, c5, c6, c7, c8, c9, c10⟩ := in_cells hi1
    have hlt := heap_lt hi1
    clear hw1 hi1
    go_wp2
    go_ret
    exact ⟨rfl, M1.out⟩
  case inr.inl =>
    go_enter Tryz.func123, Tryz.ntmps123
    go_wp2_with (fail)
    refine (HM.out 2 (some ⟨w.heap.size, 5, none⟩) rfl).mono ?_
    rintro e w1 ⟨rfl, hw1⟩
    have hi1 : InAt w1 w.heap.size _ := hw1 ▸ HI.out
    have M1 := Lib.hid (show Made W w1 from hw1 ▸ M.out)
    obtain ⟨c0, c1, c2, c3, c4, c5, c6, c7, c8, c9, c10⟩ := in_cells hi1
    have hlt := heap_lt hi1
    clear hw1 hi1
    go_wp2
    go_ret
    exact ⟨rfl, M1.out⟩
  case inr.inr.inl =>
    go_enter Tryz.func123, Tryz.ntmps123
    go_wp2_with (fail)
    refine (HM.out 3 (some ⟨w.heap.size, 1, none⟩) rfl).mono ?_
    rintro e w1 ⟨rfl, hw1⟩
    have hi1 : InAt w1 w.heap.size _ := hw1 ▸ HI.out
    have M1 := Lib.hid (show Made W w1 from hw1 ▸ M.out)
    obtain ⟨c0, c1, c2, c3, c4, c5, c6, c7, c8, c9, c10⟩ := in_cells hi1
    have hlt := heap_lt hi1
    clear hw1 hi1
    go_wp2
    go_ret
    exact ⟨rfl, M1.out⟩
  case inr.inr.inr.inl =>
    go_enter Tryz.func123, Tryz.ntmps123
    go_wp2_with (fail)
    refine (HM.out 4 (some ⟨w.heap.size, 1, none⟩) rfl).mono ?_
    rintro e w1 ⟨rfl, hw1⟩
    have hi1 : InAt w1 w.heap.size _ := hw1 ▸ HI.out
    have M1 := Lib.hid (show Made W w1 from hw1 ▸ M.out)
    obtain ⟨c0, c1, c2, c3, c4, c5, c6, c7, c8, c9, c10⟩ := in_cells hi1
    have hlt := heap_lt hi1
    clear hw1 hi1
    go_wp2
    go_ret
    exact ⟨rfl, M1.out⟩
  case inr.inr.inr.inr.inl =>
    go_enter Tryz.func123, Tryz.ntmps123
    go_wp2_with (fail)
    refine (HM.out 5 (some ⟨w.heap.size, 2, none⟩) rfl).mono ?_
    rintro e w1 ⟨rfl, hw1⟩
    have hi1 : InAt w1 w.heap.size _ := hw1 ▸ HI.out
    have M1 := Lib.hid (show Made W w1 from hw1 ▸ M.out)
    obtain ⟨c0, c1, c2, c3, c4, c5, c6, c7, c8, c9, c10⟩ := in_cells hi1
    have hlt := heap_lt hi1
    clear hw1 hi1
    go_wp2
    go_ret
    exact ⟨rfl, M1.out⟩
  case inr.inr.inr.inr.inr.inl =>
    go_enter Tryz.func123, Tryz.ntmps123
    go_wp2_with (fail)
    refine (HM.out 6 (some ⟨w.heap.size, 3, none⟩) rfl).mono ?_
    rintro e w1 ⟨rfl, hw1⟩
    have hi1 : InAt w1 w.heap.size _ := hw1 ▸ HI.out
    have M1 := Lib.hid (show Made W w1 from hw1 ▸ M.out)
    obtain ⟨c0, c1, c2, c3, c4, c5, c6, c7, c8, c9, c10⟩ := in_cells hi1
    have hlt := heap_lt hi1
    clear hw1 hi1
    go_wp2
    go_ret
    exact ⟨rfl, M1.out⟩
  case inr.inr.inr.inr.inr.inr.inl =>
    go_enter Tryz.func123, Tryz.ntmps123
    go_wp2_with (fail)
    refine (HM.out 7 (some ⟨w.heap.size, 4, none⟩) rfl).mono ?_
    rintro e w1 ⟨rfl, hw1⟩
    have hi1 : InAt w1 w.heap.size _ := hw1 ▸ HI.out
    have M1 := Lib.hid (show Made W w1 from hw1 ▸ M.out)
    obtain ⟨c0, c1, c2, c3, c4, c5, c6, c7, c8, c9, c10⟩ := in_cells hi1
    have hlt := heap_lt hi1
    clear hw1 hi1
    go_wp2
    go_ret
    exact ⟨rfl, M1.out⟩
  case inr.inr.inr.inr.inr.inr.inr.inl =>
    cases xw
    all_goals
      go_enter Tryz.func123, Tryz.ntmps123
      go_wp2_with (fail)
      refine (HM.out 8 none rfl).mono ?_
      rintro e w1 ⟨rfl, hw1⟩
      have hi1 : InAt w1 w.heap.size _ := hw1 ▸ HI.out
      have M1 := Lib.hid (show Made W w1 from hw1 ▸ M.out)
      obtain ⟨c0, c1, c2, c3, c4, c5, c6, c7, c8, c9, c10⟩ := in_cells hi1
      have hlt := heap_lt hi1
      clear hw1 hi1
      go_wp2
      go_ret
      exact ⟨rfl, M1.out⟩
  case inr.inr.inr.inr.inr.inr.inr.inr.inl =>
    go_enter Tryz.func123, Tryz.ntmps123
    go_wp2_with (fail)
    refine (HM.out 11 none rfl).mono ?_
    rintro e w1 ⟨rfl, hw1⟩
    have hi1 : InAt w1 w.heap.size _ := hw1 ▸ HI.out
    have M1 := Lib.hid (show Made W w1 from hw1 ▸ M.out)
    obtain ⟨c0, c1, c2, c3, c4, c5, c6, c7, c8, c9, c10⟩ := in_cells hi1
    have hlt := heap_lt hi1
    clear hw1 hi1
    go_wp2
    go_ret
    exact ⟨rfl, M1.out⟩
  case inr.inr.inr.inr.inr.inr.inr.inr.inr =>
    have e1 : membP w.heap.size k = none := by unfold membP; iterate 7 (rw [if_neg (by omega)])
    have e2 : numZ ⟨xo, xd, xs, xt, xn, xp, xm, xw, xe, xc, xi⟩ k = 0 := by unfold numZ; iterate 9 (rw [if_neg (by omega)])
    have n8 : (k == 8) = false := beq_eq_false_iff_ne.2 (by omega)
    have n11 : (k == 11) = false := beq_eq_false_iff_ne.2 (by omega)
    have HC := HM.out k none e1
    rewrite [e2]
    clear e1 e2 hc
    go_enter Tryz.func123, Tryz.ntmps123
    go_wp2_with (fail)
    refine HC.mono ?_
    rintro e w1 ⟨rfl, hw1⟩
    have hi1 : InAt w1 w.heap.size _ := hw1 ▸ HI.out
    have M1 := Lib.hid (show Made W w1 from hw1 ▸ M.out)
    obtain ⟨c0, c1, c2, c3, c4, c5, c6, c7, c8, c9, c10⟩ := in_cells hi1
    have hlt := heap_lt hi1
    clear hw1 hi1
    go_wp2
    go_ret
    exact ⟨rfl, M1.out⟩
/-- The world behind setNumber. -/
def setW (w : World) (b : Nat) (k v : Int) : World :=
  if k = 1 then w.setCell ⟨b, 6, none⟩ (.int .u8 (v % 256)) else if k = 2 then w.setCell ⟨b, 5, none⟩ (.int .u8 (v % 256)) else if k = 3 then w.setCell ⟨b, 1, none⟩ (.int .u8 (v % 256)) else if k = 4 then w.setCell ⟨b, 1, none⟩ (.int .u8 (v % 256)) else if k = 5 then w.setCell ⟨b, 2, none⟩ (.int .u8 (v % 256)) else if k = 6 then w.setCell ⟨b, 3, none⟩ (.int .u8 (v % 256)) else if k = 7 then w.setCell ⟨b, 4, none⟩ (.int .u8 (v % 256)) else if k = 8 then w.setCell ⟨b, 7, none⟩ (.bool (v == 1)) else if k = 11 then w.setCell ⟨b, 9, none⟩ (.int .u16 (v % 65536)) else w
set_option maxHeartbeats 4000000 in
theorem setNumber_any (w : World) (b : Nat) (x : In) (k v : Int) (hx : InAt w b x) : Calls Tryz.prog 184 #[.pointer (some ⟨b, 0, none⟩), .int .u8 k, .int .u32 v] w fun e w' => e = .returned (.tuple #[]) ∧ w' = setW w b k v := by
  obtain ⟨c0, c1, c2, c3, c4, c5, c6, c7, c8, c9, c10⟩ := in_cells hx
  have fz := free_of_lit hx
  have hlt := heap_lt hx
  have hm := fun k p hp => member_any w b k p hp
  have HM := Lib.hid hm
  clear hm hx
  have hc : k = 1 ∨ k = 2 ∨ k = 3 ∨ k = 4 ∨ k = 5 ∨ k = 6 ∨ k = 7 ∨ k = 8 ∨ k = 11 ∨ (k ≠ 1 ∧ k ≠ 2 ∧ k ≠ 3 ∧ k ≠ 4 ∧ k ≠ 5 ∧ k ≠ 6 ∧ k ≠ 7 ∧ k ≠ 8 ∧ k ≠ 11) := by omega
  rcases hc with rfl | rfl | rfl | rfl | rfl | rfl | rfl | rfl | rfl | hc
  case inl =>
    go_enter Tryz.func184, Tryz.ntmps184
    go_wp2_with (fail)
    refine (HM.out 1 (some ⟨b, 6, none⟩) rfl).mono ?_
    rintro e w1 ⟨rfl, rfl⟩
    go_wp2
    go_returns
    exact ⟨rfl, rfl⟩
  case inr.inl =>
    go_enter Tryz.func184, Tryz.ntmps184
    go_wp2_with (fail)
    refine (HM.out 2 (some ⟨b, 5, none⟩) rfl).mono ?_
    rintro e w1 ⟨rfl, rfl⟩
    go_wp2
    go_returns
    exact ⟨rfl, rfl⟩
  case inr.inr.inl =>
    go_enter Tryz.func184, Tryz.ntmps184
    go_wp2_with (fail)
    refine (HM.out 3 (some ⟨b, 1, none⟩) rfl).mono ?_
    rintro e w1 ⟨rfl, rfl⟩
    go_wp2
    go_returns
    exact ⟨rfl, rfl⟩
  case inr.inr.inr.inl =>
    go_enter Tryz.func184, Tryz.ntmps184
    go_wp2_with (fail)
    refine (HM.out 4 (some ⟨b, 1, none⟩) rfl).mono ?_
    rintro e w1 ⟨rfl, rfl⟩
    go_wp2
    go_returns
    exact ⟨rfl, rfl⟩
  case inr.inr.inr.inr.inl =>
    go_enter Tryz.func184, Tryz.ntmps184
    go_wp2_with (fail)
    refine (HM.out 5 (some ⟨b, 2, none⟩) rfl).mono ?_
    rintro e w1 ⟨rfl, rfl⟩
    go_wp2
    go_returns
    exact ⟨rfl, rfl⟩
  case inr.inr.inr.inr.inr.inl =>
    go_enter Tryz.func184, Tryz.ntmps184
    go_wp2_with (fail)
    refine (HM.out 6 (some ⟨b, 3, none⟩) rfl).mono ?_
    rintro e w1 ⟨rfl, rfl⟩
    go_wp2
    go_returns
    exact ⟨rfl, rfl⟩
  case inr.inr.inr.inr.inr.inr.inl =>
    go_enter Tryz.func184, Tryz.ntmps184
    go_wp2_with (fail)
    refine (HM.out 7 (some ⟨b, 4, none⟩) rfl).mono ?_
    rintro e w1 ⟨rfl, rfl⟩
    go_wp2
    go_returns
    exact ⟨rfl, rfl⟩
  case inr.inr.inr.inr.inr.inr.inr.inl =>
    go_enter Tryz.func184, Tryz.ntmps184
    go_wp2_with (fail)
    refine (HM.out 8 none rfl).mono ?_
    rintro e w1 ⟨rfl, rfl⟩
    go_wp2
    go_returns
    exact ⟨rfl, rfl⟩
  case inr.inr.inr.inr.inr.inr.inr.inr.inl =>
    go_enter Tryz.func184, Tryz.ntmps184
    go_wp2_with (fail)
    refine (HM.out 11 none rfl).mono ?_
    rintro e w1 ⟨rfl, rfl⟩
    go_wp2
    go_returns
    exact ⟨rfl, rfl⟩
  case inr.inr.inr.inr.inr.inr.inr.inr.inr =>
    have e1 : membP b k = none := by unfold membP; iterate 7 (rw [if_neg (by omega)])
    have e2 : setW w b k v = w := by unfold setW; iterate 9 (rw [if_neg (by omega)])
    have n8 : (k == 8) = false := beq_eq_false_iff_ne.2 (by omega)
    have n11 : (k == 11) = false := beq_eq_false_iff_ne.2 (by omega)
    have HC := HM.out k none e1
    rewrite [e2]
    clear e1 e2 hc
    go_enter Tryz.func184, Tryz.ntmps184
    go_wp2_with (fail)
    refine HC.mono ?_
    rintro e w1 ⟨rfl, rfl⟩
    go_wp2
    go_returns
    exact ⟨rfl, rfl⟩
end
theorem set_took {w : World} {b : Nat} {x : In} (k v : Int) (hx : InAt w b x) : Took w (setW w b k v) b (setZ x k v) := by
  obtain ⟨xo, xd, xs, xt, xn, xp, xm, xw, xe, xc, xi⟩ := x
  have hc : k = 1 ∨ k = 2 ∨ k = 3 ∨ k = 4 ∨ k = 5 ∨ k = 6 ∨ k = 7 ∨ k = 8 ∨ k = 11 ∨ (k ≠ 1 ∧ k ≠ 2 ∧ k ≠ 3 ∧ k ≠ 4 ∧ k ≠ 5 ∧ k ≠ 6 ∧ k ≠ 7 ∧ k ≠ 8 ∧ k ≠ 11) := by omega
  rcases hc with rfl | rfl | rfl | rfl | rfl | rfl | rfl | rfl | rfl | hc
  case inr.inr.inr.inr.inr.inr.inr.inr.inr =>
    have e1 : setZ ⟨xo, xd, xs, xt, xn, xp, xm, xw, xe, xc, xi⟩ k v = ⟨xo, xd, xs, xt, xn, xp, xm, xw, xe, xc, xi⟩ ∧ setW w b k v = w := by
      unfold setZ setW
      refine ⟨?_, ?_⟩ <;> iterate 9 (rw [if_neg (by omega)])
    rw [e1.1, e1.2]
    exact ⟨hx, fun _ _ => rfl, rfl, fun _ _ h => h⟩
  all_goals exact took_set hx rfl
end
section
set_option maxRecDepth 100000
open Go.ChangeShapes Go.WideShapes Go.ChangeAt Go.RowKit Go.Sort BigFrame

section
attribute [local irreducible] World.cell?
set_option maxHeartbeats 1000000 in
theorem esplit_any (W : World) (hN : Names W) (f : Fd) (x : In) (hx : x.small) (pc : Int) (hs0 : 0 ≤ f.shift) (hs1 : f.shift ≤ 2) : Makes Tryz.prog W 125 #[.agg #[.int .u8 f.kind, .int .i64 f.bits, .int .i64 f.shift, .bool f.sg, .bool f.ext], x.val, .int .u32 pc] (.tuple #[.int .u32 (splitZ f x pc), .int .u32 (uppZ x pc)]) := by
  intro w hm
  have hz := hm.size
  have M0 := Lib.hid ((hm.alloc hz (.cells f.cells.toArray 157)).alloc (hm.alloc hz (.cells f.cells.toArray 157)).size (.cells x.cells.toArray 40))
  have F0 := Lib.hid (show FdIn W w.heap.size f x _ from ⟨M0.out, (heap_alloc_old _ _ (heap_lt (heap_alloc_new w _))).trans (heap_alloc_new w _), heap_at (by simp)⟩)
  have hcall := Lib.hid (value_any _ (hN.made M0.out) x hx pc)
  have hspl := Lib.hid (extSplit_any (valueP x pc))
  have hvi := value_i x pc hx
  have HE := Lib.hid (show (x.ext = true → splitZ f x pc = lowerZ (valueP x pc) ∧ uppZ x pc = upperZ (valueP x pc)) ∧ (x.ext = false → splitZ f x pc = valueP x pc / 2 ^ f.shift.toNat % 4294967296 ∧ uppZ x pc = 0) from
    ⟨fun h => by unfold splitZ uppZ; rw [h]; exact ⟨rfl, rfl⟩, fun h => by unfold splitZ uppZ; rw [h]; exact ⟨rfl, rfl⟩⟩)
  have hsh : f.shift = 0 ∨ f.shift = 1 ∨ f.shift = 2 := by omega
  obtain ⟨v0, v1⟩ := hvi
  generalize splitZ f x pc = sp at *
  generalize uppZ x pc = up at *
  generalize valueP x pc = v at *
  clear hx hs0 hs1
  go_enter Tryz.func125, Tryz.ntmps125
  go_wp2_with (fail)
  refine (hcall.out _ (Made.refl _)).mono ?_
  rintro e w1 ⟨rfl, h1⟩
  have M1 := Lib.hid (Made.trans M0.out h1)
  obtain ⟨b0, b1, b2, b3, b4⟩ := row_cells (h1.heap F0.out.fd)
  have hi := h1.heap F0.out.in_
  have hl1 := heap_lt (h1.heap F0.out.fd)
  have hl2 := heap_lt hi
  obtain ⟨a0, a1, a2, a3, a4, a5, a6, a7, a8, a9, a10⟩ := in_cells hi
  clear h1 hi
  obtain ⟨xo, xd, xs, xt, xn, xp, xm, xw, xe, xc, xi⟩ := x
  cases xe with
  | true =>
    obtain ⟨rfl, rfl⟩ := HE.out.1 rfl
    go_wp2_with (fail)
    refine (hspl.out _).mono ?_
    rintro e w2 ⟨rfl, k, rfl⟩
    go_wp2
    go_ret2
    exact ⟨rfl, below_drewN M1.out k⟩
  | false =>
    obtain ⟨rfl, rfl⟩ := HE.out.2 rfl
    obtain ⟨fk, fb, fs, fg, fe⟩ := f
    dsimp only at *
    rcases hsh with rfl | rfl | rfl
    all_goals
      go_wp2
      go_ret2
      exact ⟨rfl, M1.out⟩
def joinB (h : Int) (has : Bool) : Bool := !(has && decide (256 ≤ h))
def joinR (f : Fd) (h u : Int) (has : Bool) (pc : Int) : Int := if joinB h has then joinV f h u has pc else 0
theorem joinR_eq (f : Fd) (h u : Int) (has : Bool) (pc v : Int) (b : Bool) (hb : b = (f.kind == 10)) (hv : v = if has then joinZ u h else if f.sg then sextZ h f.bits * 2 ^ f.shift.toNat else h * 2 ^ f.shift.toNat) (ho : joinB h has = true) :
    joinR f h u has pc = if b then targetZ v pc else v := by
  subst hv; subst hb
  unfold joinR joinV
  rw [ho, if_pos rfl]
  dsimp only
  by_cases hk : f.kind = 10
  · have e : (f.kind == 10) = true := by rw [hk]; rfl
    rw [if_pos hk, e, if_pos rfl]
  · have e : (f.kind == 10) = false := by simpa using hk
    rw [if_neg hk, e, if_neg Bool.false_ne_true]
theorem ret_pair {a b : Int} {c d : Bool} (h : b = a) (k : d = c) : Ending.returned (.tuple #[.int .i64 a, .bool c]) = .returned (.tuple #[.int .i64 b, .bool d]) := by rw [h, k]
set_option maxHeartbeats 4000000 in
theorem ejoin_any (W : World) (f : Fd) (h u pc : Int) (has : Bool) (hh : isU32 h) (hu : isU32 u) (hf : f.small) :
    Makes Tryz.prog W 185 #[.agg #[.int .u8 f.kind, .int .i64 f.bits, .int .i64 f.shift, .bool f.sg, .bool f.ext], .int .u32 h, .int .u32 u, .bool has, .int .u32 pc] (.tuple #[.int .i64 (joinR f h u has pc), .bool (joinB h has)]) := by
  intro w hm
  have hz := hm.size
  obtain ⟨_, _, hb0, hb1, hs0, hs1⟩ := hf
  have hj := Lib.hid (extJoin_any u h hu hh)
  have hx := Lib.hid (sext_any h f.bits hh ⟨by omega, by omega⟩)
  have hxb := sextZ_bounds h f.bits
  have HT := Lib.hid (fun r => extTarget_any r pc)
  have HR := joinR_eq f h u has pc
  obtain ⟨h0, h1⟩ := id hh
  have hsh : f.shift = 0 ∨ f.shift = 1 ∨ f.shift = 2 := by omega
  have M0 := Lib.hid (And.intro (hm.alloc hz (.cells f.cells.toArray 157)) (heap_alloc_new w (.cells f.cells.toArray 157)))
  clear hh hu hs0 hs1 hb0 hb1
  obtain ⟨R, hR⟩ : ∃ R, R = joinR f h u has pc := ⟨_, rfl⟩
  obtain ⟨B, hB⟩ : ∃ B, B = joinB h has := ⟨_, rfl⟩
  rewrite [← hR] at HR ⊢
  rewrite [← hB]
  have hR0 : joinB h has = false → R = 0 := fun e => by rw [hR]; unfold joinR; rw [e]; rfl
  obtain ⟨fk, fb, fs, fg, fe⟩ := f
  dsimp only at *
  obtain ⟨b, hb⟩ : ∃ b, b = (fk == 10) := ⟨_, rfl⟩
  obtain ⟨s, hs⟩ : ∃ s, s = sextZ h fb := ⟨_, rfl⟩
  obtain ⟨j, hjj⟩ : ∃ j, j = joinZ u h := ⟨_, rfl⟩
  rewrite [← hs] at hx hxb HR
  rewrite [← hjj] at hj HR
  obtain ⟨s0, s1⟩ := hxb
  have k10 := hb.symm
  have S := Lib.hid (fun v => HR v b hb)
  have R0 := Lib.hid hR0
  have HB := Lib.hid hB
  clear hs hjj hb HR hR hB hR0
  go_enter Tryz.func185, Tryz.ntmps185
  go_upto_region 1 with (fail)
  refine name_world (fun v => Made W v ∧ v.heap[w.heap.size]? = some (.cells (Fd.cells ⟨fk, fb, fs, fg, fe⟩).toArray 157 (0, 0))) M0.out ?_
  rintro v ⟨hv, hr⟩
  have MV := Lib.hid hv
  obtain ⟨b0, b1, b2, b3, b4⟩ := row_cells hr
  have hl := heap_lt hr
  have HV := Lib.hid hr
  clear hv hr M0
  cases has with
  | true =>
    by_cases h256 : 256 ≤ h
    · have e1 : joinB h true = false := by unfold joinB; simp [h256]
      have E := Lib.hid (And.intro (R0.out e1) (HB.out.trans e1))
      clear e1
      rcases hsh with rfl | rfl | rfl
      all_goals
        go_wp2
        go_ret2
        exact ⟨ret_pair E.out.1 E.out.2, MV.out⟩
    · have e1 : joinB h true = true := by unfold joinB; simp; omega
      have E := Lib.hid (And.intro (S.out j rfl e1) (HB.out.trans e1))
      clear e1
      cases b
      all_goals
        rcases hsh with rfl | rfl | rfl
        all_goals
          go_wp2_with (first
            | (go_at_call 188; refine (hj.out _).mono ?_; rintro e w2 ⟨rfl, k, rfl⟩)
            | (go_at_call 189; refine (HT.out _ _).mono ?_; rintro e w3 ⟨rfl, rfl⟩))
          go_ret2
          exact ⟨ret_pair E.out.1 E.out.2, below_drewN MV.out k⟩
  | false =>
    cases fg with
    | true =>
      have g0 := fun d os => cell_regrown b0 d os
      have g1 := fun d os => cell_regrown b1 d os
      have g2 := fun d os => cell_regrown b2 d os
      have g3 := fun d os => cell_regrown b3 d os
      have g4 := fun d os => cell_regrown b4 d os
      obtain ⟨m, hm1, hsm⟩ : ∃ m, m = s * 2 ^ fs.toNat ∧ ((fs = 0 ∧ m = s) ∨ (fs = 1 ∧ m = s * 2) ∨ (fs = 2 ∧ m = s * 4)) := by
        refine ⟨_, rfl, ?_⟩
        rcases hsh with rfl | rfl | rfl
        · exact .inl ⟨rfl, Int.mul_one s⟩
        · exact .inr (.inl ⟨rfl, rfl⟩)
        · exact .inr (.inr ⟨rfl, rfl⟩)
      have E := Lib.hid (And.intro (S.out m hm1 rfl) HB.out)
      clear hsh hm1
      rcases hsm with ⟨rfl, rfl⟩ | ⟨rfl, rfl⟩ | ⟨rfl, rfl⟩
      all_goals
        cases b
        all_goals
          go_upto_region 7 with (fail)
          refine wp_region_quiet_below (by kernel_rfl) (by kernel_rfl) ?_
          repeat (go_big_quiet_step ((go_at_call 175; exact (hx.out.makes v).again _ _)))
          refine wpQuiet_nil ?_
          intro u1 hw9
          have MU := Lib.hid (Made.trans MV.out (made_regrown hw9))
          obtain ⟨b0', b1', b2', b3', b4'⟩ := row_cells ((made_regrown hw9).heap HV.out)
          go_wp2_with (go_at_call 189; refine (HT.out _ _).mono ?_; rintro e w3 ⟨rfl, rfl⟩)
          go_ret2
          exact ⟨ret_pair E.out.1 E.out.2, MU.out⟩
    | false =>
      obtain ⟨m, hm1, hsm⟩ : ∃ m, m = h * 2 ^ fs.toNat ∧ ((fs = 0 ∧ m = h) ∨ (fs = 1 ∧ m = h * 2) ∨ (fs = 2 ∧ m = h * 4)) := by
        refine ⟨_, rfl, ?_⟩
        rcases hsh with rfl | rfl | rfl
        · exact .inl ⟨rfl, Int.mul_one h⟩
        · exact .inr (.inl ⟨rfl, rfl⟩)
        · exact .inr (.inr ⟨rfl, rfl⟩)
      have E := Lib.hid (And.intro (S.out m hm1 rfl) HB.out)
      clear hsh hm1
      rcases hsm with ⟨rfl, rfl⟩ | ⟨rfl, rfl⟩ | ⟨rfl, rfl⟩
      all_goals
        cases b
        all_goals
          go_wp2_with (go_at_call 189; refine (HT.out _ _).mono ?_; rintro e w3 ⟨rfl, rfl⟩)
          go_ret2
          exact ⟨ret_pair E.out.1 E.out.2, MV.out⟩
end
end
section
set_option maxRecDepth 100000
open Go.ChangeShapes Go.WideShapes Go.ChangeAt Go.RowKit Go.Sort BigFrame

theorem numZ_u32 {x : In} (h : x.small) (k : Int) : isU32 (numZ x k) := by
  have key : ∀ (c : Prop) [Decidable c] (a b : Int), isU32 a → isU32 b → isU32 (if c then a else b) := fun c _ a b ha hb => ite_of isU32 ha hb
  have u8 : ∀ v : Int, 0 ≤ v → v ≤ 255 → isU32 v := fun v h0 h1 => ⟨h0, by omega⟩
  unfold numZ
  exact key _ _ _ (u8 _ h.mode0 h.mode1) (key _ _ _ (u8 _ h.pred0 h.pred1) (key _ _ _ (u8 _ h.d0 h.d1) (key _ _ _ (u8 _ h.d0 h.d1) (key _ _ _ (u8 _ h.s0 h.s1) (key _ _ _ (u8 _ h.t0 h.t1) (key _ _ _ (u8 _ h.n0 h.n1)
    (key _ _ _ (key _ _ _ ⟨by decide, by decide⟩ ⟨by decide, by decide⟩) (key _ _ _ ⟨h.count0, by have := h.count1; omega⟩ ⟨by decide, by decide⟩))))))))
theorem splitZ_u32 (f : Fd) (x : In) (pc : Int) : isU32 (splitZ f x pc) := by
  unfold splitZ lowerZ
  split
  · exact ⟨by omega, by omega⟩
  · exact ⟨by omega, by omega⟩
theorem held_u32 {x : In} (h : x.small) (f : Fd) (pc : Int) : isU32 (heldZ f x pc) := by
  unfold heldZ
  split
  · exact splitZ_u32 f x pc
  · exact numZ_u32 h _
theorem pay_drop (x : In) (pc : Int) (l : List Fd) (k : Nat) (h : k < l.length) (p low : Int) : payFrom x pc (l.drop k) p low = payFrom x pc (l.drop (k + 1)) (putZ p (low - l[k].bits) l[k].bits (heldZ l[k] x pc)) (low - l[k].bits) := by
  rw [List.drop_eq_getElem_cons h]; rfl
theorem up_drop (x : In) (pc : Int) (l : List Fd) (k : Nat) (h : k < l.length) (u : Int) : upFrom x pc (l.drop k) u = upFrom x pc (l.drop (k + 1)) (if isVal l[k] then uppZ x pc else u) := by
  rw [List.drop_eq_getElem_cons h]; rfl
/-- The variables ahead of the loop. -/
structure WordAt (W : World) (B R : Nat) (x : In) (row : List Value) (p : Option Addr) (n cap : Nat) (fs : List Fd) (v : World) : Prop where
  own : Own W B x v
  row : v.heap[R]? = some (.cells row.toArray 122 (0, 0))
  holds : Holds v p n cap fs
theorem wordAt_of {W w2 : World} {B : Nat} {x : In} {p : Option Addr} {n cap : Nat} {fs : List Fd} (h : Own W B x w2) (hh : Holds w2 p n cap fs) (row : List Value) : WordAt W B w2.heap.size x row p n cap fs (w2.alloc (.cells row.toArray 122)) :=
  ⟨h.next ((Made.refl _).alloc (Nat.le_refl _) _), heap_alloc_new w2 _, hh.made ((Made.refl _).alloc (Nat.le_refl _) _)⟩
/-- The variables within a round. -/
structure RoundAt (V : World) (B F : Nat) (x : In) (f : Fd) (v : World) : Prop where
  made : Made V v
  in_ : InAt v B x
  fd : v.heap[F]? = some (.cells f.cells.toArray 157 (0, 0))
theorem RoundAt.next {V v v' : World} {B F : Nat} {x : In} {f : Fd} (h : RoundAt V B F x f v) (hm : Made v v') : RoundAt V B F x f v' := ⟨Made.trans h.made hm, hm.heap h.in_, hm.heap h.fd⟩
theorem roundAt_of {V v : World} {B : Nat} {x : In} (hx : InAt V B x) (hm : Made V v) (f : Fd) : RoundAt V B v.heap.size x f (v.alloc (.cells f.cells.toArray 157)) :=
  ⟨hm.alloc hm.size _, Made.heap (hm.alloc hm.size _) hx, heap_alloc_new v _⟩
section
attribute [local irreducible] World.cell?
set_option maxRecDepth 100000 in
set_option maxHeartbeats 4000000 in
theorem encWord_any (W : World) (hN : Names W) (hP : Pieces W) (x : In) (hx : x.small) (pc : Int) : Makes Tryz.prog W 91 #[x.val, .int .u32 pc] (.tuple #[.int .u32 (wordP x pc), .int .u32 (upP x pc), .bool (sayB x pc)]) := by
  intro w hm
  have hz := hm.size
  have K0 := Lib.hid (show Own W w.heap.size x (w.alloc (.cells x.cells.toArray 40)) from ⟨hm.alloc hz _, heap_alloc_new w _⟩)
  have hR := Lib.hid (fun u (hu : Names u) => right_any u hu x hx)
  have hF := Lib.hid (fun u (hu : Names u) => extFits_any u hu x hx pc)
  have hop0 := hx.op0
  have hop1 := hx.op1
  have HX := Lib.hid hx
  have hNum := Lib.hid (fun u k => number_any u x hx k)
  have hSpl := Lib.hid (fun u (hu : Names u) f h0 h1 => esplit_any u hu f x hx pc h0 h1)
  obtain ⟨wd, hwd⟩ : ∃ v, v = wordP x pc := ⟨_, rfl⟩
  obtain ⟨up, hup⟩ : ∃ v, v = upP x pc := ⟨_, rfl⟩
  obtain ⟨sy, hsy⟩ : ∃ v, v = sayB x pc := ⟨_, rfl⟩
  rewrite [← hwd, ← hup, ← hsy]
  have HE := Lib.hid (show (sy = false → wd = 0 ∧ up = 0) ∧ (sy = true → wd = wordZ x.op (payFrom x pc (fieldsZ x.op) 0 24) 0 ∧ up = upFrom x pc (fieldsZ x.op) 0) from
    ⟨fun h => by rw [hwd, hup]; unfold wordP upP; rw [← hsy, h]; exact ⟨rfl, rfl⟩, fun h => by rw [hwd, hup]; unfold wordP upP; rw [← hsy, h]; exact ⟨rfl, rfl⟩⟩)
  have hop : rightB x = true → isOp x.op = true := fun h => by have := right_range h; unfold isOp; simp; omega
  have HO := Lib.hid hop
  have hsay : (rightB x = false ∧ sy = false) ∨ (rightB x = true ∧ x.ext = false ∧ fitP x pc = false ∧ sy = false) ∨ (rightB x = true ∧ x.ext = true ∧ sy = true) ∨ (rightB x = true ∧ x.ext = false ∧ fitP x pc = true ∧ sy = true) := by
    rw [hsy]
    unfold sayB
    cases rightB x <;> cases x.ext <;> cases fitP x pc <;> simp
  clear hwd hup hsy hx hop
  generalize rightB x = rb at *
  generalize fitP x pc = ft at *
  obtain ⟨xo, xd, xs, xt, xn, xp, xm, xw, xe, xc, xi⟩ := x
  go_enter Tryz.func91, Tryz.ntmps91
  go_upto_region 1 with (fail)
  go_cut [27] from 14 to 27 (fun g wc => g = .bool (!sy) ∧ Own W w.heap.size ⟨xo, xd, xs, xt, xn, xp, xm, xw, xe, xc, xi⟩ wc)
  case first =>
    go_wp2_with (fail)
    refine (hR.out _ (hN.made K0.out.made) _ (Made.refl _)).mono ?_
    rintro e w1 ⟨rfl, h1⟩
    have K1 := Lib.hid (K0.out.next h1)
    obtain ⟨a0, a1, a2, a3, a4, a5, a6, a7, a8, a9, a10⟩ := in_cells K1.out.in_
    have hl := heap_lt K1.out.in_
    clear h1
    rcases hsay with ⟨rfl, rfl⟩ | ⟨rfl, hxe, rfl, rfl⟩ | ⟨rfl, hxe, rfl⟩ | ⟨rfl, hxe, rfl, rfl⟩
    case inl =>
      go_wp2
      go_meet
      case rel => exact ⟨rfl, K1.out⟩
    case inr.inr.inl =>
      obtain rfl : xe = true := hxe
      go_wp2
      go_meet
      case rel => exact ⟨rfl, K1.out⟩
    all_goals
      obtain rfl : xe = false := hxe
      go_wp2_with (fail)
      refine (hF.out _ (hN.made K1.out.made) _ (Made.refl _)).mono ?_
      rintro e w2 ⟨rfl, h2⟩
      have K2 := Lib.hid (K1.out.next h2)
      clear h2
      go_wp2
      go_meet
      case rel => exact ⟨rfl, K2.out⟩
  case rest =>
    obtain ⟨rfl, hO⟩ := hcut
    generalize wc = w1 at *
    have K1 := Lib.hid hO
    obtain ⟨a0, a1, a2, a3, a4, a5, a6, a7, a8, a9, a10⟩ := in_cells K1.out.in_
    have hl := heap_lt K1.out.in_
    clear hO
    have hrs : sy = true → rb = true := by
      rcases hsay with ⟨_, h⟩ | ⟨_, _, _, h⟩ | ⟨h, _, _⟩ | ⟨h, _, _, _⟩
      · rw [h]; intro h; cases h
      · rw [h]; intro h; cases h
      · exact fun _ => h
      · exact fun _ => h
    have HB := Lib.hid hrs
    clear hsay hrs
    cases sy with
    | false =>
      obtain ⟨rfl, rfl⟩ := HE.out.1 rfl
      go_wp2
      go_ret3
      exact ⟨rfl, K1.out.made⟩
    | true =>
      have hisop := HO.out (HB.out rfl)
      obtain ⟨E1, E2⟩ := HE.out.2 rfl
      have HW := Lib.hid E1
      have HU := Lib.hid E2
      obtain ⟨-, -, hok⟩ := list_ok _ hisop
      have HK := Lib.hid hok
      have hfew := fields_few xo
      clear E1 E2 hok
      go_wp2_with (fail)
      refine (of_any _ (hN.made K1.out.made) xo hop0 _ (Made.refl _)).mono ?_
      intro e w2 h
      obtain ⟨p, cap, fs, o, nm, c, s, hfs, -, rfl, h2, hh, -⟩ := holds_of h
      rewrite [opN_of hisop] at hfs
      have hfs3 : fieldsZ (In.mk xo xd xs xt xn xp xm xw xe xc xi).op = fs := hfs.symm
      have hfs2 : fieldsZ xo = fs := hfs.symm
      rewrite [hfs3] at HW HU HK
      rewrite [hfs2] at hfew
      have K2 := Lib.hid (K1.out.next h2)
      have H2 := Lib.hid hh
      clear h h2 hh hfs hfs2 hfs3 hisop a0 a1 a2 a3 a4 a5 a6 a7 a8 a9 a10 hl
      go_upto_region 4 with (fail)
      refine name_world (fun v => WordAt W w.heap.size w2.heap.size ⟨xo, xd, xs, xt, xn, xp, xm, xw, xe, xc, xi⟩ [.int .u8 o, .string nm, .int .u8 c, .int .u8 s, .slice p fs.length cap] p fs.length cap fs v) (wordAt_of K2.out H2.out _) ?_
      intro v hv
      have KV := Lib.hid hv
      obtain ⟨r0, r1, r2, r3, r4⟩ := row_cells hv.row
      have hl1 := heap_lt hv.row
      have hl0 := heap_lt hv.own.in_
      obtain ⟨-, hcell⟩ := hv.holds
      have HC := Lib.hid hcell
      clear hv K2 H2 hcell
      go_wp2_with (fail)
      go_loopw [5, 9, 10, 37] (fun uz pz lz i wr => ∃ (k : Nat) (pay low u : Int), k ≤ fs.length ∧ i = .int .i64 k ∧ pz = .int .u32 pay ∧ lz = .int .i64 low ∧ uz = .int .u32 u ∧
          payFrom ⟨xo, xd, xs, xt, xn, xp, xm, xw, xe, xc, xi⟩ pc (fs.drop k) pay low = payFrom ⟨xo, xd, xs, xt, xn, xp, xm, xw, xe, xc, xi⟩ pc fs 0 24 ∧
          upFrom ⟨xo, xd, xs, xt, xn, xp, xm, xw, xe, xc, xi⟩ pc (fs.drop k) u = upFrom ⟨xo, xd, xs, xt, xn, xp, xm, xw, xe, xc, xi⟩ pc fs 0 ∧ isU32 pay ∧ 24 - 24 * (k : Int) ≤ low ∧ low ≤ 24 ∧ Made v wr) (fun _ _ _ i _ => fs.length - (intOf i).toNat)
      case atStart => exact ⟨0, 0, 24, 0, Nat.zero_le _, rfl, rfl, rfl, rfl, rfl, rfl, ⟨by decide, by decide⟩, by decide, by decide, Made.refl v⟩
      case round =>
        obtain ⟨k, pay, low, u, hk, rfl, rfl, rfl, rfl, hat, hau, hpu, hlo, hhi, hwr⟩ := hrel
        have hinr : InAt wr w.heap.size ⟨xo, xd, xs, xt, xn, xp, xm, xw, xe, xc, xi⟩ := hwr.heap KV.out.own.in_
        have hlr := heap_lt hinr
        have HR := Lib.hid hinr
        have HW2 := Lib.hid hwr
        by_cases hlt2 : k < fs.length
        · rcases HC.out with rfl | ⟨b, rfl, hb, hnc, hcm, hce⟩
          · simp at hlt2
          have hbr : b < wr.heap.size := Nat.lt_of_lt_of_le hb HW2.out.size
          have hd := pay_drop ⟨xo, xd, xs, xt, xn, xp, xm, xw, xe, xc, xi⟩ pc fs k hlt2 pay low
          have hd2 := up_drop ⟨xo, xd, xs, xt, xn, xp, xm, xw, xe, xc, xi⟩ pc fs k hlt2 u
          have hfk := HK.out fs[k] (List.getElem_mem _)
          have hfl := flat_at fs k hlt2
          have hce := fun r (hr : r < 5) => (bcell HW2.out).1 b (k * 5 + r) hb ▸ hce (k * 5 + r) (by omega)
          have k0 : wr.cell? ⟨b, k * 5, none⟩ = _ := (hce 0 (by omega)).trans hfl.1
          have k1 := (hce 1 (by omega)).trans hfl.2.1
          have k2 := (hce 2 (by omega)).trans hfl.2.2.1
          have k3 := (hce 3 (by omega)).trans hfl.2.2.2.1
          have k4 := (hce 4 (by omega)).trans hfl.2.2.2.2
          unfold maxLen at hcm
          generalize fs[k] = f at *
          rewrite [hat] at hd
          rewrite [hau] at hd2
          have hb1 := hfk.b1
          have hb2 := hfk.b2
          have HD := Lib.hid hd
          have HD2 := Lib.hid hd2
          have hput := Lib.hid (put_any pay (low - f.bits) f.bits (heldZ f ⟨xo, xd, xs, xt, xn, xp, xm, xw, xe, xc, xi⟩ pc) hpu (held_u32 HX.out f pc) ⟨by omega, by omega⟩)
          have hpu2 := putZ_u32 pay (low - f.bits) f.bits (heldZ f ⟨xo, xd, xs, xt, xn, xp, xm, xw, xe, xc, xi⟩ pc) hpu (held_u32 HX.out f pc)
          have HP2 := Lib.hid hpu2
          have hheld : heldZ f ⟨xo, xd, xs, xt, xn, xp, xm, xw, xe, xc, xi⟩ pc = if isVal f then splitZ f ⟨xo, xd, xs, xt, xn, xp, xm, xw, xe, xc, xi⟩ pc else numZ ⟨xo, xd, xs, xt, xn, xp, xm, xw, xe, xc, xi⟩ f.kind := rfl
          have HH := Lib.hid hheld
          have hs0 := hfk.s0
          have hs1 := hfk.s1
          clear hce hfl hat hau hwr hinr hd hd2 hfk hpu2 hheld
          generalize heldZ f ⟨xo, xd, xs, xt, xn, xp, xm, xw, xe, xc, xi⟩ pc = hv at *
          go_upto_region 8 with (fail)
          refine name_world (fun y => RoundAt v w.heap.size wr.heap.size ⟨xo, xd, xs, xt, xn, xp, xm, xw, xe, xc, xi⟩ f y) (roundAt_of KV.out.own.in_ HW2.out f) ?_
          intro y hy
          have Y0 := Lib.hid hy
          obtain ⟨b0, b1, b2, b3, b4⟩ := row_cells hy.fd
          obtain ⟨a0, a1, a2, a3, a4, a5, a6, a7, a8, a9, a10⟩ := in_cells hy.in_
          have hly := heap_lt hy.fd
          have hlx := heap_lt hy.in_
          clear hy k0 k1 k2 k3 k4
          go_wp2_with (fail)
          refine (hNum.out y f.kind _ (Made.refl _)).mono ?_
          rintro e y1 ⟨rfl, h1⟩
          have Y1 := Lib.hid (Y0.out.next h1)
          clear h1 b0 b1 b2 b3 b4 a0 a1 a2 a3 a4 a5 a6 a7 a8 a9 a10 hly hlx
          obtain ⟨b0, b1, b2, b3, b4⟩ := row_cells Y1.out.fd
          obtain ⟨a0, a1, a2, a3, a4, a5, a6, a7, a8, a9, a10⟩ := in_cells Y1.out.in_
          have hly := heap_lt Y1.out.fd
          have hlx := heap_lt Y1.out.in_
          go_wp2_with (fail)
          refine (isValueField_any y1 f _ (Made.refl _)).mono ?_
          rintro e y2 ⟨rfl, h2⟩
          have Y2 := Lib.hid (Y1.out.next h2)
          clear h2 b0 b1 b2 b3 b4 a0 a1 a2 a3 a4 a5 a6 a7 a8 a9 a10 hly hlx
          obtain ⟨b0, b1, b2, b3, b4⟩ := row_cells Y2.out.fd
          obtain ⟨a0, a1, a2, a3, a4, a5, a6, a7, a8, a9, a10⟩ := in_cells Y2.out.in_
          have hly := heap_lt Y2.out.fd
          have hlx := heap_lt Y2.out.in_
          generalize isVal f = vb at *
          cases vb with
          | false =>
            obtain rfl : hv = numZ ⟨xo, xd, xs, xt, xn, xp, xm, xw, xe, xc, xi⟩ f.kind := HH.out
            go_wp2_with (fail)
            refine (hput.out _).mono ?_
            rintro e y3 ⟨rfl, rfl⟩
            go_wp2
            go_roundw
            case rel => exact ⟨k + 1, _, _, _, by omega, by go_num, rfl, rfl, rfl, HD.out.symm, HD2.out.symm, HP2.out, by omega, by omega, Y2.out.made⟩
            case measure => simp [intOf]; omega
          | true =>
            obtain rfl : hv = splitZ f ⟨xo, xd, xs, xt, xn, xp, xm, xw, xe, xc, xi⟩ pc := HH.out
            have S := Lib.hid (hSpl.out y2 (hN.made (Made.trans KV.out.own.made Y2.out.made)) f hs0 hs1)
            go_wp2_with (fail)
            refine (S.out _ (Made.refl _)).mono ?_
            rintro e y3 ⟨rfl, h3⟩
            have Y3 := Lib.hid (Y2.out.next h3)
            clear h3 b0 b1 b2 b3 b4 a0 a1 a2 a3 a4 a5 a6 a7 a8 a9 a10 hly hlx
            obtain ⟨b0, b1, b2, b3, b4⟩ := row_cells Y3.out.fd
            have hly := heap_lt Y3.out.fd
            go_wp2_with (fail)
            refine (hput.out _).mono ?_
            rintro e y4 ⟨rfl, rfl⟩
            go_wp2
            go_roundw
            case rel => exact ⟨k + 1, _, _, _, by omega, by go_num, rfl, rfl, rfl, HD.out.symm, HD2.out.symm, HP2.out, by omega, by omega, Y3.out.made⟩
            case measure => simp [intOf]; omega
        · obtain rfl : k = fs.length := by omega
          rewrite [List.drop_length] at hat hau
          have hp1 : pay = payFrom ⟨xo, xd, xs, xt, xn, xp, xm, xw, xe, xc, xi⟩ pc fs 0 24 := hat
          have hu1 : u = upFrom ⟨xo, xd, xs, xt, xn, xp, xm, xw, xe, xc, xi⟩ pc fs 0 := hau
          have HPP := Lib.hid hp1
          have HUU := Lib.hid hu1
          have hlx := heap_lt hinr
          obtain ⟨a0, a1, a2, a3, a4, a5, a6, a7, a8, a9, a10⟩ := in_cells hinr
          have hmv : Made W wr := Made.trans KV.out.own.made HW2.out
          have HMV := Lib.hid hmv
          have hwm := Lib.hid (word_made wr (hP.made hmv) xo pay 0 ⟨hop0, by have : xo ≤ 255 := hop1; omega⟩ hpu ⟨by decide, by decide⟩)
          clear hat hau hp1 hu1 hinr hwr hmv
          go_wp2_with (fail)
          refine (hwm.out _ (Made.refl _)).mono ?_
          rintro e w3 ⟨rfl, h3⟩
          have M3 := Lib.hid (Made.trans HMV.out h3)
          clear h3
          go_wp2
          go_ret3
          have e1 : wd = wordZ xo pay 0 := HW.out.trans (by rw [← HPP.out])
          have e2 : up = u := HU.out.trans HUU.out.symm
          subst e1
          subst e2
          exact ⟨rfl, M3.out⟩
end
end
end Go.Proofs.YtanjmoiepmadhaaGreatDoor
