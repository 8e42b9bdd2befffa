/- What byteMember, number, setNumber and isValueField of package enc return and leave, for every instruction and kind. Written by wip/tools/gen_encfns.py. -/
import Derived.Test.YtjeemiabddblhaaDoorEncMath5
import Derived.Test.YtjeemiabddblhaaDoorExtUse
import Derived.Test.YtjeemiabddblhaaDoorInstTake
namespace Go.Proofs.YtjeemiabddblhaaDoor
open Go.ChangeShapes Go.WideShapes Go.ChangeAt Go.RowKit Go.Sort BigFrame

/-- The cell of the member that a field of a kind holds. -/
def membP (b : Nat) (k : Int) : Option Addr := if k = 1 then some ⟨b, 6, none⟩ else if k = 2 then some ⟨b, 5, none⟩ else if k = 3 then some ⟨b, 1, none⟩ else if k = 4 then some ⟨b, 1, none⟩ else if k = 5 then some ⟨b, 2, none⟩ else if k = 6 then some ⟨b, 3, none⟩ else if k = 7 then some ⟨b, 4, none⟩ else none
set_option maxHeartbeats 1000000 in
theorem member_any (w : World) (b : Nat) (k : Int) (p : Option Addr) (hp : membP b k = p) : Calls Tryd.prog 41 #[.pointer (some ⟨b, 0, none⟩), .int .u8 k] w fun e w' => e = .returned (.pointer p) ∧ w' = w := by
  subst hp
  have hc : k = 1 ∨ k = 2 ∨ k = 3 ∨ k = 4 ∨ k = 5 ∨ k = 6 ∨ k = 7 ∨ (k < 1 ∨ 7 < k) := by omega
  rcases hc with rfl | rfl | rfl | rfl | rfl | rfl | rfl | hc
  case inr.inr.inr.inr.inr.inr.inr =>
    have e1 : membP b k = none := by unfold membP; iterate 7 (rw [if_neg (by omega)])
    have n1 : (k == 1) = false := beq_eq_false_iff_ne.2 (by omega)
    have n2 : (k == 2) = false := beq_eq_false_iff_ne.2 (by omega)
    have n3 : (k == 3) = false := beq_eq_false_iff_ne.2 (by omega)
    have n4 : (k == 4) = false := beq_eq_false_iff_ne.2 (by omega)
    have n5 : (k == 5) = false := beq_eq_false_iff_ne.2 (by omega)
    have n6 : (k == 6) = false := beq_eq_false_iff_ne.2 (by omega)
    have n7 : (k == 7) = false := beq_eq_false_iff_ne.2 (by omega)
    rewrite [e1]
    clear e1 hc
    go_enter Tryd.func41, Tryd.ntmps41
    go_wp2
    go_ret
    exact ⟨rfl, rfl⟩
  all_goals
    go_enter Tryd.func41, Tryd.ntmps41
    go_wp2
    go_ret
    exact ⟨rfl, rfl⟩
theorem isValueField_any (W : World) (f : Fd) : Makes Tryd.prog W 18 #[.agg #[.int .u8 f.kind, .int .i64 f.bits, .int .i64 f.shift, .bool f.sg, .bool f.ext]] (.bool (isVal f)) := by
  intro w hm
  have hz := hm.size
  have M := Lib.hid (hm.alloc hz (.cells f.cells.toArray 45))
  obtain ⟨fk, fb, fs, fg, fe⟩ := f
  have e : isVal ⟨fk, fb, fs, fg, fe⟩ = (fk == 9 || fk == 10) := rfl
  rewrite [e]
  clear e
  cases h9 : (fk == 9) <;> cases h10 : (fk == 10)
  all_goals
    go_enter Tryd.func18, Tryd.ntmps18
    go_wp2
    go_ret
    exact ⟨rfl, M.out⟩
section
attribute [local irreducible] World.cell?
set_option maxHeartbeats 4000000 in
theorem number_any (W : World) (x : In) (hx : x.small) (k : Int) : Makes Tryd.prog W 17 #[x.val, .int .u8 k] (.int .u32 (numZ x k)) := by
  intro w hm
  have hz := hm.size
  have M := Lib.hid (hm.alloc hz (.cells x.cells.toArray 24))
  have hin : InAt (w.alloc (.cells x.cells.toArray 24)) w.heap.size x := heap_alloc_new w _
  have hm := fun k p hp => member_any (w.alloc (.cells x.cells.toArray 24)) w.heap.size k p hp
  have HI := Lib.hid hin
  clear hin
  have mode0 := hx.mode0
  have mode1 := hx.mode1
  have pred0 := hx.pred0
  have pred1 := hx.pred1
  have d0 := hx.d0
  have d1 := hx.d1
  have s0 := hx.s0
  have s1 := hx.s1
  have t0 := hx.t0
  have t1 := hx.t1
  have n0 := hx.n0
  have n1 := hx.n1
  have count0 := hx.count0
  have count1 := hx.count1
  clear hx
  obtain ⟨xo, xd, xs, xt, xn, xp, xm, xw, xe, xc, xi⟩ := x
  have HM := Lib.hid hm
  clear hm
  have hc : k = 1 ∨ k = 2 ∨ k = 3 ∨ k = 4 ∨ k = 5 ∨ k = 6 ∨ k = 7 ∨ k = 8 ∨ k = 11 ∨ (k ≠ 1 ∧ k ≠ 2 ∧ k ≠ 3 ∧ k ≠ 4 ∧ k ≠ 5 ∧ k ≠ 6 ∧ k ≠ 7 ∧ k ≠ 8 ∧ k ≠ 11) := by omega
  rcases hc with rfl | rfl | rfl | rfl | rfl | rfl | rfl | rfl | rfl | hc
  case inl =>
    go_enter Tryd.func17, Tryd.ntmps17
    go_wp2_with (fail)
    refine (HM.out 1 (some ⟨w.heap.size, 6, none⟩) rfl).mono ?_
    rintro e w1 ⟨rfl, hw1⟩
    have hi1 : InAt w1 w.heap.size _ := hw1 ▸ HI.out
    have M1 := Lib.hid (show Made W w1 from hw1 ▸ M.out)
    obtain ⟨c0, c1, c2, c3, c4, c5, c6, c7, c8, c9, c10⟩ := in_cells hi1
    have hlt := heap_lt hi1
    clear hw1 hi1
    go_wp2
    go_ret
    exact ⟨rfl, M1.out⟩
  case inr.inl =>
    go_enter Tryd.func17, Tryd.ntmps17
    go_wp2_with (fail)
    refine (HM.out 2 (some ⟨w.heap.size, 5, none⟩) rfl).mono ?_
    rintro e w1 ⟨rfl, hw1⟩
    have hi1 : InAt w1 w.heap.size _ := hw1 ▸ HI.out
    have M1 := Lib.hid (show Made W w1 from hw1 ▸ M.out)
    obtain ⟨c0, c1, c2, c3, c4, c5, c6, c7, c8, c9, c10⟩ := in_cells hi1
    have hlt := heap_lt hi1
    clear hw1 hi1
    go_wp2
    go_ret
    exact ⟨rfl, M1.out⟩
  case inr.inr.inl =>
    go_enter Tryd.func17, Tryd.ntmps17
    go_wp2_with (fail)
    refine (HM.out 3 (some ⟨w.heap.size, 1, none⟩) rfl).mono ?_
    rintro e w1 ⟨rfl, hw1⟩
    have hi1 : InAt w1 w.heap.size _ := hw1 ▸ HI.out
    have M1 := Lib.hid (show Made W w1 from hw1 ▸ M.out)
    obtain ⟨c0, c1, c2, c3, c4, c5, c6, c7, c8, c9, c10⟩ := in_cells hi1
    have hlt := heap_lt hi1
    clear hw1 hi1
    go_wp2
    go_ret
    exact ⟨rfl, M1.out⟩
  case inr.inr.inr.inl =>
    go_enter Tryd.func17, Tryd.ntmps17
    go_wp2_with (fail)
    refine (HM.out 4 (some ⟨w.heap.size, 1, none⟩) rfl).mono ?_
    rintro e w1 ⟨rfl, hw1⟩
    have hi1 : InAt w1 w.heap.size _ := hw1 ▸ HI.out
    have M1 := Lib.hid (show Made W w1 from hw1 ▸ M.out)
    obtain ⟨c0, c1, c2, c3, c4, c5, c6, c7, c8, c9, c10⟩ := in_cells hi1
    have hlt := heap_lt hi1
    clear hw1 hi1
    go_wp2
    go_ret
    exact ⟨rfl, M1.out⟩
  case inr.inr.inr.inr.inl =>
    go_enter Tryd.func17, Tryd.ntmps17
    go_wp2_with (fail)
    refine (HM.out 5 (some ⟨w.heap.size, 2, none⟩) rfl).mono ?_
    rintro e w1 ⟨rfl, hw1⟩
    have hi1 : InAt w1 w.heap.size _ := hw1 ▸ HI.out
    have M1 := Lib.hid (show Made W w1 from hw1 ▸ M.out)
    obtain ⟨c0, c1, c2, c3, c4, c5, c6, c7, c8, c9, c10⟩ := in_cells hi1
    have hlt := heap_lt hi1
    clear hw1 hi1
    go_wp2
    go_ret
    exact ⟨rfl, M1.out⟩
  case inr.inr.inr.inr.inr.inl =>
    go_enter Tryd.func17, Tryd.ntmps17
    go_wp2_with (fail)
    refine (HM.out 6 (some ⟨w.heap.size, 3, none⟩) rfl).mono ?_
    rintro e w1 ⟨rfl, hw1⟩
    have hi1 : InAt w1 w.heap.size _ := hw1 ▸ HI.out
    have M1 := Lib.hid (show Made W w1 from hw1 ▸ M.out)
    obtain ⟨c0, c1, c2, c3, c4, c5, c6, c7, c8, c9, c10⟩ := in_cells hi1
    have hlt := heap_lt hi1
    clear hw1 hi1
    go_wp2
    go_ret
    exact ⟨rfl, M1.out⟩
  case inr.inr.inr.inr.inr.inr.inl =>
    go_enter Tryd.func17, Tryd.ntmps17
    go_wp2_with (fail)
    refine (HM.out 7 (some ⟨w.heap.size, 4, none⟩) rfl).mono ?_
    rintro e w1 ⟨rfl, hw1⟩
    have hi1 : InAt w1 w.heap.size _ := hw1 ▸ HI.out
    have M1 := Lib.hid (show Made W w1 from hw1 ▸ M.out)
    obtain ⟨c0, c1, c2, c3, c4, c5, c6, c7, c8, c9, c10⟩ := in_cells hi1
    have hlt := heap_lt hi1
    clear hw1 hi1
    go_wp2
    go_ret
    exact ⟨rfl, M1.out⟩
  case inr.inr.inr.inr.inr.inr.inr.inl =>
    cases xw
    all_goals
      go_enter Tryd.func17, Tryd.ntmps17
      go_wp2_with (fail)
      refine (HM.out 8 none rfl).mono ?_
      rintro e w1 ⟨rfl, hw1⟩
      have hi1 : InAt w1 w.heap.size _ := hw1 ▸ HI.out
      have M1 := Lib.hid (show Made W w1 from hw1 ▸ M.out)
      obtain ⟨c0, c1, c2, c3, c4, c5, c6, c7, c8, c9, c10⟩ := in_cells hi1
      have hlt := heap_lt hi1
      clear hw1 hi1
      go_wp2
      go_ret
      exact ⟨rfl, M1.out⟩
  case inr.inr.inr.inr.inr.inr.inr.inr.inl =>
    go_enter Tryd.func17, Tryd.ntmps17
    go_wp2_with (fail)
    refine (HM.out 11 none rfl).mono ?_
    rintro e w1 ⟨rfl, hw1⟩
    have hi1 : InAt w1 w.heap.size _ := hw1 ▸ HI.out
    have M1 := Lib.hid (show Made W w1 from hw1 ▸ M.out)
    obtain ⟨c0, c1, c2, c3, c4, c5, c6, c7, c8, c9, c10⟩ := in_cells hi1
    have hlt := heap_lt hi1
    clear hw1 hi1
    go_wp2
    go_ret
    exact ⟨rfl, M1.out⟩
  case inr.inr.inr.inr.inr.inr.inr.inr.inr =>
    have e1 : membP w.heap.size k = none := by unfold membP; iterate 7 (rw [if_neg (by omega)])
    have e2 : numZ ⟨xo, xd, xs, xt, xn, xp, xm, xw, xe, xc, xi⟩ k = 0 := by unfold numZ; iterate 9 (rw [if_neg (by omega)])
    have n8 : (k == 8) = false := beq_eq_false_iff_ne.2 (by omega)
    have n11 : (k == 11) = false := beq_eq_false_iff_ne.2 (by omega)
    have HC := HM.out k none e1
    rewrite [e2]
    clear e1 e2 hc
    go_enter Tryd.func17, Tryd.ntmps17
    go_wp2_with (fail)
    refine HC.mono ?_
    rintro e w1 ⟨rfl, hw1⟩
    have hi1 : InAt w1 w.heap.size _ := hw1 ▸ HI.out
    have M1 := Lib.hid (show Made W w1 from hw1 ▸ M.out)
    obtain ⟨c0, c1, c2, c3, c4, c5, c6, c7, c8, c9, c10⟩ := in_cells hi1
    have hlt := heap_lt hi1
    clear hw1 hi1
    go_wp2
    go_ret
    exact ⟨rfl, M1.out⟩
/-- The world behind setNumber. -/
def setW (w : World) (b : Nat) (k v : Int) : World :=
  if k = 1 then w.setCell ⟨b, 6, none⟩ (.int .u8 (v % 256)) else if k = 2 then w.setCell ⟨b, 5, none⟩ (.int .u8 (v % 256)) else if k = 3 then w.setCell ⟨b, 1, none⟩ (.int .u8 (v % 256)) else if k = 4 then w.setCell ⟨b, 1, none⟩ (.int .u8 (v % 256)) else if k = 5 then w.setCell ⟨b, 2, none⟩ (.int .u8 (v % 256)) else if k = 6 then w.setCell ⟨b, 3, none⟩ (.int .u8 (v % 256)) else if k = 7 then w.setCell ⟨b, 4, none⟩ (.int .u8 (v % 256)) else if k = 8 then w.setCell ⟨b, 7, none⟩ (.bool (v == 1)) else if k = 11 then w.setCell ⟨b, 9, none⟩ (.int .u16 (v % 65536)) else w
set_option maxHeartbeats 4000000 in
theorem setNumber_any (w : World) (b : Nat) (x : In) (k v : Int) (hx : InAt w b x) : Calls Tryd.prog 52 #[.pointer (some ⟨b, 0, none⟩), .int .u8 k, .int .u32 v] w fun e w' => e = .returned (.tuple #[]) ∧ w' = setW w b k v := by
  obtain ⟨c0, c1, c2, c3, c4, c5, c6, c7, c8, c9, c10⟩ := in_cells hx
  have fz := free_of_lit hx
  have hlt := heap_lt hx
  have hm := fun k p hp => member_any w b k p hp
  have HM := Lib.hid hm
  clear hm hx
  have hc : k = 1 ∨ k = 2 ∨ k = 3 ∨ k = 4 ∨ k = 5 ∨ k = 6 ∨ k = 7 ∨ k = 8 ∨ k = 11 ∨ (k ≠ 1 ∧ k ≠ 2 ∧ k ≠ 3 ∧ k ≠ 4 ∧ k ≠ 5 ∧ k ≠ 6 ∧ k ≠ 7 ∧ k ≠ 8 ∧ k ≠ 11) := by omega
  rcases hc with rfl | rfl | rfl | rfl | rfl | rfl | rfl | rfl | rfl | hc
  case inl =>
    go_enter Tryd.func52, Tryd.ntmps52
    go_wp2_with (fail)
    refine (HM.out 1 (some ⟨b, 6, none⟩) rfl).mono ?_
    rintro e w1 ⟨rfl, rfl⟩
    go_wp2
    go_returns
    exact ⟨rfl, rfl⟩
  case inr.inl =>
    go_enter Tryd.func52, Tryd.ntmps52
    go_wp2_with (fail)
    refine (HM.out 2 (some ⟨b, 5, none⟩) rfl).mono ?_
    rintro e w1 ⟨rfl, rfl⟩
    go_wp2
    go_returns
    exact ⟨rfl, rfl⟩
  case inr.inr.inl =>
    go_enter Tryd.func52, Tryd.ntmps52
    go_wp2_with (fail)
    refine (HM.out 3 (some ⟨b, 1, none⟩) rfl).mono ?_
    rintro e w1 ⟨rfl, rfl⟩
    go_wp2
    go_returns
    exact ⟨rfl, rfl⟩
  case inr.inr.inr.inl =>
    go_enter Tryd.func52, Tryd.ntmps52
    go_wp2_with (fail)
    refine (HM.out 4 (some ⟨b, 1, none⟩) rfl).mono ?_
    rintro e w1 ⟨rfl, rfl⟩
    go_wp2
    go_returns
    exact ⟨rfl, rfl⟩
  case inr.inr.inr.inr.inl =>
    go_enter Tryd.func52, Tryd.ntmps52
    go_wp2_with (fail)
    refine (HM.out 5 (some ⟨b, 2, none⟩) rfl).mono ?_
    rintro e w1 ⟨rfl, rfl⟩
    go_wp2
    go_returns
    exact ⟨rfl, rfl⟩
  case inr.inr.inr.inr.inr.inl =>
    go_enter Tryd.func52, Tryd.ntmps52
    go_wp2_with (fail)
    refine (HM.out 6 (some ⟨b, 3, none⟩) rfl).mono ?_
    rintro e w1 ⟨rfl, rfl⟩
    go_wp2
    go_returns
    exact ⟨rfl, rfl⟩
  case inr.inr.inr.inr.inr.inr.inl =>
    go_enter Tryd.func52, Tryd.ntmps52
    go_wp2_with (fail)
    refine (HM.out 7 (some ⟨b, 4, none⟩) rfl).mono ?_
    rintro e w1 ⟨rfl, rfl⟩
    go_wp2
    go_returns
    exact ⟨rfl, rfl⟩
  case inr.inr.inr.inr.inr.inr.inr.inl =>
    go_enter Tryd.func52, Tryd.ntmps52
    go_wp2_with (fail)
    refine (HM.out 8 none rfl).mono ?_
    rintro e w1 ⟨rfl, rfl⟩
    go_wp2
    go_returns
    exact ⟨rfl, rfl⟩
  case inr.inr.inr.inr.inr.inr.inr.inr.inl =>
    go_enter Tryd.func52, Tryd.ntmps52
    go_wp2_with (fail)
    refine (HM.out 11 none rfl).mono ?_
    rintro e w1 ⟨rfl, rfl⟩
    go_wp2
    go_returns
    exact ⟨rfl, rfl⟩
  case inr.inr.inr.inr.inr.inr.inr.inr.inr =>
    have e1 : membP b k = none := by unfold membP; iterate 7 (rw [if_neg (by omega)])
    have e2 : setW w b k v = w := by unfold setW; iterate 9 (rw [if_neg (by omega)])
    have n8 : (k == 8) = false := beq_eq_false_iff_ne.2 (by omega)
    have n11 : (k == 11) = false := beq_eq_false_iff_ne.2 (by omega)
    have HC := HM.out k none e1
    rewrite [e2]
    clear e1 e2 hc
    go_enter Tryd.func52, Tryd.ntmps52
    go_wp2_with (fail)
    refine HC.mono ?_
    rintro e w1 ⟨rfl, rfl⟩
    go_wp2
    go_returns
    exact ⟨rfl, rfl⟩
end
theorem set_took {w : World} {b : Nat} {x : In} (k v : Int) (hx : InAt w b x) : Took w (setW w b k v) b (setZ x k v) := by
  obtain ⟨xo, xd, xs, xt, xn, xp, xm, xw, xe, xc, xi⟩ := x
  have hc : k = 1 ∨ k = 2 ∨ k = 3 ∨ k = 4 ∨ k = 5 ∨ k = 6 ∨ k = 7 ∨ k = 8 ∨ k = 11 ∨ (k ≠ 1 ∧ k ≠ 2 ∧ k ≠ 3 ∧ k ≠ 4 ∧ k ≠ 5 ∧ k ≠ 6 ∧ k ≠ 7 ∧ k ≠ 8 ∧ k ≠ 11) := by omega
  rcases hc with rfl | rfl | rfl | rfl | rfl | rfl | rfl | rfl | rfl | hc
  case inr.inr.inr.inr.inr.inr.inr.inr.inr =>
    have e1 : setZ ⟨xo, xd, xs, xt, xn, xp, xm, xw, xe, xc, xi⟩ k v = ⟨xo, xd, xs, xt, xn, xp, xm, xw, xe, xc, xi⟩ ∧ setW w b k v = w := by
      unfold setZ setW
      refine ⟨?_, ?_⟩ <;> iterate 9 (rw [if_neg (by omega)])
    rw [e1.1, e1.2]
    exact ⟨hx, fun _ _ => rfl, rfl, fun _ _ h => h⟩
  all_goals exact took_set hx rfl
end Go.Proofs.YtjeemiabddblhaaDoor
