/- What take and inRange of package inst return and leave, for every instruction, field and kind. -/
import Derived.Test.YtdaildmoodfocaaDoorInstIn
import Derived.Test.YtdaildmoodfocaaDoorBitsFits
namespace Go.Proofs.YtdaildmoodfocaaDoor
open Go.ChangeShapes Go.WideShapes Go.ChangeAt Go.RowKit Go.Sort

/-- The world behind take. -/
def takeW (w : World) (b : Nat) (x : In) (k : Int) : World :=
  if k = 1 then w.setCell ⟨b, 6, none⟩ (.int .u8 0) else if k = 2 then w.setCell ⟨b, 5, none⟩ (.int .u8 0) else if k = 3 then w.setCell ⟨b, 1, none⟩ (.int .u8 0) else if k = 4 then w.setCell ⟨b, 1, none⟩ (.int .u8 0)
  else if k = 5 then w.setCell ⟨b, 2, none⟩ (.int .u8 0) else if k = 6 then w.setCell ⟨b, 3, none⟩ (.int .u8 0) else if k = 7 then w.setCell ⟨b, 4, none⟩ (.int .u8 0)
  else if k = 8 then (if x.new then w.setCell ⟨b, 7, none⟩ (.bool false) else w) else if k = 9 then w.setCell ⟨b, 10, none⟩ (.int .i64 0) else if k = 10 then w.setCell ⟨b, 10, none⟩ (.int .i64 0)
  else if k = 11 then w.setCell ⟨b, 9, none⟩ (.int .u16 0) else w
set_option maxHeartbeats 1000000 in
theorem take_any (w : World) (b : Nat) (x : In) (k : Int) (hx : InAt w b x) (hs : x.small) :
    Calls Tryd.prog 62 #[.pointer (some ⟨b, 0, none⟩), .int .u8 k] w fun e w' => e = .returned (.int .i64 (takeV x k)) ∧ w' = takeW w b x k := by
  obtain ⟨c0, c1, c2, c3, c4, c5, c6, c7, c8, c9, c10⟩ := in_cells hx
  have fz := free_of_lit hx
  have hlt := heap_lt hx
  obtain ⟨xo, xd, xs, xt, xn, xp, xm, xw, xe, xc, xi⟩ := x
  have g1 : 0 ≤ xd := hs.d0
  have g2 : xd ≤ 255 := hs.d1
  have g3 : 0 ≤ xs := hs.s0
  have g4 : xs ≤ 255 := hs.s1
  have g5 : 0 ≤ xt := hs.t0
  have g6 : xt ≤ 255 := hs.t1
  have g7 : 0 ≤ xn := hs.n0
  have g8 : xn ≤ 255 := hs.n1
  have g9 : 0 ≤ xp := hs.pred0
  have g10 : xp ≤ 255 := hs.pred1
  have g11 : 0 ≤ xm := hs.mode0
  have g12 : xm ≤ 255 := hs.mode1
  have g13 : 0 ≤ xc := hs.count0
  have g14 : xc ≤ 65535 := hs.count1
  clear hs
  clear hx
  have hc : k = 1 ∨ k = 2 ∨ k = 3 ∨ k = 4 ∨ k = 5 ∨ k = 6 ∨ k = 7 ∨ k = 8 ∨ k = 9 ∨ k = 10 ∨ k = 11 ∨ (k < 1 ∨ 11 < k) := by omega
  rcases hc with rfl | rfl | rfl | rfl | rfl | rfl | rfl | rfl | rfl | rfl | rfl | hc
  case inr.inr.inr.inr.inr.inr.inr.inr.inr.inr.inr =>
    have e1 : takeV ⟨xo, xd, xs, xt, xn, xp, xm, xw, xe, xc, xi⟩ k = 0 ∧ takeW w b ⟨xo, xd, xs, xt, xn, xp, xm, xw, xe, xc, xi⟩ k = w := by
      unfold takeV takeW
      refine ⟨?_, ?_⟩ <;> iterate 11 (rw [if_neg (by omega)])
    have E := Lib.hid e1
    have n1 : (k == 1) = false := beq_eq_false_iff_ne.2 (by omega)
    have n2 : (k == 2) = false := beq_eq_false_iff_ne.2 (by omega)
    have n3 : (k == 3) = false := beq_eq_false_iff_ne.2 (by omega)
    have n4 : (k == 4) = false := beq_eq_false_iff_ne.2 (by omega)
    have n5 : (k == 5) = false := beq_eq_false_iff_ne.2 (by omega)
    have n6 : (k == 6) = false := beq_eq_false_iff_ne.2 (by omega)
    have n7 : (k == 7) = false := beq_eq_false_iff_ne.2 (by omega)
    have n8 : (k == 8) = false := beq_eq_false_iff_ne.2 (by omega)
    have n9 : (k == 9) = false := beq_eq_false_iff_ne.2 (by omega)
    have n10 : (k == 10) = false := beq_eq_false_iff_ne.2 (by omega)
    have n11 : (k == 11) = false := beq_eq_false_iff_ne.2 (by omega)
    clear e1 hc
    go_enter Tryd.func62, Tryd.ntmps62
    go_wp2
    go_ret
    rw [E.out.1, E.out.2]
    exact ⟨rfl, rfl⟩
  case inr.inr.inr.inr.inr.inr.inr.inl =>
    cases xw
    all_goals
      go_enter Tryd.func62, Tryd.ntmps62
      go_wp2
      go_ret
      exact ⟨rfl, rfl⟩
  all_goals
    go_enter Tryd.func62, Tryd.ntmps62
    go_wp2
    go_ret
    exact ⟨rfl, rfl⟩

/-- What stands behind take: the block holds the rest; all else is as it was. -/
structure Took (w w' : World) (b : Nat) (x : In) : Prop where
  at_ : InAt w' b x
  far : ∀ i, i ≠ b → w'.heap[i]? = w.heap[i]?
  size : w'.heap.size = w.heap.size
  made : ∀ W : World, W.heap.size ≤ b → Made W w → Made W w'
theorem took_set {w : World} {b j : Nat} {x y : In} {v : Value} (hx : InAt w b x) (h : x.cells.toArray.setIfInBounds j v = y.cells.toArray) : Took w (w.setCell ⟨b, j, none⟩ v) b y := by
  refine ⟨?_, fun i hi => Below.heap_setCell w ⟨b, j, none⟩ v i hi, by simp, fun W hW hm => hm.setCell (p := ⟨b, j, none⟩) hW v⟩
  have := heap_setCell_same w b j x.cells.toArray 24 v hx
  rwa [h] at this
theorem took_any {w : World} {b : Nat} {x : In} (k : Int) (hx : InAt w b x) : Took w (takeW w b x k) b (takeR x k) := by
  obtain ⟨xo, xd, xs, xt, xn, xp, xm, xw, xe, xc, xi⟩ := x
  have hc : k = 1 ∨ k = 2 ∨ k = 3 ∨ k = 4 ∨ k = 5 ∨ k = 6 ∨ k = 7 ∨ k = 8 ∨ k = 9 ∨ k = 10 ∨ k = 11 ∨ (k < 1 ∨ 11 < k) := by omega
  rcases hc with rfl | rfl | rfl | rfl | rfl | rfl | rfl | rfl | rfl | rfl | rfl | hc
  case inr.inr.inr.inr.inr.inr.inr.inl =>
    cases xw
    · exact ⟨hx, fun _ _ => rfl, rfl, fun _ _ h => h⟩
    · exact took_set hx rfl
  case inr.inr.inr.inr.inr.inr.inr.inr.inr.inr.inr =>
    have e1 : takeR ⟨xo, xd, xs, xt, xn, xp, xm, xw, xe, xc, xi⟩ k = ⟨xo, xd, xs, xt, xn, xp, xm, xw, xe, xc, xi⟩ ∧ takeW w b ⟨xo, xd, xs, xt, xn, xp, xm, xw, xe, xc, xi⟩ k = w := by
      unfold takeR takeW
      refine ⟨?_, ?_⟩ <;> iterate 11 (rw [if_neg (by omega)])
    rw [e1.1, e1.2]
    exact ⟨hx, fun _ _ => rfl, rfl, fun _ _ h => h⟩
  all_goals exact took_set hx rfl

abbrev Fd.put (f : Fd) : Value := .agg #[.int .u8 f.kind, .int .i64 f.bits, .int .i64 f.shift, .bool f.sg, .bool f.ext]
set_option maxHeartbeats 1000000 in
theorem inRange_any (v : Int) (f : Fd) (ext : Bool) (hv : inI64 v) (W : World) : Makes Tryd.prog W 61 #[.int .i64 v, f.put, .bool ext] (.bool (inRangeB v f ext)) := by
  intro w hm
  have hz := hm.size
  obtain ⟨fk, fb, fs, fg, fe⟩ := f
  have hv2 : isI v := hv
  have hf := fun n s sg => fits_any v n s sg hv2
  obtain ⟨hv0, hv1⟩ := hv
  have HF := Lib.hid hf
  clear hf hv2
  have HM := Lib.hid hm
  clear hm
  by_cases h1 : fk = 1
  · subst h1
    have e : inRangeB v ⟨1, fb, fs, fg, fe⟩ ext = decide (v ≤ 4) := rfl
    have E := Lib.hid e
    clear e
    go_enter Tryd.func61, Tryd.ntmps61
    go_wp2
    go_ret
    exact ⟨ret_bool E.out.symm, HM.out.alloc hz _⟩
  · have k1 : (fk == 1) = false := beq_eq_false_iff_ne.2 h1
    by_cases h2 : fk = 10
    · subst h2
      have e : inRangeB v ⟨10, fb, fs, fg, fe⟩ ext = fitsB v 30 2 false := rfl
      have E := Lib.hid e
      clear e h1 k1
      go_enter Tryd.func61, Tryd.ntmps61
      go_wp2_with (fail)
      refine (HF.out 30 2 false _).mono ?_
      rintro e w1 ⟨rfl, n1, rfl⟩
      go_wp2
      go_ret
      exact ⟨ret_bool E.out.symm, below_drewN (HM.out.alloc hz _) _⟩
    · have k2 : (fk == 10) = false := beq_eq_false_iff_ne.2 h2
      cases fe with
      | false =>
        have e : inRangeB v ⟨fk, fb, fs, fg, false⟩ ext = fitsB v fb fs fg := by unfold inRangeB; rw [if_neg h1, if_neg h2]; rfl
        have E := Lib.hid e
        clear e h1 h2
        go_enter Tryd.func61, Tryd.ntmps61
        go_wp2_with (fail)
        refine (HF.out fb fs fg _).mono ?_
        rintro e w1 ⟨rfl, n1, rfl⟩
        go_wp2
        go_ret
        exact ⟨ret_bool E.out.symm, below_drewN (HM.out.alloc hz _) _⟩
      | true =>
        cases ext with
        | false =>
          have e : inRangeB v ⟨fk, fb, fs, fg, true⟩ false = fitsB v fb fs fg := by unfold inRangeB; rw [if_neg h1, if_neg h2]; rfl
          have E := Lib.hid e
          clear e h1 h2
          go_enter Tryd.func61, Tryd.ntmps61
          go_wp2_with (fail)
          refine (HF.out fb fs fg _).mono ?_
          rintro e w1 ⟨rfl, n1, rfl⟩
          go_wp2
          go_ret
          exact ⟨ret_bool E.out.symm, below_drewN (HM.out.alloc hz _) _⟩
        | true =>
          have e : inRangeB v ⟨fk, fb, fs, fg, true⟩ true = fitsB v 32 0 true := by unfold inRangeB; rw [if_neg h1, if_neg h2]; rfl
          have E := Lib.hid e
          clear e h1 h2
          go_enter Tryd.func61, Tryd.ntmps61
          go_wp2_with (fail)
          refine (HF.out 32 0 true _).mono ?_
          rintro e w1 ⟨rfl, n1, rfl⟩
          go_wp2
          go_ret
          exact ⟨ret_bool E.out.symm, below_drewN (HM.out.alloc hz _) _⟩
end Go.Proofs.YtdaildmoodfocaaDoor
