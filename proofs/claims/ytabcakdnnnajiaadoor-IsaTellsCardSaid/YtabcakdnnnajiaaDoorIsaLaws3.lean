/- IsaTells of the laws of isa returns true, for every op, kind, class and text, in every world that holds the table of names. -/
import Derived.Test.YtabcakdnnnajiaaDoorIsaLaws2
import Derived.Test.YtabcakdnnnajiaaDoorIsaRefA
import Derived.Laws.StructEq
namespace Go.Proofs.YtabcakdnnnajiaaDoor
open Go.ChangeShapes Go.WideShapes Go.ChangeAt Go.RowKit Go.Sort BigFrame

theorem isOfE_as {E : TypeId} {W : World} {op : Int} {e : Ending} {w' : World} (h : IsOfE E W op e w') {fs : List Fd} {o c s : Int} {nm : ByteArray} (he : fs = fieldsZ (opN op) ∧ o = opN op ∧ nm = nameZ (opN op) ∧ c = classZ (opN op) ∧ s = slotsZ (classZ (opN op))) : ∃ (p : Option Addr) (cap : Nat),
    e = .returned (.tuple #[.agg #[.int .u8 o, .string nm, .int .u8 c, .int .u8 s, .slice p fs.length cap], .bool (isOp op)]) ∧ Made W w' ∧
    (fs = [] ∨ ∃ b cur, p = some ⟨b, 0, none⟩ ∧ W.heap.size ≤ b ∧ w'.heap[b]? = some (.cells cur E (0, 0)) ∧ fs.length ≤ cap ∧ cap ≤ maxLen ∧ ∀ j, j < fs.length * 5 → w'.cell? ⟨b, j, none⟩ = (flatF fs)[j]?) := by
  obtain ⟨rfl, rfl, rfl, rfl, rfl⟩ := he
  obtain ⟨p, n, cap, rfl, hm, hw⟩ := h
  rcases hw.2 with ⟨hv, hn⟩ | ⟨g, c, cur, hv, hb, hg, hnc, hcm, hcs, ht⟩
  · cases hv
    have he : fieldsZ (opN op) = [] := List.eq_nil_of_length_eq_zero hn
    exact ⟨none, 0, by rw [he]; rfl, hm, .inl he⟩
  · cases hv
    exact ⟨_, cap, rfl, hm, .inr ⟨g, cur, rfl, hb, hg, hnc, hcm, fun j hj => hw.cellAt j hj⟩⟩

namespace isaTells
/-- What stands while the two rows are held against each other: both local rows, the second's fields' cells, the first's from k on. -/
def Rel (W : World) (b1 r1 b2 r2 : Nat) (fs : List Fd) (v1 v2 : Value) (o : Int) (nm : ByteArray) (c s : Int) (k : Nat) (wr : World) : Prop :=
  Made W wr ∧ wr.heap[r1]? = some (.cells #[.int .u8 o, .string nm, .int .u8 c, .int .u8 s, v1] 24 (0, 0)) ∧ wr.heap[r2]? = some (.cells #[.int .u8 o, .string nm, .int .u8 c, .int .u8 s, v2] 36 (0, 0)) ∧
  (∃ cur, wr.heap[b1]? = some (.cells cur 30 (0, 0)) ∧ fs.length * 5 ≤ cur.size) ∧ (∀ j, k * 5 ≤ j → j < fs.length * 5 → wr.cell? ⟨b1, j, none⟩ = (flatF fs)[j]?) ∧ (∀ j, j < fs.length * 5 → wr.cell? ⟨b2, j, none⟩ = (flatF fs)[j]?)
theorem rel_weak {W wr : World} {b1 r1 b2 r2 k : Nat} {fs : List Fd} {v1 v2 : Value} {o c s : Int} {nm : ByteArray} (h : Rel W b1 r1 b2 r2 fs v1 v2 o nm c s k wr) : Rel W b1 r1 b2 r2 fs v1 v2 o nm c s (k + 1) wr :=
  let ⟨hm, k1, k2, kc, g1, g2⟩ := h
  ⟨hm, k1, k2, kc, fun j h1 h2 => g1 j (by omega) h2, g2⟩
theorem rel_drew {W wr : World} {b1 r1 b2 r2 k : Nat} {fs : List Fd} {v1 v2 : Value} {o c s : Int} {nm : ByteArray} (h : Rel W b1 r1 b2 r2 fs v1 v2 o nm c s k wr) (n : Nat) : Rel W b1 r1 b2 r2 fs v1 v2 o nm c s k (wr.drewN n) :=
  let ⟨hm, k1, k2, kc, g1, g2⟩ := h
  ⟨below_drewN hm n, k1, k2, kc, g1, g2⟩
theorem rel_one {W wr : World} {b1 r1 b2 r2 k j : Nat} {fs : List Fd} {v1 v2 u : Value} {o c s : Int} {nm : ByteArray} (h : Rel W b1 r1 b2 r2 fs v1 v2 o nm c s k wr) (hb : W.heap.size ≤ b1) (h1 : r1 ≠ b1) (h2 : r2 ≠ b1) (h3 : b2 ≠ b1) (hj : j < k * 5) :
    Rel W b1 r1 b2 r2 fs v1 v2 o nm c s k (wr.setCell ⟨b1, j, none⟩ u) := by
  obtain ⟨hm, k1, k2, ⟨cur, kc, hs⟩, g1, g2⟩ := h
  refine ⟨hm.setCell (p := ⟨b1, j, none⟩) hb u, (Below.heap_setCell wr ⟨b1, j, none⟩ u r1 h1).trans k1, (Below.heap_setCell wr ⟨b1, j, none⟩ u r2 h2).trans k2, ⟨_, heap_setCell_same wr b1 j cur _ u kc, by simpa using hs⟩, fun i hi1 hi2 => ?_, fun i hi => ?_⟩
  · rw [World.cell?_setCell_other (h := fun e => by cases e; omega)]; exact g1 i hi1 hi2
  · rw [World.cell?_setCell_other (h := fun e => by cases e; exact h3 rfl)]; exact g2 i hi
theorem rel_five {W wr : World} {b1 r1 b2 r2 k : Nat} {fs : List Fd} {v1 v2 u0 u1 u2 u3 u4 : Value} {o c s : Int} {nm : ByteArray} (h : Rel W b1 r1 b2 r2 fs v1 v2 o nm c s k wr) (hb : W.heap.size ≤ b1) (h1 : r1 ≠ b1) (h2 : r2 ≠ b1) (h3 : b2 ≠ b1) :
    Rel W b1 r1 b2 r2 fs v1 v2 o nm c s (k + 1) (((((wr.setCell ⟨b1, k * 5, none⟩ u0).setCell ⟨b1, k * 5 + 1, none⟩ u1).setCell ⟨b1, k * 5 + 2, none⟩ u2).setCell ⟨b1, k * 5 + 3, none⟩ u3).setCell ⟨b1, k * 5 + 4, none⟩ u4) :=
  rel_one (rel_one (rel_one (rel_one (rel_one (rel_weak h) hb h1 h2 h3 (by omega)) hb h1 h2 h3 (by omega)) hb h1 h2 h3 (by omega)) hb h1 h2 h3 (by omega)) hb h1 h2 h3 (by omega)
section
attribute [local irreducible] World.cell?
set_option maxHeartbeats 4000000 in
theorem walk (W : World) (hN : Names W) (a0 a1 a2 : Int) (a3 : ByteArray) (w0 : (Lit.int .u8 a0).wf = true) (w1 : (Lit.int .u8 a1).wf = true) (w2 : (Lit.int .u8 a2).wf = true) (w3 : a3.size ≤ maxLen) :
    Calls Tryd.prog 4 #[.int .u8 a0, .int .u8 a1, .int .u8 a2, .string a3] W fun e w' => e = .returned (.bool true) ∧ Made W w' := by
  obtain ⟨ha0, hb0⟩ := u8_of_wf w0
  obtain ⟨ha1, hb1⟩ := u8_of_wf w1
  obtain ⟨ha2, hb2⟩ := u8_of_wf w2
  unfold maxLen at w3
  have hf0 := fields_few (opN a0)
  clear w0 w1 w2
  go_enter Tryd.func4, Tryd.ntmps4
  go_upto_if 26 with (fail)
  go_cut [3] from 24 to 28 (fun s wc => (∃ S : ByteArray, s = .string S) ∧ wc = W)
  case first =>
    go_wp2
    all_goals
      go_meet
      case rel => exact ⟨⟨_, rfl⟩, rfl⟩
  case rest =>
    obtain ⟨⟨S, rfl⟩, hw⟩ := hcut
    have hw2 := hw.symm
    subst hw2
    clear hw
    go_wp2_with (fail)
    refine (of_any W hN a0 ha0 _ (Made.refl _)).mono ?_
    intro e x1 h
    obtain ⟨p1, cap1, fs, o, nm, c, s, hfs, ho, hnm, hc, hs, rfl, h1, hrow1⟩ := isOf_any h
    have HE := Lib.hid (And.intro hfs (And.intro ho (And.intro hnm (And.intro hc hs))))
    rewrite [← hfs] at hf0
    clear h hfs ho hnm hc hs
    have hz1 := h1.size
    go_wp2_with (fail)
    refine (refOf_any a0 ha0 hb0 _ _ (Made.refl _)).mono ?_
    intro e x2 h
    obtain ⟨p2, cap2, rfl, h2, hrow2⟩ := isOfE_as h HE.out
    clear h
    have M2 := Lib.hid (Made.trans (h1.alloc hz1 _) h2)
    have r1 := h2.heap (heap_alloc_new x1 _)
    have hz2 := M2.out.size
    have hl1 := heap_lt r1
    obtain ⟨e0, e1, e2, e3, e4⟩ := row_cells r1
    have HROW := Lib.hid (And.intro hrow1 (And.intro hrow2 (And.intro r1 (And.intro h2 h1))))
    clear hrow1 hrow2 r1 h2 h1
    go_upto_block 0 with (fail)
    go_cut [13] from 79 to 101 (fun _ wd => Made W wd)
    case first =>
      obtain ⟨hrow1, hrow2, r1, h2, h1⟩ := HROW.out
      rcases hrow1 with rfl | ⟨b1, cur1, rfl, hb1', hcur1, hsz1, hnc1, hcm1, hcell1⟩
      · clear hrow2 r1 h2 h1
        go_wp2_with (fail)
        refine wp_loop_rounds 1 ?_
        rewrite [rounds_succ]
        go_wp2
        go_meet
        case rel => exact M2.out.alloc hz2 _
      · rcases hrow2 with rfl | ⟨b2, cur2, rfl, hb2', hcur2, hnc2, hcm2, hcell2⟩
        · clear r1 h2 h1 hcur1 hcell1
          go_wp2_with (fail)
          refine wp_loop_rounds 1 ?_
          rewrite [rounds_succ]
          go_wp2
          go_meet
          case rel => exact M2.out.alloc hz2 _
        · have hlt1 := heap_lt hcur1
          have hlt2 := heap_lt hcur2
          have hk1 := h2.heap ((Below.heap_alloc x1 (.cells #[.int .u8 o, .string nm, .int .u8 c, .int .u8 s, .slice (some ⟨b1, 0, none⟩) fs.length cap1] 24) b1 hlt1).trans hcur1)
          have hR : Rel W b1 x1.heap.size b2 x2.heap.size fs (.slice (some ⟨b1, 0, none⟩) fs.length cap1) (.slice (some ⟨b2, 0, none⟩) fs.length cap2) o nm c s 0 (x2.alloc (.cells #[.int .u8 o, .string nm, .int .u8 c, .int .u8 s, .slice (some ⟨b2, 0, none⟩) fs.length cap2] 36)) := by
            have hl2 : b1 < x2.heap.size := heap_lt hk1
            have hbb := Made.refl x2 |>.alloc (Nat.le_refl _) (.cells #[.int .u8 o, .string nm, .int .u8 c, .int .u8 s, .slice (some ⟨b2, 0, none⟩) fs.length cap2] 36)
            refine ⟨M2.out.alloc hz2 _, (Below.heap_alloc x2 _ _ hl1).trans r1, heap_alloc_new x2 _, ⟨cur1, (Below.heap_alloc x2 _ _ hl2).trans hk1, hsz1⟩, fun j _ hj => ?_, fun j hj => ?_⟩
            · rw [hbb.cell (p := ⟨b1, j, none⟩) hl2, h2.cell (p := ⟨b1, j, none⟩) (by simp only [World.size_alloc]; show b1 < _; omega), (Below.alloc (Below.refl x1.heap.size x1) (Nat.le_refl _) _).cell (p := ⟨b1, j, none⟩) hlt1]
              exact hcell1 j hj
            · rw [hbb.cell (p := ⟨b2, j, none⟩) hlt2]
              exact hcell2 j hj
          have HRl := Lib.hid hR
          have hb12 : b1 < x1.heap.size := hlt1
          have hb22 : x1.heap.size < b2 := by simp only [World.size_alloc] at hb2'; omega
          have hbw : W.heap.size ≤ b1 := hb1'
          have hn1 : x1.heap.size ≠ b1 := by omega
          have hn2 : x2.heap.size ≠ b1 := by omega
          have hn3 : b2 ≠ b1 := by omega
          unfold maxLen at hcm1 hcm2
          clear hcur1 hcell1 hcur2 hcell2 hk1 hR r1 h2 h1
          go_wp2_with (fail)
          go_loopw [13] (fun i wr => ∃ k : Nat, k ≤ fs.length ∧ i = .int .i64 k ∧ Rel W b1 x1.heap.size b2 x2.heap.size fs (.slice (some ⟨b1, 0, none⟩) fs.length cap1) (.slice (some ⟨b2, 0, none⟩) fs.length cap2) o nm c s k wr) (fun i _ => fs.length - (intOf i).toNat)
          case atStart => exact ⟨0, Nat.zero_le _, rfl, HRl.out⟩
          case round =>
            obtain ⟨k, hk, rfl, hrel⟩ := hrel
            have HK := Lib.hid hrel
            obtain ⟨hm, k1, k2, ⟨cur, kc, hs2⟩, g1, g2⟩ := hrel
            obtain ⟨d0, d1, d2, d3, d4⟩ := row_cells k1
            obtain ⟨q0, q1, q2, q3, q4⟩ := row_cells k2
            by_cases hlt3 : k < fs.length
            · have fl := flat_at fs k hlt3
              have y0 : wr.cell? ⟨b1, k * 5, none⟩ = _ := (g1 (k * 5) (by omega) (by omega)).trans fl.1
              have y1 := (g1 (k * 5 + 1) (by omega) (by omega)).trans fl.2.1
              have y2 := (g1 (k * 5 + 2) (by omega) (by omega)).trans fl.2.2.1
              have y3 := (g1 (k * 5 + 3) (by omega) (by omega)).trans fl.2.2.2.1
              have y4 := (g1 (k * 5 + 4) (by omega) (by omega)).trans fl.2.2.2.2
              have z0 : wr.cell? ⟨b2, k * 5, none⟩ = _ := (g2 (k * 5) (by omega)).trans fl.1
              have z1 := (g2 (k * 5 + 1) (by omega)).trans fl.2.1
              have z2 := (g2 (k * 5 + 2) (by omega)).trans fl.2.2.1
              have z3 := (g2 (k * 5 + 3) (by omega)).trans fl.2.2.2.1
              have z4 := (g2 (k * 5 + 4) (by omega)).trans fl.2.2.2.2
              have yf := free_of_lit kc
              have hki : (k : Int) < fs.length := by omega
              clear hm k1 k2 kc g1 g2 fl
              generalize fs[k] = f at *
              go_wp2_with (fail)
              go_quiet (fail)
              go_wp2
              go_roundw
              case rel => exact ⟨k + 1, by omega, by go_num, rel_five (rel_drew HK.out _) hbw hn1 hn2 hn3⟩
              case measure => simp [intOf]; omega
            · have hM := Lib.hid hm
              clear hm k1 k2 kc g1 g2
              go_wp2
              go_meet
              case rel => exact hM.out
    case rest =>
      have HC := Lib.hid hcut
      have HBy := Lib.hid (by_any S)
      have HBr := Lib.hid (refBy_any S)
      have hsl := slots_any a2 ha2 hb2
      have HSl := Lib.hid hsl
      have HSr := Lib.hid (refSlots_any a2 ha2 hb2)
      clear hcut hsl e0 e1 e2 e3 e4
      go_wp2_with (fail)
      refine (at_any W hN a0 a1 ha0 _ HC.out).mono ?_
      rintro e x3 ⟨rfl, h3⟩
      have hz3 := h3.size
      go_wp2_with (fail)
      refine (refAt_any a0 a1 ha0 hb0 _ _ (Made.refl _)).mono ?_
      rintro e x4 ⟨rfl, h4⟩
      have r3 := h4.heap (heap_alloc_new x3 _)
      have hl3 := heap_lt r3
      obtain ⟨t0, t1, t2, t3, t4⟩ := row_cells r3
      have M4 := Lib.hid (Made.trans (h3.alloc hz3 _) h4)
      have hz4 := M4.out.size
      clear h3 h4 r3
      go_wp2_with (fail)
      refine (HBy.out _ (hN.made (M4.out.alloc hz4 _))).mono ?_
      rintro e x5 ⟨rfl, rfl⟩
      go_wp2_with (fail)
      refine (HBr.out _).mono ?_
      rintro e x5 ⟨rfl, nd, rfl⟩
      generalize byZ S.toList = bz at *
      obtain ⟨bz1, bz2⟩ := bz
      go_wp2_with (fail)
      refine (HSl.out _).mono ?_
      rintro e x6 ⟨rfl, rfl⟩
      go_wp2_with (fail)
      refine (HSr.out _ _ (Made.refl _)).mono ?_
      rintro e x7 ⟨rfl, h7⟩
      have M7 := Lib.hid (Made.trans (below_drewN (M4.out.alloc hz4 _) nd) h7)
      clear h7
      go_wp2_with (fail)
      refine (awake_any W hN _ M7.out).mono ?_
      rintro e x8 ⟨rfl, h8⟩
      go_wp2
      go_ret
      exact ⟨rfl, h8⟩
end
end isaTells
end Go.Proofs.YtabcakdnnnajiaaDoor
