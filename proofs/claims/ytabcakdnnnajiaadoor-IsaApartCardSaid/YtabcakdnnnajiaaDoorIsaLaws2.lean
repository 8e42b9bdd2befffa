/- IsaOwn of the laws of isa returns true, for every two ops, in every world that holds the table of names. -/
import Derived.Test.YtabcakdnnnajiaaDoorIsaLaws
import Derived.Deep.CutBlock
import Derived.Deep.CutRange
namespace Go.Proofs.YtabcakdnnnajiaaDoor
open Go.ChangeShapes Go.WideShapes Go.ChangeAt Go.RowKit Go.Sort BigFrame

theorem isOf_any {W : World} {op : Int} {e : Ending} {w' : World} (h : IsOf W op e w') : ∃ (p : Option Addr) (cap : Nat) (fs : List Fd) (o : Int) (nm : ByteArray) (c s : Int), fs = fieldsZ (opN op) ∧ o = opN op ∧ nm = nameZ (opN op) ∧ c = classZ (opN op) ∧ s = slotsZ (classZ (opN op)) ∧
    e = .returned (.tuple #[.agg #[.int .u8 o, .string nm, .int .u8 c, .int .u8 s, .slice p fs.length cap], .bool (isOp op)]) ∧ Made W w' ∧
    (fs = [] ∨ ∃ b cur, p = some ⟨b, 0, none⟩ ∧ W.heap.size ≤ b ∧ w'.heap[b]? = some (.cells cur 30 (0, 0)) ∧ fs.length * 5 ≤ cur.size ∧ fs.length ≤ cap ∧ cap ≤ maxLen ∧ ∀ j, j < fs.length * 5 → w'.cell? ⟨b, j, none⟩ = (flatF fs)[j]?) := by
  obtain ⟨p, n, cap, rfl, hm, hw⟩ := h
  rcases hw.2 with ⟨hv, hn⟩ | ⟨g, c, cur, hv, hb, hg, hnc, hcm, hcs, ht⟩
  · cases hv
    have he : fieldsZ (opN op) = [] := List.eq_nil_of_length_eq_zero hn
    exact ⟨none, 0, [], _, _, _, _, he.symm, rfl, rfl, rfl, rfl, rfl, hm, .inl rfl⟩
  · cases hv
    exact ⟨_, cap, _, _, _, _, _, rfl, rfl, rfl, rfl, rfl, rfl, hm, .inr ⟨g, cur, rfl, hb, hg, by rw [hcs]; exact Nat.mul_le_mul_right 5 hnc, hnc, hcm, fun j hj => hw.cellAt j hj⟩⟩
theorem u8_of_wf {n : Int} (h : (Lit.int .u8 n).wf = true) : 0 ≤ n ∧ n < 256 := by
  simp only [Lit.wf, Bool.and_eq_true, decide_eq_true_eq] at h
  have h1 : IntKind.u8.min = 0 := rfl
  have h2 : IntKind.u8.max = 255 := rfl
  exact ⟨by omega, by omega⟩
/-- Some cell of a block that is known whole. -/
theorem cell_some {w : World} {b j : Nat} {cs : Array Value} {T : TypeId} (h : w.heap[b]? = some (.cells cs T (0, 0))) (hj : j < cs.size) : w.cell? ⟨b, j, none⟩ = some cs[j] := by
  simp [World.cell?, h, hj]

namespace isaOwn
/-- What stands while the fields are written over: the local row, the fields' block. -/
def Rel (W : World) (br b len : Nat) (v : Value) (o : Int) (nm : ByteArray) (c s : Int) (wr : World) : Prop :=
  Made W wr ∧ wr.heap[br]? = some (.cells #[.int .u8 o, .string nm, .int .u8 c, .int .u8 s, v] 24 (0, 0)) ∧ ∃ cur, wr.heap[b]? = some (.cells cur 30 (0, 0)) ∧ len * 5 ≤ cur.size
theorem rel_next {W wr : World} {br b len j : Nat} {v u : Value} {o c s : Int} {nm : ByteArray} (h : Rel W br b len v o nm c s wr) (hb : W.heap.size ≤ b) (hne : br ≠ b) : Rel W br b len v o nm c s (wr.setCell ⟨b, j, none⟩ u) := by
  obtain ⟨hm, k1, cur, k2, hs⟩ := h
  exact ⟨hm.setCell (p := ⟨b, j, none⟩) hb u, (Below.heap_setCell wr ⟨b, j, none⟩ u br hne).trans k1, _, heap_setCell_same wr b j cur _ u k2, by simpa using hs⟩
section
attribute [local irreducible] World.cell?
set_option maxHeartbeats 2000000 in
theorem walk (W : World) (hN : Names W) (a0 a1 : Int) (w0 : (Lit.int .u8 a0).wf = true) (w1 : (Lit.int .u8 a1).wf = true) : Calls Tryd.prog 6 #[.int .u8 a0, .int .u8 a1] W fun e w' => e = .returned (.bool true) ∧ Made W w' := by
  have ha0 : 0 ≤ a0 := (u8_of_wf w0).1
  have ha1 : 0 ≤ a1 := (u8_of_wf w1).1
  have hf0 := fields_few (opN a0)
  have hf1 := fields_few (opN a1)
  have HSm := Lib.hid (fields_small (opN a1))
  clear w0 w1
  go_enter Tryd.func6, Tryd.ntmps6
  go_wp2_with (fail)
  refine (of_any W hN a0 ha0 _ (Made.refl _)).mono ?_
  intro e x1 h
  obtain ⟨p, cap, fs, o, nm, c, s, hfs, -, -, -, -, rfl, h1, hrow⟩ := isOf_any h
  rewrite [← hfs] at hf0
  clear h hfs
  have hz1 := h1.size
  have M1 := Lib.hid h1
  have HR := Lib.hid hrow
  clear hrow h1
  go_upto_block 0 with (fail)
  go_cut [7] from 16 to 27 (fun _ wc => Made W wc)
  case first =>
    rcases HR.out with rfl | ⟨b, cur, rfl, hb, hcur, hsz, hnc, hcm, _⟩
    · go_wp2_with (fail)
      refine wp_loop_rounds 1 ?_
      rewrite [rounds_succ]
      go_wp2
      go_meet
      case rel => exact M1.out.alloc hz1 _
    · unfold maxLen at hcm
      have hlt : b < x1.heap.size := heap_lt hcur
      have hR : Rel W x1.heap.size b fs.length (.slice (some ⟨b, 0, none⟩) fs.length cap) o nm c s (x1.alloc (.cells #[.int .u8 o, .string nm, .int .u8 c, .int .u8 s, .slice (some ⟨b, 0, none⟩) fs.length cap] 24)) :=
        ⟨M1.out.alloc hz1 _, heap_alloc_new x1 _, cur, (Below.heap_alloc x1 _ b hlt).trans hcur, hsz⟩
      have HRl := Lib.hid hR
      have hne : x1.heap.size ≠ b := by omega
      clear hcur hR
      go_wp2_with (fail)
      go_loopw [7] (fun i wr => ∃ k : Nat, k ≤ fs.length ∧ i = .int .i64 k ∧ Rel W x1.heap.size b fs.length (.slice (some ⟨b, 0, none⟩) fs.length cap) o nm c s wr) (fun i _ => fs.length - (intOf i).toNat)
      case atStart => exact ⟨0, Nat.zero_le _, rfl, HRl.out⟩
      case round =>
        obtain ⟨k, hk, rfl, hrel⟩ := hrel
        have HK := Lib.hid hrel
        obtain ⟨hm, k1, cur2, k2, hs2⟩ := hrel
        obtain ⟨c0, c1, c2, c3, c4⟩ := row_cells k1
        by_cases hlt2 : k < fs.length
        · have q := cell_some (j := k * 5 + 1) k2 (by omega)
          have qf := free_of_lit k2 (k * 5 + 1)
          clear hm k1 k2
          go_wp2
          go_roundw
          case rel => exact ⟨k + 1, by omega, by go_num, rel_next HK.out hb hne⟩
          case measure => simp [intOf]; omega
        · have hM := Lib.hid hm
          clear hm k1 k2
          go_wp2
          go_meet
          case rel => exact hM.out
  case rest =>
    have HC := Lib.hid hcut
    clear hcut HR M1
    go_wp2_with (fail)
    refine (of_any W hN a1 ha1 _ HC.out).mono ?_
    intro e x2 h
    obtain ⟨p2, cap2, fs2, o2, nm2, c2, s2, hfs2, -, -, -, -, rfl, h2, hrow2⟩ := isOf_any h
    have HS2 := Lib.hid (hfs2 ▸ HSm.out)
    rewrite [← hfs2] at hf1
    clear h hfs2
    have hz2 := h2.size
    have M2 := Lib.hid (h2.alloc hz2 (.cells #[.int .u8 o2, .string nm2, .int .u8 c2, .int .u8 s2, .slice p2 fs2.length cap2] 24))
    clear h2
    rcases hrow2 with rfl | ⟨b, cur, rfl, hb, hcur, hsz, hnc, hcm, hcell⟩
    · go_wp2_with (fail)
      refine wp_loop_rounds 1 ?_
      rewrite [rounds_succ]
      go_wp2_with (fail)
      refine (awake_any W hN _ M2.out).mono ?_
      rintro e x3 ⟨rfl, h3⟩
      go_wp2
      go_ret
      exact ⟨rfl, h3⟩
    · unfold maxLen at hcm
      have hlt : b < x2.heap.size := heap_lt hcur
      have HCe := Lib.hid hcell
      clear hcell hcur
      go_wp2_with (fail)
      go_loop [10] (fun i => ∃ k : Nat, k ≤ fs2.length ∧ i = .int .i64 k) (fun i => fs2.length - (intOf i).toNat)
      case atStart => exact ⟨0, Nat.zero_le _, rfl⟩
      case round =>
        obtain ⟨k, hk, rfl⟩ := hrel
        by_cases hlt2 : k < fs2.length
        · have q := (HCe.out (k * 5 + 1) (by omega)).trans (flat_at fs2 k hlt2).2.1
          obtain ⟨_, _, s1, s2, _⟩ := HS2.out fs2[k] (List.getElem_mem _)
          generalize fs2[k] = f at *
          have hg : decide ((24 : Int) < f.bits) = false := by simp; omega
          go_wp2
          go_round
          case rel => exact ⟨k + 1, by omega, by go_num⟩
          case measure => simp [intOf]; omega
        · obtain rfl : k = fs2.length := by omega
          go_wp2_with (fail)
          refine (awake_any W hN _ M2.out).mono ?_
          rintro e x3 ⟨rfl, h3⟩
          go_wp2
          go_ret
          exact ⟨rfl, h3⟩
end
end isaOwn
end Go.Proofs.YtabcakdnnnajiaaDoor
