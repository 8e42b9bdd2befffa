/- What plain, wide, accessShift, Slots, cond and row of package isa return, for every argument that their callers give. -/
import Derived.Test.YtdaildmoodfocaaDoorMem
import Derived.Test.YtdaildmoodfocaaDoorIsaMath
import Derived.StillTailTactics
namespace Go.Proofs.YtdaildmoodfocaaDoor
open Go.ChangeShapes Go.WideShapes Go.ChangeAt Go.RowKit

def Fd.cells (f : Fd) : List Value := [.int .u8 f.kind, .int .i64 f.bits, .int .i64 f.shift, .bool f.sg, .bool f.ext]
def Fd.val (f : Fd) : Value := .agg f.cells.toArray
def flatF (l : List Fd) : List Value := l.flatMap Fd.cells

theorem plain_any (k n : Int) (W : World) : Makes Tryd.prog W 64 #[.int .u8 k, .int .i64 n] (.agg #[.int .u8 k, .int .i64 n, .int .i64 0, .bool false, .bool false]) := by
  intro w hg
  have hz := hg.size
  go_enter Tryd.func64, Tryd.ntmps64
  go_wp2
  go_returns
  exact ⟨rfl, by go_grown⟩

theorem wide_any (k n s : Int) (W : World) : Makes Tryd.prog W 67 #[.int .u8 k, .int .i64 n, .int .i64 s] (.agg #[.int .u8 k, .int .i64 n, .int .i64 s, .bool true, .bool true]) := by
  intro w hg
  have hz := hg.size
  go_enter Tryd.func67, Tryd.ntmps67
  go_wp2
  go_returns
  exact ⟨rfl, by go_grown⟩

theorem slots_any (c : Int) (h0 : 0 ≤ c) (h1 : c < 256) : Still Tryd.prog 70 #[.int .u8 c] (.int .u8 (slotsZ c)) := by
  intro w
  have hc : c = 0 ∨ c = 1 ∨ c = 2 ∨ c = 3 ∨ c = 4 ∨ c = 5 ∨ c = 6 ∨ 6 < c := by omega
  rcases hc with rfl | rfl | rfl | rfl | rfl | rfl | rfl | hc
  case inr.inr.inr.inr.inr.inr.inr =>
    have e : slotsZ c = 0 := by
      unfold slotsZ slotsL
      obtain ⟨k, rfl⟩ := Int.eq_ofNat_of_zero_le h0
      rw [Int.toNat_natCast, List.getD_eq_getElem?_getD, List.getElem?_eq_none (by simp; omega)]; rfl
    rw [e]
    have c1 : (c == 1) = false := beq_eq_false_iff_ne.2 (by omega)
    have c2 : (c == 2) = false := beq_eq_false_iff_ne.2 (by omega)
    have c3 : (c == 3) = false := beq_eq_false_iff_ne.2 (by omega)
    have c4 : (c == 4) = false := beq_eq_false_iff_ne.2 (by omega)
    have c5 : (c == 5) = false := beq_eq_false_iff_ne.2 (by omega)
    have c6 : (c == 6) = false := beq_eq_false_iff_ne.2 (by omega)
    clear e hc
    go_enter Tryd.func70, Tryd.ntmps70
    go_wp2
    go_ret
    exact ⟨rfl, rfl⟩
  all_goals
    go_enter Tryd.func70, Tryd.ntmps70
    go_wp2
    go_ret
    exact ⟨rfl, rfl⟩

def Names (W : World) : Prop := ∃ T fr, W.heap[0]? = some (.cells (namesL.map fun l => Value.string ⟨l.toArray⟩).toArray T fr)
theorem Names.made {W w : World} (h : Names W) (hm : Made W w) : Names w := let ⟨T, fr, h⟩ := h; ⟨T, fr, hm.heap h⟩

def IsRow (E : TypeId) (W : World) (fs : List Fd) (e : Ending) (w' : World) : Prop := ∃ p n cap, e = .returned (.slice p n cap) ∧ Made W w' ∧ w'.ownsRow W.heap.size E 5 (.slice p n cap) fs.length (flatF fs)

theorem info_field : (Tryd.prog.info? 69).map (fun i => (i.zero, i.size, i.bytes)) = some (some (.agg #[.int .u8 0, .int .i64 0, .int .i64 0, .bool false, .bool false]), 5, 32) := by kernel_rfl
theorem flat_len (l : List Fd) : (flatF l).length = l.length * 5 := by
  unfold flatF
  induction l with
  | nil => rfl
  | cons f r ih => rw [List.flatMap_cons, List.length_append, ih]; simp [Fd.cells]; omega
theorem flat_one (l : List Fd) : ∀ u ∈ flatF l, u.oneCell' = true := by
  intro u hu
  obtain ⟨f, _, hf⟩ := List.mem_flatMap.1 hu
  simp only [Fd.cells, List.mem_cons, List.not_mem_nil, or_false] at hf
  rcases hf with rfl | rfl | rfl | rfl | rfl <;> rfl
theorem flat_append (a b : List Fd) : flatF (a ++ b) = flatF a ++ flatF b := by simp [flatF]
theorem owns_slice {w : World} {B : Nat} {E : TypeId} {size : Nat} {v : Value} {n : Nat} {xs : List Value} (h : w.ownsRow B E size v n xs) : ∃ p n cap, v = .slice p n cap := by
  rcases h.2 with ⟨h, _⟩ | ⟨g, cap, cur, h, _⟩
  · exact ⟨_, _, _, h⟩
  · exact ⟨_, _, _, h⟩
set_option maxHeartbeats 400000 in
theorem cond_any (b cap : Nat) (fs : List Fd) (W w : World) (hm : Made W w) (h8 : fs.length ≤ 8) (T : TypeId) (fr : Nat × Nat) (hb : w.heap[b]? = some (.cells (flatF fs).toArray T fr)) :
    Calls Tryd.prog 66 #[.slice (some ⟨b, 0, none⟩) fs.length cap] w (IsRow 69 W ([fMode, fPred] ++ fs)) := by
  obtain ⟨i0, hi, hz0, hz1, hz2⟩ := info_parts info_field
  have HB := Lib.hid hb
  clear hb
  go_enter Tryd.func66, Tryd.ntmps66
  go_wp2_with (fail)
  refine (plain_any _ _ w _ (Made.refl w)).mono ?_
  rintro e w1 ⟨rfl, hb1⟩
  go_wp2_with (fail)
  refine (plain_any _ _ w _ hb1).mono ?_
  rintro e w2 ⟨rfl, hb2⟩
  have hz := hb2.size
  have hz' := hm.size
  go_wp2_with (at_builtin; refine wpList_append_own _ rfl (.tmp 5) (.tmp 6) 54 rfl W.heap.size 69 i0 _ 5 32 Tryd.underlying54 hi hz0 hz1 hz2 rfl (by decide) _ 2 (flatF [fMode, fPred]) rfl ?c1 ⟨b, 0, none⟩ fs.length cap (flatF fs) rfl ?c2 ?c3 ?c4 ?c5 ?c6 ?c7 ?_)
  case c1 => exact World.ownsRow_lit (size := 5) w2 (flatF [fMode, fPred]).toArray 2 (by omega) (by unfold maxLen; omega) rfl
  case c2 => exact flat_len fs
  case c3 => exact fun j u hj => cells_of_lit (((Made.trans hb2 ((Made.refl w2).alloc (Nat.le_refl _) _))).heap HB.out) j u hj
  case c4 => exact flat_one fs
  case c5 => unfold maxLen; omega
  case c6 => omega
  case c7 => simp; omega
  intro v' w3 hown hgr _
  have hM : Made W w3 := ((Made.trans hm hb2).alloc (by omega) _).grown hgr (by simp; omega) (by intro k hk; cases hk; show W.heap.size ≤ w2.heap.size; omega)
  rw [← flat_append, ← show ([fMode, fPred] ++ fs).length = 2 + fs.length by simp; omega] at hown
  obtain ⟨p, n, c, rfl⟩ := owns_slice hown
  have HO := Lib.hid hown
  clear hown hgr hb2 hb1
  go_wp2
  go_ret
  exact ⟨_, _, _, rfl, hM, HO.out⟩

set_option maxRecDepth 100000 in
theorem row_any (k : Nat) (c : Int) (p : Option Addr) (n cap : Nat) (hk : k < 32) (h0 : 0 ≤ c) (h1 : c < 256) (W : World) (hN : Names W) : Makes Tryd.prog W 65 #[.int .u8 k, .int .u8 c, .slice p n cap] (.agg #[.int .u8 k, .string (nameZ k), .int .u8 c, .int .u8 (slotsZ c), .slice p n cap]) := by
  intro w hm
  obtain ⟨T, fr, hb⟩ := hN
  have hb' := hm.heap hb
  have hlt := heap_lt hb'
  have hcell : w.cell? ⟨0, k, none⟩ = some (.string (nameZ k)) := by
    rw [cell_of_lit hb']
    have : k < namesL.length := hk
    simp [nameZ, nameL, List.getD_eq_getElem?_getD, this]
  clear hb hb'
  have hki : (k : Int) < 32 := by omega
  have hz := hm.size
  go_enter Tryd.func65, Tryd.ntmps65
  go_wp2
  refine wp_region_tail 9 (by kernel_rfl) (by kernel_rfl) ?_
  simp only [List.take_succ_cons, List.take_zero, List.drop_succ_cons, List.drop_zero]
  repeat still_step
  still_call ((slots_any c h0 h1).at _)
  repeat still_step
  refine wpStill_nil ?_
  go_wp2
  go_returns
  exact ⟨rfl, by go_grown⟩
end Go.Proofs.YtdaildmoodfocaaDoor
