/- What getPart and putPart of package bits return, in every world that holds the table of pieces. -/
import Derived.Test.YtckekkedjlkljaaDoorBitsFns
namespace Go.Proofs.YtckekkedjlkljaaDoor
open Go.ChangeShapes Go.WideShapes Go.ChangeAt Go.RowKit

/-! ### the table of pieces; bits.getPart, putPart, Word, Parts, Thirty, FromThirty -/
def piecesCells : Array Value := #[.int .u8 1, .int .i64 26, .int .i64 6, .int .i64 0, .int .u8 2, .int .i64 16, .int .i64 10, .int .i64 14, .int .u8 2, .int .i64 0, .int .i64 14, .int .i64 0,
  .int .u8 3, .int .i64 14, .int .i64 2, .int .i64 0, .int .u8 4, .int .i64 16, .int .i64 16, .int .i64 14, .int .u8 4, .int .i64 0, .int .i64 14, .int .i64 0]
def Pieces (W : World) : Prop := ∃ T fr, W.heap[1]? = some (.cells piecesCells T fr)
theorem grown_heap {W w : World} (h : Grown W w) {i : Nat} {c : Array Value} {t : TypeId} {fr : Nat × Nat} (hi : W.heap[i]? = some (.cells c t fr)) : w.heap[i]? = some (.cells c t fr) := by
  have hlt : i < W.heap.size := by
    rcases Nat.lt_or_ge i W.heap.size with h | h
    · exact h
    · simp [Array.getElem?_eq_none h] at hi
  have := h.1.2.2 i hlt
  rw [hi] at this
  split at this
  · rename_i c1 t1 f1 c2 t2 f2 e1 e2
    obtain ⟨r1, r2, r3, r4⟩ := this
    simp only [Option.some.injEq, Obj.cells.injEq] at e1
    obtain ⟨rfl, rfl, rfl⟩ := e1
    rw [e2, r1, r2]
    congr 2
    exact Array.ext_getElem? fun j => r4 j (fun h => h)
  · rename_i e1 _
    cases e1
  · rename_i e1 e2 e3
    exact this
theorem Pieces.grown {W w : World} (h : Pieces W) (hg : Grown W w) : Pieces w := let ⟨T, fr, h⟩ := h; ⟨T, fr, grown_heap hg h⟩

theorem ifp {k : IntKind} {p : Prop} [Decidable p] {a b : Int} (h : p) : Value.int k a = Value.int k (if p then a else b) := by rw [if_pos h]
theorem ifn {k : IntKind} {p : Prop} [Decidable p] {a b : Int} (h : ¬ p) : Value.int k b = Value.int k (if p then a else b) := by rw [if_neg h]

/-- a table's row: the part, its place in the word, bits, its place in the part -/
def pieceOf (i : Nat) : Int := [1, 2, 2, 3, 4, 4].getD i 0
def pieceAt (i : Nat) : Int := [26, 16, 0, 14, 16, 0].getD i 0
def pieceN (i : Nat) : Int := [6, 10, 14, 2, 16, 14].getD i 0
def pieceFrom (i : Nat) : Int := [0, 14, 0, 0, 14, 0].getD i 0
def gpZ (v c : Int) : Nat → Int
  | 0 => 0
  | i + 1 => if pieceOf i = c then putZ (gpZ v c i) (pieceFrom i) (pieceN i) (getZ v (pieceAt i) (pieceN i)) else gpZ v c i
theorem gpZ_u32 (v c : Int) (hv : isU32 v) : ∀ i, isU32 (gpZ v c i)
  | 0 => ⟨Int.le_refl 0, (by decide : (0:Int) < 4294967296)⟩
  | i + 1 => by
    unfold gpZ
    split
    · exact putZ_u32 _ _ _ _ (gpZ_u32 v c hv i) (getZ_u32 _ _ _ hv)
    · exact gpZ_u32 v c hv i

set_option maxHeartbeats 400000 in
theorem getPart_any (W : World) (hp : Pieces W) (v c : Int) (hv : isU32 v) : Pure Tryd.prog W 28 #[.int .u32 v, .int .u8 c] (.int .u32 (gpZ v c 6)) := by
  intro w hg
  obtain ⟨T, fr, hb⟩ := hp.grown hg
  go_enter Tryd.func28, Tryd.ntmps28
  go_wp2_with (refine wpList_load_row rfl 74 _ rfl 1 rfl T _ fr _ hb Tryd.underlying74 rfl (by kernel_rfl) ?_)
  clear hb
  have i0 : ∀ w, (Instr.index 74 (.agg piecesCells) (.int .i64 0)).run Tryd.prog w = .ok (.agg #[.int .u8 1, .int .i64 26, .int .i64 6, .int .i64 0]) w := fun _ => by kernel_rfl
  have i1 : ∀ w, (Instr.index 74 (.agg piecesCells) (.int .i64 1)).run Tryd.prog w = .ok (.agg #[.int .u8 2, .int .i64 16, .int .i64 10, .int .i64 14]) w := fun _ => by kernel_rfl
  have i2 : ∀ w, (Instr.index 74 (.agg piecesCells) (.int .i64 2)).run Tryd.prog w = .ok (.agg #[.int .u8 2, .int .i64 0, .int .i64 14, .int .i64 0]) w := fun _ => by kernel_rfl
  have i3 : ∀ w, (Instr.index 74 (.agg piecesCells) (.int .i64 3)).run Tryd.prog w = .ok (.agg #[.int .u8 3, .int .i64 14, .int .i64 2, .int .i64 0]) w := fun _ => by kernel_rfl
  have i4 : ∀ w, (Instr.index 74 (.agg piecesCells) (.int .i64 4)).run Tryd.prog w = .ok (.agg #[.int .u8 4, .int .i64 16, .int .i64 16, .int .i64 14]) w := fun _ => by kernel_rfl
  have i5 : ∀ w, (Instr.index 74 (.agg piecesCells) (.int .i64 5)).run Tryd.prog w = .ok (.agg #[.int .u8 4, .int .i64 0, .int .i64 14, .int .i64 0]) w := fun _ => by kernel_rfl
  go_loopw [5, 9] (fun x i wr => ∃ k : Nat, k ≤ 6 ∧ i = .int .i64 k ∧ x = .int .u32 (gpZ v c k) ∧ Grown W wr) (fun _ i _ => 6 - (intOf i).toNat)
  case atStart => exact ⟨0, by omega, rfl, rfl, hg⟩
  case round =>
    obtain ⟨k, hk, rfl, rfl, hgr⟩ := hrel
    have hx := gpZ_u32 v c hv k
    have e1 : gpZ v c (k + 1) = if pieceOf k = c then putZ (gpZ v c k) (pieceFrom k) (pieceN k) (getZ v (pieceAt k) (pieceN k)) else gpZ v c k := rfl
    have E1 := Lib.hid e1
    clear e1
    generalize hxe : gpZ v c k = x at *
    have HX := Lib.hid hxe
    clear hxe
    have hk' : k = 0 ∨ k = 1 ∨ k = 2 ∨ k = 3 ∨ k = 4 ∨ k = 5 ∨ k = 6 := by omega
    clear hk
    rcases hk' with rfl | rfl | rfl | rfl | rfl | rfl | rfl
    · by_cases hc : (1 : Int) = c
      · obtain rfl := hc
        go_wp2
        go_quiet ((first
          | (go_at_call 33; exact (get_any _ _ _ hv ⟨by omega, by omega⟩).again _)
          | (go_at_call 30; exact (put_any _ _ _ _ hx (getZ_u32 _ _ _ hv) ⟨by omega, by omega⟩).quiet.again _)))
        go_wp2
        go_roundw
        case rel => exact ⟨1, by omega, rfl, by rw [E1.out]; exact ifp rfl, grown_drewN (hgr.alloc _ _) _⟩
        case measure => simp [intOf]
      · have hb : ((1 : Int) == c) = false := by simpa using hc
        go_wp2
        go_roundw
        case rel => exact ⟨1, by omega, rfl, by rw [E1.out]; exact ifn hc, hgr.alloc _ _⟩
        case measure => simp [intOf]
    · by_cases hc : (2 : Int) = c
      · obtain rfl := hc
        go_wp2
        go_quiet ((first
          | (go_at_call 33; exact (get_any _ _ _ hv ⟨by omega, by omega⟩).again _)
          | (go_at_call 30; exact (put_any _ _ _ _ hx (getZ_u32 _ _ _ hv) ⟨by omega, by omega⟩).quiet.again _)))
        go_wp2
        go_roundw
        case rel => exact ⟨2, by omega, rfl, by rw [E1.out]; exact ifp rfl, grown_drewN (hgr.alloc _ _) _⟩
        case measure => simp [intOf]
      · have hb : ((2 : Int) == c) = false := by simpa using hc
        go_wp2
        go_roundw
        case rel => exact ⟨2, by omega, rfl, by rw [E1.out]; exact ifn hc, hgr.alloc _ _⟩
        case measure => simp [intOf]
    · by_cases hc : (2 : Int) = c
      · obtain rfl := hc
        go_wp2
        go_quiet ((first
          | (go_at_call 33; exact (get_any _ _ _ hv ⟨by omega, by omega⟩).again _)
          | (go_at_call 30; exact (put_any _ _ _ _ hx (getZ_u32 _ _ _ hv) ⟨by omega, by omega⟩).quiet.again _)))
        go_wp2
        go_roundw
        case rel => exact ⟨3, by omega, rfl, by rw [E1.out]; exact ifp rfl, grown_drewN (hgr.alloc _ _) _⟩
        case measure => simp [intOf]
      · have hb : ((2 : Int) == c) = false := by simpa using hc
        go_wp2
        go_roundw
        case rel => exact ⟨3, by omega, rfl, by rw [E1.out]; exact ifn hc, hgr.alloc _ _⟩
        case measure => simp [intOf]
    · by_cases hc : (3 : Int) = c
      · obtain rfl := hc
        go_wp2
        go_quiet ((first
          | (go_at_call 33; exact (get_any _ _ _ hv ⟨by omega, by omega⟩).again _)
          | (go_at_call 30; exact (put_any _ _ _ _ hx (getZ_u32 _ _ _ hv) ⟨by omega, by omega⟩).quiet.again _)))
        go_wp2
        go_roundw
        case rel => exact ⟨4, by omega, rfl, by rw [E1.out]; exact ifp rfl, grown_drewN (hgr.alloc _ _) _⟩
        case measure => simp [intOf]
      · have hb : ((3 : Int) == c) = false := by simpa using hc
        go_wp2
        go_roundw
        case rel => exact ⟨4, by omega, rfl, by rw [E1.out]; exact ifn hc, hgr.alloc _ _⟩
        case measure => simp [intOf]
    · by_cases hc : (4 : Int) = c
      · obtain rfl := hc
        go_wp2
        go_quiet ((first
          | (go_at_call 33; exact (get_any _ _ _ hv ⟨by omega, by omega⟩).again _)
          | (go_at_call 30; exact (put_any _ _ _ _ hx (getZ_u32 _ _ _ hv) ⟨by omega, by omega⟩).quiet.again _)))
        go_wp2
        go_roundw
        case rel => exact ⟨5, by omega, rfl, by rw [E1.out]; exact ifp rfl, grown_drewN (hgr.alloc _ _) _⟩
        case measure => simp [intOf]
      · have hb : ((4 : Int) == c) = false := by simpa using hc
        go_wp2
        go_roundw
        case rel => exact ⟨5, by omega, rfl, by rw [E1.out]; exact ifn hc, hgr.alloc _ _⟩
        case measure => simp [intOf]
    · by_cases hc : (4 : Int) = c
      · obtain rfl := hc
        go_wp2
        go_quiet ((first
          | (go_at_call 33; exact (get_any _ _ _ hv ⟨by omega, by omega⟩).again _)
          | (go_at_call 30; exact (put_any _ _ _ _ hx (getZ_u32 _ _ _ hv) ⟨by omega, by omega⟩).quiet.again _)))
        go_wp2
        go_roundw
        case rel => exact ⟨6, by omega, rfl, by rw [E1.out]; exact ifp rfl, grown_drewN (hgr.alloc _ _) _⟩
        case measure => simp [intOf]
      · have hb : ((4 : Int) == c) = false := by simpa using hc
        go_wp2
        go_roundw
        case rel => exact ⟨6, by omega, rfl, by rw [E1.out]; exact ifn hc, hgr.alloc _ _⟩
        case measure => simp [intOf]
    · go_wp2
      go_ret
      exact ⟨ret_int HX.out.symm, hgr⟩

def ppZ (y v c : Int) : Nat → Int
  | 0 => y
  | i + 1 => if pieceOf i = c then putZ (ppZ y v c i) (pieceAt i) (pieceN i) (getZ v (pieceFrom i) (pieceN i)) else ppZ y v c i
theorem ppZ_u32 (y v c : Int) (hy : isU32 y) (hv : isU32 v) : ∀ i, isU32 (ppZ y v c i)
  | 0 => hy
  | i + 1 => by
    unfold ppZ
    split
    · exact putZ_u32 _ _ _ _ (ppZ_u32 y v c hy hv i) (getZ_u32 _ _ _ hv)
    · exact ppZ_u32 y v c hy hv i

set_option maxHeartbeats 400000 in
theorem putPart_any (W : World) (hp : Pieces W) (y c v : Int) (hy0 : isU32 y) (hv : isU32 v) : Pure Tryd.prog W 42 #[.int .u32 y, .int .u8 c, .int .u32 v] (.int .u32 (ppZ y v c 6)) := by
  intro w hg
  obtain ⟨T, fr, hb⟩ := hp.grown hg
  go_enter Tryd.func42, Tryd.ntmps42
  go_wp2_with (refine wpList_load_row rfl 74 _ rfl 1 rfl T _ fr _ hb Tryd.underlying74 rfl (by kernel_rfl) ?_)
  clear hb
  have i0 : ∀ w, (Instr.index 74 (.agg piecesCells) (.int .i64 0)).run Tryd.prog w = .ok (.agg #[.int .u8 1, .int .i64 26, .int .i64 6, .int .i64 0]) w := fun _ => by kernel_rfl
  have i1 : ∀ w, (Instr.index 74 (.agg piecesCells) (.int .i64 1)).run Tryd.prog w = .ok (.agg #[.int .u8 2, .int .i64 16, .int .i64 10, .int .i64 14]) w := fun _ => by kernel_rfl
  have i2 : ∀ w, (Instr.index 74 (.agg piecesCells) (.int .i64 2)).run Tryd.prog w = .ok (.agg #[.int .u8 2, .int .i64 0, .int .i64 14, .int .i64 0]) w := fun _ => by kernel_rfl
  have i3 : ∀ w, (Instr.index 74 (.agg piecesCells) (.int .i64 3)).run Tryd.prog w = .ok (.agg #[.int .u8 3, .int .i64 14, .int .i64 2, .int .i64 0]) w := fun _ => by kernel_rfl
  have i4 : ∀ w, (Instr.index 74 (.agg piecesCells) (.int .i64 4)).run Tryd.prog w = .ok (.agg #[.int .u8 4, .int .i64 16, .int .i64 16, .int .i64 14]) w := fun _ => by kernel_rfl
  have i5 : ∀ w, (Instr.index 74 (.agg piecesCells) (.int .i64 5)).run Tryd.prog w = .ok (.agg #[.int .u8 4, .int .i64 0, .int .i64 14, .int .i64 0]) w := fun _ => by kernel_rfl
  go_loopw [0, 10] (fun x i wr => ∃ k : Nat, k ≤ 6 ∧ i = .int .i64 k ∧ x = .int .u32 (ppZ y v c k) ∧ Grown W wr) (fun _ i _ => 6 - (intOf i).toNat)
  case atStart => exact ⟨0, by omega, rfl, rfl, hg⟩
  case round =>
    obtain ⟨k, hk, rfl, rfl, hgr⟩ := hrel
    have hy := ppZ_u32 y v c hy0 hv k
    have e1 : ppZ y v c (k + 1) = if pieceOf k = c then putZ (ppZ y v c k) (pieceAt k) (pieceN k) (getZ v (pieceFrom k) (pieceN k)) else ppZ y v c k := rfl
    have E1 := Lib.hid e1
    clear e1
    generalize hxe : ppZ y v c k = x at *
    have HX := Lib.hid hxe
    clear hxe
    have hk' : k = 0 ∨ k = 1 ∨ k = 2 ∨ k = 3 ∨ k = 4 ∨ k = 5 ∨ k = 6 := by omega
    clear hk
    rcases hk' with rfl | rfl | rfl | rfl | rfl | rfl | rfl
    · by_cases hc : (1 : Int) = c
      · obtain rfl := hc
        go_wp2
        go_quiet ((first
          | (go_at_call 33; exact (get_any _ _ _ hv ⟨by omega, by omega⟩).again _)
          | (go_at_call 30; exact (put_any _ _ _ _ hy (getZ_u32 _ _ _ hv) ⟨by omega, by omega⟩).quiet.again _)))
        go_wp2
        go_roundw
        case rel => exact ⟨1, by omega, rfl, by rw [E1.out]; exact ifp rfl, grown_drewN (hgr.alloc _ _) _⟩
        case measure => simp [intOf]
      · have hb : ((1 : Int) == c) = false := by simpa using hc
        go_wp2
        go_roundw
        case rel => exact ⟨1, by omega, rfl, by rw [E1.out]; exact ifn hc, hgr.alloc _ _⟩
        case measure => simp [intOf]
    · by_cases hc : (2 : Int) = c
      · obtain rfl := hc
        go_wp2
        go_quiet ((first
          | (go_at_call 33; exact (get_any _ _ _ hv ⟨by omega, by omega⟩).again _)
          | (go_at_call 30; exact (put_any _ _ _ _ hy (getZ_u32 _ _ _ hv) ⟨by omega, by omega⟩).quiet.again _)))
        go_wp2
        go_roundw
        case rel => exact ⟨2, by omega, rfl, by rw [E1.out]; exact ifp rfl, grown_drewN (hgr.alloc _ _) _⟩
        case measure => simp [intOf]
      · have hb : ((2 : Int) == c) = false := by simpa using hc
        go_wp2
        go_roundw
        case rel => exact ⟨2, by omega, rfl, by rw [E1.out]; exact ifn hc, hgr.alloc _ _⟩
        case measure => simp [intOf]
    · by_cases hc : (2 : Int) = c
      · obtain rfl := hc
        go_wp2
        go_quiet ((first
          | (go_at_call 33; exact (get_any _ _ _ hv ⟨by omega, by omega⟩).again _)
          | (go_at_call 30; exact (put_any _ _ _ _ hy (getZ_u32 _ _ _ hv) ⟨by omega, by omega⟩).quiet.again _)))
        go_wp2
        go_roundw
        case rel => exact ⟨3, by omega, rfl, by rw [E1.out]; exact ifp rfl, grown_drewN (hgr.alloc _ _) _⟩
        case measure => simp [intOf]
      · have hb : ((2 : Int) == c) = false := by simpa using hc
        go_wp2
        go_roundw
        case rel => exact ⟨3, by omega, rfl, by rw [E1.out]; exact ifn hc, hgr.alloc _ _⟩
        case measure => simp [intOf]
    · by_cases hc : (3 : Int) = c
      · obtain rfl := hc
        go_wp2
        go_quiet ((first
          | (go_at_call 33; exact (get_any _ _ _ hv ⟨by omega, by omega⟩).again _)
          | (go_at_call 30; exact (put_any _ _ _ _ hy (getZ_u32 _ _ _ hv) ⟨by omega, by omega⟩).quiet.again _)))
        go_wp2
        go_roundw
        case rel => exact ⟨4, by omega, rfl, by rw [E1.out]; exact ifp rfl, grown_drewN (hgr.alloc _ _) _⟩
        case measure => simp [intOf]
      · have hb : ((3 : Int) == c) = false := by simpa using hc
        go_wp2
        go_roundw
        case rel => exact ⟨4, by omega, rfl, by rw [E1.out]; exact ifn hc, hgr.alloc _ _⟩
        case measure => simp [intOf]
    · by_cases hc : (4 : Int) = c
      · obtain rfl := hc
        go_wp2
        go_quiet ((first
          | (go_at_call 33; exact (get_any _ _ _ hv ⟨by omega, by omega⟩).again _)
          | (go_at_call 30; exact (put_any _ _ _ _ hy (getZ_u32 _ _ _ hv) ⟨by omega, by omega⟩).quiet.again _)))
        go_wp2
        go_roundw
        case rel => exact ⟨5, by omega, rfl, by rw [E1.out]; exact ifp rfl, grown_drewN (hgr.alloc _ _) _⟩
        case measure => simp [intOf]
      · have hb : ((4 : Int) == c) = false := by simpa using hc
        go_wp2
        go_roundw
        case rel => exact ⟨5, by omega, rfl, by rw [E1.out]; exact ifn hc, hgr.alloc _ _⟩
        case measure => simp [intOf]
    · by_cases hc : (4 : Int) = c
      · obtain rfl := hc
        go_wp2
        go_quiet ((first
          | (go_at_call 33; exact (get_any _ _ _ hv ⟨by omega, by omega⟩).again _)
          | (go_at_call 30; exact (put_any _ _ _ _ hy (getZ_u32 _ _ _ hv) ⟨by omega, by omega⟩).quiet.again _)))
        go_wp2
        go_roundw
        case rel => exact ⟨6, by omega, rfl, by rw [E1.out]; exact ifp rfl, grown_drewN (hgr.alloc _ _) _⟩
        case measure => simp [intOf]
      · have hb : ((4 : Int) == c) = false := by simpa using hc
        go_wp2
        go_roundw
        case rel => exact ⟨6, by omega, rfl, by rw [E1.out]; exact ifn hc, hgr.alloc _ _⟩
        case measure => simp [intOf]
    · go_wp2
      go_ret
      exact ⟨ret_int HX.out.symm, hgr⟩

theorem getZ_lit (w : Int) (A N : Nat) (h : A + N ≤ 32) : getZ w A N = w / 2 ^ A % 2 ^ N := by
  have : fieldB (A : Int) (N : Int) = true := fieldB_iff.2 ⟨by omega, by omega, by omega⟩
  simp [getZ, this]
theorem putZ_lit (w v : Int) (A N : Nat) (h : A + N ≤ 32) : putZ w A N v = w / 2 ^ (A + N) * 2 ^ (A + N) + v % 2 ^ N * 2 ^ A + w % 2 ^ A := by
  have : fieldB (A : Int) (N : Int) = true := fieldB_iff.2 ⟨by omega, by omega, by omega⟩
  simp [putZ, this]
theorem gp_code (w : Int) (hw : isU32 w) : gpZ w 1 6 = codeZ w := by
  obtain ⟨h0, h1⟩ := hw
  show putZ 0 (0 : Nat) (6 : Nat) (getZ w (26 : Nat) (6 : Nat)) = codeZ w
  rw [getZ_lit _ _ _ (by decide), putZ_lit _ _ _ _ (by decide)]
  unfold codeZ
  omega
theorem gp_pay (w : Int) (hw : isU32 w) : gpZ w 2 6 = payZ w := by
  obtain ⟨h0, h1⟩ := hw
  show putZ (putZ 0 (14 : Nat) (10 : Nat) (getZ w (16 : Nat) (10 : Nat))) (0 : Nat) (14 : Nat) (getZ w (0 : Nat) (14 : Nat)) = payZ w
  rw [getZ_lit _ _ _ (by decide), getZ_lit _ _ _ (by decide), putZ_lit _ _ _ _ (by decide), putZ_lit _ _ _ _ (by decide)]
  unfold payZ
  omega
theorem gp_parse (w : Int) (hw : isU32 w) : gpZ w 3 6 = parseZ w := by
  obtain ⟨h0, h1⟩ := hw
  show putZ 0 (0 : Nat) (2 : Nat) (getZ w (14 : Nat) (2 : Nat)) = parseZ w
  rw [getZ_lit _ _ _ (by decide), putZ_lit _ _ _ _ (by decide)]
  unfold parseZ
  omega
theorem gp_thirty (w : Int) (hw : isU32 w) : gpZ w 4 6 = thirtyZ w := by
  obtain ⟨h0, h1⟩ := hw
  show putZ (putZ 0 (14 : Nat) (16 : Nat) (getZ w (16 : Nat) (16 : Nat))) (0 : Nat) (14 : Nat) (getZ w (0 : Nat) (14 : Nat)) = thirtyZ w
  rw [getZ_lit _ _ _ (by decide), getZ_lit _ _ _ (by decide), putZ_lit _ _ _ _ (by decide), putZ_lit _ _ _ _ (by decide)]
  unfold thirtyZ
  omega
theorem pp_word (c p q : Int) (hc : isU32 c) (hp : isU32 p) (hq : isU32 q) : ppZ (ppZ (ppZ 0 c 1 6) p 2 6) q 3 6 = wordZ c p q := by
  obtain ⟨h0, h1⟩ := hc
  obtain ⟨h2, h3⟩ := hp
  obtain ⟨h4, h5⟩ := hq
  show putZ (putZ (putZ (putZ 0 (26 : Nat) (6 : Nat) (getZ c (0 : Nat) (6 : Nat))) (16 : Nat) (10 : Nat) (getZ p (14 : Nat) (10 : Nat))) (0 : Nat) (14 : Nat) (getZ p (0 : Nat) (14 : Nat))) (14 : Nat) (2 : Nat) (getZ q (0 : Nat) (2 : Nat)) = wordZ c p q
  repeat rw [getZ_lit _ _ _ (by decide)]
  repeat rw [putZ_lit _ _ _ _ (by decide)]
  unfold wordZ
  omega
theorem pp_thirty (v q : Int) (hv : isU32 v) (hq : isU32 q) : ppZ (ppZ 0 v 4 6) q 3 6 = fromThirtyZ v q := by
  obtain ⟨h0, h1⟩ := hv
  obtain ⟨h4, h5⟩ := hq
  show putZ (putZ (putZ 0 (16 : Nat) (16 : Nat) (getZ v (14 : Nat) (16 : Nat))) (0 : Nat) (14 : Nat) (getZ v (0 : Nat) (14 : Nat))) (14 : Nat) (2 : Nat) (getZ q (0 : Nat) (2 : Nat)) = fromThirtyZ v q
  repeat rw [getZ_lit _ _ _ (by decide)]
  repeat rw [putZ_lit _ _ _ _ (by decide)]
  unfold fromThirtyZ
  omega

end Go.Proofs.YtckekkedjlkljaaDoor
