/- What getPart and putPart of package bits return, in every world that holds the table of pieces. · What getPart, putPart, Parts, Word of package bits return, in every world that has grown out of one that holds the table of pieces, in the words of Mem. Written by wip/tools/gen_bitsmade.py. · Duplexes as plain data: a word of two small numbers and its halves; what Pair, Split and Canonical say; what follows of them; no condition but the ranges named. · Blocks of instructions that stand while new ones are made, any number of them; no condition. · What isStore, join and halves of package duplex return, for every argument, in every world that has grown out of one that holds the tables they read. · What Pair of package duplex returns, for every two instructions, in every world that has grown out of one that holds the tables. -/
import Derived.Test.YtanjmoiepmadhaaGreatDoorGInst
import Derived.Test.YtanjmoiepmadhaaGreatDoorGBase
import Derived.Test.YtanjmoiepmadhaaGreatDoorGSub
import Derived.Test.YtanjmoiepmadhaaGreatDoorGFns
namespace Go.Proofs.YtanjmoiepmadhaaGreatDoor
section
set_option maxRecDepth 100000
open Go.ChangeShapes Go.WideShapes Go.ChangeAt Go.RowKit

/-! ### the table of pieces; bits.getPart, putPart, Word, Parts, Thirty, FromThirty -/
def piecesCells : Array Value := #[.int .u8 1, .int .i64 26, .int .i64 6, .int .i64 0, .int .u8 2, .int .i64 16, .int .i64 10, .int .i64 14, .int .u8 2, .int .i64 0, .int .i64 14, .int .i64 0,
  .int .u8 3, .int .i64 14, .int .i64 2, .int .i64 0, .int .u8 4, .int .i64 16, .int .i64 16, .int .i64 14, .int .u8 4, .int .i64 0, .int .i64 14, .int .i64 0]
def Pieces (W : World) : Prop := ∃ T fr, W.heap[0]? = some (.cells piecesCells T fr)
theorem grown_heap {W w : World} (h : Grown W w) {i : Nat} {c : Array Value} {t : TypeId} {fr : Nat × Nat} (hi : W.heap[i]? = some (.cells c t fr)) : w.heap[i]? = some (.cells c t fr) := by
  have hlt : i < W.heap.size := by
    rcases Nat.lt_or_ge i W.heap.size with h | h
    · exact h
    · simp [Array.getElem?_eq_none h] at hi
  have := h.1.2.2 i hlt
  rw [hi] at this
  split at this
  · rename_i c1 t1 f1 c2 t2 f2 e1 e2
    obtain ⟨r1, r2, r3, r4⟩ := this
    simp only [Option.some.injEq, Obj.cells.injEq] at e1
    obtain ⟨rfl, rfl, rfl⟩ := e1
    rw [e2, r1, r2]
    congr 2
    exact Array.ext_getElem? fun j => r4 j (fun h => h)
  · rename_i e1 _
    cases e1
  · rename_i e1 e2 e3
    exact this
theorem Pieces.grown {W w : World} (h : Pieces W) (hg : Grown W w) : Pieces w := let ⟨T, fr, h⟩ := h; ⟨T, fr, grown_heap hg h⟩

theorem ifp {k : IntKind} {p : Prop} [Decidable p] {a b : Int} (h : p) : Value.int k a = Value.int k (if p then a else b) := by rw [if_pos h]
theorem ifn {k : IntKind} {p : Prop} [Decidable p] {a b : Int} (h : ¬ p) : Value.int k b = Value.int k (if p then a else b) := by rw [if_neg h]

/-- a table's row: the part, its place in the word, bits, its place in the part -/
def pieceOf (i : Nat) : Int := [1, 2, 2, 3, 4, 4].getD i 0
def pieceAt (i : Nat) : Int := [26, 16, 0, 14, 16, 0].getD i 0
def pieceN (i : Nat) : Int := [6, 10, 14, 2, 16, 14].getD i 0
def pieceFrom (i : Nat) : Int := [0, 14, 0, 0, 14, 0].getD i 0
def gpZ (v c : Int) : Nat → Int
  | 0 => 0
  | i + 1 => if pieceOf i = c then putZ (gpZ v c i) (pieceFrom i) (pieceN i) (getZ v (pieceAt i) (pieceN i)) else gpZ v c i
theorem gpZ_u32 (v c : Int) (hv : isU32 v) : ∀ i, isU32 (gpZ v c i)
  | 0 => ⟨Int.le_refl 0, (by decide : (0:Int) < 4294967296)⟩
  | i + 1 => by
    unfold gpZ
    split
    · exact putZ_u32 _ _ _ _ (gpZ_u32 v c hv i) (getZ_u32 _ _ _ hv)
    · exact gpZ_u32 v c hv i

def ppZ (y v c : Int) : Nat → Int
  | 0 => y
  | i + 1 => if pieceOf i = c then putZ (ppZ y v c i) (pieceAt i) (pieceN i) (getZ v (pieceFrom i) (pieceN i)) else ppZ y v c i
theorem ppZ_u32 (y v c : Int) (hy : isU32 y) (hv : isU32 v) : ∀ i, isU32 (ppZ y v c i)
  | 0 => hy
  | i + 1 => by
    unfold ppZ
    split
    · exact putZ_u32 _ _ _ _ (ppZ_u32 y v c hy hv i) (getZ_u32 _ _ _ hv)
    · exact ppZ_u32 y v c hy hv i

theorem getZ_lit (w : Int) (A N : Nat) (h : A + N ≤ 32) : getZ w A N = w / 2 ^ A % 2 ^ N := by
  have : fieldB (A : Int) (N : Int) = true := fieldB_iff.2 ⟨by omega, by omega, by omega⟩
  simp [getZ, this]
theorem putZ_lit (w v : Int) (A N : Nat) (h : A + N ≤ 32) : putZ w A N v = w / 2 ^ (A + N) * 2 ^ (A + N) + v % 2 ^ N * 2 ^ A + w % 2 ^ A := by
  have : fieldB (A : Int) (N : Int) = true := fieldB_iff.2 ⟨by omega, by omega, by omega⟩
  simp [putZ, this]
theorem gp_code (w : Int) (hw : isU32 w) : gpZ w 1 6 = codeZ w := by
  obtain ⟨h0, h1⟩ := hw
  show putZ 0 (0 : Nat) (6 : Nat) (getZ w (26 : Nat) (6 : Nat)) = codeZ w
  rw [getZ_lit _ _ _ (by decide), putZ_lit _ _ _ _ (by decide)]
  unfold codeZ
  omega
theorem gp_pay (w : Int) (hw : isU32 w) : gpZ w 2 6 = payZ w := by
  obtain ⟨h0, h1⟩ := hw
  show putZ (putZ 0 (14 : Nat) (10 : Nat) (getZ w (16 : Nat) (10 : Nat))) (0 : Nat) (14 : Nat) (getZ w (0 : Nat) (14 : Nat)) = payZ w
  rw [getZ_lit _ _ _ (by decide), getZ_lit _ _ _ (by decide), putZ_lit _ _ _ _ (by decide), putZ_lit _ _ _ _ (by decide)]
  unfold payZ
  omega
theorem gp_parse (w : Int) (hw : isU32 w) : gpZ w 3 6 = parseZ w := by
  obtain ⟨h0, h1⟩ := hw
  show putZ 0 (0 : Nat) (2 : Nat) (getZ w (14 : Nat) (2 : Nat)) = parseZ w
  rw [getZ_lit _ _ _ (by decide), putZ_lit _ _ _ _ (by decide)]
  unfold parseZ
  omega
theorem gp_thirty (w : Int) (hw : isU32 w) : gpZ w 4 6 = thirtyZ w := by
  obtain ⟨h0, h1⟩ := hw
  show putZ (putZ 0 (14 : Nat) (16 : Nat) (getZ w (16 : Nat) (16 : Nat))) (0 : Nat) (14 : Nat) (getZ w (0 : Nat) (14 : Nat)) = thirtyZ w
  rw [getZ_lit _ _ _ (by decide), getZ_lit _ _ _ (by decide), putZ_lit _ _ _ _ (by decide), putZ_lit _ _ _ _ (by decide)]
  unfold thirtyZ
  omega
theorem pp_word (c p q : Int) (hc : isU32 c) (hp : isU32 p) (hq : isU32 q) : ppZ (ppZ (ppZ 0 c 1 6) p 2 6) q 3 6 = wordZ c p q := by
  obtain ⟨h0, h1⟩ := hc
  obtain ⟨h2, h3⟩ := hp
  obtain ⟨h4, h5⟩ := hq
  show putZ (putZ (putZ (putZ 0 (26 : Nat) (6 : Nat) (getZ c (0 : Nat) (6 : Nat))) (16 : Nat) (10 : Nat) (getZ p (14 : Nat) (10 : Nat))) (0 : Nat) (14 : Nat) (getZ p (0 : Nat) (14 : Nat))) (14 : Nat) (2 : Nat) (getZ q (0 : Nat) (2 : Nat)) = wordZ c p q
  repeat rw [getZ_lit _ _ _ (by decide)]
  repeat rw [putZ_lit _ _ _ _ (by decide)]
  unfold wordZ
  omega
theorem pp_thirty (v q : Int) (hv : isU32 v) (hq : isU32 q) : ppZ (ppZ 0 v 4 6) q 3 6 = fromThirtyZ v q := by
  obtain ⟨h0, h1⟩ := hv
  obtain ⟨h4, h5⟩ := hq
  show putZ (putZ (putZ 0 (16 : Nat) (16 : Nat) (getZ v (14 : Nat) (16 : Nat))) (0 : Nat) (14 : Nat) (getZ v (0 : Nat) (14 : Nat))) (14 : Nat) (2 : Nat) (getZ q (0 : Nat) (2 : Nat)) = fromThirtyZ v q
  repeat rw [getZ_lit _ _ _ (by decide)]
  repeat rw [putZ_lit _ _ _ _ (by decide)]
  unfold fromThirtyZ
  omega

end
section
set_option maxRecDepth 100000
open Go.ChangeShapes Go.WideShapes Go.ChangeAt Go.RowKit

theorem Pieces.made {W w : World} (h : Pieces W) (hm : Made W w) : Pieces w := let ⟨T, fr, h⟩ := h; ⟨T, fr, hm.heap h⟩
set_option maxRecDepth 100000 in
set_option maxHeartbeats 400000 in
theorem getPart_made (W : World) (hp : Pieces W) (v c : Int) (hv : isU32 v) : Makes Tryz.prog W 71 #[.int .u32 v, .int .u8 c] (.int .u32 (gpZ v c 6)) := by
  intro w hg
  obtain ⟨T, fr, hb⟩ := hp.made hg
  go_enter Tryz.func71, Tryz.ntmps71
  go_wp2_with (refine wpList_load_row rfl 140 _ rfl 0 rfl T _ fr _ hb Tryz.underlying140 rfl (by kernel_rfl) ?_)
  clear hb
  have i0 : ∀ w, (Instr.index 140 (.agg piecesCells) (.int .i64 0)).run Tryz.prog w = .ok (.agg #[.int .u8 1, .int .i64 26, .int .i64 6, .int .i64 0]) w := fun _ => by kernel_rfl
  have i1 : ∀ w, (Instr.index 140 (.agg piecesCells) (.int .i64 1)).run Tryz.prog w = .ok (.agg #[.int .u8 2, .int .i64 16, .int .i64 10, .int .i64 14]) w := fun _ => by kernel_rfl
  have i2 : ∀ w, (Instr.index 140 (.agg piecesCells) (.int .i64 2)).run Tryz.prog w = .ok (.agg #[.int .u8 2, .int .i64 0, .int .i64 14, .int .i64 0]) w := fun _ => by kernel_rfl
  have i3 : ∀ w, (Instr.index 140 (.agg piecesCells) (.int .i64 3)).run Tryz.prog w = .ok (.agg #[.int .u8 3, .int .i64 14, .int .i64 2, .int .i64 0]) w := fun _ => by kernel_rfl
  have i4 : ∀ w, (Instr.index 140 (.agg piecesCells) (.int .i64 4)).run Tryz.prog w = .ok (.agg #[.int .u8 4, .int .i64 16, .int .i64 16, .int .i64 14]) w := fun _ => by kernel_rfl
  have i5 : ∀ w, (Instr.index 140 (.agg piecesCells) (.int .i64 5)).run Tryz.prog w = .ok (.agg #[.int .u8 4, .int .i64 0, .int .i64 14, .int .i64 0]) w := fun _ => by kernel_rfl
  go_loopw [5, 9] (fun x i wr => ∃ k : Nat, k ≤ 6 ∧ i = .int .i64 k ∧ x = .int .u32 (gpZ v c k) ∧ Made W wr) (fun _ i _ => 6 - (intOf i).toNat)
  case atStart => exact ⟨0, by omega, rfl, rfl, hg⟩
  case round =>
    obtain ⟨k, hk, rfl, rfl, hgr⟩ := hrel
    have hx := gpZ_u32 v c hv k
    have e1 : gpZ v c (k + 1) = if pieceOf k = c then putZ (gpZ v c k) (pieceFrom k) (pieceN k) (getZ v (pieceAt k) (pieceN k)) else gpZ v c k := rfl
    have E1 := Lib.hid e1
    clear e1
    generalize hxe : gpZ v c k = x at *
    have HX := Lib.hid hxe
    clear hxe
    have hk' : k = 0 ∨ k = 1 ∨ k = 2 ∨ k = 3 ∨ k = 4 ∨ k = 5 ∨ k = 6 := by omega
    clear hk
    rcases hk' with rfl | rfl | rfl | rfl | rfl | rfl | rfl
    · by_cases hc : (1 : Int) = c
      · obtain rfl := hc
        go_wp2
        go_quiet ((first
          | (go_at_call 105; exact (get_any _ _ _ hv ⟨by omega, by omega⟩).again _)
          | (go_at_call 104; exact (put_any _ _ _ _ hx (getZ_u32 _ _ _ hv) ⟨by omega, by omega⟩).quiet.again _)))
        go_wp2
        go_roundw
        case rel => exact ⟨1, by omega, rfl, by rw [E1.out]; exact ifp rfl, below_drewN (hgr.alloc hgr.size _) _⟩
        case measure => simp [intOf]
      · have hb : ((1 : Int) == c) = false := by simpa using hc
        go_wp2
        go_roundw
        case rel => exact ⟨1, by omega, rfl, by rw [E1.out]; exact ifn hc, hgr.alloc hgr.size _⟩
        case measure => simp [intOf]
    · by_cases hc : (2 : Int) = c
      · obtain rfl := hc
        go_wp2
        go_quiet ((first
          | (go_at_call 105; exact (get_any _ _ _ hv ⟨by omega, by omega⟩).again _)
          | (go_at_call 104; exact (put_any _ _ _ _ hx (getZ_u32 _ _ _ hv) ⟨by omega, by omega⟩).quiet.again _)))
        go_wp2
        go_roundw
        case rel => exact ⟨2, by omega, rfl, by rw [E1.out]; exact ifp rfl, below_drewN (hgr.alloc hgr.size _) _⟩
        case measure => simp [intOf]
      · have hb : ((2 : Int) == c) = false := by simpa using hc
        go_wp2
        go_roundw
        case rel => exact ⟨2, by omega, rfl, by rw [E1.out]; exact ifn hc, hgr.alloc hgr.size _⟩
        case measure => simp [intOf]
    · by_cases hc : (2 : Int) = c
      · obtain rfl := hc
        go_wp2
        go_quiet ((first
          | (go_at_call 105; exact (get_any _ _ _ hv ⟨by omega, by omega⟩).again _)
          | (go_at_call 104; exact (put_any _ _ _ _ hx (getZ_u32 _ _ _ hv) ⟨by omega, by omega⟩).quiet.again _)))
        go_wp2
        go_roundw
        case rel => exact ⟨3, by omega, rfl, by rw [E1.out]; exact ifp rfl, below_drewN (hgr.alloc hgr.size _) _⟩
        case measure => simp [intOf]
      · have hb : ((2 : Int) == c) = false := by simpa using hc
        go_wp2
        go_roundw
        case rel => exact ⟨3, by omega, rfl, by rw [E1.out]; exact ifn hc, hgr.alloc hgr.size _⟩
        case measure => simp [intOf]
    · by_cases hc : (3 : Int) = c
      · obtain rfl := hc
        go_wp2
        go_quiet ((first
          | (go_at_call 105; exact (get_any _ _ _ hv ⟨by omega, by omega⟩).again _)
          | (go_at_call 104; exact (put_any _ _ _ _ hx (getZ_u32 _ _ _ hv) ⟨by omega, by omega⟩).quiet.again _)))
        go_wp2
        go_roundw
        case rel => exact ⟨4, by omega, rfl, by rw [E1.out]; exact ifp rfl, below_drewN (hgr.alloc hgr.size _) _⟩
        case measure => simp [intOf]
      · have hb : ((3 : Int) == c) = false := by simpa using hc
        go_wp2
        go_roundw
        case rel => exact ⟨4, by omega, rfl, by rw [E1.out]; exact ifn hc, hgr.alloc hgr.size _⟩
        case measure => simp [intOf]
    · by_cases hc : (4 : Int) = c
      · obtain rfl := hc
        go_wp2
        go_quiet ((first
          | (go_at_call 105; exact (get_any _ _ _ hv ⟨by omega, by omega⟩).again _)
          | (go_at_call 104; exact (put_any _ _ _ _ hx (getZ_u32 _ _ _ hv) ⟨by omega, by omega⟩).quiet.again _)))
        go_wp2
        go_roundw
        case rel => exact ⟨5, by omega, rfl, by rw [E1.out]; exact ifp rfl, below_drewN (hgr.alloc hgr.size _) _⟩
        case measure => simp [intOf]
      · have hb : ((4 : Int) == c) = false := by simpa using hc
        go_wp2
        go_roundw
        case rel => exact ⟨5, by omega, rfl, by rw [E1.out]; exact ifn hc, hgr.alloc hgr.size _⟩
        case measure => simp [intOf]
    · by_cases hc : (4 : Int) = c
      · obtain rfl := hc
        go_wp2
        go_quiet ((first
          | (go_at_call 105; exact (get_any _ _ _ hv ⟨by omega, by omega⟩).again _)
          | (go_at_call 104; exact (put_any _ _ _ _ hx (getZ_u32 _ _ _ hv) ⟨by omega, by omega⟩).quiet.again _)))
        go_wp2
        go_roundw
        case rel => exact ⟨6, by omega, rfl, by rw [E1.out]; exact ifp rfl, below_drewN (hgr.alloc hgr.size _) _⟩
        case measure => simp [intOf]
      · have hb : ((4 : Int) == c) = false := by simpa using hc
        go_wp2
        go_roundw
        case rel => exact ⟨6, by omega, rfl, by rw [E1.out]; exact ifn hc, hgr.alloc hgr.size _⟩
        case measure => simp [intOf]
    · go_wp2
      go_ret
      exact ⟨ret_int HX.out.symm, hgr⟩
set_option maxRecDepth 100000 in
set_option maxHeartbeats 400000 in
theorem putPart_made (W : World) (hp : Pieces W) (y c v : Int) (hy0 : isU32 y) (hv : isU32 v) : Makes Tryz.prog W 70 #[.int .u32 y, .int .u8 c, .int .u32 v] (.int .u32 (ppZ y v c 6)) := by
  intro w hg
  obtain ⟨T, fr, hb⟩ := hp.made hg
  go_enter Tryz.func70, Tryz.ntmps70
  go_wp2_with (refine wpList_load_row rfl 140 _ rfl 0 rfl T _ fr _ hb Tryz.underlying140 rfl (by kernel_rfl) ?_)
  clear hb
  have i0 : ∀ w, (Instr.index 140 (.agg piecesCells) (.int .i64 0)).run Tryz.prog w = .ok (.agg #[.int .u8 1, .int .i64 26, .int .i64 6, .int .i64 0]) w := fun _ => by kernel_rfl
  have i1 : ∀ w, (Instr.index 140 (.agg piecesCells) (.int .i64 1)).run Tryz.prog w = .ok (.agg #[.int .u8 2, .int .i64 16, .int .i64 10, .int .i64 14]) w := fun _ => by kernel_rfl
  have i2 : ∀ w, (Instr.index 140 (.agg piecesCells) (.int .i64 2)).run Tryz.prog w = .ok (.agg #[.int .u8 2, .int .i64 0, .int .i64 14, .int .i64 0]) w := fun _ => by kernel_rfl
  have i3 : ∀ w, (Instr.index 140 (.agg piecesCells) (.int .i64 3)).run Tryz.prog w = .ok (.agg #[.int .u8 3, .int .i64 14, .int .i64 2, .int .i64 0]) w := fun _ => by kernel_rfl
  have i4 : ∀ w, (Instr.index 140 (.agg piecesCells) (.int .i64 4)).run Tryz.prog w = .ok (.agg #[.int .u8 4, .int .i64 16, .int .i64 16, .int .i64 14]) w := fun _ => by kernel_rfl
  have i5 : ∀ w, (Instr.index 140 (.agg piecesCells) (.int .i64 5)).run Tryz.prog w = .ok (.agg #[.int .u8 4, .int .i64 0, .int .i64 14, .int .i64 0]) w := fun _ => by kernel_rfl
  go_loopw [0, 10] (fun x i wr => ∃ k : Nat, k ≤ 6 ∧ i = .int .i64 k ∧ x = .int .u32 (ppZ y v c k) ∧ Made W wr) (fun _ i _ => 6 - (intOf i).toNat)
  case atStart => exact ⟨0, by omega, rfl, rfl, hg⟩
  case round =>
    obtain ⟨k, hk, rfl, rfl, hgr⟩ := hrel
    have hy := ppZ_u32 y v c hy0 hv k
    have e1 : ppZ y v c (k + 1) = if pieceOf k = c then putZ (ppZ y v c k) (pieceAt k) (pieceN k) (getZ v (pieceFrom k) (pieceN k)) else ppZ y v c k := rfl
    have E1 := Lib.hid e1
    clear e1
    generalize hxe : ppZ y v c k = x at *
    have HX := Lib.hid hxe
    clear hxe
    have hk' : k = 0 ∨ k = 1 ∨ k = 2 ∨ k = 3 ∨ k = 4 ∨ k = 5 ∨ k = 6 := by omega
    clear hk
    rcases hk' with rfl | rfl | rfl | rfl | rfl | rfl | rfl
    · by_cases hc : (1 : Int) = c
      · obtain rfl := hc
        go_wp2
        go_quiet ((first
          | (go_at_call 105; exact (get_any _ _ _ hv ⟨by omega, by omega⟩).again _)
          | (go_at_call 104; exact (put_any _ _ _ _ hy (getZ_u32 _ _ _ hv) ⟨by omega, by omega⟩).quiet.again _)))
        go_wp2
        go_roundw
        case rel => exact ⟨1, by omega, rfl, by rw [E1.out]; exact ifp rfl, below_drewN (hgr.alloc hgr.size _) _⟩
        case measure => simp [intOf]
      · have hb : ((1 : Int) == c) = false := by simpa using hc
        go_wp2
        go_roundw
        case rel => exact ⟨1, by omega, rfl, by rw [E1.out]; exact ifn hc, hgr.alloc hgr.size _⟩
        case measure => simp [intOf]
    · by_cases hc : (2 : Int) = c
      · obtain rfl := hc
        go_wp2
        go_quiet ((first
          | (go_at_call 105; exact (get_any _ _ _ hv ⟨by omega, by omega⟩).again _)
          | (go_at_call 104; exact (put_any _ _ _ _ hy (getZ_u32 _ _ _ hv) ⟨by omega, by omega⟩).quiet.again _)))
        go_wp2
        go_roundw
        case rel => exact ⟨2, by omega, rfl, by rw [E1.out]; exact ifp rfl, below_drewN (hgr.alloc hgr.size _) _⟩
        case measure => simp [intOf]
      · have hb : ((2 : Int) == c) = false := by simpa using hc
        go_wp2
        go_roundw
        case rel => exact ⟨2, by omega, rfl, by rw [E1.out]; exact ifn hc, hgr.alloc hgr.size _⟩
        case measure => simp [intOf]
    · by_cases hc : (2 : Int) = c
      · obtain rfl := hc
        go_wp2
        go_quiet ((first
          | (go_at_call 105; exact (get_any _ _ _ hv ⟨by omega, by omega⟩).again _)
          | (go_at_call 104; exact (put_any _ _ _ _ hy (getZ_u32 _ _ _ hv) ⟨by omega, by omega⟩).quiet.again _)))
        go_wp2
        go_roundw
        case rel => exact ⟨3, by omega, rfl, by rw [E1.out]; exact ifp rfl, below_drewN (hgr.alloc hgr.size _) _⟩
        case measure => simp [intOf]
      · have hb : ((2 : Int) == c) = false := by simpa using hc
        go_wp2
        go_roundw
        case rel => exact ⟨3, by omega, rfl, by rw [E1.out]; exact ifn hc, hgr.alloc hgr.size _⟩
        case measure => simp [intOf]
    · by_cases hc : (3 : Int) = c
      · obtain rfl := hc
        go_wp2
        go_quiet ((first
          | (go_at_call 105; exact (get_any _ _ _ hv ⟨by omega, by omega⟩).again _)
          | (go_at_call 104; exact (put_any _ _ _ _ hy (getZ_u32 _ _ _ hv) ⟨by omega, by omega⟩).quiet.again _)))
        go_wp2
        go_roundw
        case rel => exact ⟨4, by omega, rfl, by rw [E1.out]; exact ifp rfl, below_drewN (hgr.alloc hgr.size _) _⟩
        case measure => simp [intOf]
      · have hb : ((3 : Int) == c) = false := by simpa using hc
        go_wp2
        go_roundw
        case rel => exact ⟨4, by omega, rfl, by rw [E1.out]; exact ifn hc, hgr.alloc hgr.size _⟩
        case measure => simp [intOf]
    · by_cases hc : (4 : Int) = c
      · obtain rfl := hc
        go_wp2
        go_quiet ((first
          | (go_at_call 105; exact (get_any _ _ _ hv ⟨by omega, by omega⟩).again _)
          | (go_at_call 104; exact (put_any _ _ _ _ hy (getZ_u32 _ _ _ hv) ⟨by omega, by omega⟩).quiet.again _)))
        go_wp2
        go_roundw
        case rel => exact ⟨5, by omega, rfl, by rw [E1.out]; exact ifp rfl, below_drewN (hgr.alloc hgr.size _) _⟩
        case measure => simp [intOf]
      · have hb : ((4 : Int) == c) = false := by simpa using hc
        go_wp2
        go_roundw
        case rel => exact ⟨5, by omega, rfl, by rw [E1.out]; exact ifn hc, hgr.alloc hgr.size _⟩
        case measure => simp [intOf]
    · by_cases hc : (4 : Int) = c
      · obtain rfl := hc
        go_wp2
        go_quiet ((first
          | (go_at_call 105; exact (get_any _ _ _ hv ⟨by omega, by omega⟩).again _)
          | (go_at_call 104; exact (put_any _ _ _ _ hy (getZ_u32 _ _ _ hv) ⟨by omega, by omega⟩).quiet.again _)))
        go_wp2
        go_roundw
        case rel => exact ⟨6, by omega, rfl, by rw [E1.out]; exact ifp rfl, below_drewN (hgr.alloc hgr.size _) _⟩
        case measure => simp [intOf]
      · have hb : ((4 : Int) == c) = false := by simpa using hc
        go_wp2
        go_roundw
        case rel => exact ⟨6, by omega, rfl, by rw [E1.out]; exact ifn hc, hgr.alloc hgr.size _⟩
        case measure => simp [intOf]
    · go_wp2
      go_ret
      exact ⟨ret_int HX.out.symm, hgr⟩
theorem getPartM_code (W : World) (hp : Pieces W) (v : Int) (hv : isU32 v) : Makes Tryz.prog W 71 #[.int .u32 v, .int .u8 1] (.int .u32 (codeZ v)) := by
  have h := getPart_made W hp v 1 hv; rwa [gp_code v hv] at h
theorem getPartM_pay (W : World) (hp : Pieces W) (v : Int) (hv : isU32 v) : Makes Tryz.prog W 71 #[.int .u32 v, .int .u8 2] (.int .u32 (payZ v)) := by
  have h := getPart_made W hp v 2 hv; rwa [gp_pay v hv] at h
theorem getPartM_parse (W : World) (hp : Pieces W) (v : Int) (hv : isU32 v) : Makes Tryz.prog W 71 #[.int .u32 v, .int .u8 3] (.int .u32 (parseZ v)) := by
  have h := getPart_made W hp v 3 hv; rwa [gp_parse v hv] at h
theorem parts_made (W : World) (hp : Pieces W) (v : Int) (hv : isU32 v) : Makes Tryz.prog W 36 #[.int .u32 v] (.tuple #[.int .u8 (codeZ v), .int .u32 (payZ v), .int .u8 (parseZ v)]) := by
  intro w hg
  have c1 : 0 ≤ codeZ v := by unfold codeZ; omega
  have c2 : codeZ v < 64 := by unfold codeZ; omega
  have c3 : 0 ≤ parseZ v := by unfold parseZ; omega
  have c4 : parseZ v < 4 := by unfold parseZ; omega
  go_enter Tryz.func36, Tryz.ntmps36
  go_wp2_with (go_at_call 71; (first | (with_reducible refine (getPartM_code W hp _ hv _ (by assumption)).mono ?_) | (with_reducible refine (getPartM_pay W hp _ hv _ (by assumption)).mono ?_) | (with_reducible refine (getPartM_parse W hp _ hv _ (by assumption)).mono ?_)); rintro e w' ⟨rfl, hg'⟩)
  go_ret3
  exact ⟨rfl, by assumption⟩
theorem word_made (W : World) (hp : Pieces W) (c p q : Int) (hc : isU8 c) (hpp : isU32 p) (hq : isU8 q) : Makes Tryz.prog W 65 #[.int .u8 c, .int .u32 p, .int .u8 q] (.int .u32 (wordZ c p q)) := by
  intro w hg
  have u0 : isU32 0 := ⟨by decide, by decide⟩
  have u1 := ppZ_u32 0 c 1 ⟨by decide, by decide⟩ hc.u32 6
  have u2 := ppZ_u32 _ p 2 u1 hpp 6
  have k := pp_word c p q hc.u32 hpp hq.u32
  have K := Lib.hid k
  clear k
  obtain ⟨c0, c1⟩ := id hc
  obtain ⟨q0, q1⟩ := id hq
  go_enter Tryz.func65, Tryz.ntmps65
  go_wp2_with (go_at_call 70; (first | (with_reducible refine (putPart_made W hp 0 1 c u0 hc.u32 _ (by assumption)).mono ?_) | (with_reducible refine (putPart_made W hp _ 2 p u1 hpp _ (by assumption)).mono ?_) | (with_reducible refine (putPart_made W hp _ 3 q u2 hq.u32 _ (by assumption)).mono ?_)); rintro e w' ⟨rfl, hg'⟩)
  go_ret
  exact ⟨ret_int K.out, by assumption⟩
theorem getPartM_thirty (W : World) (hp : Pieces W) (v : Int) (hv : isU32 v) : Makes Tryz.prog W 71 #[.int .u32 v, .int .u8 4] (.int .u32 (thirtyZ v)) := by
  have h := getPart_made W hp v 4 hv; rwa [gp_thirty v hv] at h
theorem thirty_made (W : World) (hp : Pieces W) (v : Int) (hv : isU32 v) : Makes Tryz.prog W 34 #[.int .u32 v] (.int .u32 (thirtyZ v)) := by
  intro w hg
  go_enter Tryz.func34, Tryz.ntmps34
  go_wp2_with (go_at_call 71; with_reducible refine (getPartM_thirty W hp _ hv _ (by assumption)).mono ?_; rintro e w' ⟨rfl, hg'⟩)
  go_ret
  exact ⟨rfl, by assumption⟩
theorem fromThirty_made (W : World) (hp : Pieces W) (v q : Int) (hv : isU32 v) (hq : isU8 q) : Makes Tryz.prog W 33 #[.int .u32 v, .int .u8 q] (.int .u32 (fromThirtyZ v q)) := by
  intro w hg
  have u0 : isU32 0 := ⟨by decide, by decide⟩
  have u1 := ppZ_u32 0 v 4 ⟨by decide, by decide⟩ hv 6
  have k := pp_thirty v q hv hq.u32
  have K := Lib.hid k
  clear k
  obtain ⟨q0, q1⟩ := id hq
  go_enter Tryz.func33, Tryz.ntmps33
  go_wp2_with (go_at_call 70; (first | (with_reducible refine (putPart_made W hp 0 4 v u0 hv _ (by assumption)).mono ?_) | (with_reducible refine (putPart_made W hp _ 3 q u1 hq.u32 _ (by assumption)).mono ?_)); rintro e w' ⟨rfl, hg'⟩)
  go_ret
  exact ⟨ret_int K.out, by assumption⟩
end
section
set_option maxRecDepth 100000

def storeB (x : In) : Bool := classZ (opN x.op) == 4
def dupZ (u l : Int) : Int := fromThirtyZ (putZ l 15 15 u) 0
def highZ (w : Int) : Int := getZ (thirtyZ w) 15 15
def lowZ (w : Int) : Int := getZ (thirtyZ w) 0 15
def pairP (a b : In) : Int × Bool :=
  if (subOf a).2 && (subOf b).2 && !(storeB a && storeB b) then
    (if storeB a || (!storeB b && decide ((subOf a).1 < (subOf b).1)) then (dupZ (subOf b).1 (subOf a).1, true) else (dupZ (subOf a).1 (subOf b).1, true))
  else (0, false)
def splitP (w : Int) : In × In × Bool :=
  if (parseZ w == 0) && (subInst (highZ w)).2 && (subInst (lowZ w)).2 && !storeB (subInst (highZ w)).1 then ((subInst (highZ w)).1, (subInst (lowZ w)).1, true) else (inZero, inZero, false)
def canonB (w : Int) : Bool := (splitP w).2.2 && (storeB (splitP w).2.1 || decide (lowZ w ≤ highZ w))

theorem g15 (v : Int) : getZ v 15 15 = v / 32768 % 32768 := getZ_at v 15 15 (by decide)
theorem g015 (v : Int) : getZ v 0 15 = v % 32768 := (getZ_at v 0 15 (by decide)).trans (by rw [show ((2 : Int) ^ 0) = 1 from rfl, Int.ediv_one]; rfl)
theorem p15 (w v : Int) : putZ w 15 15 v = w / 1073741824 * 1073741824 + v % 32768 * 32768 + w % 32768 := putZ_at w v 15 15 (by decide)
theorem high_eq (w : Int) : highZ w = thirtyZ w / 32768 % 32768 := g15 _
theorem low_eq (w : Int) : lowZ w = thirtyZ w % 32768 := g015 _
theorem highZ_range (w : Int) : 0 ≤ highZ w ∧ highZ w < 32768 := by rw [high_eq]; omega
theorem lowZ_range (w : Int) : 0 ≤ lowZ w ∧ lowZ w < 32768 := by rw [low_eq]; omega
/-- A word of two numbers is a word with no parse bits whose halves they are. -/
theorem join_of (u l : Int) (u0 : 0 ≤ u) (u1 : u < 32768) (l0 : 0 ≤ l) (l1 : l < 32768) :
    isU32 (dupZ u l) ∧ parseZ (dupZ u l) = 0 ∧ highZ (dupZ u l) = u ∧ lowZ (dupZ u l) = l := by
  rw [high_eq, low_eq]
  unfold dupZ isU32
  rw [p15]
  unfold fromThirtyZ parseZ thirtyZ
  refine ⟨⟨?_, ?_⟩, ?_, ?_, ?_⟩ <;> omega
theorem of_join (w : Int) (hw : isU32 w) (hp : parseZ w = 0) : dupZ (highZ w) (lowZ w) = w := by
  rw [high_eq, low_eq]
  obtain ⟨h0, h1⟩ := hw
  unfold dupZ
  rw [p15]
  unfold fromThirtyZ
  unfold parseZ at hp
  unfold thirtyZ
  omega
theorem subOf_le (x : In) (h : (subOf x).2 = true) : 0 ≤ (subOf x).1 ∧ (subOf x).1 < 32768 ∧ subInst (subOf x).1 = (x, true) ∧ Says (subOf x).1 x := by
  obtain ⟨h0, h1, h2⟩ := inst_of (subOf x).1 x (Prod.ext rfl h)
  have h3 := says _ h0 h1 x h2
  exact ⟨h0, h3.le, h2, h3⟩
theorem subOf_0 (x : In) : 0 ≤ (subOf x).1 ∧ (subOf x).1 < 32768 := by
  cases h : (subOf x).2 with
  | false => rw [of_none x h]; decide
  | true => exact ⟨(subOf_le x h).1, (subOf_le x h).2.1⟩
theorem splits_join (x y : In) (hx : (subOf x).2 = true) (hy : (subOf y).2 = true) (hs : storeB x = false) :
    splitP (dupZ (subOf x).1 (subOf y).1) = (x, y, true) ∧ parseZ (dupZ (subOf x).1 (subOf y).1) = 0 ∧ isU32 (dupZ (subOf x).1 (subOf y).1) ∧
    canonB (dupZ (subOf x).1 (subOf y).1) = (storeB y || decide ((subOf y).1 ≤ (subOf x).1)) := by
  obtain ⟨x0, x1, x2, -⟩ := subOf_le x hx
  obtain ⟨y0, y1, y2, -⟩ := subOf_le y hy
  obtain ⟨j0, j1, j2, j3⟩ := join_of _ _ x0 x1 y0 y1
  have e : splitP (dupZ (subOf x).1 (subOf y).1) = (x, y, true) := by
    unfold splitP
    rw [j1, j2, j3, x2, y2]
    simp [hs]
  refine ⟨e, j1, j0, ?_⟩
  unfold canonB
  rw [e, j2, j3]
  simp
/-- What Pair says yes to. -/
structure Paired (a b : In) (w : Int) : Prop where
  ofa : (subOf a).2 = true
  ofb : (subOf b).2 = true
  two : splitP w = (a, b, true) ∨ splitP w = (b, a, true)
  canon : canonB w = true
  parse : parseZ w = 0
  u32 : isU32 w
theorem paired (a b : In) (w : Int) (h : pairP a b = (w, true)) : Paired a b w := by
  unfold pairP at h
  by_cases h1 : ((subOf a).2 && (subOf b).2 && !(storeB a && storeB b)) = true
  rotate_left
  · rw [if_neg h1] at h
    exact absurd (congrArg Prod.snd h) (by simp)
  rw [if_pos h1] at h
  simp only [Bool.and_eq_true, Bool.not_eq_true', Bool.and_eq_false_iff] at h1
  obtain ⟨⟨ha, hb⟩, hs⟩ := h1
  by_cases h2 : (storeB a || (!storeB b && decide ((subOf a).1 < (subOf b).1))) = true
  · rw [if_pos h2] at h
    obtain ⟨rfl, -⟩ := Prod.mk.inj h
    have hb0 : storeB b = false := by
      rcases hs with hs | hs
      · rw [hs] at h2
        simp only [Bool.false_or, Bool.and_eq_true, Bool.not_eq_true'] at h2
        exact h2.1
      · exact hs
    obtain ⟨e1, e2, e3, e4⟩ := splits_join b a hb ha hb0
    refine ⟨ha, hb, Or.inr e1, ?_, e2, e3⟩
    rw [e4]
    cases hsa : storeB a with
    | true => rfl
    | false =>
      rw [hsa] at h2
      simp only [Bool.false_or, Bool.and_eq_true, Bool.not_eq_true', decide_eq_true_eq] at h2 ⊢
      omega
  · rw [if_neg h2] at h
    obtain ⟨rfl, -⟩ := Prod.mk.inj h
    have h3 : storeB a = false ∧ (storeB b = true ∨ (subOf b).1 ≤ (subOf a).1) := by
      cases hsa : storeB a with
      | true => rw [hsa] at h2; exact absurd rfl h2
      | false =>
        refine ⟨rfl, ?_⟩
        cases hsb : storeB b with
        | true => exact Or.inl rfl
        | false =>
          right
          rw [hsa, hsb] at h2
          simp only [Bool.false_or, Bool.not_false, Bool.true_and, decide_eq_true_eq] at h2
          omega
    obtain ⟨e1, e2, e3, e4⟩ := splits_join a b ha hb h3.1
    refine ⟨ha, hb, Or.inl e1, ?_, e2, e3⟩
    rw [e4]
    rcases h3.2 with h4 | h4
    · rw [h4]; rfl
    · simp [h4]
theorem pair_turned (a b : In) : pairP a b = pairP b a := by
  unfold pairP
  generalize subOf a = p
  generalize subOf b = q
  obtain ⟨s, o⟩ := p
  obtain ⟨t, u⟩ := q
  generalize storeB a = c
  generalize storeB b = d
  cases o <;> cases u <;> cases c <;> cases d <;> simp
  by_cases h1 : s < t
  · rw [if_pos h1, if_neg (by omega)]
  · by_cases h2 : t < s
    · rw [if_neg h1, if_pos h2]
    · obtain rfl : s = t := by omega
      rfl
/-- What Split says yes to. -/
structure Splits (w : Int) (x y : In) : Prop where
  ofx : subOf x = (highZ w, true)
  ofy : subOf y = (lowZ w, true)
  saysx : Says (highZ w) x
  saysy : Says (lowZ w) y
  store : storeB x = false
  join : dupZ (highZ w) (lowZ w) = w
theorem splits (w : Int) (hw : isU32 w) (x y : In) (h : splitP w = (x, y, true)) : Splits w x y := by
  unfold splitP at h
  by_cases h1 : ((parseZ w == 0) && (subInst (highZ w)).2 && (subInst (lowZ w)).2 && !storeB (subInst (highZ w)).1) = true
  rotate_left
  · rw [if_neg h1] at h
    have := congrArg (fun p => p.2.2) h
    simp at this
  rw [if_pos h1] at h
  simp only [Bool.and_eq_true, Bool.not_eq_true', beq_iff_eq] at h1
  obtain ⟨⟨⟨h2, h3⟩, h4⟩, h5⟩ := h1
  obtain ⟨e1, e2⟩ := Prod.mk.inj h
  obtain ⟨e3, -⟩ := Prod.mk.inj e2
  clear h e2
  subst e1
  subst e3
  have a := highZ_range w
  have b := lowZ_range w
  exact ⟨of_says _ a.1 (by omega) _ (Prod.ext rfl h3), of_says _ b.1 (by omega) _ (Prod.ext rfl h4), says _ a.1 (by omega) _ (Prod.ext rfl h3), says _ b.1 (by omega) _ (Prod.ext rfl h4), h5, of_join w hw h2⟩
/-! The document's form. -/
theorem storeB_doc (x : In) (h : x.small) : storeB x = (decide (24 ≤ x.op) && decide (x.op ≤ 26)) := by
  have h0 := h.op0
  unfold storeB opN isOp
  by_cases hb : 1 ≤ x.op ∧ x.op ≤ 31
  · obtain ⟨n, hn⟩ := Int.eq_ofNat_of_zero_le h0
    have h1 : (decide (1 ≤ x.op) && decide (x.op ≤ 31)) = true := by simp [hb.1, hb.2]
    rw [if_pos h1]
    obtain ⟨h2, h3⟩ := hb
    rw [hn] at h2 h3 ⊢
    clear h1 hn h0
    have h4 : n ≤ 31 := by omega
    clear h2 h3
    revert n
    decide
  · have h1 : ¬ (decide (1 ≤ x.op) && decide (x.op ≤ 31)) = true := by simpa using hb
    rw [if_neg h1]
    have : (decide (24 ≤ x.op) && decide (x.op ≤ 26)) = false := by
      simp only [Bool.and_eq_false_iff, decide_eq_false_iff_not]
      omega
    rw [this]
    rfl
end
section
set_option maxRecDepth 100000
open Go.ChangeShapes Go.WideShapes Go.ChangeAt Go.RowKit Go.Sort BigFrame

/-- W's own blocks stand, and so do the listed instructions. -/
structure Held (W : World) (l : List (Nat × In)) (w : World) : Prop where
  made : Made W w
  at_ : ∀ p ∈ l, InAt w p.1 p.2
theorem Held.start {W w : World} (h : Made W w) : Held W [] w := ⟨h, fun _ h => by cases h⟩
theorem Held.next {W w w' : World} {l : List (Nat × In)} (h : Held W l w) (hm : Made w w') : Held W l w' := ⟨Made.trans h.made hm, fun p hp => Made.heap hm (h.at_ p hp)⟩
theorem Held.push {W w : World} {l : List (Nat × In)} (h : Held W l w) (x : In) : Held W ((w.heap.size, x) :: l) (w.alloc (.cells x.cells.toArray 40)) := by
  have h2 := (Made.refl w).alloc (Nat.le_refl _) (.cells x.cells.toArray 40)
  refine ⟨Made.trans h.made h2, fun p hp => ?_⟩
  rcases List.mem_cons.1 hp with rfl | hp
  · exact heap_alloc_new w _
  · exact Made.heap h2 (h.at_ p hp)
theorem Held.push2 {W w : World} {l : List (Nat × In)} (h : Held W l w) (x y : In) : Held W ((w.heap.size + 1, y) :: (w.heap.size, x) :: l) ((w.alloc (.cells x.cells.toArray 40)).alloc (.cells y.cells.toArray 40)) := by
  have := (h.push x).push y
  rwa [World.size_alloc] at this
theorem Held.one {W w : World} {l : List (Nat × In)} {b : Nat} {x : In} (h : Held W l w) (hp : (b, x) ∈ l) : InAt w b x := h.at_ _ hp
theorem Held.less {W w : World} {l l' : List (Nat × In)} (h : Held W l w) (hp : ∀ p ∈ l', p ∈ l) : Held W l' w := ⟨h.made, fun p h' => h.at_ p (hp p h')⟩
/-- What a block reads as behind draws and new blocks. -/
theorem in_again {w : World} {b : Nat} {x : In} (h : InAt w b x) :
    (∀ d os, (grow (redrawn w d) os).cell? ⟨b, 0, none⟩ = some (.int .u8 x.op)) ∧ (∀ d os, (grow (redrawn w d) os).cell? ⟨b, 1, none⟩ = some (.int .u8 x.d)) ∧ (∀ d os, (grow (redrawn w d) os).cell? ⟨b, 2, none⟩ = some (.int .u8 x.s)) ∧
    (∀ d os, (grow (redrawn w d) os).cell? ⟨b, 3, none⟩ = some (.int .u8 x.t)) ∧ (∀ d os, (grow (redrawn w d) os).cell? ⟨b, 4, none⟩ = some (.int .u8 x.n)) ∧ (∀ d os, (grow (redrawn w d) os).cell? ⟨b, 5, none⟩ = some (.int .u8 x.pred)) ∧
    (∀ d os, (grow (redrawn w d) os).cell? ⟨b, 6, none⟩ = some (.int .u8 x.mode)) ∧ (∀ d os, (grow (redrawn w d) os).cell? ⟨b, 7, none⟩ = some (.bool x.new)) ∧ (∀ d os, (grow (redrawn w d) os).cell? ⟨b, 8, none⟩ = some (.bool x.ext)) ∧
    (∀ d os, (grow (redrawn w d) os).cell? ⟨b, 9, none⟩ = some (.int .u16 x.count)) ∧ (∀ d os, (grow (redrawn w d) os).cell? ⟨b, 10, none⟩ = some (.int .i64 x.imm)) := by
  obtain ⟨a0, a1, a2, a3, a4, a5, a6, a7, a8, a9, a10⟩ := in_cells h
  exact ⟨fun d os => cell_regrown a0 d os, fun d os => cell_regrown a1 d os, fun d os => cell_regrown a2 d os, fun d os => cell_regrown a3 d os, fun d os => cell_regrown a4 d os, fun d os => cell_regrown a5 d os,
    fun d os => cell_regrown a6 d os, fun d os => cell_regrown a7 d os, fun d os => cell_regrown a8 d os, fun d os => cell_regrown a9 d os, fun d os => cell_regrown a10 d os⟩
/-- A whole instruction stored into its block. -/
theorem took_all {w : World} {b : Nat} {x : In} (y : In) (hx : InAt w b x) :
    Took w (set11b w b (.int .u8 y.op) (.int .u8 y.d) (.int .u8 y.s) (.int .u8 y.t) (.int .u8 y.n) (.int .u8 y.pred) (.int .u8 y.mode) (.bool y.new) (.bool y.ext) (.int .u16 y.count) (.int .i64 y.imm)) b y := by
  obtain ⟨x0, x1, x2, x3, x4, x5, x6, x7, x8, x9, x10⟩ := x
  obtain ⟨y0, y1, y2, y3, y4, y5, y6, y7, y8, y9, y10⟩ := y
  have h0 := took_set (j := 0) (v := .int .u8 y0) (y := ⟨y0, x1, x2, x3, x4, x5, x6, x7, x8, x9, x10⟩) hx rfl
  have h1 := took_set (j := 1) (v := .int .u8 y1) (y := ⟨y0, y1, x2, x3, x4, x5, x6, x7, x8, x9, x10⟩) h0.at_ rfl
  have h2 := took_set (j := 2) (v := .int .u8 y2) (y := ⟨y0, y1, y2, x3, x4, x5, x6, x7, x8, x9, x10⟩) h1.at_ rfl
  have h3 := took_set (j := 3) (v := .int .u8 y3) (y := ⟨y0, y1, y2, y3, x4, x5, x6, x7, x8, x9, x10⟩) h2.at_ rfl
  have h4 := took_set (j := 4) (v := .int .u8 y4) (y := ⟨y0, y1, y2, y3, y4, x5, x6, x7, x8, x9, x10⟩) h3.at_ rfl
  have h5 := took_set (j := 5) (v := .int .u8 y5) (y := ⟨y0, y1, y2, y3, y4, y5, x6, x7, x8, x9, x10⟩) h4.at_ rfl
  have h6 := took_set (j := 6) (v := .int .u8 y6) (y := ⟨y0, y1, y2, y3, y4, y5, y6, x7, x8, x9, x10⟩) h5.at_ rfl
  have h7 := took_set (j := 7) (v := .bool y7) (y := ⟨y0, y1, y2, y3, y4, y5, y6, y7, x8, x9, x10⟩) h6.at_ rfl
  have h8 := took_set (j := 8) (v := .bool y8) (y := ⟨y0, y1, y2, y3, y4, y5, y6, y7, y8, x9, x10⟩) h7.at_ rfl
  have h9 := took_set (j := 9) (v := .int .u16 y9) (y := ⟨y0, y1, y2, y3, y4, y5, y6, y7, y8, y9, x10⟩) h8.at_ rfl
  have h10 := took_set (j := 10) (v := .int .i64 y10) (y := ⟨y0, y1, y2, y3, y4, y5, y6, y7, y8, y9, y10⟩) h9.at_ rfl
  exact ((((((((((h0.then h1).then h2).then h3).then h4).then h5).then h6).then h7).then h8).then h9).then h10)
theorem Held.put {W w w' : World} {l : List (Nat × In)} {b : Nat} {x y : In} (h : Held W ((b, x) :: l) w) (k : Took w w' b y) (hb : W.heap.size ≤ b) (hne : ∀ p ∈ l, p.1 ≠ b) : Held W ((b, y) :: l) w' := by
  refine ⟨k.made W hb h.made, fun p hp => ?_⟩
  rcases List.mem_cons.1 hp with rfl | hp
  · exact k.at_
  · exact (k.far p.1 (hne p hp)).trans (h.at_ p (List.mem_cons_of_mem _ hp))
theorem below_drew {B : Nat} {a w : World} (h : Below B a w) : Below B a w.drew := ⟨h.os, h.tape, h.output, h.size, h.block⟩
theorem Held.drew {W w : World} {l : List (Nat × In)} (h : Held W l w) : Held W l w.drew := ⟨below_drew h.made, fun p hp => h.at_ p hp⟩
/-- Two instructions stored into their own blocks again. -/
theorem Held.both {W v : World} {b c : Nat} {x y : In} (h : Held W [(c, y), (b, x)] v) (hb : W.heap.size ≤ b) (hc : W.heap.size ≤ c) (hne : b ≠ c) :
    Held W [(c, y), (b, x)] (set11b (set11b v b (.int .u8 x.op) (.int .u8 x.d) (.int .u8 x.s) (.int .u8 x.t) (.int .u8 x.n) (.int .u8 x.pred) (.int .u8 x.mode) (.bool x.new) (.bool x.ext) (.int .u16 x.count) (.int .i64 x.imm))
      c (.int .u8 y.op) (.int .u8 y.d) (.int .u8 y.s) (.int .u8 y.t) (.int .u8 y.n) (.int .u8 y.pred) (.int .u8 y.mode) (.bool y.new) (.bool y.ext) (.int .u16 y.count) (.int .i64 y.imm)).drew := by
  have h1 : Held W [(b, x), (c, y)] v := h.less (by intro p hp; rcases List.mem_cons.1 hp with rfl | hp; · simp
                                                    · rcases List.mem_cons.1 hp with rfl | hp; · simp
                                                      · cases hp)
  have h2 := h1.put (took_all (x := x) x (h1.one (by simp))) hb (by intro p hp; rcases List.mem_cons.1 hp with rfl | hp; · exact fun h => hne h.symm
                                                                    · cases hp)
  have h3 := h2.less (l' := [(c, y), (b, x)]) (by intro p hp; rcases List.mem_cons.1 hp with rfl | hp; · simp
                                                  · rcases List.mem_cons.1 hp with rfl | hp; · simp
                                                    · cases hp)
  have h4 := h3.put (took_all (x := y) y (h3.one (by simp))) hc (by intro p hp; rcases List.mem_cons.1 hp with rfl | hp; · exact hne
                                                                    · cases hp)
  exact h4.drew
end
section
set_option maxRecDepth 100000
open Go.ChangeShapes Go.WideShapes Go.ChangeAt Go.RowKit Go.Sort BigFrame

/-- The three tables of a row. -/
structure Tabs (W : World) : Prop where
  names : Names W
  rows : SRows W
  pieces : Pieces W
theorem Tabs.made {W w : World} (h : Tabs W) (hm : Made W w) : Tabs w := ⟨h.names.made hm, h.rows.made hm, h.pieces.made hm⟩
section
attribute [local irreducible] World.cell?
set_option maxRecDepth 100000 in
set_option maxHeartbeats 1000000 in
theorem isStore_any (W : World) (hN : Names W) (x : In) (hx : x.small) : Makes Tryz.prog W 101 #[x.val] (.bool (storeB x)) := by
  intro w hm
  have hz := hm.size
  have K0 := Lib.hid (show Own W w.heap.size x (w.alloc (.cells x.cells.toArray 40)) from ⟨hm.alloc hz _, heap_alloc_new w _⟩)
  have HC := Lib.hid (fun v (hv : Names v) => class_any v hv x hx v (Made.refl v))
  unfold storeB
  generalize classZ (opN x.op) = c at *
  clear hx hm
  go_enter Tryz.func101, Tryz.ntmps101
  go_upto_region 1 with (fail)
  refine name_world (fun v => Own W w.heap.size x v) K0.out ?_
  intro v hv
  have KV := Lib.hid hv
  obtain ⟨a0, a1, a2, a3, a4, a5, a6, a7, a8, a9, a10⟩ := in_cells hv.in_
  have hl := heap_lt hv.in_
  clear hv K0
  go_wp2_with (fail)
  refine (HC.out v (hN.made KV.out.made)).mono ?_
  rintro e w1 ⟨rfl, h1⟩
  have K1 := Lib.hid (KV.out.next h1)
  clear h1
  go_wp2
  go_ret
  exact ⟨rfl, K1.out.made⟩
theorem join_any (W : World) (hP : Pieces W) (u l : Int) (u0 : 0 ≤ u) (u1 : u < 32768) (l0 : 0 ≤ l) (l1 : l < 32768) : Makes Tryz.prog W 102 #[.int .u16 u, .int .u16 l] (.int .u32 (dupZ u l)) := by
  intro w hm
  have hu : isU32 u := ⟨u0, by omega⟩
  have hl : isU32 l := ⟨l0, by omega⟩
  have HP := Lib.hid (put_any l 15 15 u hl hu ⟨by decide, by decide⟩)
  have hp := putZ_u32 l 15 15 u hl hu
  have HF := Lib.hid (fun v (hv : Pieces v) => fromThirty_made v hv (putZ l 15 15 u) 0 hp ⟨by decide, by decide⟩ v (Made.refl v))
  have hd : dupZ u l = fromThirtyZ (putZ l 15 15 u) 0 := rfl
  obtain ⟨p0, p1⟩ := hp
  rewrite [hd]
  generalize fromThirtyZ (putZ l 15 15 u) 0 = r at *
  generalize putZ l 15 15 u = p at *
  have H0 := Lib.hid hm
  clear hd hm hu hl
  go_enter Tryz.func102, Tryz.ntmps102
  go_wp2_with (fail)
  refine (HP.out w).mono ?_
  rintro e w1 ⟨rfl, rfl⟩
  go_wp2_with (fail)
  refine (HF.out w (hP.made H0.out)).mono ?_
  rintro e w2 ⟨rfl, h2⟩
  have H2 := Lib.hid (Made.trans H0.out h2)
  clear h2
  go_wp2
  go_ret
  exact ⟨rfl, H2.out⟩
theorem halves_any (W : World) (hP : Pieces W) (x : Int) (hx : isU32 x) : Makes Tryz.prog W 107 #[.int .u32 x] (.tuple #[.int .u16 (highZ x), .int .u16 (lowZ x)]) := by
  intro w hm
  have ht : isU32 (thirtyZ x) := by
    obtain ⟨x0, x1⟩ := hx
    unfold isU32 thirtyZ
    refine ⟨?_, ?_⟩ <;> omega
  have HT := Lib.hid (fun v (hv : Pieces v) => thirty_made v hv x hx v (Made.refl v))
  obtain ⟨a0, a1⟩ := highZ_range x
  obtain ⟨b0, b1⟩ := lowZ_range x
  unfold highZ lowZ at *
  have H1 := Lib.hid (get_any (thirtyZ x) 15 15 ht ⟨by decide, by decide⟩)
  have H2 := Lib.hid (get_any (thirtyZ x) 0 15 ht ⟨by decide, by decide⟩)
  generalize getZ (thirtyZ x) 15 15 = a at *
  generalize getZ (thirtyZ x) 0 15 = b at *
  obtain ⟨t0, t1⟩ := ht
  generalize thirtyZ x = t at *
  have H0 := Lib.hid hm
  clear hm hx
  go_enter Tryz.func107, Tryz.ntmps107
  go_wp2_with (fail)
  refine (HT.out w (hP.made H0.out)).mono ?_
  rintro e w1 ⟨rfl, h1⟩
  have M1 := Lib.hid (Made.trans H0.out h1)
  clear h1
  go_wp2_with (fail)
  refine (H1.out w1).mono ?_
  rintro e w2 ⟨rfl, k1, rfl⟩
  go_wp2_with (fail)
  refine (H2.out _).mono ?_
  rintro e w2 ⟨rfl, k2, rfl⟩
  go_wp2
  go_ret2
  exact ⟨rfl, below_drewN M1.out _⟩
end
end
section
set_option maxRecDepth 100000
open Go.ChangeShapes Go.WideShapes Go.ChangeAt Go.RowKit Go.Sort BigFrame

section
attribute [local irreducible] World.cell?
set_option maxRecDepth 100000 in
set_option maxHeartbeats 4000000 in
theorem pair_any (W : World) (hT : Tabs W) (a b : In) (ha : a.small) (hb : b.small) : Makes Tryz.prog W 68 #[a.val, b.val] (.tuple #[.int .u32 (pairP a b).1, .bool (pairP a b).2]) := by
  intro w hm
  have K0 := Lib.hid ((Held.start hm).push2 a b)
  have CA := Lib.hid (fun v (hv : SRows v) => subOf_any v hv a ha v (Made.refl v))
  have CB := Lib.hid (fun v (hv : SRows v) => subOf_any v hv b hb v (Made.refl v))
  have SA := Lib.hid (fun v (hv : Names v) => isStore_any v hv a ha)
  have SB := Lib.hid (fun v (hv : Names v) => isStore_any v hv b hb)
  obtain ⟨s0, s1⟩ := subOf_0 a
  obtain ⟨t0, t1⟩ := subOf_0 b
  obtain ⟨R, hR⟩ : ∃ R, R = pairP a b := ⟨_, rfl⟩
  rewrite [← hR]
  unfold pairP at hR
  generalize subOf a = ca at *
  obtain ⟨s, oa⟩ := ca
  generalize subOf b = cb at *
  obtain ⟨t, ob⟩ := cb
  generalize storeB a = sa at *
  generalize storeB b = sb at *
  simp only [] at hR
  have HS := Lib.hid hR
  have JA := Lib.hid (fun v (hv : Pieces v) => join_any v hv s t s0 s1 t0 t1 v (Made.refl v))
  have JB := Lib.hid (fun v (hv : Pieces v) => join_any v hv t s t0 t1 s0 s1 v (Made.refl v))
  generalize dupZ s t = ja at *
  generalize dupZ t s = jb at *
  simp only [] at s0 s1 t0 t1
  clear ha hb hm hR
  go_enter Tryz.func68, Tryz.ntmps68
  go_upto_region 1 with (fail)
  refine name_world (fun v => Held W [(w.heap.size + 1, b), (w.heap.size, a)] v) K0.out ?_
  intro v hv
  have KV := Lib.hid hv
  obtain ⟨a0, a1, a2, a3, a4, a5, a6, a7, a8, a9, a10⟩ := in_cells (hv.one (b := w.heap.size) (x := a) (by simp))
  have hl := heap_lt (hv.one (b := w.heap.size) (x := a) (by simp))
  clear hv K0
  go_wp2_with (fail)
  refine (CA.out v (hT.rows.made KV.out.made)).mono ?_
  rintro e z1 ⟨rfl, hz⟩
  have K1 := Lib.hid (KV.out.next hz)
  clear hz a0 a1 a2 a3 a4 a5 a6 a7 a8 a9 a10 hl
  obtain ⟨a0, a1, a2, a3, a4, a5, a6, a7, a8, a9, a10⟩ := in_cells (K1.out.one (b := w.heap.size + 1) (x := b) (by simp))
  have hl := heap_lt (K1.out.one (b := w.heap.size + 1) (x := b) (by simp))
  go_wp2_with (fail)
  refine (CB.out z1 (hT.rows.made K1.out.made)).mono ?_
  rintro e z2 ⟨rfl, hz⟩
  have K2 := Lib.hid (K1.out.next hz)
  clear hz a0 a1 a2 a3 a4 a5 a6 a7 a8 a9 a10 hl
  go_upto_region 3 with (fail)
  obtain ⟨g0, g1, g2, g3, g4, g5, g6, g7, g8, g9, g10⟩ := in_again (K2.out.one (b := w.heap.size) (x := a) (by simp))
  obtain ⟨q0, q1, q2, q3, q4, q5, q6, q7, q8, q9, q10⟩ := in_again (K2.out.one (b := w.heap.size + 1) (x := b) (by simp))
  have DA := SA.out z2 (hT.names.made K2.out.made)
  have DB := SB.out z2 (hT.names.made K2.out.made)
  refine wp_region_quiet_below (by kernel_rfl) (by kernel_rfl) ?_
  repeat (go_big_quiet_step ((first
    | (go_at_call 101; with_reducible exact DA.again _ _)
    | (go_at_call 101; with_reducible exact DB.again _ _))))
  refine wpQuiet_nil ?_
  intro z3 hw9
  have K3 := Lib.hid (K2.out.next (made_regrown hw9))
  clear hw9 g0 g1 g2 g3 g4 g5 g6 g7 g8 g9 g10 q0 q1 q2 q3 q4 q5 q6 q7 q8 q9 q10 DA DB
  cases oa with
  | false =>
    have e1 : R = (0, false) := HS.out
    have E1 := Lib.hid e1
    obtain rfl := E1.out
    clear e1
    go_wp2
    go_ret2
    exact ⟨rfl, K3.out.made⟩
  | true =>
    cases ob with
    | false =>
      have e1 : R = (0, false) := HS.out
      have E1 := Lib.hid e1
      obtain rfl := E1.out
      clear e1
      go_wp2
      go_ret2
      exact ⟨rfl, K3.out.made⟩
    | true =>
      cases sa with
      | true =>
        cases sb with
        | true =>
          have e1 : R = (0, false) := HS.out
          have E1 := Lib.hid e1
          obtain rfl := E1.out
          clear e1
          go_wp2
          go_ret2
          exact ⟨rfl, K3.out.made⟩
        | false =>
          have e1 : R = (jb, true) := HS.out
          have E1 := Lib.hid e1
          obtain rfl := E1.out
          clear e1
          go_wp2_with (fail)
          refine (JB.out z3 (hT.pieces.made K3.out.made)).mono ?_
          rintro e z4 ⟨rfl, hz⟩
          have K4 := Lib.hid (K3.out.next hz)
          clear hz
          go_wp2
          go_ret2
          exact ⟨rfl, K4.out.made⟩
      | false =>
        cases sb with
        | true =>
          have e1 : R = (ja, true) := HS.out
          have E1 := Lib.hid e1
          obtain rfl := E1.out
          clear e1
          go_wp2_with (fail)
          refine (JA.out z3 (hT.pieces.made K3.out.made)).mono ?_
          rintro e z4 ⟨rfl, hz⟩
          have K4 := Lib.hid (K3.out.next hz)
          clear hz
          go_wp2
          go_ret2
          exact ⟨rfl, K4.out.made⟩
        | false =>
          by_cases hlt : s < t
          · have hd : decide (s < t) = true := decide_eq_true hlt
            have e1 : R = (jb, true) := by rw [HS.out, hd]; rfl
            have E1 := Lib.hid e1
            obtain rfl := E1.out
            clear e1 hlt
            go_wp2_with (fail)
            refine (JB.out z3 (hT.pieces.made K3.out.made)).mono ?_
            rintro e z4 ⟨rfl, hz⟩
            have K4 := Lib.hid (K3.out.next hz)
            clear hz
            go_wp2
            go_ret2
            exact ⟨rfl, K4.out.made⟩
          · have hd : decide (s < t) = false := decide_eq_false hlt
            have e1 : R = (ja, true) := by rw [HS.out, hd]; rfl
            have E1 := Lib.hid e1
            obtain rfl := E1.out
            clear e1 hlt
            go_wp2_with (fail)
            refine (JA.out z3 (hT.pieces.made K3.out.made)).mono ?_
            rintro e z4 ⟨rfl, hz⟩
            have K4 := Lib.hid (K3.out.next hz)
            clear hz
            go_wp2
            go_ret2
            exact ⟨rfl, K4.out.made⟩
end
end
end Go.Proofs.YtanjmoiepmadhaaGreatDoor
