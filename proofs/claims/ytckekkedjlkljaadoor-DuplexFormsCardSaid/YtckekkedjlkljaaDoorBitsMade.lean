/- What getPart, putPart, Parts, Word of package bits return, in every world that has grown out of one that holds the table of pieces, in the words of Mem. Written by wip/tools/gen_bitsmade.py. -/
import Derived.Test.YtckekkedjlkljaaDoorBitsParts
import Derived.Test.YtckekkedjlkljaaDoorMem
namespace Go.Proofs.YtckekkedjlkljaaDoor
open Go.ChangeShapes Go.WideShapes Go.ChangeAt Go.RowKit

theorem Pieces.made {W w : World} (h : Pieces W) (hm : Made W w) : Pieces w := let ⟨T, fr, h⟩ := h; ⟨T, fr, hm.heap h⟩
set_option maxHeartbeats 400000 in
theorem getPart_made (W : World) (hp : Pieces W) (v c : Int) (hv : isU32 v) : Makes Tryd.prog W 28 #[.int .u32 v, .int .u8 c] (.int .u32 (gpZ v c 6)) := by
  intro w hg
  obtain ⟨T, fr, hb⟩ := hp.made hg
  go_enter Tryd.func28, Tryd.ntmps28
  go_wp2_with (refine wpList_load_row rfl 74 _ rfl 1 rfl T _ fr _ hb Tryd.underlying74 rfl (by kernel_rfl) ?_)
  clear hb
  have i0 : ∀ w, (Instr.index 74 (.agg piecesCells) (.int .i64 0)).run Tryd.prog w = .ok (.agg #[.int .u8 1, .int .i64 26, .int .i64 6, .int .i64 0]) w := fun _ => by kernel_rfl
  have i1 : ∀ w, (Instr.index 74 (.agg piecesCells) (.int .i64 1)).run Tryd.prog w = .ok (.agg #[.int .u8 2, .int .i64 16, .int .i64 10, .int .i64 14]) w := fun _ => by kernel_rfl
  have i2 : ∀ w, (Instr.index 74 (.agg piecesCells) (.int .i64 2)).run Tryd.prog w = .ok (.agg #[.int .u8 2, .int .i64 0, .int .i64 14, .int .i64 0]) w := fun _ => by kernel_rfl
  have i3 : ∀ w, (Instr.index 74 (.agg piecesCells) (.int .i64 3)).run Tryd.prog w = .ok (.agg #[.int .u8 3, .int .i64 14, .int .i64 2, .int .i64 0]) w := fun _ => by kernel_rfl
  have i4 : ∀ w, (Instr.index 74 (.agg piecesCells) (.int .i64 4)).run Tryd.prog w = .ok (.agg #[.int .u8 4, .int .i64 16, .int .i64 16, .int .i64 14]) w := fun _ => by kernel_rfl
  have i5 : ∀ w, (Instr.index 74 (.agg piecesCells) (.int .i64 5)).run Tryd.prog w = .ok (.agg #[.int .u8 4, .int .i64 0, .int .i64 14, .int .i64 0]) w := fun _ => by kernel_rfl
  go_loopw [5, 9] (fun x i wr => ∃ k : Nat, k ≤ 6 ∧ i = .int .i64 k ∧ x = .int .u32 (gpZ v c k) ∧ Made W wr) (fun _ i _ => 6 - (intOf i).toNat)
  case atStart => exact ⟨0, by omega, rfl, rfl, hg⟩
  case round =>
    obtain ⟨k, hk, rfl, rfl, hgr⟩ := hrel
    have hx := gpZ_u32 v c hv k
    have e1 : gpZ v c (k + 1) = if pieceOf k = c then putZ (gpZ v c k) (pieceFrom k) (pieceN k) (getZ v (pieceAt k) (pieceN k)) else gpZ v c k := rfl
    have E1 := Lib.hid e1
    clear e1
    generalize hxe : gpZ v c k = x at *
    have HX := Lib.hid hxe
    clear hxe
    have hk' : k = 0 ∨ k = 1 ∨ k = 2 ∨ k = 3 ∨ k = 4 ∨ k = 5 ∨ k = 6 := by omega
    clear hk
    rcases hk' with rfl | rfl | rfl | rfl | rfl | rfl | rfl
    · by_cases hc : (1 : Int) = c
      · obtain rfl := hc
        go_wp2
        go_quiet ((first
          | (go_at_call 33; exact (get_any _ _ _ hv ⟨by omega, by omega⟩).again _)
          | (go_at_call 30; exact (put_any _ _ _ _ hx (getZ_u32 _ _ _ hv) ⟨by omega, by omega⟩).quiet.again _)))
        go_wp2
        go_roundw
        case rel => exact ⟨1, by omega, rfl, by rw [E1.out]; exact ifp rfl, below_drewN (hgr.alloc hgr.size _) _⟩
        case measure => simp [intOf]
      · have hb : ((1 : Int) == c) = false := by simpa using hc
        go_wp2
        go_roundw
        case rel => exact ⟨1, by omega, rfl, by rw [E1.out]; exact ifn hc, hgr.alloc hgr.size _⟩
        case measure => simp [intOf]
    · by_cases hc : (2 : Int) = c
      · obtain rfl := hc
        go_wp2
        go_quiet ((first
          | (go_at_call 33; exact (get_any _ _ _ hv ⟨by omega, by omega⟩).again _)
          | (go_at_call 30; exact (put_any _ _ _ _ hx (getZ_u32 _ _ _ hv) ⟨by omega, by omega⟩).quiet.again _)))
        go_wp2
        go_roundw
        case rel => exact ⟨2, by omega, rfl, by rw [E1.out]; exact ifp rfl, below_drewN (hgr.alloc hgr.size _) _⟩
        case measure => simp [intOf]
      · have hb : ((2 : Int) == c) = false := by simpa using hc
        go_wp2
        go_roundw
        case rel => exact ⟨2, by omega, rfl, by rw [E1.out]; exact ifn hc, hgr.alloc hgr.size _⟩
        case measure => simp [intOf]
    · by_cases hc : (2 : Int) = c
      · obtain rfl := hc
        go_wp2
        go_quiet ((first
          | (go_at_call 33; exact (get_any _ _ _ hv ⟨by omega, by omega⟩).again _)
          | (go_at_call 30; exact (put_any _ _ _ _ hx (getZ_u32 _ _ _ hv) ⟨by omega, by omega⟩).quiet.again _)))
        go_wp2
        go_roundw
        case rel => exact ⟨3, by omega, rfl, by rw [E1.out]; exact ifp rfl, below_drewN (hgr.alloc hgr.size _) _⟩
        case measure => simp [intOf]
      · have hb : ((2 : Int) == c) = false := by simpa using hc
        go_wp2
        go_roundw
        case rel => exact ⟨3, by omega, rfl, by rw [E1.out]; exact ifn hc, hgr.alloc hgr.size _⟩
        case measure => simp [intOf]
    · by_cases hc : (3 : Int) = c
      · obtain rfl := hc
        go_wp2
        go_quiet ((first
          | (go_at_call 33; exact (get_any _ _ _ hv ⟨by omega, by omega⟩).again _)
          | (go_at_call 30; exact (put_any _ _ _ _ hx (getZ_u32 _ _ _ hv) ⟨by omega, by omega⟩).quiet.again _)))
        go_wp2
        go_roundw
        case rel => exact ⟨4, by omega, rfl, by rw [E1.out]; exact ifp rfl, below_drewN (hgr.alloc hgr.size _) _⟩
        case measure => simp [intOf]
      · have hb : ((3 : Int) == c) = false := by simpa using hc
        go_wp2
        go_roundw
        case rel => exact ⟨4, by omega, rfl, by rw [E1.out]; exact ifn hc, hgr.alloc hgr.size _⟩
        case measure => simp [intOf]
    · by_cases hc : (4 : Int) = c
      · obtain rfl := hc
        go_wp2
        go_quiet ((first
          | (go_at_call 33; exact (get_any _ _ _ hv ⟨by omega, by omega⟩).again _)
          | (go_at_call 30; exact (put_any _ _ _ _ hx (getZ_u32 _ _ _ hv) ⟨by omega, by omega⟩).quiet.again _)))
        go_wp2
        go_roundw
        case rel => exact ⟨5, by omega, rfl, by rw [E1.out]; exact ifp rfl, below_drewN (hgr.alloc hgr.size _) _⟩
        case measure => simp [intOf]
      · have hb : ((4 : Int) == c) = false := by simpa using hc
        go_wp2
        go_roundw
        case rel => exact ⟨5, by omega, rfl, by rw [E1.out]; exact ifn hc, hgr.alloc hgr.size _⟩
        case measure => simp [intOf]
    · by_cases hc : (4 : Int) = c
      · obtain rfl := hc
        go_wp2
        go_quiet ((first
          | (go_at_call 33; exact (get_any _ _ _ hv ⟨by omega, by omega⟩).again _)
          | (go_at_call 30; exact (put_any _ _ _ _ hx (getZ_u32 _ _ _ hv) ⟨by omega, by omega⟩).quiet.again _)))
        go_wp2
        go_roundw
        case rel => exact ⟨6, by omega, rfl, by rw [E1.out]; exact ifp rfl, below_drewN (hgr.alloc hgr.size _) _⟩
        case measure => simp [intOf]
      · have hb : ((4 : Int) == c) = false := by simpa using hc
        go_wp2
        go_roundw
        case rel => exact ⟨6, by omega, rfl, by rw [E1.out]; exact ifn hc, hgr.alloc hgr.size _⟩
        case measure => simp [intOf]
    · go_wp2
      go_ret
      exact ⟨ret_int HX.out.symm, hgr⟩
set_option maxHeartbeats 400000 in
theorem putPart_made (W : World) (hp : Pieces W) (y c v : Int) (hy0 : isU32 y) (hv : isU32 v) : Makes Tryd.prog W 42 #[.int .u32 y, .int .u8 c, .int .u32 v] (.int .u32 (ppZ y v c 6)) := by
  intro w hg
  obtain ⟨T, fr, hb⟩ := hp.made hg
  go_enter Tryd.func42, Tryd.ntmps42
  go_wp2_with (refine wpList_load_row rfl 74 _ rfl 1 rfl T _ fr _ hb Tryd.underlying74 rfl (by kernel_rfl) ?_)
  clear hb
  have i0 : ∀ w, (Instr.index 74 (.agg piecesCells) (.int .i64 0)).run Tryd.prog w = .ok (.agg #[.int .u8 1, .int .i64 26, .int .i64 6, .int .i64 0]) w := fun _ => by kernel_rfl
  have i1 : ∀ w, (Instr.index 74 (.agg piecesCells) (.int .i64 1)).run Tryd.prog w = .ok (.agg #[.int .u8 2, .int .i64 16, .int .i64 10, .int .i64 14]) w := fun _ => by kernel_rfl
  have i2 : ∀ w, (Instr.index 74 (.agg piecesCells) (.int .i64 2)).run Tryd.prog w = .ok (.agg #[.int .u8 2, .int .i64 0, .int .i64 14, .int .i64 0]) w := fun _ => by kernel_rfl
  have i3 : ∀ w, (Instr.index 74 (.agg piecesCells) (.int .i64 3)).run Tryd.prog w = .ok (.agg #[.int .u8 3, .int .i64 14, .int .i64 2, .int .i64 0]) w := fun _ => by kernel_rfl
  have i4 : ∀ w, (Instr.index 74 (.agg piecesCells) (.int .i64 4)).run Tryd.prog w = .ok (.agg #[.int .u8 4, .int .i64 16, .int .i64 16, .int .i64 14]) w := fun _ => by kernel_rfl
  have i5 : ∀ w, (Instr.index 74 (.agg piecesCells) (.int .i64 5)).run Tryd.prog w = .ok (.agg #[.int .u8 4, .int .i64 0, .int .i64 14, .int .i64 0]) w := fun _ => by kernel_rfl
  go_loopw [0, 10] (fun x i wr => ∃ k : Nat, k ≤ 6 ∧ i = .int .i64 k ∧ x = .int .u32 (ppZ y v c k) ∧ Made W wr) (fun _ i _ => 6 - (intOf i).toNat)
  case atStart => exact ⟨0, by omega, rfl, rfl, hg⟩
  case round =>
    obtain ⟨k, hk, rfl, rfl, hgr⟩ := hrel
    have hy := ppZ_u32 y v c hy0 hv k
    have e1 : ppZ y v c (k + 1) = if pieceOf k = c then putZ (ppZ y v c k) (pieceAt k) (pieceN k) (getZ v (pieceFrom k) (pieceN k)) else ppZ y v c k := rfl
    have E1 := Lib.hid e1
    clear e1
    generalize hxe : ppZ y v c k = x at *
    have HX := Lib.hid hxe
    clear hxe
    have hk' : k = 0 ∨ k = 1 ∨ k = 2 ∨ k = 3 ∨ k = 4 ∨ k = 5 ∨ k = 6 := by omega
    clear hk
    rcases hk' with rfl | rfl | rfl | rfl | rfl | rfl | rfl
    · by_cases hc : (1 : Int) = c
      · obtain rfl := hc
        go_wp2
        go_quiet ((first
          | (go_at_call 33; exact (get_any _ _ _ hv ⟨by omega, by omega⟩).again _)
          | (go_at_call 30; exact (put_any _ _ _ _ hy (getZ_u32 _ _ _ hv) ⟨by omega, by omega⟩).quiet.again _)))
        go_wp2
        go_roundw
        case rel => exact ⟨1, by omega, rfl, by rw [E1.out]; exact ifp rfl, below_drewN (hgr.alloc hgr.size _) _⟩
        case measure => simp [intOf]
      · have hb : ((1 : Int) == c) = false := by simpa using hc
        go_wp2
        go_roundw
        case rel => exact ⟨1, by omega, rfl, by rw [E1.out]; exact ifn hc, hgr.alloc hgr.size _⟩
        case measure => simp [intOf]
    · by_cases hc : (2 : Int) = c
      · obtain rfl := hc
        go_wp2
        go_quiet ((first
          | (go_at_call 33; exact (get_any _ _ _ hv ⟨by omega, by omega⟩).again _)
          | (go_at_call 30; exact (put_any _ _ _ _ hy (getZ_u32 _ _ _ hv) ⟨by omega, by omega⟩).quiet.again _)))
        go_wp2
        go_roundw
        case rel => exact ⟨2, by omega, rfl, by rw [E1.out]; exact ifp rfl, below_drewN (hgr.alloc hgr.size _) _⟩
        case measure => simp [intOf]
      · have hb : ((2 : Int) == c) = false := by simpa using hc
        go_wp2
        go_roundw
        case rel => exact ⟨2, by omega, rfl, by rw [E1.out]; exact ifn hc, hgr.alloc hgr.size _⟩
        case measure => simp [intOf]
    · by_cases hc : (2 : Int) = c
      · obtain rfl := hc
        go_wp2
        go_quiet ((first
          | (go_at_call 33; exact (get_any _ _ _ hv ⟨by omega, by omega⟩).again _)
          | (go_at_call 30; exact (put_any _ _ _ _ hy (getZ_u32 _ _ _ hv) ⟨by omega, by omega⟩).quiet.again _)))
        go_wp2
        go_roundw
        case rel => exact ⟨3, by omega, rfl, by rw [E1.out]; exact ifp rfl, below_drewN (hgr.alloc hgr.size _) _⟩
        case measure => simp [intOf]
      · have hb : ((2 : Int) == c) = false := by simpa using hc
        go_wp2
        go_roundw
        case rel => exact ⟨3, by omega, rfl, by rw [E1.out]; exact ifn hc, hgr.alloc hgr.size _⟩
        case measure => simp [intOf]
    · by_cases hc : (3 : Int) = c
      · obtain rfl := hc
        go_wp2
        go_quiet ((first
          | (go_at_call 33; exact (get_any _ _ _ hv ⟨by omega, by omega⟩).again _)
          | (go_at_call 30; exact (put_any _ _ _ _ hy (getZ_u32 _ _ _ hv) ⟨by omega, by omega⟩).quiet.again _)))
        go_wp2
        go_roundw
        case rel => exact ⟨4, by omega, rfl, by rw [E1.out]; exact ifp rfl, below_drewN (hgr.alloc hgr.size _) _⟩
        case measure => simp [intOf]
      · have hb : ((3 : Int) == c) = false := by simpa using hc
        go_wp2
        go_roundw
        case rel => exact ⟨4, by omega, rfl, by rw [E1.out]; exact ifn hc, hgr.alloc hgr.size _⟩
        case measure => simp [intOf]
    · by_cases hc : (4 : Int) = c
      · obtain rfl := hc
        go_wp2
        go_quiet ((first
          | (go_at_call 33; exact (get_any _ _ _ hv ⟨by omega, by omega⟩).again _)
          | (go_at_call 30; exact (put_any _ _ _ _ hy (getZ_u32 _ _ _ hv) ⟨by omega, by omega⟩).quiet.again _)))
        go_wp2
        go_roundw
        case rel => exact ⟨5, by omega, rfl, by rw [E1.out]; exact ifp rfl, below_drewN (hgr.alloc hgr.size _) _⟩
        case measure => simp [intOf]
      · have hb : ((4 : Int) == c) = false := by simpa using hc
        go_wp2
        go_roundw
        case rel => exact ⟨5, by omega, rfl, by rw [E1.out]; exact ifn hc, hgr.alloc hgr.size _⟩
        case measure => simp [intOf]
    · by_cases hc : (4 : Int) = c
      · obtain rfl := hc
        go_wp2
        go_quiet ((first
          | (go_at_call 33; exact (get_any _ _ _ hv ⟨by omega, by omega⟩).again _)
          | (go_at_call 30; exact (put_any _ _ _ _ hy (getZ_u32 _ _ _ hv) ⟨by omega, by omega⟩).quiet.again _)))
        go_wp2
        go_roundw
        case rel => exact ⟨6, by omega, rfl, by rw [E1.out]; exact ifp rfl, below_drewN (hgr.alloc hgr.size _) _⟩
        case measure => simp [intOf]
      · have hb : ((4 : Int) == c) = false := by simpa using hc
        go_wp2
        go_roundw
        case rel => exact ⟨6, by omega, rfl, by rw [E1.out]; exact ifn hc, hgr.alloc hgr.size _⟩
        case measure => simp [intOf]
    · go_wp2
      go_ret
      exact ⟨ret_int HX.out.symm, hgr⟩
theorem getPartM_code (W : World) (hp : Pieces W) (v : Int) (hv : isU32 v) : Makes Tryd.prog W 28 #[.int .u32 v, .int .u8 1] (.int .u32 (codeZ v)) := by
  have h := getPart_made W hp v 1 hv; rwa [gp_code v hv] at h
theorem getPartM_pay (W : World) (hp : Pieces W) (v : Int) (hv : isU32 v) : Makes Tryd.prog W 28 #[.int .u32 v, .int .u8 2] (.int .u32 (payZ v)) := by
  have h := getPart_made W hp v 2 hv; rwa [gp_pay v hv] at h
theorem getPartM_parse (W : World) (hp : Pieces W) (v : Int) (hv : isU32 v) : Makes Tryd.prog W 28 #[.int .u32 v, .int .u8 3] (.int .u32 (parseZ v)) := by
  have h := getPart_made W hp v 3 hv; rwa [gp_parse v hv] at h
theorem parts_made (W : World) (hp : Pieces W) (v : Int) (hv : isU32 v) : Makes Tryd.prog W 16 #[.int .u32 v] (.tuple #[.int .u8 (codeZ v), .int .u32 (payZ v), .int .u8 (parseZ v)]) := by
  intro w hg
  have c1 : 0 ≤ codeZ v := by unfold codeZ; omega
  have c2 : codeZ v < 64 := by unfold codeZ; omega
  have c3 : 0 ≤ parseZ v := by unfold parseZ; omega
  have c4 : parseZ v < 4 := by unfold parseZ; omega
  go_enter Tryd.func16, Tryd.ntmps16
  go_wp2_with (go_at_call 28; (first | (with_reducible refine (getPartM_code W hp _ hv _ (by assumption)).mono ?_) | (with_reducible refine (getPartM_pay W hp _ hv _ (by assumption)).mono ?_) | (with_reducible refine (getPartM_parse W hp _ hv _ (by assumption)).mono ?_)); rintro e w' ⟨rfl, hg'⟩)
  go_ret3
  exact ⟨rfl, by assumption⟩
theorem getPartM_thirty (W : World) (hp : Pieces W) (v : Int) (hv : isU32 v) : Makes Tryd.prog W 28 #[.int .u32 v, .int .u8 4] (.int .u32 (thirtyZ v)) := by
  have h := getPart_made W hp v 4 hv; rwa [gp_thirty v hv] at h
theorem thirty_made (W : World) (hp : Pieces W) (v : Int) (hv : isU32 v) : Makes Tryd.prog W 32 #[.int .u32 v] (.int .u32 (thirtyZ v)) := by
  intro w hg
  go_enter Tryd.func32, Tryd.ntmps32
  go_wp2_with (go_at_call 28; with_reducible refine (getPartM_thirty W hp _ hv _ (by assumption)).mono ?_; rintro e w' ⟨rfl, hg'⟩)
  go_ret
  exact ⟨rfl, by assumption⟩
theorem fromThirty_made (W : World) (hp : Pieces W) (v q : Int) (hv : isU32 v) (hq : isU8 q) : Makes Tryd.prog W 31 #[.int .u32 v, .int .u8 q] (.int .u32 (fromThirtyZ v q)) := by
  intro w hg
  have u0 : isU32 0 := ⟨by decide, by decide⟩
  have u1 := ppZ_u32 0 v 4 ⟨by decide, by decide⟩ hv 6
  have k := pp_thirty v q hv hq.u32
  have K := Lib.hid k
  clear k
  obtain ⟨q0, q1⟩ := id hq
  go_enter Tryd.func31, Tryd.ntmps31
  go_wp2_with (go_at_call 42; (first | (with_reducible refine (putPart_made W hp 0 4 v u0 hv _ (by assumption)).mono ?_) | (with_reducible refine (putPart_made W hp _ 3 q u1 hq.u32 _ (by assumption)).mono ?_)); rintro e w' ⟨rfl, hg'⟩)
  go_ret
  exact ⟨ret_int K.out, by assumption⟩
end Go.Proofs.YtckekkedjlkljaaDoor
