/- ExtMoves of the laws of ext returns true, for every target, address, way and op, in every world that holds the table of names. -/
import Derived.Test.YteghoocjhhahbaaDoorExtLaws
namespace Go.Proofs.YteghoocjhhahbaaDoor
open Go.ChangeShapes Go.WideShapes Go.ChangeAt Go.RowKit Go.Sort BigFrame

theorem s32_moved (t p w : Int) : s32 ((t + w) % 4294967296 - (p + w) % 4294967296) = s32 (t - p) := by
  have e : ((t + w) % 4294967296 - (p + w) % 4294967296) % 4294967296 = (t - p) % 4294967296 := by omega
  unfold s32; rw [e]
theorem value_rel (k : Int) (f : Fd) (h : vF k = f) (hb : vB k = true) (hk : f.kind = 10) (t p : Int) : valueP (litIn k 0 0 0 0 0 0 false false 0 t) p = s32 (t - p) := by
  show (if vB k then valZ (vF k) _ p else 0) = _
  rw [hb, if_pos rfl, h]
  exact if_pos hk
theorem fit_rel (k : Int) (f : Fd) (h : vF k = f) (hb : vB k = true) (hk : f.kind = 10) (t p : Int) : fitP (litIn k 0 0 0 0 0 0 false false 0 t) p = fitsB (s32 (t - p)) f.bits f.shift f.sg := by
  show (!vB k || fitZ (vF k) _ p) = _
  rw [hb, h]
  show fitsB (valZ f _ p) _ _ _ = _
  rw [show valZ f (litIn k 0 0 0 0 0 0 false false 0 t) p = s32 (t - p) from if_pos hk]
theorem small_rel {k t : Int} (k0 : 0 ≤ k) (k1 : k ≤ 255) (ht : isU32 t) : (litIn k 0 0 0 0 0 0 false false 0 t).small := by
  obtain ⟨t0, t1⟩ := ht
  have z : (0 : Int) ≤ 255 := by decide
  have z2 : (0 : Int) ≤ 65535 := by decide
  have e : (0 : Int) ≤ 0 := by decide
  exact ⟨k0, k1, e, z, e, z, e, z, e, z, e, z, e, z, e, z2, by show _ ≤ t; omega, by show t ≤ _; omega⟩
namespace extMoves
/-- The two instructions' variables, kept. -/
structure Both (W : World) (B C : Nat) (x y : In) (w : World) : Prop where
  made : Made W w
  fst : InAt w B x
  snd : InAt w C y
theorem Both.next {W w w' : World} {B C : Nat} {x y : In} (h : Both W B C x y w) (hm : Made w w') : Both W B C x y w' := ⟨Made.trans h.made hm, hm.heap h.fst, hm.heap h.snd⟩
theorem both_of {W : World} {x y : In} (o : Obj) : Both W (W.heap.size + 1) (W.heap.size + 1 + 1) x y (((W.alloc o).alloc (.cells x.cells.toArray 24)).alloc (.cells y.cells.toArray 24)) := by
  have m1 := (Made.refl W).alloc (Nat.le_refl _) o
  have m2 := m1.alloc m1.size (.cells x.cells.toArray 24)
  have hx : ((W.alloc o).alloc (.cells x.cells.toArray 24)).heap[W.heap.size + 1]? = some (.cells x.cells.toArray 24 (0, 0)) := heap_at (by simp)
  exact ⟨m2.alloc m2.size _, (Below.heap_alloc _ _ _ (heap_lt hx)).trans hx, heap_at (by simp)⟩
section
attribute [local irreducible] World.cell?
set_option maxRecDepth 100000 in
set_option maxHeartbeats 4000000 in
theorem walk (W : World) (hN : Names W) (t p y op : Int) (ht : isU32 t) (hp : isU32 p) (hy : isU32 y) (ho : isU8 op) :
    Calls Tryd.prog 7 #[.int .u32 t, .int .u32 p, .int .u32 y, .int .u8 op] W fun e w' => e = .returned (.bool true) ∧ Made W w' := by
  obtain ⟨t0, t1⟩ := id ht
  obtain ⟨p0, p1⟩ := id hp
  obtain ⟨y0, y1⟩ := id hy
  obtain ⟨o0, o1⟩ := id ho
  have hm4 : op % 4 = 0 ∨ op % 4 = 1 ∨ op % 4 = 2 ∨ op % 4 = 3 := by omega
  have hq : isU32 ((t + y) % 4294967296) := ⟨by omega, by omega⟩
  have hr : isU32 ((p + y) % 4294967296) := ⟨by omega, by omega⟩
  obtain ⟨q0, q1⟩ := id hq
  obtain ⟨r0, r1⟩ := id hr
  obtain ⟨k, f, hf, hb, hk, hk2⟩ : ∃ k f, vF k = f ∧ vB k = true ∧ f.kind = 10 ∧ ((op % 4 = 0 ∧ k = 27) ∨ (op % 4 = 1 ∧ k = 29) ∨ (op % 4 = 2 ∧ k = 30) ∨ (op % 4 = 3 ∧ k = 31)) := by
    rcases hm4 with h | h | h | h
    · exact ⟨27, fR19, by decide +kernel, by decide +kernel, rfl, .inl ⟨h, rfl⟩⟩
    · exact ⟨29, fR24, by decide +kernel, by decide +kernel, rfl, .inr (.inl ⟨h, rfl⟩)⟩
    · exact ⟨30, fR12, by decide +kernel, by decide +kernel, rfl, .inr (.inr (.inl ⟨h, rfl⟩))⟩
    · exact ⟨31, fR12, by decide +kernel, by decide +kernel, rfl, .inr (.inr (.inr ⟨h, rfl⟩))⟩
  have sx := small_rel (k := k) (by omega) (by omega) ht
  have sy := small_rel (k := k) (by omega) (by omega) hq
  have C1 := fun u (hu : Names u) => value_any u hu _ sx p
  have C2 := fun u (hu : Names u) => value_any u hu _ sy ((p + y) % 4294967296)
  have C3 := fun u (hu : Names u) => extFits_any u hu _ sx p
  have C4 := fun u (hu : Names u) => extFits_any u hu _ sy ((p + y) % 4294967296)
  have D5 := Lib.hid (fun u (hu : Names u) => awake_any u hu)
  rewrite [value_rel k f hf hb hk, show vB (litIn k 0 0 0 0 0 0 false false 0 _).op = true from hb] at C1
  rewrite [value_rel k f hf hb hk, s32_moved, show vB (litIn k 0 0 0 0 0 0 false false 0 _).op = true from hb] at C2
  rewrite [fit_rel k f hf hb hk] at C3
  rewrite [fit_rel k f hf hb hk, s32_moved] at C4
  generalize fitsB (s32 (t - p)) f.bits f.shift f.sg = ft at *
  generalize s32 (t - p) = v at *
  generalize hqq : (t + y) % 4294967296 = q at *
  have D1 := Lib.hid C1
  have D2 := Lib.hid C2
  have D3 := Lib.hid C3
  have D4 := Lib.hid C4
  clear C1 C2 C3 C4 sx sy hf hb hk hm4 ht hp hy ho hq hr
  rcases hk2 with ⟨h4, rfl⟩ | ⟨h4, rfl⟩ | ⟨h4, rfl⟩ | ⟨h4, rfl⟩
  all_goals
    have HQ := Lib.hid hqq
    clear hqq
    go_enter Tryd.func7, Tryd.ntmps7
    go_upto_region 5 with (fail)
    rewrite [HQ.out]
    refine name_world (fun u => Both W (W.heap.size + 1) (W.heap.size + 1 + 1) (litIn _ 0 0 0 0 0 0 false false 0 t) (litIn _ 0 0 0 0 0 0 false false 0 q) u) (both_of _) ?_
    intro u0 h0
    have K0 := Lib.hid h0
    clear h0
    obtain ⟨a0, a1, a2, a3, a4, a5, a6, a7, a8, a9, a10⟩ := in_cells K0.out.fst
    have hb := heap_lt K0.out.fst
    go_wp2_with (fail)
    refine (D1.out _ (hN.made K0.out.made) _ (Made.refl _)).mono ?_
    rintro e u1 ⟨rfl, h1⟩
    have K1 := Lib.hid (K0.out.next h1)
    clear h1 a0 a1 a2 a3 a4 a5 a6 a7 a8 a9 a10 hb
    obtain ⟨a0, a1, a2, a3, a4, a5, a6, a7, a8, a9, a10⟩ := in_cells K1.out.snd
    have hb := heap_lt K1.out.snd
    go_wp2_with (fail)
    refine (D2.out _ (hN.made K1.out.made) _ (Made.refl _)).mono ?_
    rintro e u2 ⟨rfl, h2⟩
    have K2 := Lib.hid (K1.out.next h2)
    clear h2 a0 a1 a2 a3 a4 a5 a6 a7 a8 a9 a10 hb
    obtain ⟨a0, a1, a2, a3, a4, a5, a6, a7, a8, a9, a10⟩ := in_cells K2.out.fst
    obtain ⟨b0, b1, b2, b3, b4, b5, b6, b7, b8, b9, b10⟩ := in_cells K2.out.snd
    go_upto_region 7 with (fail)
    have g0 := fun d os => cell_regrown a0 d os
    have e0 := fun d os => cell_regrown b0 d os
    have g1 := fun d os => cell_regrown a1 d os
    have e1 := fun d os => cell_regrown b1 d os
    have g2 := fun d os => cell_regrown a2 d os
    have e2 := fun d os => cell_regrown b2 d os
    have g3 := fun d os => cell_regrown a3 d os
    have e3 := fun d os => cell_regrown b3 d os
    have g4 := fun d os => cell_regrown a4 d os
    have e4 := fun d os => cell_regrown b4 d os
    have g5 := fun d os => cell_regrown a5 d os
    have e5 := fun d os => cell_regrown b5 d os
    have g6 := fun d os => cell_regrown a6 d os
    have e6 := fun d os => cell_regrown b6 d os
    have g7 := fun d os => cell_regrown a7 d os
    have e7 := fun d os => cell_regrown b7 d os
    have g8 := fun d os => cell_regrown a8 d os
    have e8 := fun d os => cell_regrown b8 d os
    have g9 := fun d os => cell_regrown a9 d os
    have e9 := fun d os => cell_regrown b9 d os
    have g10 := fun d os => cell_regrown a10 d os
    have e10 := fun d os => cell_regrown b10 d os
    refine wp_region_quiet_below (by kernel_rfl) (by kernel_rfl) ?_
    repeat (go_big_quiet_step ((first
      | (go_at_call 12; with_reducible exact (D3.out u2 (hN.made K2.out.made)).again _ _)
      | (go_at_call 12; with_reducible exact (D4.out u2 (hN.made K2.out.made)).again _ _)
      | (go_at_call 15; exact (D5.out u2 (hN.made K2.out.made)).again _ _))))
    refine wpQuiet_nil ?_
    intro u3 hw9
    have K3 := Lib.hid (K2.out.next (made_regrown hw9))
    go_wp2
    go_ret
    exact ⟨by simp, K3.out.made⟩
end
end extMoves
end Go.Proofs.YteghoocjhhahbaaDoor
