/- What Extendable, Value, Fits, Needs of package ext return, for every instruction and address, in every world that has grown out of one that holds the table of names. -/
import Derived.Test.YtjeemiabddblhaaDoorExtVal
namespace Go.Proofs.YtjeemiabddblhaaDoor
open Go.ChangeShapes Go.WideShapes Go.ChangeAt Go.RowKit Go.Sort BigFrame

theorem Quiet.makes {P : Program} {f : FuncId} {args : Array Value} {v : Value} (h : Quiet P f args v) (W : World) : Makes P W f args v :=
  fun w hg => (h w).mono fun _ _ ⟨he, k, hk⟩ => ⟨he, hk ▸ below_drewN hg k⟩
section
attribute [local irreducible] World.cell?
theorem valueIn_any (W : World) (f : Fd) (x : In) (pc : Int) : Makes Tryd.prog W 57 #[.agg #[.int .u8 f.kind, .int .i64 f.bits, .int .i64 f.shift, .bool f.sg, .bool f.ext], x.val, .int .u32 pc] (.int .i64 (valZ f x pc)) := by
  intro w hm
  have hz := hm.size
  have M := Lib.hid ((hm.alloc hz (.cells f.cells.toArray 45)).alloc (hm.alloc hz (.cells f.cells.toArray 45)).size (.cells x.cells.toArray 24))
  have hu : isU32 ((x.imm - pc) % 4294967296) := ⟨by omega, by omega⟩
  have hs := extSigned_any _ hu
  rw [s32_mod] at hs
  by_cases hk : f.kind = 10
  · have hv : valZ f x pc = s32 (x.imm - pc) := if_pos hk
    rewrite [hv]
    have hkb : (f.kind == 10) = true := beq_iff_eq.2 hk
    clear hk hv
    go_enter Tryd.func57, Tryd.ntmps57
    go_wp2_with (fail)
    refine (hs _).mono ?_
    rintro e w1 ⟨rfl, k, rfl⟩
    go_wp2
    go_ret
    exact ⟨rfl, below_drewN M.out k⟩
  · have hv : valZ f x pc = x.imm := if_neg hk
    rewrite [hv]
    have hkb : (f.kind == 10) = false := beq_eq_false_iff_ne.2 hk
    clear hk hv
    go_enter Tryd.func57, Tryd.ntmps57
    go_wp2_with (fail)
    go_ret
    exact ⟨rfl, M.out⟩
structure FdIn (W : World) (B : Nat) (f : Fd) (x : In) (u : World) : Prop where
  made : Made W u
  fd : u.heap[B]? = some (.cells f.cells.toArray 45 (0, 0))
  in_ : InAt u (B + 1) x
theorem fitsIn_any (W : World) (f : Fd) (x : In) (pc : Int) (hx : x.small) : Makes Tryd.prog W 38 #[.agg #[.int .u8 f.kind, .int .i64 f.bits, .int .i64 f.shift, .bool f.sg, .bool f.ext], x.val, .int .u32 pc] (.bool (fitZ f x pc)) := by
  intro w hm
  have hz := hm.size
  have hv := valZ_bounds f x pc hx
  have hfit := fits_any (valZ f x pc) f.bits f.shift f.sg hv
  have M := Lib.hid ((hm.alloc hz (.cells f.cells.toArray 45)).alloc (hm.alloc hz (.cells f.cells.toArray 45)).size (.cells x.cells.toArray 24))
  go_enter Tryd.func38, Tryd.ntmps38
  go_upto_region 1 with (fail)
  refine name_world (fun u => FdIn W w.heap.size f x u) ⟨M.out, (heap_alloc_old _ _ (heap_lt (heap_alloc_new w _))).trans (heap_alloc_new w _), heap_at (by simp)⟩ ?_
  intro u K
  clear M
  have HK := Lib.hid K
  obtain ⟨b0, b1, b2, b3, b4⟩ := row_cells K.fd
  obtain ⟨a0, a1, a2, a3, a4, a5, a6, a7, a8, a9, a10⟩ := in_cells K.in_
  clear K
  have g0 := fun d os => cell_regrown a0 d os
  have g1 := fun d os => cell_regrown a1 d os
  have g2 := fun d os => cell_regrown a2 d os
  have g3 := fun d os => cell_regrown a3 d os
  have g4 := fun d os => cell_regrown a4 d os
  have g5 := fun d os => cell_regrown a5 d os
  have g6 := fun d os => cell_regrown a6 d os
  have g7 := fun d os => cell_regrown a7 d os
  have g8 := fun d os => cell_regrown a8 d os
  have g9 := fun d os => cell_regrown a9 d os
  have g10 := fun d os => cell_regrown a10 d os
  have e0 := fun d os => cell_regrown b0 d os
  have e1 := fun d os => cell_regrown b1 d os
  have e2 := fun d os => cell_regrown b2 d os
  have e3 := fun d os => cell_regrown b3 d os
  have e4 := fun d os => cell_regrown b4 d os
  refine wp_region_quiet_below (by kernel_rfl) (by kernel_rfl) ?_
  repeat (go_big_quiet_step ((first
    | (go_at_call 57; exact (valueIn_any u f x pc).again _ _)
    | (go_at_call 56; exact (hfit.makes u).again _ _))))
  refine wpQuiet_nil ?_
  intro u1 hw9
  have hm9 := Lib.hid (Made.trans HK.out.made (made_regrown hw9))
  go_wp2
  go_ret
  exact ⟨rfl, hm9.out⟩
theorem value_any (W : World) (hN : Names W) (x : In) (hx : x.small) (pc : Int) : Makes Tryd.prog W 42 #[x.val, .int .u32 pc] (.tuple #[.int .i64 (valueP x pc), .bool (vB x.op)]) := by
  intro w hm
  have hz := hm.size
  have hop0 := hx.op0
  have HX := Lib.hid hx
  obtain ⟨f, b, hf, hb⟩ : ∃ f b, vF x.op = f ∧ vB x.op = b := ⟨_, _, rfl, rfl⟩
  have hcall := valueField_any _ (hN.made (hm.alloc hz (.cells x.cells.toArray 24))) x.op hop0
  have hv : valueP x pc = if b then valZ f x pc else 0 := by unfold valueP; rw [hf, hb]
  rewrite [hv, hb]
  rewrite [hf, hb] at hcall
  have M0 := Lib.hid (hm.alloc hz (.cells x.cells.toArray 24))
  have I0 := Lib.hid (show InAt _ _ _ from heap_alloc_new w (.cells x.cells.toArray 24))
  clear hf hb hv hx
  go_enter Tryd.func42, Tryd.ntmps42
  go_wp2_with (fail)
  refine (hcall _ (Made.refl _)).mono ?_
  rintro e w1 ⟨rfl, h1⟩
  have M1 := Lib.hid (Made.trans M0.out h1)
  have hi1 := h1.heap I0.out
  have hz1 := M1.out.size
  obtain ⟨a0, a1, a2, a3, a4, a5, a6, a7, a8, a9, a10⟩ := in_cells hi1
  have hlt := heap_lt hi1
  have Z1 := Lib.hid hz1
  clear h1 hi1 hz1 hcall
  cases b
  · go_wp2_with (fail)
    refine bodyPost_ret (v := .tuple #[.int .i64 0, .bool false]) (by simp [results, Tryd.results42, go_sem]) rfl ?_
    exact ⟨rfl, M1.out.alloc Z1.out _⟩
  · go_wp2_with (fail)
    refine (valueIn_any _ f x pc _ (Made.refl _)).mono ?_
    rintro e w2 ⟨rfl, h2⟩
    have M2 := Lib.hid (Made.trans (M1.out.alloc Z1.out _) h2)
    clear h2
    go_wp2
    refine bodyPost_ret (v := .tuple #[.int .i64 (valZ f x pc), .bool true]) (by simp [results, Tryd.results42, go_sem]) rfl ?_
    exact ⟨rfl, M2.out⟩
theorem extFits_any (W : World) (hN : Names W) (x : In) (hx : x.small) (pc : Int) : Makes Tryd.prog W 14 #[x.val, .int .u32 pc] (.bool (fitP x pc)) := by
  intro w hm
  have hz := hm.size
  have hop0 := hx.op0
  have HX := Lib.hid hx
  obtain ⟨f, b, hf, hb⟩ : ∃ f b, vF x.op = f ∧ vB x.op = b := ⟨_, _, rfl, rfl⟩
  have hcall := valueField_any _ (hN.made (hm.alloc hz (.cells x.cells.toArray 24))) x.op hop0
  have hv : fitP x pc = (!b || fitZ f x pc) := by unfold fitP; rw [hf, hb]
  rewrite [hv]
  rewrite [hf, hb] at hcall
  have M0 := Lib.hid (hm.alloc hz (.cells x.cells.toArray 24))
  have I0 := Lib.hid (show InAt _ _ _ from heap_alloc_new w (.cells x.cells.toArray 24))
  clear hf hb hv hx
  go_enter Tryd.func14, Tryd.ntmps14
  go_wp2_with (fail)
  refine (hcall _ (Made.refl _)).mono ?_
  rintro e w1 ⟨rfl, h1⟩
  have M1 := Lib.hid (Made.trans M0.out h1)
  have hi1 := h1.heap I0.out
  have hz1 := M1.out.size
  obtain ⟨a0, a1, a2, a3, a4, a5, a6, a7, a8, a9, a10⟩ := in_cells hi1
  have hlt := heap_lt hi1
  have Z1 := Lib.hid hz1
  clear h1 hi1 hz1 hcall
  cases b
  · go_wp2_with (fail)
    go_ret
    exact ⟨rfl, M1.out.alloc Z1.out _⟩
  · go_wp2_with (fail)
    refine (fitsIn_any _ f x pc HX.out _ (Made.refl _)).mono ?_
    rintro e w2 ⟨rfl, h2⟩
    have M2 := Lib.hid (Made.trans (M1.out.alloc Z1.out _) h2)
    clear h2
    go_wp2
    go_ret
    exact ⟨rfl, M2.out⟩
end
end Go.Proofs.YtjeemiabddblhaaDoor
