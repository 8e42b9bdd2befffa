/- What read of package sub returns, for every row of the table's make and every word. -/
import Derived.Test.YtckekkedjlkljaaDoorSubFns
namespace Go.Proofs.YtckekkedjlkljaaDoor
open Go.ChangeShapes Go.WideShapes Go.ChangeAt Go.RowKit Go.Sort BigFrame

def opIn (op : Int) : In := ⟨op, 0, 0, 0, 0, 0, 0, false, false, 0, 0⟩
def rAt (r : SRow) (w : Int) : Nat → Int × In
  | 0 => (11, (opIn r.op))
  | 1 => rStep w (11, (opIn r.op)) r.m1
  | _ => rRegs r w
abbrev set11b (w : World) (b : Nat) (v0 v1 v2 v3 v4 v5 v6 v7 v8 v9 v10 : Value) : World :=
  ((((((((((w.setCell ⟨b, 0, none⟩ v0).setCell ⟨b, 1, none⟩ v1).setCell ⟨b, 2, none⟩ v2).setCell ⟨b, 3, none⟩ v3).setCell ⟨b, 4, none⟩ v4).setCell ⟨b, 5, none⟩ v5).setCell ⟨b, 6, none⟩ v6).setCell ⟨b, 7, none⟩ v7).setCell ⟨b, 8, none⟩ v8).setCell ⟨b, 9, none⟩ v9).setCell ⟨b, 10, none⟩ v10
theorem made_set11b {W w : World} {b : Nat} (h : Made W w) (hb : W.heap.size ≤ b) (v0 v1 v2 v3 v4 v5 v6 v7 v8 v9 v10 : Value) : Made W (set11b w b v0 v1 v2 v3 v4 v5 v6 v7 v8 v9 v10) :=
  ((((((((((h.setCell hb v0).setCell hb v1).setCell hb v2).setCell hb v3).setCell hb v4).setCell hb v5).setCell hb v6).setCell hb v7).setCell hb v8).setCell hb v9).setCell hb v10
/-- The row, and the instruction that is read so far. -/
structure Reads7 (W : World) (b : Nat) (r : SRow) (y : In) (w : World) : Prop where
  made : Made W w
  row : SRowAt w b r
  in_ : InAt w (b + 1) y
theorem Reads7.next {W w w' : World} {b : Nat} {r : SRow} {x : In} (h : Reads7 W b r x w) (hm : Made w w') : Reads7 W b r x w' := ⟨Made.trans h.made hm, Made.heap hm h.row, Made.heap hm h.in_⟩
theorem reads7_of {W w : World} (hm : Made W w) (r : SRow) : Reads7 W w.heap.size r (opIn r.op) ((w.alloc (.cells r.cells.toArray 54)).alloc (.cells (opIn r.op).cells.toArray 24)) := by
  have hr : SRowAt (w.alloc (.cells r.cells.toArray 54)) w.heap.size r := heap_alloc_new w _
  exact ⟨(hm.alloc hm.size _).alloc (hm.alloc hm.size _).size _, (Below.heap_alloc _ _ _ (heap_lt hr)).trans hr, heap_at (by simp)⟩
theorem wideZ_u8 (v : Int) (h0 : 0 ≤ v) (h1 : v < 16) : 0 ≤ wideZ v ∧ wideZ v < 256 := by
  unfold wideZ; split <;> omega
theorem get4 (v : Int) (a : Int) (h : a = 7 ∨ a = 3) : 0 ≤ getZ v a 4 ∧ getZ v a 4 < 16 := by
  rcases h with rfl | rfl
  · rw [g7]; omega
  · rw [g3]; omega
theorem sextZ_bound (v n : Int) : -4294967296 ≤ sextZ v n ∧ sextZ v n < 4294967296 := by
  unfold sextZ
  by_cases h : 1 ≤ n ∧ n ≤ 32
  · rw [if_pos h]
    have h1 := pow_le_of n.toNat (by omega)
    have h2 := Int.emod_nonneg v (show (2 : Int) ^ n.toNat ≠ 0 by omega)
    have h3 := Int.emod_lt_of_pos v (show (0 : Int) < 2 ^ n.toNat by omega)
    split <;> omega
  · rw [if_neg h]; omega
section
attribute [local irreducible] World.cell?
set_option maxRecDepth 100000 in
set_option maxHeartbeats 4000000 in
theorem read_any (W : World) (r : SRow) (hr : r.ok) (wd : Int) (hw : isU32 wd) : Makes Tryd.prog W 35 #[r.val, .int .u32 wd] (.tuple #[(readZ r wd).1.val, .int .i64 (readZ r wd).2]) := by
  intro w hm
  have HK := Lib.hid (reads7_of hm r)
  have hzz := hm.size
  have i0 : ∀ w, (Instr.index 52 (.agg #[.int .u8 r.m1, .int .u8 r.m2]) (.int .i64 0)).run Tryd.prog w = .ok (.int .u8 r.m1) w := fun _ => by kernel_rfl
  have i1 : ∀ w, (Instr.index 52 (.agg #[.int .u8 r.m1, .int .u8 r.m2]) (.int .i64 1)).run Tryd.prog w = .ok (.int .u8 r.m2) w := fun _ => by kernel_rfl
  obtain ⟨-, -, hm1, hm2, ⟨n0, n1⟩, hsc⟩ := hr
  obtain ⟨R, hR⟩ : ∃ R, R = readZ r wd := ⟨_, rfl⟩
  have hW : R = ({ (rAt r wd 2).2 with imm := (if r.sg then sextZ (getZ wd ((rAt r wd 2).1 - r.n) r.n) r.n else getZ wd ((rAt r wd 2).1 - r.n) r.n) * 2 ^ r.scale.toNat }, (rAt r wd 2).1 - r.n) := hR
  rewrite [← hR]
  have HW := Lib.hid hW
  have hA0 : rAt r wd 0 = (11, (opIn r.op)) := rfl
  have hA1 : rAt r wd 1 = rStep wd (rAt r wd 0) r.m1 := rfl
  have hA2 : rAt r wd 2 = rStep wd (rAt r wd 1) r.m2 := rfl
  have A1 := Lib.hid hA1
  have A2 := Lib.hid hA2
  have A0 := Lib.hid hA0
  clear hm hW hA1 hA2 hA0 hR
  generalize rAt r wd = at_ at *
  go_enter Tryd.func35, Tryd.ntmps35
  go_upto_region 2 with (fail)
  refine name_world (fun v => Reads7 W w.heap.size r (opIn r.op) v) HK.out ?_
  intro v hv
  have KV := Lib.hid hv
  obtain ⟨q0, q1, q2, q3, q4, q5, q6⟩ := srow_cells hv.row
  have hl0 := heap_lt hv.row
  clear hv
  go_wp2_with (fail)
  go_loopw [5, 15] (fun lz i wr => ∃ (k : Nat) (p : Int) (y : In), k ≤ 2 ∧ i = .int .i64 k ∧ lz = .int .i64 p ∧ at_ k = (p, y) ∧ 11 - 4 * (k : Int) ≤ p ∧ (p = 11 ∨ p = 7 ∨ (p = 3 ∧ k = 2)) ∧ Reads7 W w.heap.size r y wr) (fun _ i _ => 2 - (intOf i).toNat)
  case atStart => exact ⟨0, 11, _, by omega, rfl, rfl, A0.out, by decide, .inl rfl, KV.out⟩
  case round =>
    obtain ⟨k, p, y, hk, rfl, rfl, hat, hlo, hpc, hwr⟩ := hrel
    have KR := Lib.hid hwr
    have hk' : k = 0 ∨ k = 1 ∨ k = 2 := by omega
    clear hk q0 q1 q2 q3 q4 q5 q6 hl0
    obtain ⟨q0, q1, q2, q3, q4, q5, q6⟩ := srow_cells hwr.row
    have hlr := heap_lt hwr.row
    have hli := heap_lt hwr.in_
    have hbn : ¬ (w.heap.size + 1 = w.heap.size) := by omega
    clear hwr
    rcases hk' with rfl | rfl | rfl
    · have hp4 : p - 4 = 7 ∨ p - 4 = 3 := by omega
      have hnx : at_ 1 = rStep wd (p, y) r.m1 := by rw [A1.out, hat]
      by_cases h0 : r.m1 = 0
      · have e1 : at_ 1 = (p, y) := by rw [hnx]; exact if_pos h0
        have E1 := Lib.hid e1
        have hn : (r.m1 != 0) = false := by simpa using h0
        have HPC := Lib.hid hpc
        clear hnx h0 hat e1 hp4 hpc
        go_wp2
        go_roundw
        case rel => exact ⟨1, _, _, by omega, rfl, rfl, E1.out, by omega, by have := HPC.out; omega, KR.out⟩
        case measure => simp [intOf]
      · have e1 : at_ 1 = (p - 4, setR y r.m1 (wideZ (getZ wd (p - 4) 4))) := by rw [hnx]; exact if_neg h0
        have E1 := Lib.hid e1
        have hn : (r.m1 != 0) = true := by simpa using h0
        have hgb := get4 wd (p - 4) hp4
        have hp11 : p ≤ 11 := by omega
        have HP4 := Lib.hid hp4
        have HPC := Lib.hid hpc
        clear hnx h0 hat e1 hp4 hpc
        have hget := Lib.hid (get_any wd (p - 4) 4 hw ⟨by decide, by decide⟩)
        generalize getZ wd (p - 4) 4 = g at *
        have hwi := Lib.hid (widen_any g hgb.1 hgb.2)
        generalize wideZ g = wg at *
        go_wp2_with (fail)
        refine (hget.out _).mono ?_
        rintro e z ⟨rfl, nd, hz⟩
        have KZ := Lib.hid (KR.out.next (hz ▸ below_drewN (Made.refl wr) nd))
        clear hz
        go_wp2_with (fail)
        refine (hwi.out _).mono ?_
        rintro e z1 ⟨rfl, rfl⟩
        go_wp2_with (fail)
        refine (setRegister_any _ (w.heap.size + 1) y r.m1 wg KZ.out.in_ hm1).mono ?_
        rintro e z2 ⟨rfl, hz2⟩
        have hT := hz2 ▸ setSub_took r.m1 wg KZ.out.in_ hm1
        have K2 := Lib.hid (show Reads7 W w.heap.size r (setR y r.m1 wg) z2 from ⟨hT.made W (by omega) KZ.out.made, (hT.far _ (by omega)).trans KZ.out.row, hT.at_⟩)
        clear hz2 hT
        go_wp2
        go_roundw
        case rel => exact ⟨1, _, _, by omega, rfl, rfl, E1.out, by omega, by have := HPC.out; omega, K2.out⟩
        case measure => simp [intOf]
    · have hp4 : p - 4 = 7 ∨ p - 4 = 3 := by omega
      have hnx : at_ 2 = rStep wd (p, y) r.m2 := by rw [A2.out, hat]
      by_cases h0 : r.m2 = 0
      · have e1 : at_ 2 = (p, y) := by rw [hnx]; exact if_pos h0
        have E1 := Lib.hid e1
        have hn : (r.m2 != 0) = false := by simpa using h0
        have HPC := Lib.hid hpc
        clear hnx h0 hat e1 hp4 hpc
        go_wp2
        go_roundw
        case rel => exact ⟨2, _, _, by omega, rfl, rfl, E1.out, by omega, by have := HPC.out; omega, KR.out⟩
        case measure => simp [intOf]
      · have e1 : at_ 2 = (p - 4, setR y r.m2 (wideZ (getZ wd (p - 4) 4))) := by rw [hnx]; exact if_neg h0
        have E1 := Lib.hid e1
        have hn : (r.m2 != 0) = true := by simpa using h0
        have hgb := get4 wd (p - 4) hp4
        have hp11 : p ≤ 11 := by omega
        have HP4 := Lib.hid hp4
        have HPC := Lib.hid hpc
        clear hnx h0 hat e1 hp4 hpc
        have hget := Lib.hid (get_any wd (p - 4) 4 hw ⟨by decide, by decide⟩)
        generalize getZ wd (p - 4) 4 = g at *
        have hwi := Lib.hid (widen_any g hgb.1 hgb.2)
        generalize wideZ g = wg at *
        go_wp2_with (fail)
        refine (hget.out _).mono ?_
        rintro e z ⟨rfl, nd, hz⟩
        have KZ := Lib.hid (KR.out.next (hz ▸ below_drewN (Made.refl wr) nd))
        clear hz
        go_wp2_with (fail)
        refine (hwi.out _).mono ?_
        rintro e z1 ⟨rfl, rfl⟩
        go_wp2_with (fail)
        refine (setRegister_any _ (w.heap.size + 1) y r.m2 wg KZ.out.in_ hm2).mono ?_
        rintro e z2 ⟨rfl, hz2⟩
        have hT := hz2 ▸ setSub_took r.m2 wg KZ.out.in_ hm2
        have K2 := Lib.hid (show Reads7 W w.heap.size r (setR y r.m2 wg) z2 from ⟨hT.made W (by omega) KZ.out.made, (hT.far _ (by omega)).trans KZ.out.row, hT.at_⟩)
        clear hz2 hT
        go_wp2
        go_roundw
        case rel => exact ⟨2, _, _, by omega, rfl, rfl, E1.out, by omega, by have := HPC.out; omega, K2.out⟩
        case measure => simp [intOf]
    · have e1 : R = ({ y with imm := (if r.sg then sextZ (getZ wd (p - r.n) r.n) r.n else getZ wd (p - r.n) r.n) * 2 ^ r.scale.toNat }, p - r.n) := by rw [HW.out, hat]
      have hget := Lib.hid (get_any wd (p - r.n) r.n hw ⟨by omega, by omega⟩)
      have hgu := getZ_u32 wd (p - r.n) r.n hw
      have hpl : 3 ≤ p := by omega
      have hph : p ≤ 11 := by omega
      have E1 := Lib.hid e1
      clear hat e1 hpc hlo
      generalize getZ wd (p - r.n) r.n = g at *
      have hsx := Lib.hid (sext_any g r.n hgu ⟨by omega, by omega⟩)
      have hsb := sextZ_bound g r.n
      generalize sextZ g r.n = sx at *
      obtain ⟨g0, g1⟩ := hgu
      obtain ⟨sx0, sx1⟩ := hsb
      rcases hsg : r.sg with _ | _
      all_goals rcases hsc with hsc | hsc
      · have e2 : R = ({ y with imm := g }, p - r.n) := by rw [E1.out, hsg, hsc, if_neg (by decide), show (2 : Int) ^ (0 : Int).toNat = 1 from rfl, Int.mul_one]
        have E2 := Lib.hid e2
        clear e2
        go_wp2_with (fail)
        refine (hget.out _).mono ?_
        rintro e z ⟨rfl, nd, hz⟩
        have KZ := Lib.hid (KR.out.next (hz ▸ below_drewN (Made.refl wr) nd))
        clear hz q0 q1 q2 q3 q4 q5 q6
        obtain ⟨q0, q1, q2, q3, q4, q5, q6⟩ := srow_cells KZ.out.row
        obtain ⟨a0, a1, a2, a3, a4, a5, a6, a7, a8, a9, a10⟩ := in_cells KZ.out.in_
        have fz := free_of_lit KZ.out.in_
        have hlz := heap_lt KZ.out.in_
        go_wp2
        obtain rfl := E2.out
        refine bodyPost_ret (v := .tuple #[In.val { y with imm := g }, .int .i64 (p - r.n)]) (by simp [results, Tryd.results35, go_sem, a0, a1, a2, a3, a4, a5, a6, a7, a8, a9, a10]) rfl ?_
        exact ⟨rfl, made_set11b (KZ.out.made.setCell (by show W.heap.size ≤ w.heap.size + 1; omega) _) (by omega) _ _ _ _ _ _ _ _ _ _ _⟩
      · have e2 : R = ({ y with imm := g * 4 }, p - r.n) := by rw [E1.out, hsg, hsc, if_neg (by decide), show (2 : Int) ^ (2 : Int).toNat = 4 from rfl]
        have E2 := Lib.hid e2
        clear e2
        go_wp2_with (fail)
        refine (hget.out _).mono ?_
        rintro e z ⟨rfl, nd, hz⟩
        have KZ := Lib.hid (KR.out.next (hz ▸ below_drewN (Made.refl wr) nd))
        clear hz q0 q1 q2 q3 q4 q5 q6
        obtain ⟨q0, q1, q2, q3, q4, q5, q6⟩ := srow_cells KZ.out.row
        obtain ⟨a0, a1, a2, a3, a4, a5, a6, a7, a8, a9, a10⟩ := in_cells KZ.out.in_
        have fz := free_of_lit KZ.out.in_
        have hlz := heap_lt KZ.out.in_
        go_wp2
        obtain rfl := E2.out
        refine bodyPost_ret (v := .tuple #[In.val { y with imm := g * 4 }, .int .i64 (p - r.n)]) (by simp [results, Tryd.results35, go_sem, a0, a1, a2, a3, a4, a5, a6, a7, a8, a9, a10]) rfl ?_
        exact ⟨rfl, made_set11b (KZ.out.made.setCell (by show W.heap.size ≤ w.heap.size + 1; omega) _) (by omega) _ _ _ _ _ _ _ _ _ _ _⟩
      · have e2 : R = ({ y with imm := sx }, p - r.n) := by rw [E1.out, hsg, hsc, if_pos rfl, show (2 : Int) ^ (0 : Int).toNat = 1 from rfl, Int.mul_one]
        have E2 := Lib.hid e2
        clear e2
        go_wp2_with (fail)
        refine (hget.out _).mono ?_
        rintro e z ⟨rfl, nd, hz⟩
        have KZ := Lib.hid (KR.out.next (hz ▸ below_drewN (Made.refl wr) nd))
        clear hz q0 q1 q2 q3 q4 q5 q6
        obtain ⟨q0, q1, q2, q3, q4, q5, q6⟩ := srow_cells KZ.out.row
        go_wp2_with (fail)
        refine (hsx.out _).mono ?_
        rintro e z1 ⟨rfl, nd1, hz1⟩
        have K1 := Lib.hid (KZ.out.next (hz1 ▸ below_drewN (Made.refl z) nd1))
        clear hz1 q0 q1 q2 q3 q4 q5 q6
        obtain ⟨q0, q1, q2, q3, q4, q5, q6⟩ := srow_cells K1.out.row
        obtain ⟨a0, a1, a2, a3, a4, a5, a6, a7, a8, a9, a10⟩ := in_cells K1.out.in_
        have fz := free_of_lit K1.out.in_
        have hlz := heap_lt K1.out.in_
        go_wp2
        obtain rfl := E2.out
        refine bodyPost_ret (v := .tuple #[In.val { y with imm := sx }, .int .i64 (p - r.n)]) (by simp [results, Tryd.results35, go_sem, a0, a1, a2, a3, a4, a5, a6, a7, a8, a9, a10]) rfl ?_
        exact ⟨rfl, made_set11b (K1.out.made.setCell (by show W.heap.size ≤ w.heap.size + 1; omega) _) (by omega) _ _ _ _ _ _ _ _ _ _ _⟩
      · have e2 : R = ({ y with imm := sx * 4 }, p - r.n) := by rw [E1.out, hsg, hsc, if_pos rfl, show (2 : Int) ^ (2 : Int).toNat = 4 from rfl]
        have E2 := Lib.hid e2
        clear e2
        go_wp2_with (fail)
        refine (hget.out _).mono ?_
        rintro e z ⟨rfl, nd, hz⟩
        have KZ := Lib.hid (KR.out.next (hz ▸ below_drewN (Made.refl wr) nd))
        clear hz q0 q1 q2 q3 q4 q5 q6
        obtain ⟨q0, q1, q2, q3, q4, q5, q6⟩ := srow_cells KZ.out.row
        go_wp2_with (fail)
        refine (hsx.out _).mono ?_
        rintro e z1 ⟨rfl, nd1, hz1⟩
        have K1 := Lib.hid (KZ.out.next (hz1 ▸ below_drewN (Made.refl z) nd1))
        clear hz1 q0 q1 q2 q3 q4 q5 q6
        obtain ⟨q0, q1, q2, q3, q4, q5, q6⟩ := srow_cells K1.out.row
        obtain ⟨a0, a1, a2, a3, a4, a5, a6, a7, a8, a9, a10⟩ := in_cells K1.out.in_
        have fz := free_of_lit K1.out.in_
        have hlz := heap_lt K1.out.in_
        go_wp2
        obtain rfl := E2.out
        refine bodyPost_ret (v := .tuple #[In.val { y with imm := sx * 4 }, .int .i64 (p - r.n)]) (by simp [results, Tryd.results35, go_sem, a0, a1, a2, a3, a4, a5, a6, a7, a8, a9, a10]) rfl ?_
        exact ⟨rfl, made_set11b (K1.out.made.setCell (by show W.heap.size ≤ w.heap.size + 1; omega) _) (by omega) _ _ _ _ _ _ _ _ _ _ _⟩
end
end Go.Proofs.YtckekkedjlkljaaDoor
