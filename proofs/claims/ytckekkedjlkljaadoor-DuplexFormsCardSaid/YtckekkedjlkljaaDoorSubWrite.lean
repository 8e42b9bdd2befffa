/- What write of package sub returns, for every row of the table's make and every instruction. -/
import Derived.Test.YtckekkedjlkljaaDoorSubFns
namespace Go.Proofs.YtckekkedjlkljaaDoor
open Go.ChangeShapes Go.WideShapes Go.ChangeAt Go.RowKit Go.Sort BigFrame

/-- A row and an instruction in memory. -/
structure Both (W : World) (b : Nat) (r : SRow) (x : In) (w : World) : Prop where
  made : Made W w
  row : SRowAt w b r
  in_ : InAt w (b + 1) x
theorem Both.next {W w w' : World} {b : Nat} {r : SRow} {x : In} (h : Both W b r x w) (hm : Made w w') : Both W b r x w' := ⟨Made.trans h.made hm, Made.heap hm h.row, Made.heap hm h.in_⟩
theorem both_of {W w : World} (hm : Made W w) (r : SRow) (x : In) : Both W w.heap.size r x ((w.alloc (.cells r.cells.toArray 54)).alloc (.cells x.cells.toArray 24)) := by
  have h1 := (Made.refl w).alloc (Nat.le_refl _) (.cells r.cells.toArray 54)
  have hr : SRowAt (w.alloc (.cells r.cells.toArray 54)) w.heap.size r := heap_alloc_new w _
  exact ⟨(hm.alloc hm.size _).alloc (hm.alloc hm.size _).size _, (Below.heap_alloc _ _ _ (heap_lt hr)).trans hr, heap_at (by simp)⟩
def wAt (r : SRow) (x : In) : Nat → Int × Int
  | 0 => (11, putZ 0 11 5 r.code)
  | 1 => wStep x (11, putZ 0 11 5 r.code) r.m1
  | _ => wRegs r x
theorem regZ_u8 {x : In} (h : x.small) (m : Int) : 0 ≤ regZ x m ∧ regZ x m < 256 := by
  have h1 := h.s0; have h2 := h.s1; have h3 := h.t0; have h4 := h.t1; have h5 := h.d0; have h6 := h.d1
  unfold regZ
  split
  · omega
  · split <;> omega
theorem smallZ_u32 (v : Int) (h0 : 0 ≤ v) : isU32 (smallZ v) := by
  unfold smallZ isU32
  split <;> omega
theorem step_u32 (x : In) (p1 p2 m : Int) (h : isU32 p2) (hx : x.small) : isU32 (wStep x (p1, p2) m).2 := by
  unfold wStep
  split
  · exact h
  · exact putZ_u32 _ _ _ _ h (smallZ_u32 _ (regZ_u8 hx m).1)
section
attribute [local irreducible] World.cell?
set_option maxRecDepth 100000 in
set_option maxHeartbeats 4000000 in
theorem write_any (W : World) (r : SRow) (hr : r.ok) (x : In) (hx : x.small) : Makes Tryd.prog W 27 #[r.val, x.val] (.int .u16 (writeZ r x)) := by
  intro w hm
  have HX := Lib.hid hx
  have HK := Lib.hid (both_of hm r x)
  have hi0 := hx.imm0
  have hi1 := hx.imm1
  have i0 : ∀ w, (Instr.index 52 (.agg #[.int .u8 r.m1, .int .u8 r.m2]) (.int .i64 0)).run Tryd.prog w = .ok (.int .u8 r.m1) w := fun _ => by kernel_rfl
  have i1 : ∀ w, (Instr.index 52 (.agg #[.int .u8 r.m1, .int .u8 r.m2]) (.int .i64 1)).run Tryd.prog w = .ok (.int .u8 r.m2) w := fun _ => by kernel_rfl
  obtain ⟨⟨c0, c1⟩, -, hm1, hm2, ⟨n0, n1⟩, hsc⟩ := hr
  have hput0 := Lib.hid (put_any 0 11 5 r.code ⟨by decide, by decide⟩ ⟨c0, by omega⟩ ⟨by decide, by decide⟩)
  have hu0 := putZ_u32 0 11 5 r.code ⟨by decide, by decide⟩ ⟨c0, by omega⟩
  have hW : writeZ r x = putZ (wAt r x 2).2 ((wAt r x 2).1 - r.n) r.n (x.imm / 2 ^ r.scale.toNat % 4294967296) % 65536 := rfl
  have HW := Lib.hid hW
  have hA0 : wAt r x 0 = (11, putZ 0 11 5 r.code) := rfl
  have hA1 : wAt r x 1 = wStep x (wAt r x 0) r.m1 := rfl
  have hA2 : wAt r x 2 = wStep x (wAt r x 1) r.m2 := rfl
  have A1 := Lib.hid hA1
  have A2 := Lib.hid hA2
  have A0 := Lib.hid hA0
  clear hx hm hW hA1 hA2 hA0
  generalize wAt r x = at_ at *
  go_enter Tryd.func27, Tryd.ntmps27
  go_upto_region 1 with (fail)
  refine name_world (fun v => Both W w.heap.size r x v) HK.out ?_
  intro v hv
  have KV := Lib.hid hv
  obtain ⟨q0, q1, q2, q3, q4, q5, q6⟩ := srow_cells hv.row
  have hl0 := heap_lt hv.row
  clear hv
  go_wp2_with (fail)
  refine (hput0.out _).mono ?_
  rintro e z ⟨rfl, rfl⟩
  go_wp2_with (fail)
  go_loopw [5, 6, 16] (fun lz wz i wr => ∃ (k : Nat) (p1 p2 : Int), k ≤ 2 ∧ i = .int .i64 k ∧ lz = .int .i64 p1 ∧ wz = .int .u32 p2 ∧ at_ k = (p1, p2) ∧ 11 - 4 * (k : Int) ≤ p1 ∧ p1 ≤ 11 ∧ isU32 p2 ∧ Made v wr) (fun _ _ i _ => 2 - (intOf i).toNat)
  case atStart => exact ⟨0, 11, _, by omega, rfl, rfl, rfl, A0.out, by decide, by decide, hu0, Made.refl v⟩
  case round =>
    obtain ⟨k, p1, p2, hk, rfl, rfl, rfl, hat, hlo, hhi, hu, hwr⟩ := hrel
    have MW := Lib.hid hwr
    have hk' : k = 0 ∨ k = 1 ∨ k = 2 := by omega
    clear hk hwr q0 q1 q2 q3 q4 q5 q6
    have KR := Lib.hid (KV.out.next MW.out)
    obtain ⟨q0, q1, q2, q3, q4, q5, q6⟩ := srow_cells KR.out.row
    obtain ⟨a0, a1, a2, a3, a4, a5, a6, a7, a8, a9, a10⟩ := in_cells KR.out.in_
    have hlr := heap_lt KR.out.row
    have hli := heap_lt KR.out.in_
    rcases hk' with rfl | rfl | rfl
    · have hg := Lib.hid (register_any wr x r.m1)
      have hrg := regZ_u8 HX.out r.m1
      have hst := step_u32 x p1 p2 r.m1 hu HX.out
      have hnx : at_ 1 = wStep x (p1, p2) r.m1 := by rw [A1.out, hat]
      by_cases h0 : r.m1 = 0
      · have e1 : at_ 1 = (p1, p2) := by rw [hnx]; exact if_pos h0
        have E1 := Lib.hid e1
        have hn : (r.m1 != 0) = false := by simpa using h0
        clear hnx hst h0 hat e1
        go_wp2
        go_roundw
        case rel => exact ⟨1, _, _, by omega, rfl, rfl, rfl, E1.out, by omega, hhi, hu, MW.out⟩
        case measure => simp [intOf]
      · have e1 : at_ 1 = (p1 - 4, putZ p2 (p1 - 4) 4 (smallZ (regZ x r.m1))) := by rw [hnx]; exact if_neg h0
        have E1 := Lib.hid e1
        have e2 : isU32 (putZ p2 (p1 - 4) 4 (smallZ (regZ x r.m1))) := by
          have := hst
          unfold wStep at this
          rwa [if_neg h0] at this
        have E2 := Lib.hid e2
        have hn : (r.m1 != 0) = true := by simpa using h0
        clear hnx hst h0 hat e1 e2
        generalize regZ x r.m1 = g at *
        have hsm := Lib.hid (toSmall_any g hrg.1 hrg.2)
        have hput := Lib.hid (put_any p2 (p1 - 4) 4 (smallZ g) hu (smallZ_u32 g hrg.1) ⟨by decide, by decide⟩)
        generalize smallZ g = sg at *
        go_wp2_with (fail)
        refine (hg.out _ (Made.refl _)).mono ?_
        rintro e z ⟨rfl, hz⟩
        have MZ := Lib.hid (Made.trans MW.out hz)
        clear hz
        go_wp2_with (fail)
        refine (hsm.out _).mono ?_
        rintro e z1 ⟨rfl, rfl⟩
        go_wp2_with (fail)
        refine (hput.out _).mono ?_
        rintro e z2 ⟨rfl, rfl⟩
        go_wp2
        go_roundw
        case rel => exact ⟨1, _, _, by omega, rfl, rfl, rfl, E1.out, by omega, by omega, E2.out, MZ.out⟩
        case measure => simp [intOf]
    · have hg := Lib.hid (register_any wr x r.m2)
      have hrg := regZ_u8 HX.out r.m2
      have hst := step_u32 x p1 p2 r.m2 hu HX.out
      have hnx : at_ 2 = wStep x (p1, p2) r.m2 := by rw [A2.out, hat]
      by_cases h0 : r.m2 = 0
      · have e1 : at_ 2 = (p1, p2) := by rw [hnx]; exact if_pos h0
        have E1 := Lib.hid e1
        have hn : (r.m2 != 0) = false := by simpa using h0
        clear hnx hst h0 hat e1
        go_wp2
        go_roundw
        case rel => exact ⟨2, _, _, by omega, rfl, rfl, rfl, E1.out, by omega, hhi, hu, MW.out⟩
        case measure => simp [intOf]
      · have e1 : at_ 2 = (p1 - 4, putZ p2 (p1 - 4) 4 (smallZ (regZ x r.m2))) := by rw [hnx]; exact if_neg h0
        have E1 := Lib.hid e1
        have e2 : isU32 (putZ p2 (p1 - 4) 4 (smallZ (regZ x r.m2))) := by
          have := hst
          unfold wStep at this
          rwa [if_neg h0] at this
        have E2 := Lib.hid e2
        have hn : (r.m2 != 0) = true := by simpa using h0
        clear hnx hst h0 hat e1 e2
        generalize regZ x r.m2 = g at *
        have hsm := Lib.hid (toSmall_any g hrg.1 hrg.2)
        have hput := Lib.hid (put_any p2 (p1 - 4) 4 (smallZ g) hu (smallZ_u32 g hrg.1) ⟨by decide, by decide⟩)
        generalize smallZ g = sg at *
        go_wp2_with (fail)
        refine (hg.out _ (Made.refl _)).mono ?_
        rintro e z ⟨rfl, hz⟩
        have MZ := Lib.hid (Made.trans MW.out hz)
        clear hz
        go_wp2_with (fail)
        refine (hsm.out _).mono ?_
        rintro e z1 ⟨rfl, rfl⟩
        go_wp2_with (fail)
        refine (hput.out _).mono ?_
        rintro e z2 ⟨rfl, rfl⟩
        go_wp2
        go_roundw
        case rel => exact ⟨2, _, _, by omega, rfl, rfl, rfl, E1.out, by omega, by omega, E2.out, MZ.out⟩
        case measure => simp [intOf]
    · have e1 : writeZ r x = putZ p2 (p1 - r.n) r.n (x.imm / 2 ^ r.scale.toNat % 4294967296) % 65536 := by rw [HW.out, hat]
      have E1 := Lib.hid e1
      have hv32 : ∀ v : Int, isU32 (v % 4294967296) := fun v => ⟨by omega, by omega⟩
      have hput := Lib.hid (put_any p2 (p1 - r.n) r.n (x.imm / 2 ^ r.scale.toNat % 4294967296) hu (hv32 _) ⟨by omega, by omega⟩)
      have hpu := putZ_u32 p2 (p1 - r.n) r.n (x.imm / 2 ^ r.scale.toNat % 4294967296) hu (hv32 _)
      clear hat e1 hv32
      generalize r.scale = sc at *
      rcases hsc with rfl | rfl
      · have t1 : x.imm / 2 ^ (0 : Int).toNat = x.imm := Int.ediv_one _
        rewrite [t1] at hput hpu E1
        generalize putZ p2 (p1 - r.n) r.n (x.imm % 4294967296) = pz at *
        go_upto_region 11 with (fail)
        go_quiet ((go_at_call 30; exact (hput.out.quiet.again _)))
        go_wp2
        go_ret
        exact ⟨ret_int E1.out.symm, below_drewN KR.out.made _⟩
      · have t1 : x.imm / 2 ^ (2 : Int).toNat = x.imm / 4 := rfl
        rewrite [t1] at hput hpu E1
        generalize putZ p2 (p1 - r.n) r.n (x.imm / 4 % 4294967296) = pz at *
        go_upto_region 11 with (fail)
        go_quiet ((go_at_call 30; exact (hput.out.quiet.again _)))
        go_wp2
        go_ret
        exact ⟨ret_int E1.out.symm, below_drewN KR.out.made _⟩
end
end Go.Proofs.YtckekkedjlkljaaDoor
