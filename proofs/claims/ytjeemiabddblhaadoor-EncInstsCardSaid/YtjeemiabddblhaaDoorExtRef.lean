/- What Of, Low, Signed, Value, Fits of the document's answer return, for every op, number, instruction and address. -/
import Derived.Test.YtjeemiabddblhaaDoorExtMath
import Derived.Test.YtjeemiabddblhaaDoorIsaUse
import Derived.Test.YtjeemiabddblhaaDoorBitsRefFits
namespace Go.Proofs.YtjeemiabddblhaaDoor
open Go.ChangeShapes Go.WideShapes Go.ChangeAt Go.RowKit Go.Sort BigFrame

theorem tmod_neg {x m : Int} (h : x ≤ 0) : x.tmod m = -((-x) % m) := by
  have e : x = -(-x) := by omega
  rw [e, Int.neg_tmod, Int.tmod_eq_emod_of_nonneg (by omega), Int.neg_neg]
theorem tmod_low (x : Int) : (x.tmod 4294967296 < 0 ∧ x.tmod 4294967296 + 4294967296 = x % 4294967296) ∨ (0 ≤ x.tmod 4294967296 ∧ x.tmod 4294967296 = x % 4294967296) := by
  rcases Int.le_total 0 x with h | h
  · rw [Int.tmod_eq_emod_of_nonneg h]; omega
  · rw [tmod_neg h]; omega
theorem refLow_any (x : Int) : Still Tryd.prog 27 #[.int .i64 x] (.int .i64 (x % 4294967296)) := by
  intro w
  have hr0 : 0 ≤ x % 4294967296 ∧ x % 4294967296 < 4294967296 := by omega
  have ht := tmod_low x
  generalize x % 4294967296 = r at *
  rcases ht with ⟨h1, h2⟩ | ⟨h1, h2⟩
  · subst h2
    have h3 : -4294967296 ≤ x.tmod 4294967296 := by have := hr0.1; omega
    clear hr0
    go_enter Tryd.func27, Tryd.ntmps27
    go_wp2
    go_ret
    exact ⟨rfl, rfl⟩
  · subst h2
    have h3 := hr0.2
    clear hr0
    go_enter Tryd.func27, Tryd.ntmps27
    go_wp2
    go_ret
    exact ⟨rfl, rfl⟩
theorem refSigned_any (x : Int) : Still Tryd.prog 35 #[.int .i64 x] (.int .i64 (s32 x)) := by
  intro w
  have hl := refLow_any x
  have hr0 : 0 ≤ x % 4294967296 ∧ x % 4294967296 < 4294967296 := by omega
  obtain ⟨h0, h1⟩ := hr0
  by_cases h : 2147483648 ≤ x % 4294967296
  · have hv : s32 x = x % 4294967296 - 4294967296 := if_pos h
    rewrite [hv]
    clear hv
    generalize x % 4294967296 = r at *
    go_enter Tryd.func35, Tryd.ntmps35
    go_wp2_with (fail)
    refine (hl _).mono ?_
    rintro e w1 ⟨rfl, rfl⟩
    go_wp2
    go_ret
    exact ⟨rfl, rfl⟩
  · have hv : s32 x = x % 4294967296 := if_neg h
    rewrite [hv]
    clear hv
    generalize x % 4294967296 = r at *
    go_enter Tryd.func35, Tryd.ntmps35
    go_wp2_with (fail)
    refine (hl _).mono ?_
    rintro e w1 ⟨rfl, rfl⟩
    go_wp2
    go_ret
    exact ⟨rfl, rfl⟩
theorem vF_none (op : Int) (h : op < 1 ∨ 31 < op) : vF op = fZero ∧ vB op = false := by
  have e : opN op = 0 := by unfold opN isOp; rw [if_neg (by simp; omega)]
  unfold vF vB vfZ
  rw [e]
  exact ⟨rfl, rfl⟩
def vfOk (n : Nat) : Bool := (((vF (n : Int)).bits == 0) == !vB (n : Int)) && ((vF (n : Int)).ext == mayZ (n : Int)) && (vB (n : Int) == (decide (1 ≤ (vF (n : Int)).bits) && decide ((vF (n : Int)).bits ≤ 24) && ((vF (n : Int)).kind == 9 || (vF (n : Int)).kind == 10)))
theorem vf_ok : (List.range 32).all vfOk = true := by decide +kernel
theorem vf_op (op : Int) : ((vF op).bits == 0) = !vB op ∧ (vF op).ext = mayZ op := by
  by_cases h : op < 1 ∨ 31 < op
  · unfold mayZ; rw [(vF_none op h).1, (vF_none op h).2]; exact ⟨rfl, rfl⟩
  · obtain ⟨n, rfl⟩ := Int.eq_ofNat_of_zero_le (show 0 ≤ op by omega)
    have := List.all_eq_true.1 vf_ok n (List.mem_range.2 (by omega))
    unfold vfOk at this
    simp only [Bool.and_eq_true, beq_iff_eq] at this
    exact ⟨this.1.1, this.1.2⟩
section
attribute [local irreducible] World.cell?
set_option maxHeartbeats 8000000 in
theorem refOf_any (W : World) (op : Int) : Makes Tryd.prog W 25 #[.int .u8 op] (.agg #[.int .i64 (vF op).bits, .int .i64 (vF op).shift, .bool (vF op).sg, .bool (vF op).ext, .bool ((vF op).kind == 10)]) := by
  intro w hm
  have hz := hm.size
  have M := Lib.hid hm
  have hc : op = 1 ∨ op = 2 ∨ op = 3 ∨ op = 4 ∨ op = 5 ∨ op = 6 ∨ op = 7 ∨ op = 8 ∨ op = 9 ∨ op = 10 ∨ op = 11 ∨ op = 12 ∨ op = 13 ∨ op = 14 ∨ op = 15 ∨ op = 16 ∨ op = 17 ∨ op = 18 ∨ op = 19 ∨ op = 20 ∨ op = 21 ∨ op = 22 ∨ op = 23 ∨ op = 24 ∨ op = 25 ∨ op = 26 ∨ op = 27 ∨ op = 28 ∨ op = 29 ∨ op = 30 ∨ op = 31 ∨ (op < 1 ∨ 31 < op) := by omega
  clear hm
  rcases hc with rfl | rfl | rfl | rfl | rfl | rfl | rfl | rfl | rfl | rfl | rfl | rfl | rfl | rfl | rfl | rfl | rfl | rfl | rfl | rfl | rfl | rfl | rfl | rfl | rfl | rfl | rfl | rfl | rfl | rfl | rfl | hc
  · rewrite [show vF 1 = fZero by decide +kernel]
    go_enter Tryd.func25, Tryd.ntmps25
    go_wp2
    refine bodyPost_ret (v := .agg #[.int .i64 0, .int .i64 0, .bool false, .bool false, .bool false]) (by simp [results, Tryd.results25, go_sem]) rfl ?_
    exact ⟨rfl, M.out.alloc hz _⟩
  · rewrite [show vF 2 = fZero by decide +kernel]
    go_enter Tryd.func25, Tryd.ntmps25
    go_wp2
    refine bodyPost_ret (v := .agg #[.int .i64 0, .int .i64 0, .bool false, .bool false, .bool false]) (by simp [results, Tryd.results25, go_sem]) rfl ?_
    exact ⟨rfl, M.out.alloc hz _⟩
  · rewrite [show vF 3 = fZero by decide +kernel]
    go_enter Tryd.func25, Tryd.ntmps25
    go_wp2
    refine bodyPost_ret (v := .agg #[.int .i64 0, .int .i64 0, .bool false, .bool false, .bool false]) (by simp [results, Tryd.results25, go_sem]) rfl ?_
    exact ⟨rfl, M.out.alloc hz _⟩
  · rewrite [show vF 4 = fZero by decide +kernel]
    go_enter Tryd.func25, Tryd.ntmps25
    go_wp2
    refine bodyPost_ret (v := .agg #[.int .i64 0, .int .i64 0, .bool false, .bool false, .bool false]) (by simp [results, Tryd.results25, go_sem]) rfl ?_
    exact ⟨rfl, M.out.alloc hz _⟩
  · rewrite [show vF 5 = fZero by decide +kernel]
    go_enter Tryd.func25, Tryd.ntmps25
    go_wp2
    refine bodyPost_ret (v := .agg #[.int .i64 0, .int .i64 0, .bool false, .bool false, .bool false]) (by simp [results, Tryd.results25, go_sem]) rfl ?_
    exact ⟨rfl, M.out.alloc hz _⟩
  · rewrite [show vF 6 = fZero by decide +kernel]
    go_enter Tryd.func25, Tryd.ntmps25
    go_wp2
    refine bodyPost_ret (v := .agg #[.int .i64 0, .int .i64 0, .bool false, .bool false, .bool false]) (by simp [results, Tryd.results25, go_sem]) rfl ?_
    exact ⟨rfl, M.out.alloc hz _⟩
  · rewrite [show vF 7 = fI14 by decide +kernel]
    go_enter Tryd.func25, Tryd.ntmps25
    go_wp2
    refine bodyPost_ret (v := .agg #[.int .i64 14, .int .i64 0, .bool true, .bool true, .bool false]) (by simp [results, Tryd.results25, go_sem]) rfl ?_
    exact ⟨rfl, M.out.alloc hz _⟩
  · rewrite [show vF 8 = fI14 by decide +kernel]
    go_enter Tryd.func25, Tryd.ntmps25
    go_wp2
    refine bodyPost_ret (v := .agg #[.int .i64 14, .int .i64 0, .bool true, .bool true, .bool false]) (by simp [results, Tryd.results25, go_sem]) rfl ?_
    exact ⟨rfl, M.out.alloc hz _⟩
  · rewrite [show vF 9 = fZero by decide +kernel]
    go_enter Tryd.func25, Tryd.ntmps25
    go_wp2
    refine bodyPost_ret (v := .agg #[.int .i64 0, .int .i64 0, .bool false, .bool false, .bool false]) (by simp [results, Tryd.results25, go_sem]) rfl ?_
    exact ⟨rfl, M.out.alloc hz _⟩
  · rewrite [show vF 10 = fZero by decide +kernel]
    go_enter Tryd.func25, Tryd.ntmps25
    go_wp2
    refine bodyPost_ret (v := .agg #[.int .i64 0, .int .i64 0, .bool false, .bool false, .bool false]) (by simp [results, Tryd.results25, go_sem]) rfl ?_
    exact ⟨rfl, M.out.alloc hz _⟩
  · rewrite [show vF 11 = fZero by decide +kernel]
    go_enter Tryd.func25, Tryd.ntmps25
    go_wp2
    refine bodyPost_ret (v := .agg #[.int .i64 0, .int .i64 0, .bool false, .bool false, .bool false]) (by simp [results, Tryd.results25, go_sem]) rfl ?_
    exact ⟨rfl, M.out.alloc hz _⟩
  · rewrite [show vF 12 = fZero by decide +kernel]
    go_enter Tryd.func25, Tryd.ntmps25
    go_wp2
    refine bodyPost_ret (v := .agg #[.int .i64 0, .int .i64 0, .bool false, .bool false, .bool false]) (by simp [results, Tryd.results25, go_sem]) rfl ?_
    exact ⟨rfl, M.out.alloc hz _⟩
  · rewrite [show vF 13 = fI14 by decide +kernel]
    go_enter Tryd.func25, Tryd.ntmps25
    go_wp2
    refine bodyPost_ret (v := .agg #[.int .i64 14, .int .i64 0, .bool true, .bool true, .bool false]) (by simp [results, Tryd.results25, go_sem]) rfl ?_
    exact ⟨rfl, M.out.alloc hz _⟩
  · rewrite [show vF 14 = fZero by decide +kernel]
    go_enter Tryd.func25, Tryd.ntmps25
    go_wp2
    refine bodyPost_ret (v := .agg #[.int .i64 0, .int .i64 0, .bool false, .bool false, .bool false]) (by simp [results, Tryd.results25, go_sem]) rfl ?_
    exact ⟨rfl, M.out.alloc hz _⟩
  · rewrite [show vF 15 = fU5 by decide +kernel]
    go_enter Tryd.func25, Tryd.ntmps25
    go_wp2
    refine bodyPost_ret (v := .agg #[.int .i64 5, .int .i64 0, .bool false, .bool false, .bool false]) (by simp [results, Tryd.results25, go_sem]) rfl ?_
    exact ⟨rfl, M.out.alloc hz _⟩
  · rewrite [show vF 16 = fU5 by decide +kernel]
    go_enter Tryd.func25, Tryd.ntmps25
    go_wp2
    refine bodyPost_ret (v := .agg #[.int .i64 5, .int .i64 0, .bool false, .bool false, .bool false]) (by simp [results, Tryd.results25, go_sem]) rfl ?_
    exact ⟨rfl, M.out.alloc hz _⟩
  · rewrite [show vF 17 = fU5 by decide +kernel]
    go_enter Tryd.func25, Tryd.ntmps25
    go_wp2
    refine bodyPost_ret (v := .agg #[.int .i64 5, .int .i64 0, .bool false, .bool false, .bool false]) (by simp [results, Tryd.results25, go_sem]) rfl ?_
    exact ⟨rfl, M.out.alloc hz _⟩
  · rewrite [show vF 18 = fZero by decide +kernel]
    go_enter Tryd.func25, Tryd.ntmps25
    go_wp2
    refine bodyPost_ret (v := .agg #[.int .i64 0, .int .i64 0, .bool false, .bool false, .bool false]) (by simp [results, Tryd.results25, go_sem]) rfl ?_
    exact ⟨rfl, M.out.alloc hz _⟩
  · rewrite [show vF 19 = fZero by decide +kernel]
    go_enter Tryd.func25, Tryd.ntmps25
    go_wp2
    refine bodyPost_ret (v := .agg #[.int .i64 0, .int .i64 0, .bool false, .bool false, .bool false]) (by simp [results, Tryd.results25, go_sem]) rfl ?_
    exact ⟨rfl, M.out.alloc hz _⟩
  · rewrite [show vF 20 = fZero by decide +kernel]
    go_enter Tryd.func25, Tryd.ntmps25
    go_wp2
    refine bodyPost_ret (v := .agg #[.int .i64 0, .int .i64 0, .bool false, .bool false, .bool false]) (by simp [results, Tryd.results25, go_sem]) rfl ?_
    exact ⟨rfl, M.out.alloc hz _⟩
  · rewrite [show vF 21 = fI122 by decide +kernel]
    go_enter Tryd.func25, Tryd.ntmps25
    go_wp2
    refine bodyPost_ret (v := .agg #[.int .i64 12, .int .i64 2, .bool true, .bool true, .bool false]) (by simp [results, Tryd.results25, go_sem]) rfl ?_
    exact ⟨rfl, M.out.alloc hz _⟩
  · rewrite [show vF 22 = fI121 by decide +kernel]
    go_enter Tryd.func25, Tryd.ntmps25
    go_wp2
    refine bodyPost_ret (v := .agg #[.int .i64 12, .int .i64 1, .bool true, .bool true, .bool false]) (by simp [results, Tryd.results25, go_sem]) rfl ?_
    exact ⟨rfl, M.out.alloc hz _⟩
  · rewrite [show vF 23 = fI12 by decide +kernel]
    go_enter Tryd.func25, Tryd.ntmps25
    go_wp2
    refine bodyPost_ret (v := .agg #[.int .i64 12, .int .i64 0, .bool true, .bool true, .bool false]) (by simp [results, Tryd.results25, go_sem]) rfl ?_
    exact ⟨rfl, M.out.alloc hz _⟩
  · rewrite [show vF 24 = fI122 by decide +kernel]
    go_enter Tryd.func25, Tryd.ntmps25
    go_wp2
    refine bodyPost_ret (v := .agg #[.int .i64 12, .int .i64 2, .bool true, .bool true, .bool false]) (by simp [results, Tryd.results25, go_sem]) rfl ?_
    exact ⟨rfl, M.out.alloc hz _⟩
  · rewrite [show vF 25 = fI121 by decide +kernel]
    go_enter Tryd.func25, Tryd.ntmps25
    go_wp2
    refine bodyPost_ret (v := .agg #[.int .i64 12, .int .i64 1, .bool true, .bool true, .bool false]) (by simp [results, Tryd.results25, go_sem]) rfl ?_
    exact ⟨rfl, M.out.alloc hz _⟩
  · rewrite [show vF 26 = fI12 by decide +kernel]
    go_enter Tryd.func25, Tryd.ntmps25
    go_wp2
    refine bodyPost_ret (v := .agg #[.int .i64 12, .int .i64 0, .bool true, .bool true, .bool false]) (by simp [results, Tryd.results25, go_sem]) rfl ?_
    exact ⟨rfl, M.out.alloc hz _⟩
  · rewrite [show vF 27 = fR19 by decide +kernel]
    go_enter Tryd.func25, Tryd.ntmps25
    go_wp2
    refine bodyPost_ret (v := .agg #[.int .i64 19, .int .i64 2, .bool true, .bool true, .bool true]) (by simp [results, Tryd.results25, go_sem]) rfl ?_
    exact ⟨rfl, M.out.alloc hz _⟩
  · rewrite [show vF 28 = fZero by decide +kernel]
    go_enter Tryd.func25, Tryd.ntmps25
    go_wp2
    refine bodyPost_ret (v := .agg #[.int .i64 0, .int .i64 0, .bool false, .bool false, .bool false]) (by simp [results, Tryd.results25, go_sem]) rfl ?_
    exact ⟨rfl, M.out.alloc hz _⟩
  · rewrite [show vF 29 = fR24 by decide +kernel]
    go_enter Tryd.func25, Tryd.ntmps25
    go_wp2
    refine bodyPost_ret (v := .agg #[.int .i64 24, .int .i64 2, .bool true, .bool true, .bool true]) (by simp [results, Tryd.results25, go_sem]) rfl ?_
    exact ⟨rfl, M.out.alloc hz _⟩
  · rewrite [show vF 30 = fR12 by decide +kernel]
    go_enter Tryd.func25, Tryd.ntmps25
    go_wp2
    refine bodyPost_ret (v := .agg #[.int .i64 12, .int .i64 2, .bool true, .bool true, .bool true]) (by simp [results, Tryd.results25, go_sem]) rfl ?_
    exact ⟨rfl, M.out.alloc hz _⟩
  · rewrite [show vF 31 = fR12 by decide +kernel]
    go_enter Tryd.func25, Tryd.ntmps25
    go_wp2
    refine bodyPost_ret (v := .agg #[.int .i64 12, .int .i64 2, .bool true, .bool true, .bool true]) (by simp [results, Tryd.results25, go_sem]) rfl ?_
    exact ⟨rfl, M.out.alloc hz _⟩
  · rewrite [(vF_none op hc).1]
    have n7 : (op == 7) = false := beq_eq_false_iff_ne.2 (by omega)
    have n8 : (op == 8) = false := beq_eq_false_iff_ne.2 (by omega)
    have n13 : (op == 13) = false := beq_eq_false_iff_ne.2 (by omega)
    have n15 : (op == 15) = false := beq_eq_false_iff_ne.2 (by omega)
    have n16 : (op == 16) = false := beq_eq_false_iff_ne.2 (by omega)
    have n17 : (op == 17) = false := beq_eq_false_iff_ne.2 (by omega)
    have n21 : (op == 21) = false := beq_eq_false_iff_ne.2 (by omega)
    have n24 : (op == 24) = false := beq_eq_false_iff_ne.2 (by omega)
    have n22 : (op == 22) = false := beq_eq_false_iff_ne.2 (by omega)
    have n25 : (op == 25) = false := beq_eq_false_iff_ne.2 (by omega)
    have n23 : (op == 23) = false := beq_eq_false_iff_ne.2 (by omega)
    have n26 : (op == 26) = false := beq_eq_false_iff_ne.2 (by omega)
    have n27 : (op == 27) = false := beq_eq_false_iff_ne.2 (by omega)
    have n29 : (op == 29) = false := beq_eq_false_iff_ne.2 (by omega)
    have n30 : (op == 30) = false := beq_eq_false_iff_ne.2 (by omega)
    have n31 : (op == 31) = false := beq_eq_false_iff_ne.2 (by omega)
    clear hc
    go_enter Tryd.func25, Tryd.ntmps25
    go_wp2
    refine bodyPost_ret (v := .agg #[.int .i64 0, .int .i64 0, .bool false, .bool false, .bool false]) (by simp [results, Tryd.results25, go_sem]) rfl ?_
    exact ⟨rfl, M.out.alloc hz _⟩
theorem refValue_any (W : World) (x : In) (pc : Int) (hp : isU32 pc) : Makes Tryd.prog W 26 #[x.val, .int .u32 pc] (.tuple #[.int .i64 (valueP x pc), .bool (vB x.op)]) := by
  intro w hm
  have hz := hm.size
  have hcall := refOf_any (w.alloc (.cells x.cells.toArray 24)) x.op
  obtain ⟨p0, p1⟩ := hp
  obtain ⟨f, b, hf, hb⟩ : ∃ f b, vF x.op = f ∧ vB x.op = b := ⟨_, _, rfl, rfl⟩
  have hbit := (vf_op x.op).1
  have hv : valueP x pc = if b then valZ f x pc else 0 := by unfold valueP; rw [hf, hb]
  rewrite [hv, hb]
  rewrite [hf, hb] at hbit
  rewrite [hf] at hcall
  have M0 := Lib.hid (hm.alloc hz (.cells x.cells.toArray 24))
  have I0 := Lib.hid (show InAt _ _ _ from heap_alloc_new w (.cells x.cells.toArray 24))
  clear hf hb hv
  go_enter Tryd.func26, Tryd.ntmps26
  go_wp2_with (fail)
  refine (hcall _ (Made.refl _)).mono ?_
  rintro e w1 ⟨rfl, h1⟩
  have M1 := Lib.hid (Made.trans M0.out h1)
  have hi1 := h1.heap I0.out
  have hz1 := M1.out.size
  obtain ⟨a0, a1, a2, a3, a4, a5, a6, a7, a8, a9, a10⟩ := in_cells hi1
  have hlt := heap_lt hi1
  have Z1 := Lib.hid hz1
  clear h1 hi1 hz1 hcall
  cases b
  · have hbb : (f.bits == 0) = true := hbit
    clear hbit
    go_wp2_with (fail)
    refine bodyPost_ret (v := .tuple #[.int .i64 0, .bool false]) (by simp [results, Tryd.results26, go_sem]) rfl ?_
    exact ⟨rfl, M1.out.alloc Z1.out _⟩
  · have hbb : (f.bits == 0) = false := hbit
    clear hbit
    by_cases hk : f.kind = 10
    · have hkb : (f.kind == 10) = true := beq_iff_eq.2 hk
      have hvv : valZ f x pc = s32 (x.imm - pc) := if_pos hk
      have hs := refSigned_any (x.imm % 4294967296 - pc)
      rw [s32_sub] at hs
      have hr0 : 0 ≤ x.imm % 4294967296 ∧ x.imm % 4294967296 < 4294967296 := by omega
      obtain ⟨q0, q1⟩ := hr0
      have hl := refLow_any x.imm
      have HVV := Lib.hid hvv
      clear hk hvv
      generalize s32 (x.imm - pc) = sv at *
      generalize x.imm % 4294967296 = r at *
      go_wp2_with (fail)
      refine (hl _).mono ?_
      rintro e w2 ⟨rfl, rfl⟩
      go_wp2_with (fail)
      refine (hs _).mono ?_
      rintro e w2 ⟨rfl, rfl⟩
      go_wp2
      refine bodyPost_ret (v := .tuple #[.int .i64 sv, .bool true]) (by simp [results, Tryd.results26, go_sem]) rfl ?_
      exact ⟨by rw [HVV.out], M1.out.alloc Z1.out _⟩
    · have hkb : (f.kind == 10) = false := beq_eq_false_iff_ne.2 hk
      have hvv : valZ f x pc = x.imm := if_neg hk
      have HVV := Lib.hid hvv
      clear hk hvv
      go_wp2_with (fail)
      refine bodyPost_ret (v := .tuple #[.int .i64 x.imm, .bool true]) (by simp [results, Tryd.results26, go_sem]) rfl ?_
      exact ⟨by rw [HVV.out], M1.out.alloc Z1.out _⟩
theorem refFits5_any (W : World) (x : In) (hx : x.small) (pc : Int) (hp : isU32 pc) : Makes Tryd.prog W 23 #[x.val, .int .u32 pc] (.bool (fitP x pc)) := by
  intro w hm
  have hz := hm.size
  have hcall := refOf_any (w.alloc (.cells x.cells.toArray 24)) x.op
  have HV := Lib.hid (fun u => refValue_any u x pc hp)
  have hvb := valZ_bounds (vF x.op) x pc hx
  obtain ⟨f, b, hf, hb⟩ : ∃ f b, vF x.op = f ∧ vB x.op = b := ⟨_, _, rfl, rfl⟩
  obtain ⟨v, hvp⟩ : ∃ v, valueP x pc = v := ⟨_, rfl⟩
  have hv : b = true → v = valZ f x pc := by rw [← hvp, ← hb, ← hf]; intro h; unfold valueP; rw [if_pos h]
  have hft : fitP x pc = (!b || fitZ f x pc) := by unfold fitP; rw [hf, hb]
  rewrite [hft]
  rewrite [hf] at hcall hvb
  rewrite [hvp, hb] at HV
  have hfit := refFits_any (valZ f x pc) f.bits f.shift f.sg hvb
  have M0 := Lib.hid (hm.alloc hz (.cells x.cells.toArray 24))
  have I0 := Lib.hid (show InAt _ _ _ from heap_alloc_new w (.cells x.cells.toArray 24))
  have HW := Lib.hid hv
  clear hf hb hv hx hft hvb hvp
  go_enter Tryd.func23, Tryd.ntmps23
  go_wp2_with (fail)
  refine (hcall _ (Made.refl _)).mono ?_
  rintro e w1 ⟨rfl, h1⟩
  have M1 := Lib.hid (Made.trans M0.out h1)
  have hi1 := h1.heap I0.out
  have hz1 := M1.out.size
  obtain ⟨a0, a1, a2, a3, a4, a5, a6, a7, a8, a9, a10⟩ := in_cells hi1
  have hlt := heap_lt hi1
  have Z1 := Lib.hid hz1
  clear h1 hi1 hz1 hcall
  go_wp2_with (fail)
  refine (HV.out _ _ (Made.refl _)).mono ?_
  rintro e w2 ⟨rfl, h2⟩
  have hr := h2.heap (heap_alloc_new w1 _)
  obtain ⟨k0, k1, k2, k3, k4⟩ := row_cells hr
  have hlt2 := heap_lt hr
  have M2 := Lib.hid (Made.trans (M1.out.alloc Z1.out _) h2)
  clear h2 hr a0 a1 a2 a3 a4 a5 a6 a7 a8 a9 a10
  cases b
  · go_wp2_with (fail)
    go_ret
    exact ⟨rfl, M2.out⟩
  · obtain rfl : v = valZ f x pc := HW.out rfl
    go_wp2_with (fail)
    refine (hfit _).mono ?_
    rintro e w3 ⟨rfl, rfl⟩
    go_wp2
    go_ret
    exact ⟨rfl, M2.out⟩
end
end Go.Proofs.YtjeemiabddblhaaDoor
