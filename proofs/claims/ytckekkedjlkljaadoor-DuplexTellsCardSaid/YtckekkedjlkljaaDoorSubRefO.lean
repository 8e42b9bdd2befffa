/- What Of of the document's answer for small instructions returns, for every instruction, in every world. -/
import Derived.Test.YtckekkedjlkljaaDoorSubRef
namespace Go.Proofs.YtckekkedjlkljaaDoor
open Go.ChangeShapes Go.WideShapes Go.ChangeAt Go.RowKit Go.Sort BigFrame

theorem found_of (x : In) (k : Nat) (hk : k < 32768) (h : docInst k = (x, true)) : subOf x = ((k : Int), true) :=
  of_says k (by omega) (by omega) x ((inst_doc k (by omega) (by omega)).trans h)
theorem none_of (x : In) (h : ∀ j : Nat, j < 32768 → docInst j ≠ (x, true)) : subOf x = (0, false) := by
  cases h2 : (subOf x).2 with
  | false => exact of_none x h2
  | true =>
    obtain ⟨s0, s1, hs⟩ := inst_of (subOf x).1 x (Prod.ext rfl h2)
    have hle := (says _ s0 s1 x hs).le
    obtain ⟨n, hn⟩ := Int.eq_ofNat_of_zero_le s0
    rw [hn] at hs hle s1
    exact absurd ((inst_doc n (by omega) (by omega)).symm.trans hs) (h n (by omega))
section
attribute [local irreducible] World.cell?
set_option maxRecDepth 100000 in
set_option maxHeartbeats 8000000 in
theorem refOf7_any (W : World) (x : In) : Makes Tryd.prog W 24 #[x.val] (.tuple #[.int .i64 (subOf x).1, .bool (subOf x).2]) := by
  intro w hm
  have hz := hm.size
  obtain ⟨R, hR⟩ : ∃ R, R = subOf x := ⟨_, rfl⟩
  rewrite [← hR]
  have HF := Lib.hid (fun k hk h => hR.trans (found_of x k hk h))
  have HN := Lib.hid (fun h => hR.trans (none_of x h))
  have HM := Lib.hid (show Own W w.heap.size x (w.alloc (.cells x.cells.toArray 24)) from ⟨hm.alloc hz _, heap_alloc_new w _⟩)
  clear hR hm
  go_enter Tryd.func24, Tryd.ntmps24
  go_upto_region 1 with (fail)
  refine name_world (fun v => Own W w.heap.size x v) HM.out ?_
  intro v hv
  have KV := Lib.hid hv
  clear hv HM
  go_wp2_with (fail)
  go_loopw [4] (fun i wr => ∃ k : Nat, k ≤ 32768 ∧ i = .int .i64 k ∧ (∀ j : Nat, j < k → docInst j ≠ (x, true)) ∧ Own W w.heap.size x wr) (fun i _ => 32768 - (intOf i).toNat)
  case atStart => exact ⟨0, by omega, rfl, fun j hj => absurd hj (Nat.not_lt_zero j), KV.out⟩
  case round =>
    obtain ⟨k, hk, rfl, hno, hwr⟩ := hrel
    have KR := Lib.hid hwr
    have HO := Lib.hid hno
    clear hwr hno
    by_cases hlt : k < 32768
    · have hin := Lib.hid (refInst7_any wr k (by omega) (by omega))
      generalize hy : docInst (k : Int) = yo at *
      obtain ⟨y, o⟩ := yo
      have HY := Lib.hid hy
      have HL := Lib.hid hlt
      have hd0 : decide ((k : Int) < 32768) = true := decide_eq_true (by omega)
      obtain ⟨B, hB, hB2⟩ : ∃ B : Int, (k : Int) < B ∧ B ≤ 1000000 := ⟨32768, by omega, by decide⟩
      clear hy hk hlt
      go_wp2_with (fail)
      refine (hin.out wr (Made.refl wr)).mono ?_
      rintro e z ⟨rfl, hz1⟩
      have K1 := Lib.hid (show TwoIn W w.heap.size z.heap.size x y (z.alloc (.cells y.cells.toArray 24)) from
        have h2 := (Made.refl z).alloc (Nat.le_refl _) (.cells y.cells.toArray 24)
        ⟨Made.trans KR.out.made (Made.trans hz1 h2), Made.heap h2 (Made.heap hz1 KR.out.in_), heap_alloc_new z _⟩)
      clear hz1
      go_upto_region 5 with (fail)
      refine name_world (fun v => TwoIn W w.heap.size z.heap.size x y v) K1.out ?_
      intro v3 hv
      have KV3 := Lib.hid hv
      obtain ⟨a0, a1, a2, a3, a4, a5, a6, a7, a8, a9, a10⟩ := in_cells hv.in_
      obtain ⟨b0, b1, b2, b3, b4, b5, b6, b7, b8, b9, b10⟩ := in_cells hv.out_
      have hl := heap_lt hv.in_
      have hl2 := heap_lt hv.out_
      have hop := fun w => run_in_eql y x w
      clear hv K1
      have hnext : (y, o) ≠ (x, true) → ∀ j : Nat, j < k + 1 → docInst j ≠ (x, true) := fun hne j hj => by
        rcases Nat.lt_or_ge j k with h | h
        · exact HO.out j h
        · obtain rfl : j = k := by omega
          rw [HY.out]; exact hne
      cases o with
      | false =>
        have HX := Lib.hid (hnext (fun h => by cases h))
        clear hnext
        go_wp2
        go_roundw
        case rel => exact ⟨k + 1, HL.out, by go_num, HX.out, ⟨KV3.out.made, KV3.out.in_⟩⟩
        case measure => have := HL.out; simp [intOf]; omega
      | true =>
        by_cases hyx : y = x
        · have hd : decide (y = x) = true := decide_eq_true hyx
          have e1 : R = ((k : Int), true) := HF.out k HL.out (by rw [HY.out, hyx])
          have E1 := Lib.hid e1
          obtain rfl := E1.out
          clear e1 hyx hnext
          go_wp2
          go_ret2
          exact ⟨rfl, KV3.out.made⟩
        · have hd : decide (y = x) = false := decide_eq_false hyx
          have HX := Lib.hid (hnext (fun h => hyx (Prod.mk.inj h).1))
          clear hyx hnext
          go_wp2
          go_roundw
          case rel => exact ⟨k + 1, HL.out, by go_num, HX.out, ⟨KV3.out.made, KV3.out.in_⟩⟩
          case measure => have := HL.out; simp [intOf]; omega
    · obtain rfl : k = 32768 := by omega
      have e1 : R = (0, false) := HN.out HO.out
      have E1 := Lib.hid e1
      obtain rfl := E1.out
      clear e1 hlt hk
      go_wp2
      go_ret2
      exact ⟨rfl, KR.out.made⟩
end
end Go.Proofs.YtckekkedjlkljaaDoor
