/- SubAll of the laws of sub returns true, in every world that holds the table of small instructions. -/
import Derived.Test.YtlegoaecmkflhaaDoorSubMap
namespace Go.Proofs.YtlegoaecmkflhaaDoor
open Go.ChangeShapes Go.WideShapes Go.ChangeAt Go.RowKit Go.Sort BigFrame Go.Maps

namespace subAll
theorem start (W : World) : AllAt W (((W.alloc (.cells manyL.toArray 36)).alloc (.cells zerosL.toArray 36)).alloc (.map #[] 0)) 0 (gotL 0) := by
  have m1 := (Made.refl W).alloc (Nat.le_refl _) (.cells manyL.toArray 36)
  have m2 := m1.alloc m1.size (.cells zerosL.toArray 36)
  have b1 : (W.alloc (.cells manyL.toArray 36)).heap[W.heap.size]? = some (.cells manyL.toArray 36 (0, 0)) := heap_alloc_new W _
  have b2 : ((W.alloc (.cells manyL.toArray 36)).alloc (.cells zerosL.toArray 36)).heap[W.heap.size]? = some (.cells manyL.toArray 36 (0, 0)) := (Below.heap_alloc _ _ _ (heap_lt b1)).trans b1
  have b3 : ((W.alloc (.cells manyL.toArray 36)).alloc (.cells zerosL.toArray 36)).heap[W.heap.size + 1]? = some (.cells zerosL.toArray 36 (0, 0)) := heap_at (by simp)
  refine ⟨m2.alloc m2.size _, (Below.heap_alloc _ _ _ (heap_lt b2)).trans b2, (Below.heap_alloc _ _ _ (heap_lt b3)).trans b3, .map [], ?_, isMap_empty, fun y _ _ => rfl⟩
  have := World.ownsMap_made (H := Unit) ((W.alloc (.cells manyL.toArray 36)).alloc (.cells zerosL.toArray 36)) Tryd.prog 26 (plainElem Tryd.prog 3)
  have e : ((W.alloc (.cells manyL.toArray 36)).alloc (.cells zerosL.toArray 36)).heap.size = W.heap.size + 1 + 1 := by simp
  rwa [e] at this
section
attribute [local irreducible] World.cell?
set_option maxRecDepth 100000 in
set_option maxHeartbeats 8000000 in
theorem walk (W : World) (hR : SRows W) : Calls Tryd.prog 6 #[] W fun e w' => e = .returned (.bool true) ∧ Made W w' := by
  have hmm := @run_makeMap Tryd.prog
  have HS := Lib.hid (start W)
  have hop : ∀ w, (binOp .eql 36 (.agg manyL.toArray) (.agg manyL.toArray)).run Tryd.prog w = .ok (.bool true) w := fun _ => by kernel_rfl
  have hinfo : (Tryd.prog.info? 36).map (·.size) = some manyL.toArray.size := by kernel_rfl
  go_enter Tryd.func6, Tryd.ntmps6
  go_wp2_with (fail)
  refine name_world (fun v => AllAt W v 0 (gotL 0)) HS.out ?_
  intro v hv
  have KV := Lib.hid hv
  clear hv HS
  go_loopw [4] (fun i wr => ∃ k : Nat, k ≤ 32768 ∧ i = .int .i64 k ∧ AllAt W wr k (gotL k)) (fun i _ => 32768 - (intOf i).toNat)
  case atStart => exact ⟨0, by omega, rfl, KV.out⟩
  case round =>
    obtain ⟨k, hk, rfl, hwr⟩ := hrel
    have KR := Lib.hid hwr
    clear hwr
    by_cases hlt : k < 32768
    · have hin := Lib.hid (subInst_any wr (hR.made KR.out.made) k (by omega) (by omega))
      have hsm := Lib.hid (subInst_small k (by omega) (by omega))
      have hok := sub_ok k hlt
      have HL := Lib.hid hlt
      have hd0 : decide ((k : Int) < 32768) = true := decide_eq_true (by omega)
      obtain ⟨B, hB, hB2⟩ : ∃ B : Int, (k : Int) < B ∧ B ≤ 65536 := ⟨32768, by omega, by decide⟩
      generalize hy : subInst (k : Int) = yo at *
      obtain ⟨y, o⟩ := yo
      have HY := Lib.hid hy
      have HO := Lib.hid hok
      clear hy hk hlt hok
      go_wp2_with (fail)
      refine (hin.out wr (Made.refl wr)).mono ?_
      rintro e z ⟨rfl, hz⟩
      have hzB : W.heap.size + 1 < z.heap.size := by
        have h1 := Nat.lt_of_lt_of_le (AllAt.room KR.out) hz.size
        omega
      have K1 := Lib.hid (show AllAt W (z.alloc (.cells y.cells.toArray 26)) k (gotL k) ∧ InAt (z.alloc (.cells y.cells.toArray 26)) z.heap.size y from
        have h2 := (Made.refl z).alloc (Nat.le_refl _) (.cells y.cells.toArray 26)
        ⟨KR.out.next (Made.trans hz h2), heap_alloc_new z _⟩)
      clear hz
      go_upto_region 8 with (fail)
      refine name_world (fun v => AllAt W v k (gotL k) ∧ InAt v z.heap.size y) K1.out ?_
      rintro v3 ⟨hv, hi⟩
      have KV3 := Lib.hid hv
      have I3 := Lib.hid hi
      clear hv hi K1
      cases o with
      | false =>
        have hg : okB k = false := HO.out.symm
        have KX := Lib.hid (show AllAt W v3 (k + 1) (gotL (k + 1)) by rw [got_same k hg]; exact KV3.out.skip)
        clear hg
        go_wp2
        go_roundw
        case rel => exact ⟨k + 1, HL.out, by go_num, KX.out⟩
        case measure => have := HL.out; simp [intOf]; omega
      | true =>
        have hg : okB k = true := HO.out.symm
        have hc16 : k / 2048 < 16 := by have := HL.out; omega
        have hcell : v3.cell? ⟨W.heap.size + 1, k / 2048, none⟩ = some (.int .i64 (gotN k (k / 2048))) := (cell_of_lit KV3.out.got _).trans (got_at k _ hc16)
        have hle := got_le k (k / 2048)
        have hset := Lib.hid (got_set k hg)
        have fr := free_of_lit KV3.out.got
        have hl := heap_lt KV3.out.got
        generalize gotN k (k / 2048) = g at *
        go_upto_region 10 with (fail)
        refine name_world (fun v => AllAt W v k (gotL (k + 1)) ∧ InAt v z.heap.size y) ⟨KV3.out.plus hset.out, (Below.heap_setCell _ _ _ _ (show z.heap.size ≠ W.heap.size + 1 by omega)).trans I3.out⟩ ?_
        rintro v4 ⟨hv, hi⟩
        have KV4 := Lib.hid hv
        obtain ⟨D, hown, hD, h6⟩ := hv.seen
        have hc0 := h6 y hsm.out (fun j hj e => absurd (says_one j k ⟨by omega, by have := HL.out; omega⟩ ⟨by omega, by have := HL.out; omega⟩ y e HY.out) (by omega))
        have HC0 := Lib.hid hc0
        have HD := Lib.hid (And.intro hD h6)
        have hkey := key_in y hsm.out
        obtain ⟨b0, b1, b2, b3, b4, b5, b6, b7, b8, b9, b10⟩ := in_cells hi
        have hlz := heap_lt hi
        clear hv hi hD h6 hc0 hcell fr hl
        go_wp2_with (first
          | (at_lookup; refine wpList_lookup_own_int _ rfl _ _ 37 rfl 26 3 .i64 instLaw Tryd.underlying37 Tryd.underlying3 (zeroInt _) (W.heap.size + 1 + 1) k _ rfl hown _ _ rfl hkey ?_; intro c hat hwc; obtain rfl : c = 0 := by (have h := hat.symm.trans HC0.out; simpa using h))
          | (at_mapUpdate; refine wpList_mapUpdate_own _ rfl _ _ _ 37 rfl 26 3 instLaw Tryd.underlying37 _ (W.heap.size + 1 + 1) k _ rfl hown (by unfold maxLen; omega) _ _ _ rfl rfl hkey _ [] (plainElem_int Tryd.underlying3 (by decide)) ?_; intro w1 hown1 hgrow1))
        have KX := Lib.hid (AllAt.put hsm.out HY.out KV4.out.made KV4.out.many KV4.out.got HD.out.1 HD.out.2 hown1 hgrow1)
        clear hown1 hgrow1
        go_roundw
        case rel => exact ⟨k + 1, HL.out, by go_num, KX.out⟩
        case measure => have := HL.out; simp [intOf]; omega
    · obtain rfl : k = 32768 := by omega
      have KF := KR.out
      rewrite [got_end] at KF
      have H1 := Lib.hid (awake_any wr (hR.made KR.out.made) wr (Made.refl wr))
      have f1 := KF.many
      have f2 := KF.got
      have hu := Tryd.underlying36
      clear KF hlt hk
      go_wp2_with (first
        | (go_at_call 9; refine H1.out.mono ?_; rintro e z ⟨rfl, hz⟩)
        | (refine wpList_load_row rfl 36 (.tmp 2) rfl (W.heap.size + 1) (by rfl) 36 _ (0, 0) _ f2 hu rfl hinfo ?_)
        | (refine wpList_load_row rfl 36 (.tmp 1) rfl W.heap.size (by rfl) 36 _ (0, 0) _ f1 hu rfl hinfo ?_))
      go_ret
      exact ⟨rfl, Made.trans KR.out.made hz⟩
end
end subAll
end Go.Proofs.YtlegoaecmkflhaaDoor
