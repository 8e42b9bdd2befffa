/- What strings.Clone returns; no condition but that on the length. -/
import Derived.Test.YtebpimjbjjmpaaaLexFns
import Derived.Lib.UnsafeStr
import Derived.Lib.BufferWrite
import Derived.Laws.MakeOwn
import Derived.Lib.Strings
namespace Go.Proofs.Ytebpimjbjjmpaaa
open Go.ChangeShapes Go.WideShapes Go.ChangeAt Go.RowKit Go.Sort BigFrame

theorem byte_row : (Try.prog.info? 5).map (fun i => (i.zero, i.size, i.bytes)) = some (some (Value.int .u8 0), 1, 1) := by kernel_rfl
section
attribute [local irreducible] World.cell?
set_option maxRecDepth 100000 in
set_option maxHeartbeats 4000000 in
theorem clone_any (W : World) (S : ByteArray) (hS : S.size ≤ 100000) : Makes Try.prog W 34 #[.string S] (.string S) := by
  intro w hm
  by_cases h0 : S.size = 0
  · have hs : S = ⟨#[]⟩ := by
      apply ByteArray.ext
      exact Array.eq_empty_of_size_eq_zero h0
    subst hs
    go_enter Try.func34, Try.ntmps34
    go_wp2
    go_ret
    exact ⟨rfl, hm⟩
  obtain ⟨i0, hi0, hz0, hz1, hz2⟩ := info_parts byte_row
  -- the new row, and what the copy leaves in it
  obtain ⟨M, hM⟩ : ∃ M, M = madeCells (Value.int .u8 0).cells (((S.size : Nat) : Int).toNat * i0.size) := ⟨_, rfl⟩
  have hMs : M.size = S.size := by rw [hM, size_madeCells, hz1]; simp
  have hmk : ∀ u : World, (Instr.makeSlice 105 (.int .i64 (S.size : Int)) (.int .i64 (S.size : Int))).run Try.prog u = .ok (.slice (some ⟨u.heap.size, 0, none⟩) S.size S.size) (u.alloc (.cells M 5)) := fun u => by
    have h := run_make (P := Try.prog) u 105 5 i0 (.int .u8 0) Try.underlying105 hi0 hz0 .i64 .i64 (S.size : Int) (S.size : Int) (by omega) (by omega) (by rw [hz2]; omega) (by omega)
    rw [← hM] at h
    simpa using h
  clear hM
  have hinfo : (Try.prog.info? 5).map (·.size) = some 1 := by rw [hi0]; simp [hz1]
  have hcp := Lib.run_copy_row_string (P := Try.prog) (w.alloc (.cells M 5)) 105 9 3 5 w.heap.size 0 S.size S.size S M 5 Try.underlying105 hinfo (heap_alloc_new w _) (Nat.le_refl _) (by omega)
  obtain ⟨Y, hY⟩ : ∃ Y, Y = (M.toList.take 0 ++ Lib.byteCells S.data.toList ++ M.toList.drop (0 + S.size)).toArray := ⟨_, rfl⟩
  rw [← hY] at hcp
  have hYl : Y.toList = Lib.byteCells S.data.toList := by
    rw [hY, List.toList_toArray, List.take_zero, List.nil_append, List.drop_of_length_le (by rw [Array.length_toList]; omega), List.append_nil]
  have hYs : Y.size = S.size := by rw [← Array.length_toList, hYl, Lib.byteCells_length, ← Lib.size_eq]
  have hgY : ((w.alloc (.cells M 5)).setRow w.heap.size Y).heap[w.heap.size]? = some (.cells Y 5 (0, 0)) := setRow_heap _ _ M _ 5 (0, 0) (heap_alloc_new w _)
  have hne : S.data.toList ≠ [] := fun e => h0 (by rw [Lib.size_eq, e]; rfl)
  have hco : Try.prog.cellsOf 5 = 1 := by simp [Program.cellsOf, hi0, hz1]
  have hus := Lib.run_unsafeString_row (P := Try.prog) ((w.alloc (.cells M 5)).setRow w.heap.size Y) 106 3 9 5 Try.underlying106 hco w.heap.size Y.size (by unfold World.shape?; rw [hgY]) S.data.toList hne (by rw [← Lib.size_eq]; omega) (by rw [← Lib.size_eq]; omega)
    (fun j x hx => Lib.cells_of_row hgY Y.size j _ (by rw [List.take_of_length_le (by rw [Array.length_toList]; exact Nat.le_refl _), hYl]; simp [Lib.byteCells, hx]))
  rw [← Lib.size_eq] at hus
  have HB := Lib.hid (show Made W (((w.alloc (.cells M 5)).setRow w.heap.size Y).freeze ⟨w.heap.size, 0, none⟩ S.size) from by
    have b1 := hm.alloc hm.size (.cells M 5)
    have b2 : Below W.heap.size (w.alloc (.cells M 5)) ((w.alloc (.cells M 5)).setRow w.heap.size Y) := ⟨rfl, rfl, rfl, by simp, fun k hk => setRow_other _ _ _ _ (by have := hm.size; omega)⟩
    exact Lib.below_freeze (Below.trans b1 b2) (p := ⟨w.heap.size, 0, none⟩) hm.size _)
  clear hY
  go_enter Try.func34, Try.ntmps34
  go_wp2
  go_ret
  exact ⟨rfl, HB.out⟩
end
end Go.Proofs.Ytebpimjbjjmpaaa
