/- What rowOf of package isa returns, op by op, in every world that has grown out of one that holds the table of names. · What rowOf of package isa returns, op by op, in every world that has grown out of one that holds the table of names. -/
import Derived.Test.YtnfmlmamgkpocaaGreatDoorGIsa
namespace Go.Proofs.YtnfmlmamgkpocaaGreatDoor
section
open Go.ChangeShapes Go.WideShapes Go.ChangeAt Go.RowKit Go.Sort BigFrame

set_option maxRecDepth 100000 in
set_option maxHeartbeats 1000000 in
theorem rowOf_17 (W : World) (hN : Names W) (w : World) (hm : Made W w) : Calls Tryz.prog 46 #[.int .u8 17] w (IsRowOf W 17) := by
  have hz := hm.size
  go_enter Tryz.func46, Tryz.ntmps46
  go_wp2_with (fail)
  refine (plain_any _ _ _ _ (Made.refl _)).mono ?_
  rintro e w1 ⟨rfl, h1⟩
  go_wp2_with (fail)
  refine (plain_any _ _ _ _ (h1)).mono ?_
  rintro e w2 ⟨rfl, h2⟩
  go_wp2_with (fail)
  refine (plain_any _ _ _ _ (h2)).mono ?_
  rintro e w3 ⟨rfl, h3⟩
  go_wp2_with (fail)
  refine (plain_any _ _ _ _ (h3)).mono ?_
  rintro e w4 ⟨rfl, h4⟩
  clear h1 h2 h3
  have hz4 : w.heap.size < w4.heap.size := by have := h4.size; simp only [World.size_alloc] at this; omega
  have hW4 : Made W w4 := Made.trans (hm.alloc hz _) h4
  have hr4 : w4.heap[w.heap.size]? = some (.cells rowLit 98 (0, 0)) := h4.heap (heap_alloc_new w _)
  clear h4
  go_upto_region 2 with (fail)
  refine name_world (fun u => RowVars W w.heap.size w4.heap.size u) (rowVars_of hW4 hz4 hr4) ?_
  rintro u ⟨hM, hr, hD, hP, hS, hT, hzu⟩
  clear hW4 hr4
  generalize w4.heap.size = m at *
  generalize hn0 : w.heap.size = n0 at *
  have HN0 := Lib.hid hn0
  clear hn0
  have HM := Lib.hid hM
  have hz0 : W.heap.size ≤ n0 := hz
  have hn0u : n0 < u.heap.size := by omega
  have cd0 : u.cell? ⟨m, 0, none⟩ = some (.int .u8 3) := cell_of_lit hD 0
  have cd1 : u.cell? ⟨m, 1, none⟩ = some (.int .i64 5) := cell_of_lit hD 1
  have cd2 : u.cell? ⟨m, 2, none⟩ = some (.int .i64 0) := cell_of_lit hD 2
  have cd3 : u.cell? ⟨m, 3, none⟩ = some (.bool false) := cell_of_lit hD 3
  have cd4 : u.cell? ⟨m, 4, none⟩ = some (.bool false) := cell_of_lit hD 4
  have cs0 : u.cell? ⟨m + 1 + 1, 0, none⟩ = some (.int .u8 5) := cell_of_lit hS 0
  have cs1 : u.cell? ⟨m + 1 + 1, 1, none⟩ = some (.int .i64 5) := cell_of_lit hS 1
  have cs2 : u.cell? ⟨m + 1 + 1, 2, none⟩ = some (.int .i64 0) := cell_of_lit hS 2
  have cs3 : u.cell? ⟨m + 1 + 1, 3, none⟩ = some (.bool false) := cell_of_lit hS 3
  have cs4 : u.cell? ⟨m + 1 + 1, 4, none⟩ = some (.bool false) := cell_of_lit hS 4
  have R := Lib.hid hr
  clear hr hD hP hS hT
  have gd0 := fun d os => cell_regrown cd0 d os
  have gd1 := fun d os => cell_regrown cd1 d os
  have gd2 := fun d os => cell_regrown cd2 d os
  have gd3 := fun d os => cell_regrown cd3 d os
  have gd4 := fun d os => cell_regrown cd4 d os
  have gs0 := fun d os => cell_regrown cs0 d os
  have gs1 := fun d os => cell_regrown cs1 d os
  have gs2 := fun d os => cell_regrown cs2 d os
  have gs3 := fun d os => cell_regrown cs3 d os
  have gs4 := fun d os => cell_regrown cs4 d os
  go_wp2_with (fail)
  refine wp_region_made 4 [0] [1, 2, 3] (by kernel_rfl) (by kernel_rfl) (by intro c a d v w h; cases d <;> exact h) ?_
  simp only [moved, moveOf, Act.put, Act.eval, picked, List.foldr_cons, List.foldr_nil, Option.elim_some, List.getElem?_toArray, List.getElem?_cons_zero, List.getElem?_cons_succ, List.setIfInBounds_toArray, List.set_cons_zero, List.set_cons_succ, List.drop_succ_cons, List.drop_zero, Array.getD_eq_getD_getElem?, Option.getD_some]
  repeat (go_big_quiet_step ((first | (go_at_call 64; exact (plain_any _ _ u).again _ _) | (go_at_call 67; exact (wide_any _ _ _ u).again _ _))))
  refine wpQuiet_nil ?_
  intro v hv
  clear cd0 gd0 cd1 gd1 cd2 gd2 cd3 gd3 cd4 gd4 cs0 gs0 cs1 gs1 cs2 gs2 cs3 gs3 cs4 gs4
  go_wp2_with (fail)
  have hzv := hv.size
  have hva : Made u (v.alloc (.cells (flatF [fD, fS, fU5]).toArray 51)) := hv.alloc hzv _
  have ho := World.ownsRow_lit (base := u.heap.size) (e := 51) (size := 5) v (flatF [fD, fS, fU5]).toArray 3 hzv (by unfold maxLen; omega) rfl
  refine (row_any 17 2 _ _ _ (by decide) (by decide) (by decide) _ (hN.made (Made.trans hM hva)) _ (Made.refl _)).mono ?_
  rintro e w6 ⟨rfl, h6'⟩
  have HO := Lib.hid (owns_made ho h6')
  have h6 := Made.trans hva h6'
  clear ho h6' hva
  have hr6 := h6.heap R.out
  have c0 : w6.cell? ⟨n0, 0, none⟩ = some (.int .u8 0) := cell_of_lit hr6 0
  have c1 : w6.cell? ⟨n0, 1, none⟩ = some (.string { data := #[] }) := cell_of_lit hr6 1
  have c2 : w6.cell? ⟨n0, 2, none⟩ = some (.int .u8 0) := cell_of_lit hr6 2
  have c3 : w6.cell? ⟨n0, 3, none⟩ = some (.int .u8 0) := cell_of_lit hr6 3
  have c4 : w6.cell? ⟨n0, 4, none⟩ = some (.slice none 0 0) := cell_of_lit hr6 4
  have fz := free_of_lit hr6
  have H6 := Lib.hid h6
  clear hr6 h6 hv hM
  go_wp2
  refine bodyPost_ret (v := .agg #[.int .u8 17, .string (nameZ 17), .int .u8 2, .int .u8 (slotsZ 2), .slice (some ⟨v.heap.size, 0, none⟩) 3 3]) (by simp [results, Tryz.results46, go_sem, c0, c1, c2, c3, c4]) rfl ?_
  exact ⟨_, _, _, rfl, row_close HM.out H6.out hz0 hn0u HO.out _ _ _ _ _⟩
set_option maxRecDepth 100000 in
set_option maxHeartbeats 1000000 in
theorem rowOf_18 (W : World) (hN : Names W) (w : World) (hm : Made W w) : Calls Tryz.prog 46 #[.int .u8 18] w (IsRowOf W 18) := by
  have hz := hm.size
  go_enter Tryz.func46, Tryz.ntmps46
  go_wp2_with (fail)
  refine (plain_any _ _ _ _ (Made.refl _)).mono ?_
  rintro e w1 ⟨rfl, h1⟩
  go_wp2_with (fail)
  refine (plain_any _ _ _ _ (h1)).mono ?_
  rintro e w2 ⟨rfl, h2⟩
  go_wp2_with (fail)
  refine (plain_any _ _ _ _ (h2)).mono ?_
  rintro e w3 ⟨rfl, h3⟩
  go_wp2_with (fail)
  refine (plain_any _ _ _ _ (h3)).mono ?_
  rintro e w4 ⟨rfl, h4⟩
  clear h1 h2 h3
  have hz4 : w.heap.size < w4.heap.size := by have := h4.size; simp only [World.size_alloc] at this; omega
  have hW4 : Made W w4 := Made.trans (hm.alloc hz _) h4
  have hr4 : w4.heap[w.heap.size]? = some (.cells rowLit 98 (0, 0)) := h4.heap (heap_alloc_new w _)
  clear h4
  go_upto_region 2 with (fail)
  refine name_world (fun u => RowVars W w.heap.size w4.heap.size u) (rowVars_of hW4 hz4 hr4) ?_
  rintro u ⟨hM, hr, hD, hP, hS, hT, hzu⟩
  clear hW4 hr4
  generalize w4.heap.size = m at *
  generalize hn0 : w.heap.size = n0 at *
  have HN0 := Lib.hid hn0
  clear hn0
  have HM := Lib.hid hM
  have hz0 : W.heap.size ≤ n0 := hz
  have hn0u : n0 < u.heap.size := by omega
  have cd0 : u.cell? ⟨m, 0, none⟩ = some (.int .u8 3) := cell_of_lit hD 0
  have cd1 : u.cell? ⟨m, 1, none⟩ = some (.int .i64 5) := cell_of_lit hD 1
  have cd2 : u.cell? ⟨m, 2, none⟩ = some (.int .i64 0) := cell_of_lit hD 2
  have cd3 : u.cell? ⟨m, 3, none⟩ = some (.bool false) := cell_of_lit hD 3
  have cd4 : u.cell? ⟨m, 4, none⟩ = some (.bool false) := cell_of_lit hD 4
  have cs0 : u.cell? ⟨m + 1 + 1, 0, none⟩ = some (.int .u8 5) := cell_of_lit hS 0
  have cs1 : u.cell? ⟨m + 1 + 1, 1, none⟩ = some (.int .i64 5) := cell_of_lit hS 1
  have cs2 : u.cell? ⟨m + 1 + 1, 2, none⟩ = some (.int .i64 0) := cell_of_lit hS 2
  have cs3 : u.cell? ⟨m + 1 + 1, 3, none⟩ = some (.bool false) := cell_of_lit hS 3
  have cs4 : u.cell? ⟨m + 1 + 1, 4, none⟩ = some (.bool false) := cell_of_lit hS 4
  have ct0 : u.cell? ⟨m + 1 + 1 + 1, 0, none⟩ = some (.int .u8 6) := cell_of_lit hT 0
  have ct1 : u.cell? ⟨m + 1 + 1 + 1, 1, none⟩ = some (.int .i64 5) := cell_of_lit hT 1
  have ct2 : u.cell? ⟨m + 1 + 1 + 1, 2, none⟩ = some (.int .i64 0) := cell_of_lit hT 2
  have ct3 : u.cell? ⟨m + 1 + 1 + 1, 3, none⟩ = some (.bool false) := cell_of_lit hT 3
  have ct4 : u.cell? ⟨m + 1 + 1 + 1, 4, none⟩ = some (.bool false) := cell_of_lit hT 4
  have R := Lib.hid hr
  clear hr hD hP hS hT
  have hv : Made u u := Made.refl u
  go_wp2_with (fail)
  try clear cd0 cd1 cd2 cd3 cd4 cs0 cs1 cs2 cs3 cs4 ct0 ct1 ct2 ct3 ct4
  have hzv := hv.size
  have hva : Made u (u.alloc (.cells (flatF [fD, fS, fT]).toArray 51)) := hv.alloc hzv _
  have ho := World.ownsRow_lit (base := u.heap.size) (e := 51) (size := 5) u (flatF [fD, fS, fT]).toArray 3 hzv (by unfold maxLen; omega) rfl
  refine (row_any 18 2 _ _ _ (by decide) (by decide) (by decide) _ (hN.made (Made.trans hM hva)) _ (Made.refl _)).mono ?_
  rintro e w6 ⟨rfl, h6'⟩
  have HO := Lib.hid (owns_made ho h6')
  have h6 := Made.trans hva h6'
  clear ho h6' hva
  have hr6 := h6.heap R.out
  have c0 : w6.cell? ⟨n0, 0, none⟩ = some (.int .u8 0) := cell_of_lit hr6 0
  have c1 : w6.cell? ⟨n0, 1, none⟩ = some (.string { data := #[] }) := cell_of_lit hr6 1
  have c2 : w6.cell? ⟨n0, 2, none⟩ = some (.int .u8 0) := cell_of_lit hr6 2
  have c3 : w6.cell? ⟨n0, 3, none⟩ = some (.int .u8 0) := cell_of_lit hr6 3
  have c4 : w6.cell? ⟨n0, 4, none⟩ = some (.slice none 0 0) := cell_of_lit hr6 4
  have fz := free_of_lit hr6
  have H6 := Lib.hid h6
  clear hr6 h6 hv hM
  go_wp2
  refine bodyPost_ret (v := .agg #[.int .u8 18, .string (nameZ 18), .int .u8 2, .int .u8 (slotsZ 2), .slice (some ⟨u.heap.size, 0, none⟩) 3 3]) (by simp [results, Tryz.results46, go_sem, c0, c1, c2, c3, c4]) rfl ?_
  exact ⟨_, _, _, rfl, row_close HM.out H6.out hz0 hn0u HO.out _ _ _ _ _⟩
set_option maxRecDepth 100000 in
set_option maxHeartbeats 1000000 in
theorem rowOf_19 (W : World) (hN : Names W) (w : World) (hm : Made W w) : Calls Tryz.prog 46 #[.int .u8 19] w (IsRowOf W 19) := by
  have hz := hm.size
  go_enter Tryz.func46, Tryz.ntmps46
  go_wp2_with (fail)
  refine (plain_any _ _ _ _ (Made.refl _)).mono ?_
  rintro e w1 ⟨rfl, h1⟩
  go_wp2_with (fail)
  refine (plain_any _ _ _ _ (h1)).mono ?_
  rintro e w2 ⟨rfl, h2⟩
  go_wp2_with (fail)
  refine (plain_any _ _ _ _ (h2)).mono ?_
  rintro e w3 ⟨rfl, h3⟩
  go_wp2_with (fail)
  refine (plain_any _ _ _ _ (h3)).mono ?_
  rintro e w4 ⟨rfl, h4⟩
  clear h1 h2 h3
  have hz4 : w.heap.size < w4.heap.size := by have := h4.size; simp only [World.size_alloc] at this; omega
  have hW4 : Made W w4 := Made.trans (hm.alloc hz _) h4
  have hr4 : w4.heap[w.heap.size]? = some (.cells rowLit 98 (0, 0)) := h4.heap (heap_alloc_new w _)
  clear h4
  go_upto_region 2 with (fail)
  refine name_world (fun u => RowVars W w.heap.size w4.heap.size u) (rowVars_of hW4 hz4 hr4) ?_
  rintro u ⟨hM, hr, hD, hP, hS, hT, hzu⟩
  clear hW4 hr4
  generalize w4.heap.size = m at *
  generalize hn0 : w.heap.size = n0 at *
  have HN0 := Lib.hid hn0
  clear hn0
  have HM := Lib.hid hM
  have hz0 : W.heap.size ≤ n0 := hz
  have hn0u : n0 < u.heap.size := by omega
  have cd0 : u.cell? ⟨m, 0, none⟩ = some (.int .u8 3) := cell_of_lit hD 0
  have cd1 : u.cell? ⟨m, 1, none⟩ = some (.int .i64 5) := cell_of_lit hD 1
  have cd2 : u.cell? ⟨m, 2, none⟩ = some (.int .i64 0) := cell_of_lit hD 2
  have cd3 : u.cell? ⟨m, 3, none⟩ = some (.bool false) := cell_of_lit hD 3
  have cd4 : u.cell? ⟨m, 4, none⟩ = some (.bool false) := cell_of_lit hD 4
  have cs0 : u.cell? ⟨m + 1 + 1, 0, none⟩ = some (.int .u8 5) := cell_of_lit hS 0
  have cs1 : u.cell? ⟨m + 1 + 1, 1, none⟩ = some (.int .i64 5) := cell_of_lit hS 1
  have cs2 : u.cell? ⟨m + 1 + 1, 2, none⟩ = some (.int .i64 0) := cell_of_lit hS 2
  have cs3 : u.cell? ⟨m + 1 + 1, 3, none⟩ = some (.bool false) := cell_of_lit hS 3
  have cs4 : u.cell? ⟨m + 1 + 1, 4, none⟩ = some (.bool false) := cell_of_lit hS 4
  have ct0 : u.cell? ⟨m + 1 + 1 + 1, 0, none⟩ = some (.int .u8 6) := cell_of_lit hT 0
  have ct1 : u.cell? ⟨m + 1 + 1 + 1, 1, none⟩ = some (.int .i64 5) := cell_of_lit hT 1
  have ct2 : u.cell? ⟨m + 1 + 1 + 1, 2, none⟩ = some (.int .i64 0) := cell_of_lit hT 2
  have ct3 : u.cell? ⟨m + 1 + 1 + 1, 3, none⟩ = some (.bool false) := cell_of_lit hT 3
  have ct4 : u.cell? ⟨m + 1 + 1 + 1, 4, none⟩ = some (.bool false) := cell_of_lit hT 4
  have R := Lib.hid hr
  clear hr hD hP hS hT
  have hv : Made u u := Made.refl u
  go_wp2_with (fail)
  try clear cd0 cd1 cd2 cd3 cd4 cs0 cs1 cs2 cs3 cs4 ct0 ct1 ct2 ct3 ct4
  have hzv := hv.size
  have hva : Made u (u.alloc (.cells (flatF [fD, fS, fT]).toArray 51)) := hv.alloc hzv _
  have ho := World.ownsRow_lit (base := u.heap.size) (e := 51) (size := 5) u (flatF [fD, fS, fT]).toArray 3 hzv (by unfold maxLen; omega) rfl
  refine (row_any 19 2 _ _ _ (by decide) (by decide) (by decide) _ (hN.made (Made.trans hM hva)) _ (Made.refl _)).mono ?_
  rintro e w6 ⟨rfl, h6'⟩
  have HO := Lib.hid (owns_made ho h6')
  have h6 := Made.trans hva h6'
  clear ho h6' hva
  have hr6 := h6.heap R.out
  have c0 : w6.cell? ⟨n0, 0, none⟩ = some (.int .u8 0) := cell_of_lit hr6 0
  have c1 : w6.cell? ⟨n0, 1, none⟩ = some (.string { data := #[] }) := cell_of_lit hr6 1
  have c2 : w6.cell? ⟨n0, 2, none⟩ = some (.int .u8 0) := cell_of_lit hr6 2
  have c3 : w6.cell? ⟨n0, 3, none⟩ = some (.int .u8 0) := cell_of_lit hr6 3
  have c4 : w6.cell? ⟨n0, 4, none⟩ = some (.slice none 0 0) := cell_of_lit hr6 4
  have fz := free_of_lit hr6
  have H6 := Lib.hid h6
  clear hr6 h6 hv hM
  go_wp2
  refine bodyPost_ret (v := .agg #[.int .u8 19, .string (nameZ 19), .int .u8 2, .int .u8 (slotsZ 2), .slice (some ⟨u.heap.size, 0, none⟩) 3 3]) (by simp [results, Tryz.results46, go_sem, c0, c1, c2, c3, c4]) rfl ?_
  exact ⟨_, _, _, rfl, row_close HM.out H6.out hz0 hn0u HO.out _ _ _ _ _⟩
set_option maxRecDepth 100000 in
set_option maxHeartbeats 1000000 in
theorem rowOf_20 (W : World) (hN : Names W) (w : World) (hm : Made W w) : Calls Tryz.prog 46 #[.int .u8 20] w (IsRowOf W 20) := by
  have hz := hm.size
  go_enter Tryz.func46, Tryz.ntmps46
  go_wp2_with (fail)
  refine (plain_any _ _ _ _ (Made.refl _)).mono ?_
  rintro e w1 ⟨rfl, h1⟩
  go_wp2_with (fail)
  refine (plain_any _ _ _ _ (h1)).mono ?_
  rintro e w2 ⟨rfl, h2⟩
  go_wp2_with (fail)
  refine (plain_any _ _ _ _ (h2)).mono ?_
  rintro e w3 ⟨rfl, h3⟩
  go_wp2_with (fail)
  refine (plain_any _ _ _ _ (h3)).mono ?_
  rintro e w4 ⟨rfl, h4⟩
  clear h1 h2 h3
  have hz4 : w.heap.size < w4.heap.size := by have := h4.size; simp only [World.size_alloc] at this; omega
  have hW4 : Made W w4 := Made.trans (hm.alloc hz _) h4
  have hr4 : w4.heap[w.heap.size]? = some (.cells rowLit 98 (0, 0)) := h4.heap (heap_alloc_new w _)
  clear h4
  go_upto_region 2 with (fail)
  refine name_world (fun u => RowVars W w.heap.size w4.heap.size u) (rowVars_of hW4 hz4 hr4) ?_
  rintro u ⟨hM, hr, hD, hP, hS, hT, hzu⟩
  clear hW4 hr4
  generalize w4.heap.size = m at *
  generalize hn0 : w.heap.size = n0 at *
  have HN0 := Lib.hid hn0
  clear hn0
  have HM := Lib.hid hM
  have hz0 : W.heap.size ≤ n0 := hz
  have hn0u : n0 < u.heap.size := by omega
  have cd0 : u.cell? ⟨m, 0, none⟩ = some (.int .u8 3) := cell_of_lit hD 0
  have cd1 : u.cell? ⟨m, 1, none⟩ = some (.int .i64 5) := cell_of_lit hD 1
  have cd2 : u.cell? ⟨m, 2, none⟩ = some (.int .i64 0) := cell_of_lit hD 2
  have cd3 : u.cell? ⟨m, 3, none⟩ = some (.bool false) := cell_of_lit hD 3
  have cd4 : u.cell? ⟨m, 4, none⟩ = some (.bool false) := cell_of_lit hD 4
  have cs0 : u.cell? ⟨m + 1 + 1, 0, none⟩ = some (.int .u8 5) := cell_of_lit hS 0
  have cs1 : u.cell? ⟨m + 1 + 1, 1, none⟩ = some (.int .i64 5) := cell_of_lit hS 1
  have cs2 : u.cell? ⟨m + 1 + 1, 2, none⟩ = some (.int .i64 0) := cell_of_lit hS 2
  have cs3 : u.cell? ⟨m + 1 + 1, 3, none⟩ = some (.bool false) := cell_of_lit hS 3
  have cs4 : u.cell? ⟨m + 1 + 1, 4, none⟩ = some (.bool false) := cell_of_lit hS 4
  have ct0 : u.cell? ⟨m + 1 + 1 + 1, 0, none⟩ = some (.int .u8 6) := cell_of_lit hT 0
  have ct1 : u.cell? ⟨m + 1 + 1 + 1, 1, none⟩ = some (.int .i64 5) := cell_of_lit hT 1
  have ct2 : u.cell? ⟨m + 1 + 1 + 1, 2, none⟩ = some (.int .i64 0) := cell_of_lit hT 2
  have ct3 : u.cell? ⟨m + 1 + 1 + 1, 3, none⟩ = some (.bool false) := cell_of_lit hT 3
  have ct4 : u.cell? ⟨m + 1 + 1 + 1, 4, none⟩ = some (.bool false) := cell_of_lit hT 4
  have R := Lib.hid hr
  clear hr hD hP hS hT
  have hv : Made u u := Made.refl u
  go_wp2_with (fail)
  try clear cd0 cd1 cd2 cd3 cd4 cs0 cs1 cs2 cs3 cs4 ct0 ct1 ct2 ct3 ct4
  have hzv := hv.size
  have hva : Made u (u.alloc (.cells (flatF [fD, fS, fT]).toArray 51)) := hv.alloc hzv _
  have ho := World.ownsRow_lit (base := u.heap.size) (e := 51) (size := 5) u (flatF [fD, fS, fT]).toArray 3 hzv (by unfold maxLen; omega) rfl
  refine (row_any 20 2 _ _ _ (by decide) (by decide) (by decide) _ (hN.made (Made.trans hM hva)) _ (Made.refl _)).mono ?_
  rintro e w6 ⟨rfl, h6'⟩
  have HO := Lib.hid (owns_made ho h6')
  have h6 := Made.trans hva h6'
  clear ho h6' hva
  have hr6 := h6.heap R.out
  have c0 : w6.cell? ⟨n0, 0, none⟩ = some (.int .u8 0) := cell_of_lit hr6 0
  have c1 : w6.cell? ⟨n0, 1, none⟩ = some (.string { data := #[] }) := cell_of_lit hr6 1
  have c2 : w6.cell? ⟨n0, 2, none⟩ = some (.int .u8 0) := cell_of_lit hr6 2
  have c3 : w6.cell? ⟨n0, 3, none⟩ = some (.int .u8 0) := cell_of_lit hr6 3
  have c4 : w6.cell? ⟨n0, 4, none⟩ = some (.slice none 0 0) := cell_of_lit hr6 4
  have fz := free_of_lit hr6
  have H6 := Lib.hid h6
  clear hr6 h6 hv hM
  go_wp2
  refine bodyPost_ret (v := .agg #[.int .u8 20, .string (nameZ 20), .int .u8 2, .int .u8 (slotsZ 2), .slice (some ⟨u.heap.size, 0, none⟩) 3 3]) (by simp [results, Tryz.results46, go_sem, c0, c1, c2, c3, c4]) rfl ?_
  exact ⟨_, _, _, rfl, row_close HM.out H6.out hz0 hn0u HO.out _ _ _ _ _⟩
set_option maxRecDepth 100000 in
set_option maxHeartbeats 1000000 in
theorem rowOf_21 (W : World) (hN : Names W) (w : World) (hm : Made W w) : Calls Tryz.prog 46 #[.int .u8 21] w (IsRowOf W 21) := by
  have hz := hm.size
  go_enter Tryz.func46, Tryz.ntmps46
  go_wp2_with (fail)
  refine (plain_any _ _ _ _ (Made.refl _)).mono ?_
  rintro e w1 ⟨rfl, h1⟩
  go_wp2_with (fail)
  refine (plain_any _ _ _ _ (h1)).mono ?_
  rintro e w2 ⟨rfl, h2⟩
  go_wp2_with (fail)
  refine (plain_any _ _ _ _ (h2)).mono ?_
  rintro e w3 ⟨rfl, h3⟩
  go_wp2_with (fail)
  refine (plain_any _ _ _ _ (h3)).mono ?_
  rintro e w4 ⟨rfl, h4⟩
  clear h1 h2 h3
  have hz4 : w.heap.size < w4.heap.size := by have := h4.size; simp only [World.size_alloc] at this; omega
  have hW4 : Made W w4 := Made.trans (hm.alloc hz _) h4
  have hr4 : w4.heap[w.heap.size]? = some (.cells rowLit 98 (0, 0)) := h4.heap (heap_alloc_new w _)
  clear h4
  go_upto_region 2 with (fail)
  refine name_world (fun u => RowVars W w.heap.size w4.heap.size u) (rowVars_of hW4 hz4 hr4) ?_
  rintro u ⟨hM, hr, hD, hP, hS, hT, hzu⟩
  clear hW4 hr4
  generalize w4.heap.size = m at *
  generalize hn0 : w.heap.size = n0 at *
  have HN0 := Lib.hid hn0
  clear hn0
  have HM := Lib.hid hM
  have hz0 : W.heap.size ≤ n0 := hz
  have hn0u : n0 < u.heap.size := by omega
  have cd0 : u.cell? ⟨m, 0, none⟩ = some (.int .u8 3) := cell_of_lit hD 0
  have cd1 : u.cell? ⟨m, 1, none⟩ = some (.int .i64 5) := cell_of_lit hD 1
  have cd2 : u.cell? ⟨m, 2, none⟩ = some (.int .i64 0) := cell_of_lit hD 2
  have cd3 : u.cell? ⟨m, 3, none⟩ = some (.bool false) := cell_of_lit hD 3
  have cd4 : u.cell? ⟨m, 4, none⟩ = some (.bool false) := cell_of_lit hD 4
  have cs0 : u.cell? ⟨m + 1 + 1, 0, none⟩ = some (.int .u8 5) := cell_of_lit hS 0
  have cs1 : u.cell? ⟨m + 1 + 1, 1, none⟩ = some (.int .i64 5) := cell_of_lit hS 1
  have cs2 : u.cell? ⟨m + 1 + 1, 2, none⟩ = some (.int .i64 0) := cell_of_lit hS 2
  have cs3 : u.cell? ⟨m + 1 + 1, 3, none⟩ = some (.bool false) := cell_of_lit hS 3
  have cs4 : u.cell? ⟨m + 1 + 1, 4, none⟩ = some (.bool false) := cell_of_lit hS 4
  have R := Lib.hid hr
  clear hr hD hP hS hT
  have gd0 := fun d os => cell_regrown cd0 d os
  have gd1 := fun d os => cell_regrown cd1 d os
  have gd2 := fun d os => cell_regrown cd2 d os
  have gd3 := fun d os => cell_regrown cd3 d os
  have gd4 := fun d os => cell_regrown cd4 d os
  have gs0 := fun d os => cell_regrown cs0 d os
  have gs1 := fun d os => cell_regrown cs1 d os
  have gs2 := fun d os => cell_regrown cs2 d os
  have gs3 := fun d os => cell_regrown cs3 d os
  have gs4 := fun d os => cell_regrown cs4 d os
  go_wp2_with (fail)
  refine wp_region_made 6 [0, 3] [1, 2, 4, 5] (by kernel_rfl) (by kernel_rfl) (by intro c a d v w h; cases d <;> exact h) ?_
  simp only [moved, moveOf, Act.put, Act.eval, picked, List.foldr_cons, List.foldr_nil, Option.elim_some, List.getElem?_toArray, List.getElem?_cons_zero, List.getElem?_cons_succ, List.setIfInBounds_toArray, List.set_cons_zero, List.set_cons_succ, List.drop_succ_cons, List.drop_zero, Array.getD_eq_getD_getElem?, Option.getD_some]
  repeat (go_big_quiet_step ((first | (go_at_call 64; exact (plain_any _ _ u).again _ _) | (go_at_call 67; exact (wide_any _ _ _ u).again _ _) | (go_at_call 68; exact ((shift_21).makes u).again _ _))))
  refine wpQuiet_nil ?_
  intro v hv
  clear cd0 gd0 cd1 gd1 cd2 gd2 cd3 gd3 cd4 gd4 cs0 gs0 cs1 gs1 cs2 gs2 cs3 gs3 cs4 gs4
  go_wp2_with (fail)
  have hzv := hv.size
  have hva : Made u (v.alloc (.cells (flatF [fD, fS, fI122]).toArray 51)) := hv.alloc hzv _
  have ho := World.ownsRow_lit (base := u.heap.size) (e := 51) (size := 5) v (flatF [fD, fS, fI122]).toArray 3 hzv (by unfold maxLen; omega) rfl
  refine (row_any 21 3 _ _ _ (by decide) (by decide) (by decide) _ (hN.made (Made.trans hM hva)) _ (Made.refl _)).mono ?_
  rintro e w6 ⟨rfl, h6'⟩
  have HO := Lib.hid (owns_made ho h6')
  have h6 := Made.trans hva h6'
  clear ho h6' hva
  have hr6 := h6.heap R.out
  have c0 : w6.cell? ⟨n0, 0, none⟩ = some (.int .u8 0) := cell_of_lit hr6 0
  have c1 : w6.cell? ⟨n0, 1, none⟩ = some (.string { data := #[] }) := cell_of_lit hr6 1
  have c2 : w6.cell? ⟨n0, 2, none⟩ = some (.int .u8 0) := cell_of_lit hr6 2
  have c3 : w6.cell? ⟨n0, 3, none⟩ = some (.int .u8 0) := cell_of_lit hr6 3
  have c4 : w6.cell? ⟨n0, 4, none⟩ = some (.slice none 0 0) := cell_of_lit hr6 4
  have fz := free_of_lit hr6
  have H6 := Lib.hid h6
  clear hr6 h6 hv hM
  go_wp2
  refine bodyPost_ret (v := .agg #[.int .u8 21, .string (nameZ 21), .int .u8 3, .int .u8 (slotsZ 3), .slice (some ⟨v.heap.size, 0, none⟩) 3 3]) (by simp [results, Tryz.results46, go_sem, c0, c1, c2, c3, c4]) rfl ?_
  exact ⟨_, _, _, rfl, row_close HM.out H6.out hz0 hn0u HO.out _ _ _ _ _⟩
set_option maxRecDepth 100000 in
set_option maxHeartbeats 1000000 in
theorem rowOf_22 (W : World) (hN : Names W) (w : World) (hm : Made W w) : Calls Tryz.prog 46 #[.int .u8 22] w (IsRowOf W 22) := by
  have hz := hm.size
  go_enter Tryz.func46, Tryz.ntmps46
  go_wp2_with (fail)
  refine (plain_any _ _ _ _ (Made.refl _)).mono ?_
  rintro e w1 ⟨rfl, h1⟩
  go_wp2_with (fail)
  refine (plain_any _ _ _ _ (h1)).mono ?_
  rintro e w2 ⟨rfl, h2⟩
  go_wp2_with (fail)
  refine (plain_any _ _ _ _ (h2)).mono ?_
  rintro e w3 ⟨rfl, h3⟩
  go_wp2_with (fail)
  refine (plain_any _ _ _ _ (h3)).mono ?_
  rintro e w4 ⟨rfl, h4⟩
  clear h1 h2 h3
  have hz4 : w.heap.size < w4.heap.size := by have := h4.size; simp only [World.size_alloc] at this; omega
  have hW4 : Made W w4 := Made.trans (hm.alloc hz _) h4
  have hr4 : w4.heap[w.heap.size]? = some (.cells rowLit 98 (0, 0)) := h4.heap (heap_alloc_new w _)
  clear h4
  go_upto_region 2 with (fail)
  refine name_world (fun u => RowVars W w.heap.size w4.heap.size u) (rowVars_of hW4 hz4 hr4) ?_
  rintro u ⟨hM, hr, hD, hP, hS, hT, hzu⟩
  clear hW4 hr4
  generalize w4.heap.size = m at *
  generalize hn0 : w.heap.size = n0 at *
  have HN0 := Lib.hid hn0
  clear hn0
  have HM := Lib.hid hM
  have hz0 : W.heap.size ≤ n0 := hz
  have hn0u : n0 < u.heap.size := by omega
  have cd0 : u.cell? ⟨m, 0, none⟩ = some (.int .u8 3) := cell_of_lit hD 0
  have cd1 : u.cell? ⟨m, 1, none⟩ = some (.int .i64 5) := cell_of_lit hD 1
  have cd2 : u.cell? ⟨m, 2, none⟩ = some (.int .i64 0) := cell_of_lit hD 2
  have cd3 : u.cell? ⟨m, 3, none⟩ = some (.bool false) := cell_of_lit hD 3
  have cd4 : u.cell? ⟨m, 4, none⟩ = some (.bool false) := cell_of_lit hD 4
  have cs0 : u.cell? ⟨m + 1 + 1, 0, none⟩ = some (.int .u8 5) := cell_of_lit hS 0
  have cs1 : u.cell? ⟨m + 1 + 1, 1, none⟩ = some (.int .i64 5) := cell_of_lit hS 1
  have cs2 : u.cell? ⟨m + 1 + 1, 2, none⟩ = some (.int .i64 0) := cell_of_lit hS 2
  have cs3 : u.cell? ⟨m + 1 + 1, 3, none⟩ = some (.bool false) := cell_of_lit hS 3
  have cs4 : u.cell? ⟨m + 1 + 1, 4, none⟩ = some (.bool false) := cell_of_lit hS 4
  have R := Lib.hid hr
  clear hr hD hP hS hT
  have gd0 := fun d os => cell_regrown cd0 d os
  have gd1 := fun d os => cell_regrown cd1 d os
  have gd2 := fun d os => cell_regrown cd2 d os
  have gd3 := fun d os => cell_regrown cd3 d os
  have gd4 := fun d os => cell_regrown cd4 d os
  have gs0 := fun d os => cell_regrown cs0 d os
  have gs1 := fun d os => cell_regrown cs1 d os
  have gs2 := fun d os => cell_regrown cs2 d os
  have gs3 := fun d os => cell_regrown cs3 d os
  have gs4 := fun d os => cell_regrown cs4 d os
  go_wp2_with (fail)
  refine wp_region_made 6 [0, 3] [1, 2, 4, 5] (by kernel_rfl) (by kernel_rfl) (by intro c a d v w h; cases d <;> exact h) ?_
  simp only [moved, moveOf, Act.put, Act.eval, picked, List.foldr_cons, List.foldr_nil, Option.elim_some, List.getElem?_toArray, List.getElem?_cons_zero, List.getElem?_cons_succ, List.setIfInBounds_toArray, List.set_cons_zero, List.set_cons_succ, List.drop_succ_cons, List.drop_zero, Array.getD_eq_getD_getElem?, Option.getD_some]
  repeat (go_big_quiet_step ((first | (go_at_call 64; exact (plain_any _ _ u).again _ _) | (go_at_call 67; exact (wide_any _ _ _ u).again _ _) | (go_at_call 68; exact ((shift_22).makes u).again _ _))))
  refine wpQuiet_nil ?_
  intro v hv
  clear cd0 gd0 cd1 gd1 cd2 gd2 cd3 gd3 cd4 gd4 cs0 gs0 cs1 gs1 cs2 gs2 cs3 gs3 cs4 gs4
  go_wp2_with (fail)
  have hzv := hv.size
  have hva : Made u (v.alloc (.cells (flatF [fD, fS, fI121]).toArray 51)) := hv.alloc hzv _
  have ho := World.ownsRow_lit (base := u.heap.size) (e := 51) (size := 5) v (flatF [fD, fS, fI121]).toArray 3 hzv (by unfold maxLen; omega) rfl
  refine (row_any 22 3 _ _ _ (by decide) (by decide) (by decide) _ (hN.made (Made.trans hM hva)) _ (Made.refl _)).mono ?_
  rintro e w6 ⟨rfl, h6'⟩
  have HO := Lib.hid (owns_made ho h6')
  have h6 := Made.trans hva h6'
  clear ho h6' hva
  have hr6 := h6.heap R.out
  have c0 : w6.cell? ⟨n0, 0, none⟩ = some (.int .u8 0) := cell_of_lit hr6 0
  have c1 : w6.cell? ⟨n0, 1, none⟩ = some (.string { data := #[] }) := cell_of_lit hr6 1
  have c2 : w6.cell? ⟨n0, 2, none⟩ = some (.int .u8 0) := cell_of_lit hr6 2
  have c3 : w6.cell? ⟨n0, 3, none⟩ = some (.int .u8 0) := cell_of_lit hr6 3
  have c4 : w6.cell? ⟨n0, 4, none⟩ = some (.slice none 0 0) := cell_of_lit hr6 4
  have fz := free_of_lit hr6
  have H6 := Lib.hid h6
  clear hr6 h6 hv hM
  go_wp2
  refine bodyPost_ret (v := .agg #[.int .u8 22, .string (nameZ 22), .int .u8 3, .int .u8 (slotsZ 3), .slice (some ⟨v.heap.size, 0, none⟩) 3 3]) (by simp [results, Tryz.results46, go_sem, c0, c1, c2, c3, c4]) rfl ?_
  exact ⟨_, _, _, rfl, row_close HM.out H6.out hz0 hn0u HO.out _ _ _ _ _⟩
set_option maxRecDepth 100000 in
set_option maxHeartbeats 1000000 in
theorem rowOf_23 (W : World) (hN : Names W) (w : World) (hm : Made W w) : Calls Tryz.prog 46 #[.int .u8 23] w (IsRowOf W 23) := by
  have hz := hm.size
  go_enter Tryz.func46, Tryz.ntmps46
  go_wp2_with (fail)
  refine (plain_any _ _ _ _ (Made.refl _)).mono ?_
  rintro e w1 ⟨rfl, h1⟩
  go_wp2_with (fail)
  refine (plain_any _ _ _ _ (h1)).mono ?_
  rintro e w2 ⟨rfl, h2⟩
  go_wp2_with (fail)
  refine (plain_any _ _ _ _ (h2)).mono ?_
  rintro e w3 ⟨rfl, h3⟩
  go_wp2_with (fail)
  refine (plain_any _ _ _ _ (h3)).mono ?_
  rintro e w4 ⟨rfl, h4⟩
  clear h1 h2 h3
  have hz4 : w.heap.size < w4.heap.size := by have := h4.size; simp only [World.size_alloc] at this; omega
  have hW4 : Made W w4 := Made.trans (hm.alloc hz _) h4
  have hr4 : w4.heap[w.heap.size]? = some (.cells rowLit 98 (0, 0)) := h4.heap (heap_alloc_new w _)
  clear h4
  go_upto_region 2 with (fail)
  refine name_world (fun u => RowVars W w.heap.size w4.heap.size u) (rowVars_of hW4 hz4 hr4) ?_
  rintro u ⟨hM, hr, hD, hP, hS, hT, hzu⟩
  clear hW4 hr4
  generalize w4.heap.size = m at *
  generalize hn0 : w.heap.size = n0 at *
  have HN0 := Lib.hid hn0
  clear hn0
  have HM := Lib.hid hM
  have hz0 : W.heap.size ≤ n0 := hz
  have hn0u : n0 < u.heap.size := by omega
  have cd0 : u.cell? ⟨m, 0, none⟩ = some (.int .u8 3) := cell_of_lit hD 0
  have cd1 : u.cell? ⟨m, 1, none⟩ = some (.int .i64 5) := cell_of_lit hD 1
  have cd2 : u.cell? ⟨m, 2, none⟩ = some (.int .i64 0) := cell_of_lit hD 2
  have cd3 : u.cell? ⟨m, 3, none⟩ = some (.bool false) := cell_of_lit hD 3
  have cd4 : u.cell? ⟨m, 4, none⟩ = some (.bool false) := cell_of_lit hD 4
  have cs0 : u.cell? ⟨m + 1 + 1, 0, none⟩ = some (.int .u8 5) := cell_of_lit hS 0
  have cs1 : u.cell? ⟨m + 1 + 1, 1, none⟩ = some (.int .i64 5) := cell_of_lit hS 1
  have cs2 : u.cell? ⟨m + 1 + 1, 2, none⟩ = some (.int .i64 0) := cell_of_lit hS 2
  have cs3 : u.cell? ⟨m + 1 + 1, 3, none⟩ = some (.bool false) := cell_of_lit hS 3
  have cs4 : u.cell? ⟨m + 1 + 1, 4, none⟩ = some (.bool false) := cell_of_lit hS 4
  have R := Lib.hid hr
  clear hr hD hP hS hT
  have gd0 := fun d os => cell_regrown cd0 d os
  have gd1 := fun d os => cell_regrown cd1 d os
  have gd2 := fun d os => cell_regrown cd2 d os
  have gd3 := fun d os => cell_regrown cd3 d os
  have gd4 := fun d os => cell_regrown cd4 d os
  have gs0 := fun d os => cell_regrown cs0 d os
  have gs1 := fun d os => cell_regrown cs1 d os
  have gs2 := fun d os => cell_regrown cs2 d os
  have gs3 := fun d os => cell_regrown cs3 d os
  have gs4 := fun d os => cell_regrown cs4 d os
  go_wp2_with (fail)
  refine wp_region_made 6 [0, 3] [1, 2, 4, 5] (by kernel_rfl) (by kernel_rfl) (by intro c a d v w h; cases d <;> exact h) ?_
  simp only [moved, moveOf, Act.put, Act.eval, picked, List.foldr_cons, List.foldr_nil, Option.elim_some, List.getElem?_toArray, List.getElem?_cons_zero, List.getElem?_cons_succ, List.setIfInBounds_toArray, List.set_cons_zero, List.set_cons_succ, List.drop_succ_cons, List.drop_zero, Array.getD_eq_getD_getElem?, Option.getD_some]
  repeat (go_big_quiet_step ((first | (go_at_call 64; exact (plain_any _ _ u).again _ _) | (go_at_call 67; exact (wide_any _ _ _ u).again _ _) | (go_at_call 68; exact ((shift_23).makes u).again _ _))))
  refine wpQuiet_nil ?_
  intro v hv
  clear cd0 gd0 cd1 gd1 cd2 gd2 cd3 gd3 cd4 gd4 cs0 gs0 cs1 gs1 cs2 gs2 cs3 gs3 cs4 gs4
  go_wp2_with (fail)
  have hzv := hv.size
  have hva : Made u (v.alloc (.cells (flatF [fD, fS, fI12]).toArray 51)) := hv.alloc hzv _
  have ho := World.ownsRow_lit (base := u.heap.size) (e := 51) (size := 5) v (flatF [fD, fS, fI12]).toArray 3 hzv (by unfold maxLen; omega) rfl
  refine (row_any 23 3 _ _ _ (by decide) (by decide) (by decide) _ (hN.made (Made.trans hM hva)) _ (Made.refl _)).mono ?_
  rintro e w6 ⟨rfl, h6'⟩
  have HO := Lib.hid (owns_made ho h6')
  have h6 := Made.trans hva h6'
  clear ho h6' hva
  have hr6 := h6.heap R.out
  have c0 : w6.cell? ⟨n0, 0, none⟩ = some (.int .u8 0) := cell_of_lit hr6 0
  have c1 : w6.cell? ⟨n0, 1, none⟩ = some (.string { data := #[] }) := cell_of_lit hr6 1
  have c2 : w6.cell? ⟨n0, 2, none⟩ = some (.int .u8 0) := cell_of_lit hr6 2
  have c3 : w6.cell? ⟨n0, 3, none⟩ = some (.int .u8 0) := cell_of_lit hr6 3
  have c4 : w6.cell? ⟨n0, 4, none⟩ = some (.slice none 0 0) := cell_of_lit hr6 4
  have fz := free_of_lit hr6
  have H6 := Lib.hid h6
  clear hr6 h6 hv hM
  go_wp2
  refine bodyPost_ret (v := .agg #[.int .u8 23, .string (nameZ 23), .int .u8 3, .int .u8 (slotsZ 3), .slice (some ⟨v.heap.size, 0, none⟩) 3 3]) (by simp [results, Tryz.results46, go_sem, c0, c1, c2, c3, c4]) rfl ?_
  exact ⟨_, _, _, rfl, row_close HM.out H6.out hz0 hn0u HO.out _ _ _ _ _⟩
set_option maxRecDepth 100000 in
set_option maxHeartbeats 1000000 in
theorem rowOf_24 (W : World) (hN : Names W) (w : World) (hm : Made W w) : Calls Tryz.prog 46 #[.int .u8 24] w (IsRowOf W 24) := by
  have hz := hm.size
  go_enter Tryz.func46, Tryz.ntmps46
  go_wp2_with (fail)
  refine (plain_any _ _ _ _ (Made.refl _)).mono ?_
  rintro e w1 ⟨rfl, h1⟩
  go_wp2_with (fail)
  refine (plain_any _ _ _ _ (h1)).mono ?_
  rintro e w2 ⟨rfl, h2⟩
  go_wp2_with (fail)
  refine (plain_any _ _ _ _ (h2)).mono ?_
  rintro e w3 ⟨rfl, h3⟩
  go_wp2_with (fail)
  refine (plain_any _ _ _ _ (h3)).mono ?_
  rintro e w4 ⟨rfl, h4⟩
  clear h1 h2 h3
  have hz4 : w.heap.size < w4.heap.size := by have := h4.size; simp only [World.size_alloc] at this; omega
  have hW4 : Made W w4 := Made.trans (hm.alloc hz _) h4
  have hr4 : w4.heap[w.heap.size]? = some (.cells rowLit 98 (0, 0)) := h4.heap (heap_alloc_new w _)
  clear h4
  go_upto_region 2 with (fail)
  refine name_world (fun u => RowVars W w.heap.size w4.heap.size u) (rowVars_of hW4 hz4 hr4) ?_
  rintro u ⟨hM, hr, hD, hP, hS, hT, hzu⟩
  clear hW4 hr4
  generalize w4.heap.size = m at *
  generalize hn0 : w.heap.size = n0 at *
  have HN0 := Lib.hid hn0
  clear hn0
  have HM := Lib.hid hM
  have hz0 : W.heap.size ≤ n0 := hz
  have hn0u : n0 < u.heap.size := by omega
  have cs0 : u.cell? ⟨m + 1 + 1, 0, none⟩ = some (.int .u8 5) := cell_of_lit hS 0
  have cs1 : u.cell? ⟨m + 1 + 1, 1, none⟩ = some (.int .i64 5) := cell_of_lit hS 1
  have cs2 : u.cell? ⟨m + 1 + 1, 2, none⟩ = some (.int .i64 0) := cell_of_lit hS 2
  have cs3 : u.cell? ⟨m + 1 + 1, 3, none⟩ = some (.bool false) := cell_of_lit hS 3
  have cs4 : u.cell? ⟨m + 1 + 1, 4, none⟩ = some (.bool false) := cell_of_lit hS 4
  have ct0 : u.cell? ⟨m + 1 + 1 + 1, 0, none⟩ = some (.int .u8 6) := cell_of_lit hT 0
  have ct1 : u.cell? ⟨m + 1 + 1 + 1, 1, none⟩ = some (.int .i64 5) := cell_of_lit hT 1
  have ct2 : u.cell? ⟨m + 1 + 1 + 1, 2, none⟩ = some (.int .i64 0) := cell_of_lit hT 2
  have ct3 : u.cell? ⟨m + 1 + 1 + 1, 3, none⟩ = some (.bool false) := cell_of_lit hT 3
  have ct4 : u.cell? ⟨m + 1 + 1 + 1, 4, none⟩ = some (.bool false) := cell_of_lit hT 4
  have R := Lib.hid hr
  clear hr hD hP hS hT
  have gs0 := fun d os => cell_regrown cs0 d os
  have gs1 := fun d os => cell_regrown cs1 d os
  have gs2 := fun d os => cell_regrown cs2 d os
  have gs3 := fun d os => cell_regrown cs3 d os
  have gs4 := fun d os => cell_regrown cs4 d os
  have gt0 := fun d os => cell_regrown ct0 d os
  have gt1 := fun d os => cell_regrown ct1 d os
  have gt2 := fun d os => cell_regrown ct2 d os
  have gt3 := fun d os => cell_regrown ct3 d os
  have gt4 := fun d os => cell_regrown ct4 d os
  go_wp2_with (fail)
  refine wp_region_made 7 [0, 4] [1, 2, 3, 5, 6] (by kernel_rfl) (by kernel_rfl) (by intro c a d v w h; cases d <;> exact h) ?_
  simp only [moved, moveOf, Act.put, Act.eval, picked, List.foldr_cons, List.foldr_nil, Option.elim_some, List.getElem?_toArray, List.getElem?_cons_zero, List.getElem?_cons_succ, List.setIfInBounds_toArray, List.set_cons_zero, List.set_cons_succ, List.drop_succ_cons, List.drop_zero, Array.getD_eq_getD_getElem?, Option.getD_some]
  repeat (go_big_quiet_step ((first | (go_at_call 64; exact (plain_any _ _ u).again _ _) | (go_at_call 67; exact (wide_any _ _ _ u).again _ _) | (go_at_call 68; exact ((shift_24).makes u).again _ _))))
  refine wpQuiet_nil ?_
  intro v hv
  clear cs0 gs0 cs1 gs1 cs2 gs2 cs3 gs3 cs4 gs4 ct0 gt0 ct1 gt1 ct2 gt2 ct3 gt3 ct4 gt4
  go_wp2_with (fail)
  have hzv := hv.size
  have hva : Made u (v.alloc (.cells (flatF [fS, fNew, fT, fI122]).toArray 51)) := hv.alloc hzv _
  have ho := World.ownsRow_lit (base := u.heap.size) (e := 51) (size := 5) v (flatF [fS, fNew, fT, fI122]).toArray 4 hzv (by unfold maxLen; omega) rfl
  refine (row_any 24 4 _ _ _ (by decide) (by decide) (by decide) _ (hN.made (Made.trans hM hva)) _ (Made.refl _)).mono ?_
  rintro e w6 ⟨rfl, h6'⟩
  have HO := Lib.hid (owns_made ho h6')
  have h6 := Made.trans hva h6'
  clear ho h6' hva
  have hr6 := h6.heap R.out
  have c0 : w6.cell? ⟨n0, 0, none⟩ = some (.int .u8 0) := cell_of_lit hr6 0
  have c1 : w6.cell? ⟨n0, 1, none⟩ = some (.string { data := #[] }) := cell_of_lit hr6 1
  have c2 : w6.cell? ⟨n0, 2, none⟩ = some (.int .u8 0) := cell_of_lit hr6 2
  have c3 : w6.cell? ⟨n0, 3, none⟩ = some (.int .u8 0) := cell_of_lit hr6 3
  have c4 : w6.cell? ⟨n0, 4, none⟩ = some (.slice none 0 0) := cell_of_lit hr6 4
  have fz := free_of_lit hr6
  have H6 := Lib.hid h6
  clear hr6 h6 hv hM
  go_wp2
  refine bodyPost_ret (v := .agg #[.int .u8 24, .string (nameZ 24), .int .u8 4, .int .u8 (slotsZ 4), .slice (some ⟨v.heap.size, 0, none⟩) 4 4]) (by simp [results, Tryz.results46, go_sem, c0, c1, c2, c3, c4]) rfl ?_
  exact ⟨_, _, _, rfl, row_close HM.out H6.out hz0 hn0u HO.out _ _ _ _ _⟩
end
section
open Go.ChangeShapes Go.WideShapes Go.ChangeAt Go.RowKit Go.Sort BigFrame

set_option maxRecDepth 100000 in
set_option maxHeartbeats 1000000 in
theorem rowOf_25 (W : World) (hN : Names W) (w : World) (hm : Made W w) : Calls Tryz.prog 46 #[.int .u8 25] w (IsRowOf W 25) := by
  have hz := hm.size
  go_enter Tryz.func46, Tryz.ntmps46
  go_wp2_with (fail)
  refine (plain_any _ _ _ _ (Made.refl _)).mono ?_
  rintro e w1 ⟨rfl, h1⟩
  go_wp2_with (fail)
  refine (plain_any _ _ _ _ (h1)).mono ?_
  rintro e w2 ⟨rfl, h2⟩
  go_wp2_with (fail)
  refine (plain_any _ _ _ _ (h2)).mono ?_
  rintro e w3 ⟨rfl, h3⟩
  go_wp2_with (fail)
  refine (plain_any _ _ _ _ (h3)).mono ?_
  rintro e w4 ⟨rfl, h4⟩
  clear h1 h2 h3
  have hz4 : w.heap.size < w4.heap.size := by have := h4.size; simp only [World.size_alloc] at this; omega
  have hW4 : Made W w4 := Made.trans (hm.alloc hz _) h4
  have hr4 : w4.heap[w.heap.size]? = some (.cells rowLit 98 (0, 0)) := h4.heap (heap_alloc_new w _)
  clear h4
  go_upto_region 2 with (fail)
  refine name_world (fun u => RowVars W w.heap.size w4.heap.size u) (rowVars_of hW4 hz4 hr4) ?_
  rintro u ⟨hM, hr, hD, hP, hS, hT, hzu⟩
  clear hW4 hr4
  generalize w4.heap.size = m at *
  generalize hn0 : w.heap.size = n0 at *
  have HN0 := Lib.hid hn0
  clear hn0
  have HM := Lib.hid hM
  have hz0 : W.heap.size ≤ n0 := hz
  have hn0u : n0 < u.heap.size := by omega
  have cs0 : u.cell? ⟨m + 1 + 1, 0, none⟩ = some (.int .u8 5) := cell_of_lit hS 0
  have cs1 : u.cell? ⟨m + 1 + 1, 1, none⟩ = some (.int .i64 5) := cell_of_lit hS 1
  have cs2 : u.cell? ⟨m + 1 + 1, 2, none⟩ = some (.int .i64 0) := cell_of_lit hS 2
  have cs3 : u.cell? ⟨m + 1 + 1, 3, none⟩ = some (.bool false) := cell_of_lit hS 3
  have cs4 : u.cell? ⟨m + 1 + 1, 4, none⟩ = some (.bool false) := cell_of_lit hS 4
  have ct0 : u.cell? ⟨m + 1 + 1 + 1, 0, none⟩ = some (.int .u8 6) := cell_of_lit hT 0
  have ct1 : u.cell? ⟨m + 1 + 1 + 1, 1, none⟩ = some (.int .i64 5) := cell_of_lit hT 1
  have ct2 : u.cell? ⟨m + 1 + 1 + 1, 2, none⟩ = some (.int .i64 0) := cell_of_lit hT 2
  have ct3 : u.cell? ⟨m + 1 + 1 + 1, 3, none⟩ = some (.bool false) := cell_of_lit hT 3
  have ct4 : u.cell? ⟨m + 1 + 1 + 1, 4, none⟩ = some (.bool false) := cell_of_lit hT 4
  have R := Lib.hid hr
  clear hr hD hP hS hT
  have gs0 := fun d os => cell_regrown cs0 d os
  have gs1 := fun d os => cell_regrown cs1 d os
  have gs2 := fun d os => cell_regrown cs2 d os
  have gs3 := fun d os => cell_regrown cs3 d os
  have gs4 := fun d os => cell_regrown cs4 d os
  have gt0 := fun d os => cell_regrown ct0 d os
  have gt1 := fun d os => cell_regrown ct1 d os
  have gt2 := fun d os => cell_regrown ct2 d os
  have gt3 := fun d os => cell_regrown ct3 d os
  have gt4 := fun d os => cell_regrown ct4 d os
  go_wp2_with (fail)
  refine wp_region_made 7 [0, 4] [1, 2, 3, 5, 6] (by kernel_rfl) (by kernel_rfl) (by intro c a d v w h; cases d <;> exact h) ?_
  simp only [moved, moveOf, Act.put, Act.eval, picked, List.foldr_cons, List.foldr_nil, Option.elim_some, List.getElem?_toArray, List.getElem?_cons_zero, List.getElem?_cons_succ, List.setIfInBounds_toArray, List.set_cons_zero, List.set_cons_succ, List.drop_succ_cons, List.drop_zero, Array.getD_eq_getD_getElem?, Option.getD_some]
  repeat (go_big_quiet_step ((first | (go_at_call 64; exact (plain_any _ _ u).again _ _) | (go_at_call 67; exact (wide_any _ _ _ u).again _ _) | (go_at_call 68; exact ((shift_25).makes u).again _ _))))
  refine wpQuiet_nil ?_
  intro v hv
  clear cs0 gs0 cs1 gs1 cs2 gs2 cs3 gs3 cs4 gs4 ct0 gt0 ct1 gt1 ct2 gt2 ct3 gt3 ct4 gt4
  go_wp2_with (fail)
  have hzv := hv.size
  have hva : Made u (v.alloc (.cells (flatF [fS, fNew, fT, fI121]).toArray 51)) := hv.alloc hzv _
  have ho := World.ownsRow_lit (base := u.heap.size) (e := 51) (size := 5) v (flatF [fS, fNew, fT, fI121]).toArray 4 hzv (by unfold maxLen; omega) rfl
  refine (row_any 25 4 _ _ _ (by decide) (by decide) (by decide) _ (hN.made (Made.trans hM hva)) _ (Made.refl _)).mono ?_
  rintro e w6 ⟨rfl, h6'⟩
  have HO := Lib.hid (owns_made ho h6')
  have h6 := Made.trans hva h6'
  clear ho h6' hva
  have hr6 := h6.heap R.out
  have c0 : w6.cell? ⟨n0, 0, none⟩ = some (.int .u8 0) := cell_of_lit hr6 0
  have c1 : w6.cell? ⟨n0, 1, none⟩ = some (.string { data := #[] }) := cell_of_lit hr6 1
  have c2 : w6.cell? ⟨n0, 2, none⟩ = some (.int .u8 0) := cell_of_lit hr6 2
  have c3 : w6.cell? ⟨n0, 3, none⟩ = some (.int .u8 0) := cell_of_lit hr6 3
  have c4 : w6.cell? ⟨n0, 4, none⟩ = some (.slice none 0 0) := cell_of_lit hr6 4
  have fz := free_of_lit hr6
  have H6 := Lib.hid h6
  clear hr6 h6 hv hM
  go_wp2
  refine bodyPost_ret (v := .agg #[.int .u8 25, .string (nameZ 25), .int .u8 4, .int .u8 (slotsZ 4), .slice (some ⟨v.heap.size, 0, none⟩) 4 4]) (by simp [results, Tryz.results46, go_sem, c0, c1, c2, c3, c4]) rfl ?_
  exact ⟨_, _, _, rfl, row_close HM.out H6.out hz0 hn0u HO.out _ _ _ _ _⟩
set_option maxRecDepth 100000 in
set_option maxHeartbeats 1000000 in
theorem rowOf_26 (W : World) (hN : Names W) (w : World) (hm : Made W w) : Calls Tryz.prog 46 #[.int .u8 26] w (IsRowOf W 26) := by
  have hz := hm.size
  go_enter Tryz.func46, Tryz.ntmps46
  go_wp2_with (fail)
  refine (plain_any _ _ _ _ (Made.refl _)).mono ?_
  rintro e w1 ⟨rfl, h1⟩
  go_wp2_with (fail)
  refine (plain_any _ _ _ _ (h1)).mono ?_
  rintro e w2 ⟨rfl, h2⟩
  go_wp2_with (fail)
  refine (plain_any _ _ _ _ (h2)).mono ?_
  rintro e w3 ⟨rfl, h3⟩
  go_wp2_with (fail)
  refine (plain_any _ _ _ _ (h3)).mono ?_
  rintro e w4 ⟨rfl, h4⟩
  clear h1 h2 h3
  have hz4 : w.heap.size < w4.heap.size := by have := h4.size; simp only [World.size_alloc] at this; omega
  have hW4 : Made W w4 := Made.trans (hm.alloc hz _) h4
  have hr4 : w4.heap[w.heap.size]? = some (.cells rowLit 98 (0, 0)) := h4.heap (heap_alloc_new w _)
  clear h4
  go_upto_region 2 with (fail)
  refine name_world (fun u => RowVars W w.heap.size w4.heap.size u) (rowVars_of hW4 hz4 hr4) ?_
  rintro u ⟨hM, hr, hD, hP, hS, hT, hzu⟩
  clear hW4 hr4
  generalize w4.heap.size = m at *
  generalize hn0 : w.heap.size = n0 at *
  have HN0 := Lib.hid hn0
  clear hn0
  have HM := Lib.hid hM
  have hz0 : W.heap.size ≤ n0 := hz
  have hn0u : n0 < u.heap.size := by omega
  have cs0 : u.cell? ⟨m + 1 + 1, 0, none⟩ = some (.int .u8 5) := cell_of_lit hS 0
  have cs1 : u.cell? ⟨m + 1 + 1, 1, none⟩ = some (.int .i64 5) := cell_of_lit hS 1
  have cs2 : u.cell? ⟨m + 1 + 1, 2, none⟩ = some (.int .i64 0) := cell_of_lit hS 2
  have cs3 : u.cell? ⟨m + 1 + 1, 3, none⟩ = some (.bool false) := cell_of_lit hS 3
  have cs4 : u.cell? ⟨m + 1 + 1, 4, none⟩ = some (.bool false) := cell_of_lit hS 4
  have ct0 : u.cell? ⟨m + 1 + 1 + 1, 0, none⟩ = some (.int .u8 6) := cell_of_lit hT 0
  have ct1 : u.cell? ⟨m + 1 + 1 + 1, 1, none⟩ = some (.int .i64 5) := cell_of_lit hT 1
  have ct2 : u.cell? ⟨m + 1 + 1 + 1, 2, none⟩ = some (.int .i64 0) := cell_of_lit hT 2
  have ct3 : u.cell? ⟨m + 1 + 1 + 1, 3, none⟩ = some (.bool false) := cell_of_lit hT 3
  have ct4 : u.cell? ⟨m + 1 + 1 + 1, 4, none⟩ = some (.bool false) := cell_of_lit hT 4
  have R := Lib.hid hr
  clear hr hD hP hS hT
  have gs0 := fun d os => cell_regrown cs0 d os
  have gs1 := fun d os => cell_regrown cs1 d os
  have gs2 := fun d os => cell_regrown cs2 d os
  have gs3 := fun d os => cell_regrown cs3 d os
  have gs4 := fun d os => cell_regrown cs4 d os
  have gt0 := fun d os => cell_regrown ct0 d os
  have gt1 := fun d os => cell_regrown ct1 d os
  have gt2 := fun d os => cell_regrown ct2 d os
  have gt3 := fun d os => cell_regrown ct3 d os
  have gt4 := fun d os => cell_regrown ct4 d os
  go_wp2_with (fail)
  refine wp_region_made 7 [0, 4] [1, 2, 3, 5, 6] (by kernel_rfl) (by kernel_rfl) (by intro c a d v w h; cases d <;> exact h) ?_
  simp only [moved, moveOf, Act.put, Act.eval, picked, List.foldr_cons, List.foldr_nil, Option.elim_some, List.getElem?_toArray, List.getElem?_cons_zero, List.getElem?_cons_succ, List.setIfInBounds_toArray, List.set_cons_zero, List.set_cons_succ, List.drop_succ_cons, List.drop_zero, Array.getD_eq_getD_getElem?, Option.getD_some]
  repeat (go_big_quiet_step ((first | (go_at_call 64; exact (plain_any _ _ u).again _ _) | (go_at_call 67; exact (wide_any _ _ _ u).again _ _) | (go_at_call 68; exact ((shift_26).makes u).again _ _))))
  refine wpQuiet_nil ?_
  intro v hv
  clear cs0 gs0 cs1 gs1 cs2 gs2 cs3 gs3 cs4 gs4 ct0 gt0 ct1 gt1 ct2 gt2 ct3 gt3 ct4 gt4
  go_wp2_with (fail)
  have hzv := hv.size
  have hva : Made u (v.alloc (.cells (flatF [fS, fNew, fT, fI12]).toArray 51)) := hv.alloc hzv _
  have ho := World.ownsRow_lit (base := u.heap.size) (e := 51) (size := 5) v (flatF [fS, fNew, fT, fI12]).toArray 4 hzv (by unfold maxLen; omega) rfl
  refine (row_any 26 4 _ _ _ (by decide) (by decide) (by decide) _ (hN.made (Made.trans hM hva)) _ (Made.refl _)).mono ?_
  rintro e w6 ⟨rfl, h6'⟩
  have HO := Lib.hid (owns_made ho h6')
  have h6 := Made.trans hva h6'
  clear ho h6' hva
  have hr6 := h6.heap R.out
  have c0 : w6.cell? ⟨n0, 0, none⟩ = some (.int .u8 0) := cell_of_lit hr6 0
  have c1 : w6.cell? ⟨n0, 1, none⟩ = some (.string { data := #[] }) := cell_of_lit hr6 1
  have c2 : w6.cell? ⟨n0, 2, none⟩ = some (.int .u8 0) := cell_of_lit hr6 2
  have c3 : w6.cell? ⟨n0, 3, none⟩ = some (.int .u8 0) := cell_of_lit hr6 3
  have c4 : w6.cell? ⟨n0, 4, none⟩ = some (.slice none 0 0) := cell_of_lit hr6 4
  have fz := free_of_lit hr6
  have H6 := Lib.hid h6
  clear hr6 h6 hv hM
  go_wp2
  refine bodyPost_ret (v := .agg #[.int .u8 26, .string (nameZ 26), .int .u8 4, .int .u8 (slotsZ 4), .slice (some ⟨v.heap.size, 0, none⟩) 4 4]) (by simp [results, Tryz.results46, go_sem, c0, c1, c2, c3, c4]) rfl ?_
  exact ⟨_, _, _, rfl, row_close HM.out H6.out hz0 hn0u HO.out _ _ _ _ _⟩
set_option maxRecDepth 100000 in
set_option maxHeartbeats 1000000 in
theorem rowOf_27 (W : World) (hN : Names W) (w : World) (hm : Made W w) : Calls Tryz.prog 46 #[.int .u8 27] w (IsRowOf W 27) := by
  have hz := hm.size
  go_enter Tryz.func46, Tryz.ntmps46
  go_wp2_with (fail)
  refine (plain_any _ _ _ _ (Made.refl _)).mono ?_
  rintro e w1 ⟨rfl, h1⟩
  go_wp2_with (fail)
  refine (plain_any _ _ _ _ (h1)).mono ?_
  rintro e w2 ⟨rfl, h2⟩
  go_wp2_with (fail)
  refine (plain_any _ _ _ _ (h2)).mono ?_
  rintro e w3 ⟨rfl, h3⟩
  go_wp2_with (fail)
  refine (plain_any _ _ _ _ (h3)).mono ?_
  rintro e w4 ⟨rfl, h4⟩
  clear h1 h2 h3
  have hz4 : w.heap.size < w4.heap.size := by have := h4.size; simp only [World.size_alloc] at this; omega
  have hW4 : Made W w4 := Made.trans (hm.alloc hz _) h4
  have hr4 : w4.heap[w.heap.size]? = some (.cells rowLit 98 (0, 0)) := h4.heap (heap_alloc_new w _)
  clear h4
  go_upto_region 2 with (fail)
  refine name_world (fun u => RowVars W w.heap.size w4.heap.size u) (rowVars_of hW4 hz4 hr4) ?_
  rintro u ⟨hM, hr, hD, hP, hS, hT, hzu⟩
  clear hW4 hr4
  generalize w4.heap.size = m at *
  generalize hn0 : w.heap.size = n0 at *
  have HN0 := Lib.hid hn0
  clear hn0
  have HM := Lib.hid hM
  have hz0 : W.heap.size ≤ n0 := hz
  have hn0u : n0 < u.heap.size := by omega
  have R := Lib.hid hr
  clear hr hD hP hS hT
  go_wp2_with (fail)
  refine (wide_any _ _ _ u _ (Made.refl u)).mono ?_
  rintro e v0 ⟨rfl, hv0⟩
  have hv := hv0
  go_wp2_with (fail)
  have hzv := hv.size
  have hva : Made u (v0.alloc (.cells (flatF [fR19]).toArray 51)) := hv.alloc hzv _
  refine (cond_any _ _ [fR19] u _ hva (by decide) 51 (0, 0) (heap_at (by first | rfl | simp))).mono ?_
  rintro e w5 ⟨p, n, cap, rfl, h5, ho⟩
  go_wp2_with (fail)
  refine (row_any 27 5 p n cap (by decide) (by decide) (by decide) w5 (hN.made (Made.trans hM h5)) w5 (Made.refl w5)).mono ?_
  rintro e w6 ⟨rfl, h6'⟩
  have HO := Lib.hid (owns_made ho h6')
  have h6 := Made.trans h5 h6'
  clear ho h6' h5 hva
  have hr6 := h6.heap R.out
  have c0 : w6.cell? ⟨n0, 0, none⟩ = some (.int .u8 0) := cell_of_lit hr6 0
  have c1 : w6.cell? ⟨n0, 1, none⟩ = some (.string { data := #[] }) := cell_of_lit hr6 1
  have c2 : w6.cell? ⟨n0, 2, none⟩ = some (.int .u8 0) := cell_of_lit hr6 2
  have c3 : w6.cell? ⟨n0, 3, none⟩ = some (.int .u8 0) := cell_of_lit hr6 3
  have c4 : w6.cell? ⟨n0, 4, none⟩ = some (.slice none 0 0) := cell_of_lit hr6 4
  have fz := free_of_lit hr6
  have H6 := Lib.hid h6
  clear hr6 h6 hv hM
  go_wp2
  refine bodyPost_ret (v := .agg #[.int .u8 27, .string (nameZ 27), .int .u8 5, .int .u8 (slotsZ 5), .slice p n cap]) (by simp [results, Tryz.results46, go_sem, c0, c1, c2, c3, c4]) rfl ?_
  exact ⟨_, _, _, rfl, row_close HM.out H6.out hz0 hn0u HO.out _ _ _ _ _⟩
set_option maxRecDepth 100000 in
set_option maxHeartbeats 1000000 in
theorem rowOf_28 (W : World) (hN : Names W) (w : World) (hm : Made W w) : Calls Tryz.prog 46 #[.int .u8 28] w (IsRowOf W 28) := by
  have hz := hm.size
  go_enter Tryz.func46, Tryz.ntmps46
  go_wp2_with (fail)
  refine (plain_any _ _ _ _ (Made.refl _)).mono ?_
  rintro e w1 ⟨rfl, h1⟩
  go_wp2_with (fail)
  refine (plain_any _ _ _ _ (h1)).mono ?_
  rintro e w2 ⟨rfl, h2⟩
  go_wp2_with (fail)
  refine (plain_any _ _ _ _ (h2)).mono ?_
  rintro e w3 ⟨rfl, h3⟩
  go_wp2_with (fail)
  refine (plain_any _ _ _ _ (h3)).mono ?_
  rintro e w4 ⟨rfl, h4⟩
  clear h1 h2 h3
  have hz4 : w.heap.size < w4.heap.size := by have := h4.size; simp only [World.size_alloc] at this; omega
  have hW4 : Made W w4 := Made.trans (hm.alloc hz _) h4
  have hr4 : w4.heap[w.heap.size]? = some (.cells rowLit 98 (0, 0)) := h4.heap (heap_alloc_new w _)
  clear h4
  go_upto_region 2 with (fail)
  refine name_world (fun u => RowVars W w.heap.size w4.heap.size u) (rowVars_of hW4 hz4 hr4) ?_
  rintro u ⟨hM, hr, hD, hP, hS, hT, hzu⟩
  clear hW4 hr4
  generalize w4.heap.size = m at *
  generalize hn0 : w.heap.size = n0 at *
  have HN0 := Lib.hid hn0
  clear hn0
  have HM := Lib.hid hM
  have hz0 : W.heap.size ≤ n0 := hz
  have hn0u : n0 < u.heap.size := by omega
  have cs0 : u.cell? ⟨m + 1 + 1, 0, none⟩ = some (.int .u8 5) := cell_of_lit hS 0
  have cs1 : u.cell? ⟨m + 1 + 1, 1, none⟩ = some (.int .i64 5) := cell_of_lit hS 1
  have cs2 : u.cell? ⟨m + 1 + 1, 2, none⟩ = some (.int .i64 0) := cell_of_lit hS 2
  have cs3 : u.cell? ⟨m + 1 + 1, 3, none⟩ = some (.bool false) := cell_of_lit hS 3
  have cs4 : u.cell? ⟨m + 1 + 1, 4, none⟩ = some (.bool false) := cell_of_lit hS 4
  have R := Lib.hid hr
  clear hr hD hP hS hT
  have hv : Made u u := Made.refl u
  go_wp2_with (fail)
  try clear cs0 cs1 cs2 cs3 cs4
  have hzv := hv.size
  have hva : Made u (u.alloc (.cells (flatF [fS]).toArray 51)) := hv.alloc hzv _
  refine (cond_any _ _ [fS] u _ hva (by decide) 51 (0, 0) (heap_at (by first | rfl | simp))).mono ?_
  rintro e w5 ⟨p, n, cap, rfl, h5, ho⟩
  go_wp2_with (fail)
  refine (row_any 28 5 p n cap (by decide) (by decide) (by decide) w5 (hN.made (Made.trans hM h5)) w5 (Made.refl w5)).mono ?_
  rintro e w6 ⟨rfl, h6'⟩
  have HO := Lib.hid (owns_made ho h6')
  have h6 := Made.trans h5 h6'
  clear ho h6' h5 hva
  have hr6 := h6.heap R.out
  have c0 : w6.cell? ⟨n0, 0, none⟩ = some (.int .u8 0) := cell_of_lit hr6 0
  have c1 : w6.cell? ⟨n0, 1, none⟩ = some (.string { data := #[] }) := cell_of_lit hr6 1
  have c2 : w6.cell? ⟨n0, 2, none⟩ = some (.int .u8 0) := cell_of_lit hr6 2
  have c3 : w6.cell? ⟨n0, 3, none⟩ = some (.int .u8 0) := cell_of_lit hr6 3
  have c4 : w6.cell? ⟨n0, 4, none⟩ = some (.slice none 0 0) := cell_of_lit hr6 4
  have fz := free_of_lit hr6
  have H6 := Lib.hid h6
  clear hr6 h6 hv hM
  go_wp2
  refine bodyPost_ret (v := .agg #[.int .u8 28, .string (nameZ 28), .int .u8 5, .int .u8 (slotsZ 5), .slice p n cap]) (by simp [results, Tryz.results46, go_sem, c0, c1, c2, c3, c4]) rfl ?_
  exact ⟨_, _, _, rfl, row_close HM.out H6.out hz0 hn0u HO.out _ _ _ _ _⟩
set_option maxRecDepth 100000 in
set_option maxHeartbeats 1000000 in
theorem rowOf_29 (W : World) (hN : Names W) (w : World) (hm : Made W w) : Calls Tryz.prog 46 #[.int .u8 29] w (IsRowOf W 29) := by
  have hz := hm.size
  go_enter Tryz.func46, Tryz.ntmps46
  go_wp2_with (fail)
  refine (plain_any _ _ _ _ (Made.refl _)).mono ?_
  rintro e w1 ⟨rfl, h1⟩
  go_wp2_with (fail)
  refine (plain_any _ _ _ _ (h1)).mono ?_
  rintro e w2 ⟨rfl, h2⟩
  go_wp2_with (fail)
  refine (plain_any _ _ _ _ (h2)).mono ?_
  rintro e w3 ⟨rfl, h3⟩
  go_wp2_with (fail)
  refine (plain_any _ _ _ _ (h3)).mono ?_
  rintro e w4 ⟨rfl, h4⟩
  clear h1 h2 h3
  have hz4 : w.heap.size < w4.heap.size := by have := h4.size; simp only [World.size_alloc] at this; omega
  have hW4 : Made W w4 := Made.trans (hm.alloc hz _) h4
  have hr4 : w4.heap[w.heap.size]? = some (.cells rowLit 98 (0, 0)) := h4.heap (heap_alloc_new w _)
  clear h4
  go_upto_region 2 with (fail)
  refine name_world (fun u => RowVars W w.heap.size w4.heap.size u) (rowVars_of hW4 hz4 hr4) ?_
  rintro u ⟨hM, hr, hD, hP, hS, hT, hzu⟩
  clear hW4 hr4
  generalize w4.heap.size = m at *
  generalize hn0 : w.heap.size = n0 at *
  have HN0 := Lib.hid hn0
  clear hn0
  have HM := Lib.hid hM
  have hz0 : W.heap.size ≤ n0 := hz
  have hn0u : n0 < u.heap.size := by omega
  have R := Lib.hid hr
  clear hr hD hP hS hT
  go_wp2_with (fail)
  refine (wide_any _ _ _ u _ (Made.refl u)).mono ?_
  rintro e v0 ⟨rfl, hv0⟩
  have hv := hv0
  go_wp2_with (fail)
  have hzv := hv.size
  have hva : Made u (v0.alloc (.cells (flatF [fR24]).toArray 51)) := hv.alloc hzv _
  have ho := World.ownsRow_lit (base := u.heap.size) (e := 51) (size := 5) v0 (flatF [fR24]).toArray 1 hzv (by unfold maxLen; omega) rfl
  refine (row_any 29 5 _ _ _ (by decide) (by decide) (by decide) _ (hN.made (Made.trans hM hva)) _ (Made.refl _)).mono ?_
  rintro e w6 ⟨rfl, h6'⟩
  have HO := Lib.hid (owns_made ho h6')
  have h6 := Made.trans hva h6'
  clear ho h6' hva
  have hr6 := h6.heap R.out
  have c0 : w6.cell? ⟨n0, 0, none⟩ = some (.int .u8 0) := cell_of_lit hr6 0
  have c1 : w6.cell? ⟨n0, 1, none⟩ = some (.string { data := #[] }) := cell_of_lit hr6 1
  have c2 : w6.cell? ⟨n0, 2, none⟩ = some (.int .u8 0) := cell_of_lit hr6 2
  have c3 : w6.cell? ⟨n0, 3, none⟩ = some (.int .u8 0) := cell_of_lit hr6 3
  have c4 : w6.cell? ⟨n0, 4, none⟩ = some (.slice none 0 0) := cell_of_lit hr6 4
  have fz := free_of_lit hr6
  have H6 := Lib.hid h6
  clear hr6 h6 hv hM
  go_wp2
  refine bodyPost_ret (v := .agg #[.int .u8 29, .string (nameZ 29), .int .u8 5, .int .u8 (slotsZ 5), .slice (some ⟨v0.heap.size, 0, none⟩) 1 1]) (by simp [results, Tryz.results46, go_sem, c0, c1, c2, c3, c4]) rfl ?_
  exact ⟨_, _, _, rfl, row_close HM.out H6.out hz0 hn0u HO.out _ _ _ _ _⟩
set_option maxRecDepth 100000 in
set_option maxHeartbeats 1000000 in
theorem rowOf_30 (W : World) (hN : Names W) (w : World) (hm : Made W w) : Calls Tryz.prog 46 #[.int .u8 30] w (IsRowOf W 30) := by
  have hz := hm.size
  go_enter Tryz.func46, Tryz.ntmps46
  go_wp2_with (fail)
  refine (plain_any _ _ _ _ (Made.refl _)).mono ?_
  rintro e w1 ⟨rfl, h1⟩
  go_wp2_with (fail)
  refine (plain_any _ _ _ _ (h1)).mono ?_
  rintro e w2 ⟨rfl, h2⟩
  go_wp2_with (fail)
  refine (plain_any _ _ _ _ (h2)).mono ?_
  rintro e w3 ⟨rfl, h3⟩
  go_wp2_with (fail)
  refine (plain_any _ _ _ _ (h3)).mono ?_
  rintro e w4 ⟨rfl, h4⟩
  clear h1 h2 h3
  have hz4 : w.heap.size < w4.heap.size := by have := h4.size; simp only [World.size_alloc] at this; omega
  have hW4 : Made W w4 := Made.trans (hm.alloc hz _) h4
  have hr4 : w4.heap[w.heap.size]? = some (.cells rowLit 98 (0, 0)) := h4.heap (heap_alloc_new w _)
  clear h4
  go_upto_region 2 with (fail)
  refine name_world (fun u => RowVars W w.heap.size w4.heap.size u) (rowVars_of hW4 hz4 hr4) ?_
  rintro u ⟨hM, hr, hD, hP, hS, hT, hzu⟩
  clear hW4 hr4
  generalize w4.heap.size = m at *
  generalize hn0 : w.heap.size = n0 at *
  have HN0 := Lib.hid hn0
  clear hn0
  have HM := Lib.hid hM
  have hz0 : W.heap.size ≤ n0 := hz
  have hn0u : n0 < u.heap.size := by omega
  have R := Lib.hid hr
  clear hr hD hP hS hT
  go_wp2_with (fail)
  refine (plain_any _ _ u _ (Made.refl u)).mono ?_
  rintro e v0 ⟨rfl, hv0⟩
  go_wp2_with (fail)
  refine (wide_any _ _ _ u _ (hv0)).mono ?_
  rintro e v1 ⟨rfl, hv1⟩
  go_wp2_with (fail)
  refine (plain_any _ _ u _ (hv1)).mono ?_
  rintro e v2 ⟨rfl, hv2⟩
  have hv := hv2
  go_wp2_with (fail)
  have hzv := hv.size
  have hva : Made u (v2.alloc (.cells (flatF [fN, fR12, fCount]).toArray 51)) := hv.alloc hzv _
  have ho := World.ownsRow_lit (base := u.heap.size) (e := 51) (size := 5) v2 (flatF [fN, fR12, fCount]).toArray 3 hzv (by unfold maxLen; omega) rfl
  refine (row_any 30 6 _ _ _ (by decide) (by decide) (by decide) _ (hN.made (Made.trans hM hva)) _ (Made.refl _)).mono ?_
  rintro e w6 ⟨rfl, h6'⟩
  have HO := Lib.hid (owns_made ho h6')
  have h6 := Made.trans hva h6'
  clear ho h6' hva
  have hr6 := h6.heap R.out
  have c0 : w6.cell? ⟨n0, 0, none⟩ = some (.int .u8 0) := cell_of_lit hr6 0
  have c1 : w6.cell? ⟨n0, 1, none⟩ = some (.string { data := #[] }) := cell_of_lit hr6 1
  have c2 : w6.cell? ⟨n0, 2, none⟩ = some (.int .u8 0) := cell_of_lit hr6 2
  have c3 : w6.cell? ⟨n0, 3, none⟩ = some (.int .u8 0) := cell_of_lit hr6 3
  have c4 : w6.cell? ⟨n0, 4, none⟩ = some (.slice none 0 0) := cell_of_lit hr6 4
  have fz := free_of_lit hr6
  have H6 := Lib.hid h6
  clear hr6 h6 hv hM
  go_wp2
  refine bodyPost_ret (v := .agg #[.int .u8 30, .string (nameZ 30), .int .u8 6, .int .u8 (slotsZ 6), .slice (some ⟨v2.heap.size, 0, none⟩) 3 3]) (by simp [results, Tryz.results46, go_sem, c0, c1, c2, c3, c4]) rfl ?_
  exact ⟨_, _, _, rfl, row_close HM.out H6.out hz0 hn0u HO.out _ _ _ _ _⟩
set_option maxRecDepth 100000 in
set_option maxHeartbeats 1000000 in
theorem rowOf_31 (W : World) (hN : Names W) (w : World) (hm : Made W w) : Calls Tryz.prog 46 #[.int .u8 31] w (IsRowOf W 31) := by
  have hz := hm.size
  go_enter Tryz.func46, Tryz.ntmps46
  go_wp2_with (fail)
  refine (plain_any _ _ _ _ (Made.refl _)).mono ?_
  rintro e w1 ⟨rfl, h1⟩
  go_wp2_with (fail)
  refine (plain_any _ _ _ _ (h1)).mono ?_
  rintro e w2 ⟨rfl, h2⟩
  go_wp2_with (fail)
  refine (plain_any _ _ _ _ (h2)).mono ?_
  rintro e w3 ⟨rfl, h3⟩
  go_wp2_with (fail)
  refine (plain_any _ _ _ _ (h3)).mono ?_
  rintro e w4 ⟨rfl, h4⟩
  clear h1 h2 h3
  have hz4 : w.heap.size < w4.heap.size := by have := h4.size; simp only [World.size_alloc] at this; omega
  have hW4 : Made W w4 := Made.trans (hm.alloc hz _) h4
  have hr4 : w4.heap[w.heap.size]? = some (.cells rowLit 98 (0, 0)) := h4.heap (heap_alloc_new w _)
  clear h4
  go_upto_region 2 with (fail)
  refine name_world (fun u => RowVars W w.heap.size w4.heap.size u) (rowVars_of hW4 hz4 hr4) ?_
  rintro u ⟨hM, hr, hD, hP, hS, hT, hzu⟩
  clear hW4 hr4
  generalize w4.heap.size = m at *
  generalize hn0 : w.heap.size = n0 at *
  have HN0 := Lib.hid hn0
  clear hn0
  have HM := Lib.hid hM
  have hz0 : W.heap.size ≤ n0 := hz
  have hn0u : n0 < u.heap.size := by omega
  have cs0 : u.cell? ⟨m + 1 + 1, 0, none⟩ = some (.int .u8 5) := cell_of_lit hS 0
  have cs1 : u.cell? ⟨m + 1 + 1, 1, none⟩ = some (.int .i64 5) := cell_of_lit hS 1
  have cs2 : u.cell? ⟨m + 1 + 1, 2, none⟩ = some (.int .i64 0) := cell_of_lit hS 2
  have cs3 : u.cell? ⟨m + 1 + 1, 3, none⟩ = some (.bool false) := cell_of_lit hS 3
  have cs4 : u.cell? ⟨m + 1 + 1, 4, none⟩ = some (.bool false) := cell_of_lit hS 4
  have R := Lib.hid hr
  clear hr hD hP hS hT
  have gs0 := fun d os => cell_regrown cs0 d os
  have gs1 := fun d os => cell_regrown cs1 d os
  have gs2 := fun d os => cell_regrown cs2 d os
  have gs3 := fun d os => cell_regrown cs3 d os
  have gs4 := fun d os => cell_regrown cs4 d os
  go_wp2_with (fail)
  refine wp_region_made 4 [0] [1, 2, 3] (by kernel_rfl) (by kernel_rfl) (by intro c a d v w h; cases d <;> exact h) ?_
  simp only [moved, moveOf, Act.put, Act.eval, picked, List.foldr_cons, List.foldr_nil, Option.elim_some, List.getElem?_toArray, List.getElem?_cons_zero, List.getElem?_cons_succ, List.setIfInBounds_toArray, List.set_cons_zero, List.set_cons_succ, List.drop_succ_cons, List.drop_zero, Array.getD_eq_getD_getElem?, Option.getD_some]
  repeat (go_big_quiet_step ((first | (go_at_call 64; exact (plain_any _ _ u).again _ _) | (go_at_call 67; exact (wide_any _ _ _ u).again _ _))))
  refine wpQuiet_nil ?_
  intro v hv
  clear cs0 gs0 cs1 gs1 cs2 gs2 cs3 gs3 cs4 gs4
  go_wp2_with (fail)
  have hzv := hv.size
  have hva : Made u (v.alloc (.cells (flatF [fN, fR12, fS]).toArray 51)) := hv.alloc hzv _
  have ho := World.ownsRow_lit (base := u.heap.size) (e := 51) (size := 5) v (flatF [fN, fR12, fS]).toArray 3 hzv (by unfold maxLen; omega) rfl
  refine (row_any 31 6 _ _ _ (by decide) (by decide) (by decide) _ (hN.made (Made.trans hM hva)) _ (Made.refl _)).mono ?_
  rintro e w6 ⟨rfl, h6'⟩
  have HO := Lib.hid (owns_made ho h6')
  have h6 := Made.trans hva h6'
  clear ho h6' hva
  have hr6 := h6.heap R.out
  have c0 : w6.cell? ⟨n0, 0, none⟩ = some (.int .u8 0) := cell_of_lit hr6 0
  have c1 : w6.cell? ⟨n0, 1, none⟩ = some (.string { data := #[] }) := cell_of_lit hr6 1
  have c2 : w6.cell? ⟨n0, 2, none⟩ = some (.int .u8 0) := cell_of_lit hr6 2
  have c3 : w6.cell? ⟨n0, 3, none⟩ = some (.int .u8 0) := cell_of_lit hr6 3
  have c4 : w6.cell? ⟨n0, 4, none⟩ = some (.slice none 0 0) := cell_of_lit hr6 4
  have fz := free_of_lit hr6
  have H6 := Lib.hid h6
  clear hr6 h6 hv hM
  go_wp2
  refine bodyPost_ret (v := .agg #[.int .u8 31, .string (nameZ 31), .int .u8 6, .int .u8 (slotsZ 6), .slice (some ⟨v.heap.size, 0, none⟩) 3 3]) (by simp [results, Tryz.results46, go_sem, c0, c1, c2, c3, c4]) rfl ?_
  exact ⟨_, _, _, rfl, row_close HM.out H6.out hz0 hn0u HO.out _ _ _ _ _⟩
end
end Go.Proofs.YtnfmlmamgkpocaaGreatDoor
