/- What rowOf of package isa returns, op by op, in every world that has grown out of one that holds the table of names. · What rowOf of package isa returns, op by op, in every world that has grown out of one that holds the table of names. -/
import Derived.Test.YtnfmlmamgkpocaaGreatDoorGIsa
namespace Go.Proofs.YtnfmlmamgkpocaaGreatDoor
section
open Go.ChangeShapes Go.WideShapes Go.ChangeAt Go.RowKit Go.Sort BigFrame

set_option maxRecDepth 100000 in
set_option maxHeartbeats 1000000 in
theorem rowOf_1 (W : World) (hN : Names W) (w : World) (hm : Made W w) : Calls Tryz.prog 46 #[.int .u8 1] w (IsRowOf W 1) := by
  have hz := hm.size
  go_enter Tryz.func46, Tryz.ntmps46
  go_wp2_with (fail)
  refine (plain_any _ _ _ _ (Made.refl _)).mono ?_
  rintro e w1 ⟨rfl, h1⟩
  go_wp2_with (fail)
  refine (plain_any _ _ _ _ (h1)).mono ?_
  rintro e w2 ⟨rfl, h2⟩
  go_wp2_with (fail)
  refine (plain_any _ _ _ _ (h2)).mono ?_
  rintro e w3 ⟨rfl, h3⟩
  go_wp2_with (fail)
  refine (plain_any _ _ _ _ (h3)).mono ?_
  rintro e w4 ⟨rfl, h4⟩
  clear h1 h2 h3
  have hz4 : w.heap.size < w4.heap.size := by have := h4.size; simp only [World.size_alloc] at this; omega
  have hW4 : Made W w4 := Made.trans (hm.alloc hz _) h4
  have hr4 : w4.heap[w.heap.size]? = some (.cells rowLit 98 (0, 0)) := h4.heap (heap_alloc_new w _)
  clear h4
  go_upto_region 2 with (fail)
  refine name_world (fun u => RowVars W w.heap.size w4.heap.size u) (rowVars_of hW4 hz4 hr4) ?_
  rintro u ⟨hM, hr, hD, hP, hS, hT, hzu⟩
  clear hW4 hr4
  generalize w4.heap.size = m at *
  generalize hn0 : w.heap.size = n0 at *
  have HN0 := Lib.hid hn0
  clear hn0
  have HM := Lib.hid hM
  have hz0 : W.heap.size ≤ n0 := hz
  have hn0u : n0 < u.heap.size := by omega
  have R := Lib.hid hr
  clear hr hD hP hS hT
  have hv : Made u u := Made.refl u
  go_wp2_with (fail)
  have hzv := hv.size
  refine (row_any 1 1 none 0 0 (by decide) (by decide) (by decide) u (hN.made hM) u (Made.refl u)).mono ?_
  rintro e w6 ⟨rfl, h6⟩
  have HO := Lib.hid (World.ownsRow_nil w6 u.heap.size 51 5)
  have hr6 := h6.heap R.out
  have c0 : w6.cell? ⟨n0, 0, none⟩ = some (.int .u8 0) := cell_of_lit hr6 0
  have c1 : w6.cell? ⟨n0, 1, none⟩ = some (.string { data := #[] }) := cell_of_lit hr6 1
  have c2 : w6.cell? ⟨n0, 2, none⟩ = some (.int .u8 0) := cell_of_lit hr6 2
  have c3 : w6.cell? ⟨n0, 3, none⟩ = some (.int .u8 0) := cell_of_lit hr6 3
  have c4 : w6.cell? ⟨n0, 4, none⟩ = some (.slice none 0 0) := cell_of_lit hr6 4
  have fz := free_of_lit hr6
  have H6 := Lib.hid h6
  clear hr6 h6 hv hM
  go_wp2
  refine bodyPost_ret (v := .agg #[.int .u8 1, .string (nameZ 1), .int .u8 1, .int .u8 (slotsZ 1), .slice none 0 0]) (by simp [results, Tryz.results46, go_sem, c0, c1, c2, c3, c4]) rfl ?_
  exact ⟨_, _, _, rfl, row_close HM.out H6.out hz0 hn0u HO.out _ _ _ _ _⟩
set_option maxRecDepth 100000 in
set_option maxHeartbeats 1000000 in
theorem rowOf_2 (W : World) (hN : Names W) (w : World) (hm : Made W w) : Calls Tryz.prog 46 #[.int .u8 2] w (IsRowOf W 2) := by
  have hz := hm.size
  go_enter Tryz.func46, Tryz.ntmps46
  go_wp2_with (fail)
  refine (plain_any _ _ _ _ (Made.refl _)).mono ?_
  rintro e w1 ⟨rfl, h1⟩
  go_wp2_with (fail)
  refine (plain_any _ _ _ _ (h1)).mono ?_
  rintro e w2 ⟨rfl, h2⟩
  go_wp2_with (fail)
  refine (plain_any _ _ _ _ (h2)).mono ?_
  rintro e w3 ⟨rfl, h3⟩
  go_wp2_with (fail)
  refine (plain_any _ _ _ _ (h3)).mono ?_
  rintro e w4 ⟨rfl, h4⟩
  clear h1 h2 h3
  have hz4 : w.heap.size < w4.heap.size := by have := h4.size; simp only [World.size_alloc] at this; omega
  have hW4 : Made W w4 := Made.trans (hm.alloc hz _) h4
  have hr4 : w4.heap[w.heap.size]? = some (.cells rowLit 98 (0, 0)) := h4.heap (heap_alloc_new w _)
  clear h4
  go_upto_region 2 with (fail)
  refine name_world (fun u => RowVars W w.heap.size w4.heap.size u) (rowVars_of hW4 hz4 hr4) ?_
  rintro u ⟨hM, hr, hD, hP, hS, hT, hzu⟩
  clear hW4 hr4
  generalize w4.heap.size = m at *
  generalize hn0 : w.heap.size = n0 at *
  have HN0 := Lib.hid hn0
  clear hn0
  have HM := Lib.hid hM
  have hz0 : W.heap.size ≤ n0 := hz
  have hn0u : n0 < u.heap.size := by omega
  have cd0 : u.cell? ⟨m, 0, none⟩ = some (.int .u8 3) := cell_of_lit hD 0
  have cd1 : u.cell? ⟨m, 1, none⟩ = some (.int .i64 5) := cell_of_lit hD 1
  have cd2 : u.cell? ⟨m, 2, none⟩ = some (.int .i64 0) := cell_of_lit hD 2
  have cd3 : u.cell? ⟨m, 3, none⟩ = some (.bool false) := cell_of_lit hD 3
  have cd4 : u.cell? ⟨m, 4, none⟩ = some (.bool false) := cell_of_lit hD 4
  have cs0 : u.cell? ⟨m + 1 + 1, 0, none⟩ = some (.int .u8 5) := cell_of_lit hS 0
  have cs1 : u.cell? ⟨m + 1 + 1, 1, none⟩ = some (.int .i64 5) := cell_of_lit hS 1
  have cs2 : u.cell? ⟨m + 1 + 1, 2, none⟩ = some (.int .i64 0) := cell_of_lit hS 2
  have cs3 : u.cell? ⟨m + 1 + 1, 3, none⟩ = some (.bool false) := cell_of_lit hS 3
  have cs4 : u.cell? ⟨m + 1 + 1, 4, none⟩ = some (.bool false) := cell_of_lit hS 4
  have ct0 : u.cell? ⟨m + 1 + 1 + 1, 0, none⟩ = some (.int .u8 6) := cell_of_lit hT 0
  have ct1 : u.cell? ⟨m + 1 + 1 + 1, 1, none⟩ = some (.int .i64 5) := cell_of_lit hT 1
  have ct2 : u.cell? ⟨m + 1 + 1 + 1, 2, none⟩ = some (.int .i64 0) := cell_of_lit hT 2
  have ct3 : u.cell? ⟨m + 1 + 1 + 1, 3, none⟩ = some (.bool false) := cell_of_lit hT 3
  have ct4 : u.cell? ⟨m + 1 + 1 + 1, 4, none⟩ = some (.bool false) := cell_of_lit hT 4
  have R := Lib.hid hr
  clear hr hD hP hS hT
  have hv : Made u u := Made.refl u
  go_wp2_with (fail)
  try clear cd0 cd1 cd2 cd3 cd4 cs0 cs1 cs2 cs3 cs4 ct0 ct1 ct2 ct3 ct4
  have hzv := hv.size
  have hva : Made u (u.alloc (.cells (flatF [fD, fS, fT]).toArray 51)) := hv.alloc hzv _
  refine (cond_any _ _ [fD, fS, fT] u _ hva (by decide) 51 (0, 0) (heap_at (by first | rfl | simp))).mono ?_
  rintro e w5 ⟨p, n, cap, rfl, h5, ho⟩
  go_wp2_with (fail)
  refine (row_any 2 1 p n cap (by decide) (by decide) (by decide) w5 (hN.made (Made.trans hM h5)) w5 (Made.refl w5)).mono ?_
  rintro e w6 ⟨rfl, h6'⟩
  have HO := Lib.hid (owns_made ho h6')
  have h6 := Made.trans h5 h6'
  clear ho h6' h5 hva
  have hr6 := h6.heap R.out
  have c0 : w6.cell? ⟨n0, 0, none⟩ = some (.int .u8 0) := cell_of_lit hr6 0
  have c1 : w6.cell? ⟨n0, 1, none⟩ = some (.string { data := #[] }) := cell_of_lit hr6 1
  have c2 : w6.cell? ⟨n0, 2, none⟩ = some (.int .u8 0) := cell_of_lit hr6 2
  have c3 : w6.cell? ⟨n0, 3, none⟩ = some (.int .u8 0) := cell_of_lit hr6 3
  have c4 : w6.cell? ⟨n0, 4, none⟩ = some (.slice none 0 0) := cell_of_lit hr6 4
  have fz := free_of_lit hr6
  have H6 := Lib.hid h6
  clear hr6 h6 hv hM
  go_wp2
  refine bodyPost_ret (v := .agg #[.int .u8 2, .string (nameZ 2), .int .u8 1, .int .u8 (slotsZ 1), .slice p n cap]) (by simp [results, Tryz.results46, go_sem, c0, c1, c2, c3, c4]) rfl ?_
  exact ⟨_, _, _, rfl, row_close HM.out H6.out hz0 hn0u HO.out _ _ _ _ _⟩
set_option maxRecDepth 100000 in
set_option maxHeartbeats 1000000 in
theorem rowOf_3 (W : World) (hN : Names W) (w : World) (hm : Made W w) : Calls Tryz.prog 46 #[.int .u8 3] w (IsRowOf W 3) := by
  have hz := hm.size
  go_enter Tryz.func46, Tryz.ntmps46
  go_wp2_with (fail)
  refine (plain_any _ _ _ _ (Made.refl _)).mono ?_
  rintro e w1 ⟨rfl, h1⟩
  go_wp2_with (fail)
  refine (plain_any _ _ _ _ (h1)).mono ?_
  rintro e w2 ⟨rfl, h2⟩
  go_wp2_with (fail)
  refine (plain_any _ _ _ _ (h2)).mono ?_
  rintro e w3 ⟨rfl, h3⟩
  go_wp2_with (fail)
  refine (plain_any _ _ _ _ (h3)).mono ?_
  rintro e w4 ⟨rfl, h4⟩
  clear h1 h2 h3
  have hz4 : w.heap.size < w4.heap.size := by have := h4.size; simp only [World.size_alloc] at this; omega
  have hW4 : Made W w4 := Made.trans (hm.alloc hz _) h4
  have hr4 : w4.heap[w.heap.size]? = some (.cells rowLit 98 (0, 0)) := h4.heap (heap_alloc_new w _)
  clear h4
  go_upto_region 2 with (fail)
  refine name_world (fun u => RowVars W w.heap.size w4.heap.size u) (rowVars_of hW4 hz4 hr4) ?_
  rintro u ⟨hM, hr, hD, hP, hS, hT, hzu⟩
  clear hW4 hr4
  generalize w4.heap.size = m at *
  generalize hn0 : w.heap.size = n0 at *
  have HN0 := Lib.hid hn0
  clear hn0
  have HM := Lib.hid hM
  have hz0 : W.heap.size ≤ n0 := hz
  have hn0u : n0 < u.heap.size := by omega
  have cd0 : u.cell? ⟨m, 0, none⟩ = some (.int .u8 3) := cell_of_lit hD 0
  have cd1 : u.cell? ⟨m, 1, none⟩ = some (.int .i64 5) := cell_of_lit hD 1
  have cd2 : u.cell? ⟨m, 2, none⟩ = some (.int .i64 0) := cell_of_lit hD 2
  have cd3 : u.cell? ⟨m, 3, none⟩ = some (.bool false) := cell_of_lit hD 3
  have cd4 : u.cell? ⟨m, 4, none⟩ = some (.bool false) := cell_of_lit hD 4
  have cs0 : u.cell? ⟨m + 1 + 1, 0, none⟩ = some (.int .u8 5) := cell_of_lit hS 0
  have cs1 : u.cell? ⟨m + 1 + 1, 1, none⟩ = some (.int .i64 5) := cell_of_lit hS 1
  have cs2 : u.cell? ⟨m + 1 + 1, 2, none⟩ = some (.int .i64 0) := cell_of_lit hS 2
  have cs3 : u.cell? ⟨m + 1 + 1, 3, none⟩ = some (.bool false) := cell_of_lit hS 3
  have cs4 : u.cell? ⟨m + 1 + 1, 4, none⟩ = some (.bool false) := cell_of_lit hS 4
  have ct0 : u.cell? ⟨m + 1 + 1 + 1, 0, none⟩ = some (.int .u8 6) := cell_of_lit hT 0
  have ct1 : u.cell? ⟨m + 1 + 1 + 1, 1, none⟩ = some (.int .i64 5) := cell_of_lit hT 1
  have ct2 : u.cell? ⟨m + 1 + 1 + 1, 2, none⟩ = some (.int .i64 0) := cell_of_lit hT 2
  have ct3 : u.cell? ⟨m + 1 + 1 + 1, 3, none⟩ = some (.bool false) := cell_of_lit hT 3
  have ct4 : u.cell? ⟨m + 1 + 1 + 1, 4, none⟩ = some (.bool false) := cell_of_lit hT 4
  have R := Lib.hid hr
  clear hr hD hP hS hT
  have hv : Made u u := Made.refl u
  go_wp2_with (fail)
  try clear cd0 cd1 cd2 cd3 cd4 cs0 cs1 cs2 cs3 cs4 ct0 ct1 ct2 ct3 ct4
  have hzv := hv.size
  have hva : Made u (u.alloc (.cells (flatF [fD, fS, fT]).toArray 51)) := hv.alloc hzv _
  refine (cond_any _ _ [fD, fS, fT] u _ hva (by decide) 51 (0, 0) (heap_at (by first | rfl | simp))).mono ?_
  rintro e w5 ⟨p, n, cap, rfl, h5, ho⟩
  go_wp2_with (fail)
  refine (row_any 3 1 p n cap (by decide) (by decide) (by decide) w5 (hN.made (Made.trans hM h5)) w5 (Made.refl w5)).mono ?_
  rintro e w6 ⟨rfl, h6'⟩
  have HO := Lib.hid (owns_made ho h6')
  have h6 := Made.trans h5 h6'
  clear ho h6' h5 hva
  have hr6 := h6.heap R.out
  have c0 : w6.cell? ⟨n0, 0, none⟩ = some (.int .u8 0) := cell_of_lit hr6 0
  have c1 : w6.cell? ⟨n0, 1, none⟩ = some (.string { data := #[] }) := cell_of_lit hr6 1
  have c2 : w6.cell? ⟨n0, 2, none⟩ = some (.int .u8 0) := cell_of_lit hr6 2
  have c3 : w6.cell? ⟨n0, 3, none⟩ = some (.int .u8 0) := cell_of_lit hr6 3
  have c4 : w6.cell? ⟨n0, 4, none⟩ = some (.slice none 0 0) := cell_of_lit hr6 4
  have fz := free_of_lit hr6
  have H6 := Lib.hid h6
  clear hr6 h6 hv hM
  go_wp2
  refine bodyPost_ret (v := .agg #[.int .u8 3, .string (nameZ 3), .int .u8 1, .int .u8 (slotsZ 1), .slice p n cap]) (by simp [results, Tryz.results46, go_sem, c0, c1, c2, c3, c4]) rfl ?_
  exact ⟨_, _, _, rfl, row_close HM.out H6.out hz0 hn0u HO.out _ _ _ _ _⟩
set_option maxRecDepth 100000 in
set_option maxHeartbeats 1000000 in
theorem rowOf_4 (W : World) (hN : Names W) (w : World) (hm : Made W w) : Calls Tryz.prog 46 #[.int .u8 4] w (IsRowOf W 4) := by
  have hz := hm.size
  go_enter Tryz.func46, Tryz.ntmps46
  go_wp2_with (fail)
  refine (plain_any _ _ _ _ (Made.refl _)).mono ?_
  rintro e w1 ⟨rfl, h1⟩
  go_wp2_with (fail)
  refine (plain_any _ _ _ _ (h1)).mono ?_
  rintro e w2 ⟨rfl, h2⟩
  go_wp2_with (fail)
  refine (plain_any _ _ _ _ (h2)).mono ?_
  rintro e w3 ⟨rfl, h3⟩
  go_wp2_with (fail)
  refine (plain_any _ _ _ _ (h3)).mono ?_
  rintro e w4 ⟨rfl, h4⟩
  clear h1 h2 h3
  have hz4 : w.heap.size < w4.heap.size := by have := h4.size; simp only [World.size_alloc] at this; omega
  have hW4 : Made W w4 := Made.trans (hm.alloc hz _) h4
  have hr4 : w4.heap[w.heap.size]? = some (.cells rowLit 98 (0, 0)) := h4.heap (heap_alloc_new w _)
  clear h4
  go_upto_region 2 with (fail)
  refine name_world (fun u => RowVars W w.heap.size w4.heap.size u) (rowVars_of hW4 hz4 hr4) ?_
  rintro u ⟨hM, hr, hD, hP, hS, hT, hzu⟩
  clear hW4 hr4
  generalize w4.heap.size = m at *
  generalize hn0 : w.heap.size = n0 at *
  have HN0 := Lib.hid hn0
  clear hn0
  have HM := Lib.hid hM
  have hz0 : W.heap.size ≤ n0 := hz
  have hn0u : n0 < u.heap.size := by omega
  have cd0 : u.cell? ⟨m, 0, none⟩ = some (.int .u8 3) := cell_of_lit hD 0
  have cd1 : u.cell? ⟨m, 1, none⟩ = some (.int .i64 5) := cell_of_lit hD 1
  have cd2 : u.cell? ⟨m, 2, none⟩ = some (.int .i64 0) := cell_of_lit hD 2
  have cd3 : u.cell? ⟨m, 3, none⟩ = some (.bool false) := cell_of_lit hD 3
  have cd4 : u.cell? ⟨m, 4, none⟩ = some (.bool false) := cell_of_lit hD 4
  have cs0 : u.cell? ⟨m + 1 + 1, 0, none⟩ = some (.int .u8 5) := cell_of_lit hS 0
  have cs1 : u.cell? ⟨m + 1 + 1, 1, none⟩ = some (.int .i64 5) := cell_of_lit hS 1
  have cs2 : u.cell? ⟨m + 1 + 1, 2, none⟩ = some (.int .i64 0) := cell_of_lit hS 2
  have cs3 : u.cell? ⟨m + 1 + 1, 3, none⟩ = some (.bool false) := cell_of_lit hS 3
  have cs4 : u.cell? ⟨m + 1 + 1, 4, none⟩ = some (.bool false) := cell_of_lit hS 4
  have ct0 : u.cell? ⟨m + 1 + 1 + 1, 0, none⟩ = some (.int .u8 6) := cell_of_lit hT 0
  have ct1 : u.cell? ⟨m + 1 + 1 + 1, 1, none⟩ = some (.int .i64 5) := cell_of_lit hT 1
  have ct2 : u.cell? ⟨m + 1 + 1 + 1, 2, none⟩ = some (.int .i64 0) := cell_of_lit hT 2
  have ct3 : u.cell? ⟨m + 1 + 1 + 1, 3, none⟩ = some (.bool false) := cell_of_lit hT 3
  have ct4 : u.cell? ⟨m + 1 + 1 + 1, 4, none⟩ = some (.bool false) := cell_of_lit hT 4
  have R := Lib.hid hr
  clear hr hD hP hS hT
  have hv : Made u u := Made.refl u
  go_wp2_with (fail)
  try clear cd0 cd1 cd2 cd3 cd4 cs0 cs1 cs2 cs3 cs4 ct0 ct1 ct2 ct3 ct4
  have hzv := hv.size
  have hva : Made u (u.alloc (.cells (flatF [fD, fS, fT]).toArray 51)) := hv.alloc hzv _
  refine (cond_any _ _ [fD, fS, fT] u _ hva (by decide) 51 (0, 0) (heap_at (by first | rfl | simp))).mono ?_
  rintro e w5 ⟨p, n, cap, rfl, h5, ho⟩
  go_wp2_with (fail)
  refine (row_any 4 1 p n cap (by decide) (by decide) (by decide) w5 (hN.made (Made.trans hM h5)) w5 (Made.refl w5)).mono ?_
  rintro e w6 ⟨rfl, h6'⟩
  have HO := Lib.hid (owns_made ho h6')
  have h6 := Made.trans h5 h6'
  clear ho h6' h5 hva
  have hr6 := h6.heap R.out
  have c0 : w6.cell? ⟨n0, 0, none⟩ = some (.int .u8 0) := cell_of_lit hr6 0
  have c1 : w6.cell? ⟨n0, 1, none⟩ = some (.string { data := #[] }) := cell_of_lit hr6 1
  have c2 : w6.cell? ⟨n0, 2, none⟩ = some (.int .u8 0) := cell_of_lit hr6 2
  have c3 : w6.cell? ⟨n0, 3, none⟩ = some (.int .u8 0) := cell_of_lit hr6 3
  have c4 : w6.cell? ⟨n0, 4, none⟩ = some (.slice none 0 0) := cell_of_lit hr6 4
  have fz := free_of_lit hr6
  have H6 := Lib.hid h6
  clear hr6 h6 hv hM
  go_wp2
  refine bodyPost_ret (v := .agg #[.int .u8 4, .string (nameZ 4), .int .u8 1, .int .u8 (slotsZ 1), .slice p n cap]) (by simp [results, Tryz.results46, go_sem, c0, c1, c2, c3, c4]) rfl ?_
  exact ⟨_, _, _, rfl, row_close HM.out H6.out hz0 hn0u HO.out _ _ _ _ _⟩
set_option maxRecDepth 100000 in
set_option maxHeartbeats 1000000 in
theorem rowOf_5 (W : World) (hN : Names W) (w : World) (hm : Made W w) : Calls Tryz.prog 46 #[.int .u8 5] w (IsRowOf W 5) := by
  have hz := hm.size
  go_enter Tryz.func46, Tryz.ntmps46
  go_wp2_with (fail)
  refine (plain_any _ _ _ _ (Made.refl _)).mono ?_
  rintro e w1 ⟨rfl, h1⟩
  go_wp2_with (fail)
  refine (plain_any _ _ _ _ (h1)).mono ?_
  rintro e w2 ⟨rfl, h2⟩
  go_wp2_with (fail)
  refine (plain_any _ _ _ _ (h2)).mono ?_
  rintro e w3 ⟨rfl, h3⟩
  go_wp2_with (fail)
  refine (plain_any _ _ _ _ (h3)).mono ?_
  rintro e w4 ⟨rfl, h4⟩
  clear h1 h2 h3
  have hz4 : w.heap.size < w4.heap.size := by have := h4.size; simp only [World.size_alloc] at this; omega
  have hW4 : Made W w4 := Made.trans (hm.alloc hz _) h4
  have hr4 : w4.heap[w.heap.size]? = some (.cells rowLit 98 (0, 0)) := h4.heap (heap_alloc_new w _)
  clear h4
  go_upto_region 2 with (fail)
  refine name_world (fun u => RowVars W w.heap.size w4.heap.size u) (rowVars_of hW4 hz4 hr4) ?_
  rintro u ⟨hM, hr, hD, hP, hS, hT, hzu⟩
  clear hW4 hr4
  generalize w4.heap.size = m at *
  generalize hn0 : w.heap.size = n0 at *
  have HN0 := Lib.hid hn0
  clear hn0
  have HM := Lib.hid hM
  have hz0 : W.heap.size ≤ n0 := hz
  have hn0u : n0 < u.heap.size := by omega
  have cd0 : u.cell? ⟨m, 0, none⟩ = some (.int .u8 3) := cell_of_lit hD 0
  have cd1 : u.cell? ⟨m, 1, none⟩ = some (.int .i64 5) := cell_of_lit hD 1
  have cd2 : u.cell? ⟨m, 2, none⟩ = some (.int .i64 0) := cell_of_lit hD 2
  have cd3 : u.cell? ⟨m, 3, none⟩ = some (.bool false) := cell_of_lit hD 3
  have cd4 : u.cell? ⟨m, 4, none⟩ = some (.bool false) := cell_of_lit hD 4
  have cs0 : u.cell? ⟨m + 1 + 1, 0, none⟩ = some (.int .u8 5) := cell_of_lit hS 0
  have cs1 : u.cell? ⟨m + 1 + 1, 1, none⟩ = some (.int .i64 5) := cell_of_lit hS 1
  have cs2 : u.cell? ⟨m + 1 + 1, 2, none⟩ = some (.int .i64 0) := cell_of_lit hS 2
  have cs3 : u.cell? ⟨m + 1 + 1, 3, none⟩ = some (.bool false) := cell_of_lit hS 3
  have cs4 : u.cell? ⟨m + 1 + 1, 4, none⟩ = some (.bool false) := cell_of_lit hS 4
  have ct0 : u.cell? ⟨m + 1 + 1 + 1, 0, none⟩ = some (.int .u8 6) := cell_of_lit hT 0
  have ct1 : u.cell? ⟨m + 1 + 1 + 1, 1, none⟩ = some (.int .i64 5) := cell_of_lit hT 1
  have ct2 : u.cell? ⟨m + 1 + 1 + 1, 2, none⟩ = some (.int .i64 0) := cell_of_lit hT 2
  have ct3 : u.cell? ⟨m + 1 + 1 + 1, 3, none⟩ = some (.bool false) := cell_of_lit hT 3
  have ct4 : u.cell? ⟨m + 1 + 1 + 1, 4, none⟩ = some (.bool false) := cell_of_lit hT 4
  have R := Lib.hid hr
  clear hr hD hP hS hT
  have hv : Made u u := Made.refl u
  go_wp2_with (fail)
  try clear cd0 cd1 cd2 cd3 cd4 cs0 cs1 cs2 cs3 cs4 ct0 ct1 ct2 ct3 ct4
  have hzv := hv.size
  have hva : Made u (u.alloc (.cells (flatF [fD, fS, fT]).toArray 51)) := hv.alloc hzv _
  refine (cond_any _ _ [fD, fS, fT] u _ hva (by decide) 51 (0, 0) (heap_at (by first | rfl | simp))).mono ?_
  rintro e w5 ⟨p, n, cap, rfl, h5, ho⟩
  go_wp2_with (fail)
  refine (row_any 5 1 p n cap (by decide) (by decide) (by decide) w5 (hN.made (Made.trans hM h5)) w5 (Made.refl w5)).mono ?_
  rintro e w6 ⟨rfl, h6'⟩
  have HO := Lib.hid (owns_made ho h6')
  have h6 := Made.trans h5 h6'
  clear ho h6' h5 hva
  have hr6 := h6.heap R.out
  have c0 : w6.cell? ⟨n0, 0, none⟩ = some (.int .u8 0) := cell_of_lit hr6 0
  have c1 : w6.cell? ⟨n0, 1, none⟩ = some (.string { data := #[] }) := cell_of_lit hr6 1
  have c2 : w6.cell? ⟨n0, 2, none⟩ = some (.int .u8 0) := cell_of_lit hr6 2
  have c3 : w6.cell? ⟨n0, 3, none⟩ = some (.int .u8 0) := cell_of_lit hr6 3
  have c4 : w6.cell? ⟨n0, 4, none⟩ = some (.slice none 0 0) := cell_of_lit hr6 4
  have fz := free_of_lit hr6
  have H6 := Lib.hid h6
  clear hr6 h6 hv hM
  go_wp2
  refine bodyPost_ret (v := .agg #[.int .u8 5, .string (nameZ 5), .int .u8 1, .int .u8 (slotsZ 1), .slice p n cap]) (by simp [results, Tryz.results46, go_sem, c0, c1, c2, c3, c4]) rfl ?_
  exact ⟨_, _, _, rfl, row_close HM.out H6.out hz0 hn0u HO.out _ _ _ _ _⟩
set_option maxRecDepth 100000 in
set_option maxHeartbeats 1000000 in
theorem rowOf_6 (W : World) (hN : Names W) (w : World) (hm : Made W w) : Calls Tryz.prog 46 #[.int .u8 6] w (IsRowOf W 6) := by
  have hz := hm.size
  go_enter Tryz.func46, Tryz.ntmps46
  go_wp2_with (fail)
  refine (plain_any _ _ _ _ (Made.refl _)).mono ?_
  rintro e w1 ⟨rfl, h1⟩
  go_wp2_with (fail)
  refine (plain_any _ _ _ _ (h1)).mono ?_
  rintro e w2 ⟨rfl, h2⟩
  go_wp2_with (fail)
  refine (plain_any _ _ _ _ (h2)).mono ?_
  rintro e w3 ⟨rfl, h3⟩
  go_wp2_with (fail)
  refine (plain_any _ _ _ _ (h3)).mono ?_
  rintro e w4 ⟨rfl, h4⟩
  clear h1 h2 h3
  have hz4 : w.heap.size < w4.heap.size := by have := h4.size; simp only [World.size_alloc] at this; omega
  have hW4 : Made W w4 := Made.trans (hm.alloc hz _) h4
  have hr4 : w4.heap[w.heap.size]? = some (.cells rowLit 98 (0, 0)) := h4.heap (heap_alloc_new w _)
  clear h4
  go_upto_region 2 with (fail)
  refine name_world (fun u => RowVars W w.heap.size w4.heap.size u) (rowVars_of hW4 hz4 hr4) ?_
  rintro u ⟨hM, hr, hD, hP, hS, hT, hzu⟩
  clear hW4 hr4
  generalize w4.heap.size = m at *
  generalize hn0 : w.heap.size = n0 at *
  have HN0 := Lib.hid hn0
  clear hn0
  have HM := Lib.hid hM
  have hz0 : W.heap.size ≤ n0 := hz
  have hn0u : n0 < u.heap.size := by omega
  have cd0 : u.cell? ⟨m, 0, none⟩ = some (.int .u8 3) := cell_of_lit hD 0
  have cd1 : u.cell? ⟨m, 1, none⟩ = some (.int .i64 5) := cell_of_lit hD 1
  have cd2 : u.cell? ⟨m, 2, none⟩ = some (.int .i64 0) := cell_of_lit hD 2
  have cd3 : u.cell? ⟨m, 3, none⟩ = some (.bool false) := cell_of_lit hD 3
  have cd4 : u.cell? ⟨m, 4, none⟩ = some (.bool false) := cell_of_lit hD 4
  have cs0 : u.cell? ⟨m + 1 + 1, 0, none⟩ = some (.int .u8 5) := cell_of_lit hS 0
  have cs1 : u.cell? ⟨m + 1 + 1, 1, none⟩ = some (.int .i64 5) := cell_of_lit hS 1
  have cs2 : u.cell? ⟨m + 1 + 1, 2, none⟩ = some (.int .i64 0) := cell_of_lit hS 2
  have cs3 : u.cell? ⟨m + 1 + 1, 3, none⟩ = some (.bool false) := cell_of_lit hS 3
  have cs4 : u.cell? ⟨m + 1 + 1, 4, none⟩ = some (.bool false) := cell_of_lit hS 4
  have ct0 : u.cell? ⟨m + 1 + 1 + 1, 0, none⟩ = some (.int .u8 6) := cell_of_lit hT 0
  have ct1 : u.cell? ⟨m + 1 + 1 + 1, 1, none⟩ = some (.int .i64 5) := cell_of_lit hT 1
  have ct2 : u.cell? ⟨m + 1 + 1 + 1, 2, none⟩ = some (.int .i64 0) := cell_of_lit hT 2
  have ct3 : u.cell? ⟨m + 1 + 1 + 1, 3, none⟩ = some (.bool false) := cell_of_lit hT 3
  have ct4 : u.cell? ⟨m + 1 + 1 + 1, 4, none⟩ = some (.bool false) := cell_of_lit hT 4
  have R := Lib.hid hr
  clear hr hD hP hS hT
  have hv : Made u u := Made.refl u
  go_wp2_with (fail)
  try clear cd0 cd1 cd2 cd3 cd4 cs0 cs1 cs2 cs3 cs4 ct0 ct1 ct2 ct3 ct4
  have hzv := hv.size
  have hva : Made u (u.alloc (.cells (flatF [fD, fS, fT]).toArray 51)) := hv.alloc hzv _
  refine (cond_any _ _ [fD, fS, fT] u _ hva (by decide) 51 (0, 0) (heap_at (by first | rfl | simp))).mono ?_
  rintro e w5 ⟨p, n, cap, rfl, h5, ho⟩
  go_wp2_with (fail)
  refine (row_any 6 1 p n cap (by decide) (by decide) (by decide) w5 (hN.made (Made.trans hM h5)) w5 (Made.refl w5)).mono ?_
  rintro e w6 ⟨rfl, h6'⟩
  have HO := Lib.hid (owns_made ho h6')
  have h6 := Made.trans h5 h6'
  clear ho h6' h5 hva
  have hr6 := h6.heap R.out
  have c0 : w6.cell? ⟨n0, 0, none⟩ = some (.int .u8 0) := cell_of_lit hr6 0
  have c1 : w6.cell? ⟨n0, 1, none⟩ = some (.string { data := #[] }) := cell_of_lit hr6 1
  have c2 : w6.cell? ⟨n0, 2, none⟩ = some (.int .u8 0) := cell_of_lit hr6 2
  have c3 : w6.cell? ⟨n0, 3, none⟩ = some (.int .u8 0) := cell_of_lit hr6 3
  have c4 : w6.cell? ⟨n0, 4, none⟩ = some (.slice none 0 0) := cell_of_lit hr6 4
  have fz := free_of_lit hr6
  have H6 := Lib.hid h6
  clear hr6 h6 hv hM
  go_wp2
  refine bodyPost_ret (v := .agg #[.int .u8 6, .string (nameZ 6), .int .u8 1, .int .u8 (slotsZ 1), .slice p n cap]) (by simp [results, Tryz.results46, go_sem, c0, c1, c2, c3, c4]) rfl ?_
  exact ⟨_, _, _, rfl, row_close HM.out H6.out hz0 hn0u HO.out _ _ _ _ _⟩
set_option maxRecDepth 100000 in
set_option maxHeartbeats 1000000 in
theorem rowOf_7 (W : World) (hN : Names W) (w : World) (hm : Made W w) : Calls Tryz.prog 46 #[.int .u8 7] w (IsRowOf W 7) := by
  have hz := hm.size
  go_enter Tryz.func46, Tryz.ntmps46
  go_wp2_with (fail)
  refine (plain_any _ _ _ _ (Made.refl _)).mono ?_
  rintro e w1 ⟨rfl, h1⟩
  go_wp2_with (fail)
  refine (plain_any _ _ _ _ (h1)).mono ?_
  rintro e w2 ⟨rfl, h2⟩
  go_wp2_with (fail)
  refine (plain_any _ _ _ _ (h2)).mono ?_
  rintro e w3 ⟨rfl, h3⟩
  go_wp2_with (fail)
  refine (plain_any _ _ _ _ (h3)).mono ?_
  rintro e w4 ⟨rfl, h4⟩
  clear h1 h2 h3
  have hz4 : w.heap.size < w4.heap.size := by have := h4.size; simp only [World.size_alloc] at this; omega
  have hW4 : Made W w4 := Made.trans (hm.alloc hz _) h4
  have hr4 : w4.heap[w.heap.size]? = some (.cells rowLit 98 (0, 0)) := h4.heap (heap_alloc_new w _)
  clear h4
  go_upto_region 2 with (fail)
  refine name_world (fun u => RowVars W w.heap.size w4.heap.size u) (rowVars_of hW4 hz4 hr4) ?_
  rintro u ⟨hM, hr, hD, hP, hS, hT, hzu⟩
  clear hW4 hr4
  generalize w4.heap.size = m at *
  generalize hn0 : w.heap.size = n0 at *
  have HN0 := Lib.hid hn0
  clear hn0
  have HM := Lib.hid hM
  have hz0 : W.heap.size ≤ n0 := hz
  have hn0u : n0 < u.heap.size := by omega
  have cd0 : u.cell? ⟨m, 0, none⟩ = some (.int .u8 3) := cell_of_lit hD 0
  have cd1 : u.cell? ⟨m, 1, none⟩ = some (.int .i64 5) := cell_of_lit hD 1
  have cd2 : u.cell? ⟨m, 2, none⟩ = some (.int .i64 0) := cell_of_lit hD 2
  have cd3 : u.cell? ⟨m, 3, none⟩ = some (.bool false) := cell_of_lit hD 3
  have cd4 : u.cell? ⟨m, 4, none⟩ = some (.bool false) := cell_of_lit hD 4
  have cs0 : u.cell? ⟨m + 1 + 1, 0, none⟩ = some (.int .u8 5) := cell_of_lit hS 0
  have cs1 : u.cell? ⟨m + 1 + 1, 1, none⟩ = some (.int .i64 5) := cell_of_lit hS 1
  have cs2 : u.cell? ⟨m + 1 + 1, 2, none⟩ = some (.int .i64 0) := cell_of_lit hS 2
  have cs3 : u.cell? ⟨m + 1 + 1, 3, none⟩ = some (.bool false) := cell_of_lit hS 3
  have cs4 : u.cell? ⟨m + 1 + 1, 4, none⟩ = some (.bool false) := cell_of_lit hS 4
  have R := Lib.hid hr
  clear hr hD hP hS hT
  have gd0 := fun d os => cell_regrown cd0 d os
  have gd1 := fun d os => cell_regrown cd1 d os
  have gd2 := fun d os => cell_regrown cd2 d os
  have gd3 := fun d os => cell_regrown cd3 d os
  have gd4 := fun d os => cell_regrown cd4 d os
  have gs0 := fun d os => cell_regrown cs0 d os
  have gs1 := fun d os => cell_regrown cs1 d os
  have gs2 := fun d os => cell_regrown cs2 d os
  have gs3 := fun d os => cell_regrown cs3 d os
  have gs4 := fun d os => cell_regrown cs4 d os
  go_wp2_with (fail)
  refine wp_region_made 4 [0] [1, 2, 3] (by kernel_rfl) (by kernel_rfl) (by intro c a d v w h; cases d <;> exact h) ?_
  simp only [moved, moveOf, Act.put, Act.eval, picked, List.foldr_cons, List.foldr_nil, Option.elim_some, List.getElem?_toArray, List.getElem?_cons_zero, List.getElem?_cons_succ, List.setIfInBounds_toArray, List.set_cons_zero, List.set_cons_succ, List.drop_succ_cons, List.drop_zero, Array.getD_eq_getD_getElem?, Option.getD_some]
  repeat (go_big_quiet_step ((first | (go_at_call 64; exact (plain_any _ _ u).again _ _) | (go_at_call 67; exact (wide_any _ _ _ u).again _ _))))
  refine wpQuiet_nil ?_
  intro v hv
  clear cd0 gd0 cd1 gd1 cd2 gd2 cd3 gd3 cd4 gd4 cs0 gs0 cs1 gs1 cs2 gs2 cs3 gs3 cs4 gs4
  go_wp2_with (fail)
  have hzv := hv.size
  have hva : Made u (v.alloc (.cells (flatF [fD, fS, fI14]).toArray 51)) := hv.alloc hzv _
  have ho := World.ownsRow_lit (base := u.heap.size) (e := 51) (size := 5) v (flatF [fD, fS, fI14]).toArray 3 hzv (by unfold maxLen; omega) rfl
  refine (row_any 7 1 _ _ _ (by decide) (by decide) (by decide) _ (hN.made (Made.trans hM hva)) _ (Made.refl _)).mono ?_
  rintro e w6 ⟨rfl, h6'⟩
  have HO := Lib.hid (owns_made ho h6')
  have h6 := Made.trans hva h6'
  clear ho h6' hva
  have hr6 := h6.heap R.out
  have c0 : w6.cell? ⟨n0, 0, none⟩ = some (.int .u8 0) := cell_of_lit hr6 0
  have c1 : w6.cell? ⟨n0, 1, none⟩ = some (.string { data := #[] }) := cell_of_lit hr6 1
  have c2 : w6.cell? ⟨n0, 2, none⟩ = some (.int .u8 0) := cell_of_lit hr6 2
  have c3 : w6.cell? ⟨n0, 3, none⟩ = some (.int .u8 0) := cell_of_lit hr6 3
  have c4 : w6.cell? ⟨n0, 4, none⟩ = some (.slice none 0 0) := cell_of_lit hr6 4
  have fz := free_of_lit hr6
  have H6 := Lib.hid h6
  clear hr6 h6 hv hM
  go_wp2
  refine bodyPost_ret (v := .agg #[.int .u8 7, .string (nameZ 7), .int .u8 1, .int .u8 (slotsZ 1), .slice (some ⟨v.heap.size, 0, none⟩) 3 3]) (by simp [results, Tryz.results46, go_sem, c0, c1, c2, c3, c4]) rfl ?_
  exact ⟨_, _, _, rfl, row_close HM.out H6.out hz0 hn0u HO.out _ _ _ _ _⟩
set_option maxRecDepth 100000 in
set_option maxHeartbeats 1000000 in
theorem rowOf_8 (W : World) (hN : Names W) (w : World) (hm : Made W w) : Calls Tryz.prog 46 #[.int .u8 8] w (IsRowOf W 8) := by
  have hz := hm.size
  go_enter Tryz.func46, Tryz.ntmps46
  go_wp2_with (fail)
  refine (plain_any _ _ _ _ (Made.refl _)).mono ?_
  rintro e w1 ⟨rfl, h1⟩
  go_wp2_with (fail)
  refine (plain_any _ _ _ _ (h1)).mono ?_
  rintro e w2 ⟨rfl, h2⟩
  go_wp2_with (fail)
  refine (plain_any _ _ _ _ (h2)).mono ?_
  rintro e w3 ⟨rfl, h3⟩
  go_wp2_with (fail)
  refine (plain_any _ _ _ _ (h3)).mono ?_
  rintro e w4 ⟨rfl, h4⟩
  clear h1 h2 h3
  have hz4 : w.heap.size < w4.heap.size := by have := h4.size; simp only [World.size_alloc] at this; omega
  have hW4 : Made W w4 := Made.trans (hm.alloc hz _) h4
  have hr4 : w4.heap[w.heap.size]? = some (.cells rowLit 98 (0, 0)) := h4.heap (heap_alloc_new w _)
  clear h4
  go_upto_region 2 with (fail)
  refine name_world (fun u => RowVars W w.heap.size w4.heap.size u) (rowVars_of hW4 hz4 hr4) ?_
  rintro u ⟨hM, hr, hD, hP, hS, hT, hzu⟩
  clear hW4 hr4
  generalize w4.heap.size = m at *
  generalize hn0 : w.heap.size = n0 at *
  have HN0 := Lib.hid hn0
  clear hn0
  have HM := Lib.hid hM
  have hz0 : W.heap.size ≤ n0 := hz
  have hn0u : n0 < u.heap.size := by omega
  have cd0 : u.cell? ⟨m, 0, none⟩ = some (.int .u8 3) := cell_of_lit hD 0
  have cd1 : u.cell? ⟨m, 1, none⟩ = some (.int .i64 5) := cell_of_lit hD 1
  have cd2 : u.cell? ⟨m, 2, none⟩ = some (.int .i64 0) := cell_of_lit hD 2
  have cd3 : u.cell? ⟨m, 3, none⟩ = some (.bool false) := cell_of_lit hD 3
  have cd4 : u.cell? ⟨m, 4, none⟩ = some (.bool false) := cell_of_lit hD 4
  have R := Lib.hid hr
  clear hr hD hP hS hT
  have gd0 := fun d os => cell_regrown cd0 d os
  have gd1 := fun d os => cell_regrown cd1 d os
  have gd2 := fun d os => cell_regrown cd2 d os
  have gd3 := fun d os => cell_regrown cd3 d os
  have gd4 := fun d os => cell_regrown cd4 d os
  go_wp2_with (fail)
  refine wp_region_made 3 [0] [1, 2] (by kernel_rfl) (by kernel_rfl) (by intro c a d v w h; cases d <;> exact h) ?_
  simp only [moved, moveOf, Act.put, Act.eval, picked, List.foldr_cons, List.foldr_nil, Option.elim_some, List.getElem?_toArray, List.getElem?_cons_zero, List.getElem?_cons_succ, List.setIfInBounds_toArray, List.set_cons_zero, List.set_cons_succ, List.drop_succ_cons, List.drop_zero, Array.getD_eq_getD_getElem?, Option.getD_some]
  repeat (go_big_quiet_step ((first | (go_at_call 64; exact (plain_any _ _ u).again _ _) | (go_at_call 67; exact (wide_any _ _ _ u).again _ _))))
  refine wpQuiet_nil ?_
  intro v hv
  clear cd0 gd0 cd1 gd1 cd2 gd2 cd3 gd3 cd4 gd4
  go_wp2_with (fail)
  have hzv := hv.size
  have hva : Made u (v.alloc (.cells (flatF [fD, fI14]).toArray 51)) := hv.alloc hzv _
  refine (cond_any _ _ [fD, fI14] u _ hva (by decide) 51 (0, 0) (heap_at (by first | rfl | simp))).mono ?_
  rintro e w5 ⟨p, n, cap, rfl, h5, ho⟩
  go_wp2_with (fail)
  refine (row_any 8 1 p n cap (by decide) (by decide) (by decide) w5 (hN.made (Made.trans hM h5)) w5 (Made.refl w5)).mono ?_
  rintro e w6 ⟨rfl, h6'⟩
  have HO := Lib.hid (owns_made ho h6')
  have h6 := Made.trans h5 h6'
  clear ho h6' h5 hva
  have hr6 := h6.heap R.out
  have c0 : w6.cell? ⟨n0, 0, none⟩ = some (.int .u8 0) := cell_of_lit hr6 0
  have c1 : w6.cell? ⟨n0, 1, none⟩ = some (.string { data := #[] }) := cell_of_lit hr6 1
  have c2 : w6.cell? ⟨n0, 2, none⟩ = some (.int .u8 0) := cell_of_lit hr6 2
  have c3 : w6.cell? ⟨n0, 3, none⟩ = some (.int .u8 0) := cell_of_lit hr6 3
  have c4 : w6.cell? ⟨n0, 4, none⟩ = some (.slice none 0 0) := cell_of_lit hr6 4
  have fz := free_of_lit hr6
  have H6 := Lib.hid h6
  clear hr6 h6 hv hM
  go_wp2
  refine bodyPost_ret (v := .agg #[.int .u8 8, .string (nameZ 8), .int .u8 1, .int .u8 (slotsZ 1), .slice p n cap]) (by simp [results, Tryz.results46, go_sem, c0, c1, c2, c3, c4]) rfl ?_
  exact ⟨_, _, _, rfl, row_close HM.out H6.out hz0 hn0u HO.out _ _ _ _ _⟩
end
section
open Go.ChangeShapes Go.WideShapes Go.ChangeAt Go.RowKit Go.Sort BigFrame

set_option maxRecDepth 100000 in
set_option maxHeartbeats 1000000 in
theorem rowOf_9 (W : World) (hN : Names W) (w : World) (hm : Made W w) : Calls Tryz.prog 46 #[.int .u8 9] w (IsRowOf W 9) := by
  have hz := hm.size
  go_enter Tryz.func46, Tryz.ntmps46
  go_wp2_with (fail)
  refine (plain_any _ _ _ _ (Made.refl _)).mono ?_
  rintro e w1 ⟨rfl, h1⟩
  go_wp2_with (fail)
  refine (plain_any _ _ _ _ (h1)).mono ?_
  rintro e w2 ⟨rfl, h2⟩
  go_wp2_with (fail)
  refine (plain_any _ _ _ _ (h2)).mono ?_
  rintro e w3 ⟨rfl, h3⟩
  go_wp2_with (fail)
  refine (plain_any _ _ _ _ (h3)).mono ?_
  rintro e w4 ⟨rfl, h4⟩
  clear h1 h2 h3
  have hz4 : w.heap.size < w4.heap.size := by have := h4.size; simp only [World.size_alloc] at this; omega
  have hW4 : Made W w4 := Made.trans (hm.alloc hz _) h4
  have hr4 : w4.heap[w.heap.size]? = some (.cells rowLit 98 (0, 0)) := h4.heap (heap_alloc_new w _)
  clear h4
  go_upto_region 2 with (fail)
  refine name_world (fun u => RowVars W w.heap.size w4.heap.size u) (rowVars_of hW4 hz4 hr4) ?_
  rintro u ⟨hM, hr, hD, hP, hS, hT, hzu⟩
  clear hW4 hr4
  generalize w4.heap.size = m at *
  generalize hn0 : w.heap.size = n0 at *
  have HN0 := Lib.hid hn0
  clear hn0
  have HM := Lib.hid hM
  have hz0 : W.heap.size ≤ n0 := hz
  have hn0u : n0 < u.heap.size := by omega
  have cd0 : u.cell? ⟨m, 0, none⟩ = some (.int .u8 3) := cell_of_lit hD 0
  have cd1 : u.cell? ⟨m, 1, none⟩ = some (.int .i64 5) := cell_of_lit hD 1
  have cd2 : u.cell? ⟨m, 2, none⟩ = some (.int .i64 0) := cell_of_lit hD 2
  have cd3 : u.cell? ⟨m, 3, none⟩ = some (.bool false) := cell_of_lit hD 3
  have cd4 : u.cell? ⟨m, 4, none⟩ = some (.bool false) := cell_of_lit hD 4
  have cs0 : u.cell? ⟨m + 1 + 1, 0, none⟩ = some (.int .u8 5) := cell_of_lit hS 0
  have cs1 : u.cell? ⟨m + 1 + 1, 1, none⟩ = some (.int .i64 5) := cell_of_lit hS 1
  have cs2 : u.cell? ⟨m + 1 + 1, 2, none⟩ = some (.int .i64 0) := cell_of_lit hS 2
  have cs3 : u.cell? ⟨m + 1 + 1, 3, none⟩ = some (.bool false) := cell_of_lit hS 3
  have cs4 : u.cell? ⟨m + 1 + 1, 4, none⟩ = some (.bool false) := cell_of_lit hS 4
  have R := Lib.hid hr
  clear hr hD hP hS hT
  have hv : Made u u := Made.refl u
  go_wp2_with (fail)
  try clear cd0 cd1 cd2 cd3 cd4 cs0 cs1 cs2 cs3 cs4
  have hzv := hv.size
  have hva : Made u (u.alloc (.cells (flatF [fD, fS]).toArray 51)) := hv.alloc hzv _
  refine (cond_any _ _ [fD, fS] u _ hva (by decide) 51 (0, 0) (heap_at (by first | rfl | simp))).mono ?_
  rintro e w5 ⟨p, n, cap, rfl, h5, ho⟩
  go_wp2_with (fail)
  refine (row_any 9 1 p n cap (by decide) (by decide) (by decide) w5 (hN.made (Made.trans hM h5)) w5 (Made.refl w5)).mono ?_
  rintro e w6 ⟨rfl, h6'⟩
  have HO := Lib.hid (owns_made ho h6')
  have h6 := Made.trans h5 h6'
  clear ho h6' h5 hva
  have hr6 := h6.heap R.out
  have c0 : w6.cell? ⟨n0, 0, none⟩ = some (.int .u8 0) := cell_of_lit hr6 0
  have c1 : w6.cell? ⟨n0, 1, none⟩ = some (.string { data := #[] }) := cell_of_lit hr6 1
  have c2 : w6.cell? ⟨n0, 2, none⟩ = some (.int .u8 0) := cell_of_lit hr6 2
  have c3 : w6.cell? ⟨n0, 3, none⟩ = some (.int .u8 0) := cell_of_lit hr6 3
  have c4 : w6.cell? ⟨n0, 4, none⟩ = some (.slice none 0 0) := cell_of_lit hr6 4
  have fz := free_of_lit hr6
  have H6 := Lib.hid h6
  clear hr6 h6 hv hM
  go_wp2
  refine bodyPost_ret (v := .agg #[.int .u8 9, .string (nameZ 9), .int .u8 1, .int .u8 (slotsZ 1), .slice p n cap]) (by simp [results, Tryz.results46, go_sem, c0, c1, c2, c3, c4]) rfl ?_
  exact ⟨_, _, _, rfl, row_close HM.out H6.out hz0 hn0u HO.out _ _ _ _ _⟩
set_option maxRecDepth 100000 in
set_option maxHeartbeats 1000000 in
theorem rowOf_10 (W : World) (hN : Names W) (w : World) (hm : Made W w) : Calls Tryz.prog 46 #[.int .u8 10] w (IsRowOf W 10) := by
  have hz := hm.size
  go_enter Tryz.func46, Tryz.ntmps46
  go_wp2_with (fail)
  refine (plain_any _ _ _ _ (Made.refl _)).mono ?_
  rintro e w1 ⟨rfl, h1⟩
  go_wp2_with (fail)
  refine (plain_any _ _ _ _ (h1)).mono ?_
  rintro e w2 ⟨rfl, h2⟩
  go_wp2_with (fail)
  refine (plain_any _ _ _ _ (h2)).mono ?_
  rintro e w3 ⟨rfl, h3⟩
  go_wp2_with (fail)
  refine (plain_any _ _ _ _ (h3)).mono ?_
  rintro e w4 ⟨rfl, h4⟩
  clear h1 h2 h3
  have hz4 : w.heap.size < w4.heap.size := by have := h4.size; simp only [World.size_alloc] at this; omega
  have hW4 : Made W w4 := Made.trans (hm.alloc hz _) h4
  have hr4 : w4.heap[w.heap.size]? = some (.cells rowLit 98 (0, 0)) := h4.heap (heap_alloc_new w _)
  clear h4
  go_upto_region 2 with (fail)
  refine name_world (fun u => RowVars W w.heap.size w4.heap.size u) (rowVars_of hW4 hz4 hr4) ?_
  rintro u ⟨hM, hr, hD, hP, hS, hT, hzu⟩
  clear hW4 hr4
  generalize w4.heap.size = m at *
  generalize hn0 : w.heap.size = n0 at *
  have HN0 := Lib.hid hn0
  clear hn0
  have HM := Lib.hid hM
  have hz0 : W.heap.size ≤ n0 := hz
  have hn0u : n0 < u.heap.size := by omega
  have cp0 : u.cell? ⟨m + 1, 0, none⟩ = some (.int .u8 4) := cell_of_lit hP 0
  have cp1 : u.cell? ⟨m + 1, 1, none⟩ = some (.int .i64 2) := cell_of_lit hP 1
  have cp2 : u.cell? ⟨m + 1, 2, none⟩ = some (.int .i64 0) := cell_of_lit hP 2
  have cp3 : u.cell? ⟨m + 1, 3, none⟩ = some (.bool false) := cell_of_lit hP 3
  have cp4 : u.cell? ⟨m + 1, 4, none⟩ = some (.bool false) := cell_of_lit hP 4
  have cs0 : u.cell? ⟨m + 1 + 1, 0, none⟩ = some (.int .u8 5) := cell_of_lit hS 0
  have cs1 : u.cell? ⟨m + 1 + 1, 1, none⟩ = some (.int .i64 5) := cell_of_lit hS 1
  have cs2 : u.cell? ⟨m + 1 + 1, 2, none⟩ = some (.int .i64 0) := cell_of_lit hS 2
  have cs3 : u.cell? ⟨m + 1 + 1, 3, none⟩ = some (.bool false) := cell_of_lit hS 3
  have cs4 : u.cell? ⟨m + 1 + 1, 4, none⟩ = some (.bool false) := cell_of_lit hS 4
  have ct0 : u.cell? ⟨m + 1 + 1 + 1, 0, none⟩ = some (.int .u8 6) := cell_of_lit hT 0
  have ct1 : u.cell? ⟨m + 1 + 1 + 1, 1, none⟩ = some (.int .i64 5) := cell_of_lit hT 1
  have ct2 : u.cell? ⟨m + 1 + 1 + 1, 2, none⟩ = some (.int .i64 0) := cell_of_lit hT 2
  have ct3 : u.cell? ⟨m + 1 + 1 + 1, 3, none⟩ = some (.bool false) := cell_of_lit hT 3
  have ct4 : u.cell? ⟨m + 1 + 1 + 1, 4, none⟩ = some (.bool false) := cell_of_lit hT 4
  have R := Lib.hid hr
  clear hr hD hP hS hT
  have hv : Made u u := Made.refl u
  go_wp2_with (fail)
  try clear cp0 cp1 cp2 cp3 cp4 cs0 cs1 cs2 cs3 cs4 ct0 ct1 ct2 ct3 ct4
  have hzv := hv.size
  have hva : Made u (u.alloc (.cells (flatF [fDP, fS, fT]).toArray 51)) := hv.alloc hzv _
  have ho := World.ownsRow_lit (base := u.heap.size) (e := 51) (size := 5) u (flatF [fDP, fS, fT]).toArray 3 hzv (by unfold maxLen; omega) rfl
  refine (row_any 10 1 _ _ _ (by decide) (by decide) (by decide) _ (hN.made (Made.trans hM hva)) _ (Made.refl _)).mono ?_
  rintro e w6 ⟨rfl, h6'⟩
  have HO := Lib.hid (owns_made ho h6')
  have h6 := Made.trans hva h6'
  clear ho h6' hva
  have hr6 := h6.heap R.out
  have c0 : w6.cell? ⟨n0, 0, none⟩ = some (.int .u8 0) := cell_of_lit hr6 0
  have c1 : w6.cell? ⟨n0, 1, none⟩ = some (.string { data := #[] }) := cell_of_lit hr6 1
  have c2 : w6.cell? ⟨n0, 2, none⟩ = some (.int .u8 0) := cell_of_lit hr6 2
  have c3 : w6.cell? ⟨n0, 3, none⟩ = some (.int .u8 0) := cell_of_lit hr6 3
  have c4 : w6.cell? ⟨n0, 4, none⟩ = some (.slice none 0 0) := cell_of_lit hr6 4
  have fz := free_of_lit hr6
  have H6 := Lib.hid h6
  clear hr6 h6 hv hM
  go_wp2
  refine bodyPost_ret (v := .agg #[.int .u8 10, .string (nameZ 10), .int .u8 1, .int .u8 (slotsZ 1), .slice (some ⟨u.heap.size, 0, none⟩) 3 3]) (by simp [results, Tryz.results46, go_sem, c0, c1, c2, c3, c4]) rfl ?_
  exact ⟨_, _, _, rfl, row_close HM.out H6.out hz0 hn0u HO.out _ _ _ _ _⟩
set_option maxRecDepth 100000 in
set_option maxHeartbeats 1000000 in
theorem rowOf_11 (W : World) (hN : Names W) (w : World) (hm : Made W w) : Calls Tryz.prog 46 #[.int .u8 11] w (IsRowOf W 11) := by
  have hz := hm.size
  go_enter Tryz.func46, Tryz.ntmps46
  go_wp2_with (fail)
  refine (plain_any _ _ _ _ (Made.refl _)).mono ?_
  rintro e w1 ⟨rfl, h1⟩
  go_wp2_with (fail)
  refine (plain_any _ _ _ _ (h1)).mono ?_
  rintro e w2 ⟨rfl, h2⟩
  go_wp2_with (fail)
  refine (plain_any _ _ _ _ (h2)).mono ?_
  rintro e w3 ⟨rfl, h3⟩
  go_wp2_with (fail)
  refine (plain_any _ _ _ _ (h3)).mono ?_
  rintro e w4 ⟨rfl, h4⟩
  clear h1 h2 h3
  have hz4 : w.heap.size < w4.heap.size := by have := h4.size; simp only [World.size_alloc] at this; omega
  have hW4 : Made W w4 := Made.trans (hm.alloc hz _) h4
  have hr4 : w4.heap[w.heap.size]? = some (.cells rowLit 98 (0, 0)) := h4.heap (heap_alloc_new w _)
  clear h4
  go_upto_region 2 with (fail)
  refine name_world (fun u => RowVars W w.heap.size w4.heap.size u) (rowVars_of hW4 hz4 hr4) ?_
  rintro u ⟨hM, hr, hD, hP, hS, hT, hzu⟩
  clear hW4 hr4
  generalize w4.heap.size = m at *
  generalize hn0 : w.heap.size = n0 at *
  have HN0 := Lib.hid hn0
  clear hn0
  have HM := Lib.hid hM
  have hz0 : W.heap.size ≤ n0 := hz
  have hn0u : n0 < u.heap.size := by omega
  have cp0 : u.cell? ⟨m + 1, 0, none⟩ = some (.int .u8 4) := cell_of_lit hP 0
  have cp1 : u.cell? ⟨m + 1, 1, none⟩ = some (.int .i64 2) := cell_of_lit hP 1
  have cp2 : u.cell? ⟨m + 1, 2, none⟩ = some (.int .i64 0) := cell_of_lit hP 2
  have cp3 : u.cell? ⟨m + 1, 3, none⟩ = some (.bool false) := cell_of_lit hP 3
  have cp4 : u.cell? ⟨m + 1, 4, none⟩ = some (.bool false) := cell_of_lit hP 4
  have cs0 : u.cell? ⟨m + 1 + 1, 0, none⟩ = some (.int .u8 5) := cell_of_lit hS 0
  have cs1 : u.cell? ⟨m + 1 + 1, 1, none⟩ = some (.int .i64 5) := cell_of_lit hS 1
  have cs2 : u.cell? ⟨m + 1 + 1, 2, none⟩ = some (.int .i64 0) := cell_of_lit hS 2
  have cs3 : u.cell? ⟨m + 1 + 1, 3, none⟩ = some (.bool false) := cell_of_lit hS 3
  have cs4 : u.cell? ⟨m + 1 + 1, 4, none⟩ = some (.bool false) := cell_of_lit hS 4
  have ct0 : u.cell? ⟨m + 1 + 1 + 1, 0, none⟩ = some (.int .u8 6) := cell_of_lit hT 0
  have ct1 : u.cell? ⟨m + 1 + 1 + 1, 1, none⟩ = some (.int .i64 5) := cell_of_lit hT 1
  have ct2 : u.cell? ⟨m + 1 + 1 + 1, 2, none⟩ = some (.int .i64 0) := cell_of_lit hT 2
  have ct3 : u.cell? ⟨m + 1 + 1 + 1, 3, none⟩ = some (.bool false) := cell_of_lit hT 3
  have ct4 : u.cell? ⟨m + 1 + 1 + 1, 4, none⟩ = some (.bool false) := cell_of_lit hT 4
  have R := Lib.hid hr
  clear hr hD hP hS hT
  have hv : Made u u := Made.refl u
  go_wp2_with (fail)
  try clear cp0 cp1 cp2 cp3 cp4 cs0 cs1 cs2 cs3 cs4 ct0 ct1 ct2 ct3 ct4
  have hzv := hv.size
  have hva : Made u (u.alloc (.cells (flatF [fDP, fS, fT]).toArray 51)) := hv.alloc hzv _
  have ho := World.ownsRow_lit (base := u.heap.size) (e := 51) (size := 5) u (flatF [fDP, fS, fT]).toArray 3 hzv (by unfold maxLen; omega) rfl
  refine (row_any 11 1 _ _ _ (by decide) (by decide) (by decide) _ (hN.made (Made.trans hM hva)) _ (Made.refl _)).mono ?_
  rintro e w6 ⟨rfl, h6'⟩
  have HO := Lib.hid (owns_made ho h6')
  have h6 := Made.trans hva h6'
  clear ho h6' hva
  have hr6 := h6.heap R.out
  have c0 : w6.cell? ⟨n0, 0, none⟩ = some (.int .u8 0) := cell_of_lit hr6 0
  have c1 : w6.cell? ⟨n0, 1, none⟩ = some (.string { data := #[] }) := cell_of_lit hr6 1
  have c2 : w6.cell? ⟨n0, 2, none⟩ = some (.int .u8 0) := cell_of_lit hr6 2
  have c3 : w6.cell? ⟨n0, 3, none⟩ = some (.int .u8 0) := cell_of_lit hr6 3
  have c4 : w6.cell? ⟨n0, 4, none⟩ = some (.slice none 0 0) := cell_of_lit hr6 4
  have fz := free_of_lit hr6
  have H6 := Lib.hid h6
  clear hr6 h6 hv hM
  go_wp2
  refine bodyPost_ret (v := .agg #[.int .u8 11, .string (nameZ 11), .int .u8 1, .int .u8 (slotsZ 1), .slice (some ⟨u.heap.size, 0, none⟩) 3 3]) (by simp [results, Tryz.results46, go_sem, c0, c1, c2, c3, c4]) rfl ?_
  exact ⟨_, _, _, rfl, row_close HM.out H6.out hz0 hn0u HO.out _ _ _ _ _⟩
set_option maxRecDepth 100000 in
set_option maxHeartbeats 1000000 in
theorem rowOf_12 (W : World) (hN : Names W) (w : World) (hm : Made W w) : Calls Tryz.prog 46 #[.int .u8 12] w (IsRowOf W 12) := by
  have hz := hm.size
  go_enter Tryz.func46, Tryz.ntmps46
  go_wp2_with (fail)
  refine (plain_any _ _ _ _ (Made.refl _)).mono ?_
  rintro e w1 ⟨rfl, h1⟩
  go_wp2_with (fail)
  refine (plain_any _ _ _ _ (h1)).mono ?_
  rintro e w2 ⟨rfl, h2⟩
  go_wp2_with (fail)
  refine (plain_any _ _ _ _ (h2)).mono ?_
  rintro e w3 ⟨rfl, h3⟩
  go_wp2_with (fail)
  refine (plain_any _ _ _ _ (h3)).mono ?_
  rintro e w4 ⟨rfl, h4⟩
  clear h1 h2 h3
  have hz4 : w.heap.size < w4.heap.size := by have := h4.size; simp only [World.size_alloc] at this; omega
  have hW4 : Made W w4 := Made.trans (hm.alloc hz _) h4
  have hr4 : w4.heap[w.heap.size]? = some (.cells rowLit 98 (0, 0)) := h4.heap (heap_alloc_new w _)
  clear h4
  go_upto_region 2 with (fail)
  refine name_world (fun u => RowVars W w.heap.size w4.heap.size u) (rowVars_of hW4 hz4 hr4) ?_
  rintro u ⟨hM, hr, hD, hP, hS, hT, hzu⟩
  clear hW4 hr4
  generalize w4.heap.size = m at *
  generalize hn0 : w.heap.size = n0 at *
  have HN0 := Lib.hid hn0
  clear hn0
  have HM := Lib.hid hM
  have hz0 : W.heap.size ≤ n0 := hz
  have hn0u : n0 < u.heap.size := by omega
  have cp0 : u.cell? ⟨m + 1, 0, none⟩ = some (.int .u8 4) := cell_of_lit hP 0
  have cp1 : u.cell? ⟨m + 1, 1, none⟩ = some (.int .i64 2) := cell_of_lit hP 1
  have cp2 : u.cell? ⟨m + 1, 2, none⟩ = some (.int .i64 0) := cell_of_lit hP 2
  have cp3 : u.cell? ⟨m + 1, 3, none⟩ = some (.bool false) := cell_of_lit hP 3
  have cp4 : u.cell? ⟨m + 1, 4, none⟩ = some (.bool false) := cell_of_lit hP 4
  have cs0 : u.cell? ⟨m + 1 + 1, 0, none⟩ = some (.int .u8 5) := cell_of_lit hS 0
  have cs1 : u.cell? ⟨m + 1 + 1, 1, none⟩ = some (.int .i64 5) := cell_of_lit hS 1
  have cs2 : u.cell? ⟨m + 1 + 1, 2, none⟩ = some (.int .i64 0) := cell_of_lit hS 2
  have cs3 : u.cell? ⟨m + 1 + 1, 3, none⟩ = some (.bool false) := cell_of_lit hS 3
  have cs4 : u.cell? ⟨m + 1 + 1, 4, none⟩ = some (.bool false) := cell_of_lit hS 4
  have ct0 : u.cell? ⟨m + 1 + 1 + 1, 0, none⟩ = some (.int .u8 6) := cell_of_lit hT 0
  have ct1 : u.cell? ⟨m + 1 + 1 + 1, 1, none⟩ = some (.int .i64 5) := cell_of_lit hT 1
  have ct2 : u.cell? ⟨m + 1 + 1 + 1, 2, none⟩ = some (.int .i64 0) := cell_of_lit hT 2
  have ct3 : u.cell? ⟨m + 1 + 1 + 1, 3, none⟩ = some (.bool false) := cell_of_lit hT 3
  have ct4 : u.cell? ⟨m + 1 + 1 + 1, 4, none⟩ = some (.bool false) := cell_of_lit hT 4
  have R := Lib.hid hr
  clear hr hD hP hS hT
  have hv : Made u u := Made.refl u
  go_wp2_with (fail)
  try clear cp0 cp1 cp2 cp3 cp4 cs0 cs1 cs2 cs3 cs4 ct0 ct1 ct2 ct3 ct4
  have hzv := hv.size
  have hva : Made u (u.alloc (.cells (flatF [fDP, fS, fT]).toArray 51)) := hv.alloc hzv _
  have ho := World.ownsRow_lit (base := u.heap.size) (e := 51) (size := 5) u (flatF [fDP, fS, fT]).toArray 3 hzv (by unfold maxLen; omega) rfl
  refine (row_any 12 1 _ _ _ (by decide) (by decide) (by decide) _ (hN.made (Made.trans hM hva)) _ (Made.refl _)).mono ?_
  rintro e w6 ⟨rfl, h6'⟩
  have HO := Lib.hid (owns_made ho h6')
  have h6 := Made.trans hva h6'
  clear ho h6' hva
  have hr6 := h6.heap R.out
  have c0 : w6.cell? ⟨n0, 0, none⟩ = some (.int .u8 0) := cell_of_lit hr6 0
  have c1 : w6.cell? ⟨n0, 1, none⟩ = some (.string { data := #[] }) := cell_of_lit hr6 1
  have c2 : w6.cell? ⟨n0, 2, none⟩ = some (.int .u8 0) := cell_of_lit hr6 2
  have c3 : w6.cell? ⟨n0, 3, none⟩ = some (.int .u8 0) := cell_of_lit hr6 3
  have c4 : w6.cell? ⟨n0, 4, none⟩ = some (.slice none 0 0) := cell_of_lit hr6 4
  have fz := free_of_lit hr6
  have H6 := Lib.hid h6
  clear hr6 h6 hv hM
  go_wp2
  refine bodyPost_ret (v := .agg #[.int .u8 12, .string (nameZ 12), .int .u8 1, .int .u8 (slotsZ 1), .slice (some ⟨u.heap.size, 0, none⟩) 3 3]) (by simp [results, Tryz.results46, go_sem, c0, c1, c2, c3, c4]) rfl ?_
  exact ⟨_, _, _, rfl, row_close HM.out H6.out hz0 hn0u HO.out _ _ _ _ _⟩
set_option maxRecDepth 100000 in
set_option maxHeartbeats 1000000 in
theorem rowOf_13 (W : World) (hN : Names W) (w : World) (hm : Made W w) : Calls Tryz.prog 46 #[.int .u8 13] w (IsRowOf W 13) := by
  have hz := hm.size
  go_enter Tryz.func46, Tryz.ntmps46
  go_wp2_with (fail)
  refine (plain_any _ _ _ _ (Made.refl _)).mono ?_
  rintro e w1 ⟨rfl, h1⟩
  go_wp2_with (fail)
  refine (plain_any _ _ _ _ (h1)).mono ?_
  rintro e w2 ⟨rfl, h2⟩
  go_wp2_with (fail)
  refine (plain_any _ _ _ _ (h2)).mono ?_
  rintro e w3 ⟨rfl, h3⟩
  go_wp2_with (fail)
  refine (plain_any _ _ _ _ (h3)).mono ?_
  rintro e w4 ⟨rfl, h4⟩
  clear h1 h2 h3
  have hz4 : w.heap.size < w4.heap.size := by have := h4.size; simp only [World.size_alloc] at this; omega
  have hW4 : Made W w4 := Made.trans (hm.alloc hz _) h4
  have hr4 : w4.heap[w.heap.size]? = some (.cells rowLit 98 (0, 0)) := h4.heap (heap_alloc_new w _)
  clear h4
  go_upto_region 2 with (fail)
  refine name_world (fun u => RowVars W w.heap.size w4.heap.size u) (rowVars_of hW4 hz4 hr4) ?_
  rintro u ⟨hM, hr, hD, hP, hS, hT, hzu⟩
  clear hW4 hr4
  generalize w4.heap.size = m at *
  generalize hn0 : w.heap.size = n0 at *
  have HN0 := Lib.hid hn0
  clear hn0
  have HM := Lib.hid hM
  have hz0 : W.heap.size ≤ n0 := hz
  have hn0u : n0 < u.heap.size := by omega
  have cp0 : u.cell? ⟨m + 1, 0, none⟩ = some (.int .u8 4) := cell_of_lit hP 0
  have cp1 : u.cell? ⟨m + 1, 1, none⟩ = some (.int .i64 2) := cell_of_lit hP 1
  have cp2 : u.cell? ⟨m + 1, 2, none⟩ = some (.int .i64 0) := cell_of_lit hP 2
  have cp3 : u.cell? ⟨m + 1, 3, none⟩ = some (.bool false) := cell_of_lit hP 3
  have cp4 : u.cell? ⟨m + 1, 4, none⟩ = some (.bool false) := cell_of_lit hP 4
  have cs0 : u.cell? ⟨m + 1 + 1, 0, none⟩ = some (.int .u8 5) := cell_of_lit hS 0
  have cs1 : u.cell? ⟨m + 1 + 1, 1, none⟩ = some (.int .i64 5) := cell_of_lit hS 1
  have cs2 : u.cell? ⟨m + 1 + 1, 2, none⟩ = some (.int .i64 0) := cell_of_lit hS 2
  have cs3 : u.cell? ⟨m + 1 + 1, 3, none⟩ = some (.bool false) := cell_of_lit hS 3
  have cs4 : u.cell? ⟨m + 1 + 1, 4, none⟩ = some (.bool false) := cell_of_lit hS 4
  have R := Lib.hid hr
  clear hr hD hP hS hT
  have gp0 := fun d os => cell_regrown cp0 d os
  have gp1 := fun d os => cell_regrown cp1 d os
  have gp2 := fun d os => cell_regrown cp2 d os
  have gp3 := fun d os => cell_regrown cp3 d os
  have gp4 := fun d os => cell_regrown cp4 d os
  have gs0 := fun d os => cell_regrown cs0 d os
  have gs1 := fun d os => cell_regrown cs1 d os
  have gs2 := fun d os => cell_regrown cs2 d os
  have gs3 := fun d os => cell_regrown cs3 d os
  have gs4 := fun d os => cell_regrown cs4 d os
  go_wp2_with (fail)
  refine wp_region_made 4 [0] [1, 2, 3] (by kernel_rfl) (by kernel_rfl) (by intro c a d v w h; cases d <;> exact h) ?_
  simp only [moved, moveOf, Act.put, Act.eval, picked, List.foldr_cons, List.foldr_nil, Option.elim_some, List.getElem?_toArray, List.getElem?_cons_zero, List.getElem?_cons_succ, List.setIfInBounds_toArray, List.set_cons_zero, List.set_cons_succ, List.drop_succ_cons, List.drop_zero, Array.getD_eq_getD_getElem?, Option.getD_some]
  repeat (go_big_quiet_step ((first | (go_at_call 64; exact (plain_any _ _ u).again _ _) | (go_at_call 67; exact (wide_any _ _ _ u).again _ _))))
  refine wpQuiet_nil ?_
  intro v hv
  clear cp0 gp0 cp1 gp1 cp2 gp2 cp3 gp3 cp4 gp4 cs0 gs0 cs1 gs1 cs2 gs2 cs3 gs3 cs4 gs4
  go_wp2_with (fail)
  have hzv := hv.size
  have hva : Made u (v.alloc (.cells (flatF [fDP, fS, fI14]).toArray 51)) := hv.alloc hzv _
  have ho := World.ownsRow_lit (base := u.heap.size) (e := 51) (size := 5) v (flatF [fDP, fS, fI14]).toArray 3 hzv (by unfold maxLen; omega) rfl
  refine (row_any 13 1 _ _ _ (by decide) (by decide) (by decide) _ (hN.made (Made.trans hM hva)) _ (Made.refl _)).mono ?_
  rintro e w6 ⟨rfl, h6'⟩
  have HO := Lib.hid (owns_made ho h6')
  have h6 := Made.trans hva h6'
  clear ho h6' hva
  have hr6 := h6.heap R.out
  have c0 : w6.cell? ⟨n0, 0, none⟩ = some (.int .u8 0) := cell_of_lit hr6 0
  have c1 : w6.cell? ⟨n0, 1, none⟩ = some (.string { data := #[] }) := cell_of_lit hr6 1
  have c2 : w6.cell? ⟨n0, 2, none⟩ = some (.int .u8 0) := cell_of_lit hr6 2
  have c3 : w6.cell? ⟨n0, 3, none⟩ = some (.int .u8 0) := cell_of_lit hr6 3
  have c4 : w6.cell? ⟨n0, 4, none⟩ = some (.slice none 0 0) := cell_of_lit hr6 4
  have fz := free_of_lit hr6
  have H6 := Lib.hid h6
  clear hr6 h6 hv hM
  go_wp2
  refine bodyPost_ret (v := .agg #[.int .u8 13, .string (nameZ 13), .int .u8 1, .int .u8 (slotsZ 1), .slice (some ⟨v.heap.size, 0, none⟩) 3 3]) (by simp [results, Tryz.results46, go_sem, c0, c1, c2, c3, c4]) rfl ?_
  exact ⟨_, _, _, rfl, row_close HM.out H6.out hz0 hn0u HO.out _ _ _ _ _⟩
set_option maxRecDepth 100000 in
set_option maxHeartbeats 1000000 in
theorem rowOf_14 (W : World) (hN : Names W) (w : World) (hm : Made W w) : Calls Tryz.prog 46 #[.int .u8 14] w (IsRowOf W 14) := by
  have hz := hm.size
  go_enter Tryz.func46, Tryz.ntmps46
  go_wp2_with (fail)
  refine (plain_any _ _ _ _ (Made.refl _)).mono ?_
  rintro e w1 ⟨rfl, h1⟩
  go_wp2_with (fail)
  refine (plain_any _ _ _ _ (h1)).mono ?_
  rintro e w2 ⟨rfl, h2⟩
  go_wp2_with (fail)
  refine (plain_any _ _ _ _ (h2)).mono ?_
  rintro e w3 ⟨rfl, h3⟩
  go_wp2_with (fail)
  refine (plain_any _ _ _ _ (h3)).mono ?_
  rintro e w4 ⟨rfl, h4⟩
  clear h1 h2 h3
  have hz4 : w.heap.size < w4.heap.size := by have := h4.size; simp only [World.size_alloc] at this; omega
  have hW4 : Made W w4 := Made.trans (hm.alloc hz _) h4
  have hr4 : w4.heap[w.heap.size]? = some (.cells rowLit 98 (0, 0)) := h4.heap (heap_alloc_new w _)
  clear h4
  go_upto_region 2 with (fail)
  refine name_world (fun u => RowVars W w.heap.size w4.heap.size u) (rowVars_of hW4 hz4 hr4) ?_
  rintro u ⟨hM, hr, hD, hP, hS, hT, hzu⟩
  clear hW4 hr4
  generalize w4.heap.size = m at *
  generalize hn0 : w.heap.size = n0 at *
  have HN0 := Lib.hid hn0
  clear hn0
  have HM := Lib.hid hM
  have hz0 : W.heap.size ≤ n0 := hz
  have hn0u : n0 < u.heap.size := by omega
  have cd0 : u.cell? ⟨m, 0, none⟩ = some (.int .u8 3) := cell_of_lit hD 0
  have cd1 : u.cell? ⟨m, 1, none⟩ = some (.int .i64 5) := cell_of_lit hD 1
  have cd2 : u.cell? ⟨m, 2, none⟩ = some (.int .i64 0) := cell_of_lit hD 2
  have cd3 : u.cell? ⟨m, 3, none⟩ = some (.bool false) := cell_of_lit hD 3
  have cd4 : u.cell? ⟨m, 4, none⟩ = some (.bool false) := cell_of_lit hD 4
  have cs0 : u.cell? ⟨m + 1 + 1, 0, none⟩ = some (.int .u8 5) := cell_of_lit hS 0
  have cs1 : u.cell? ⟨m + 1 + 1, 1, none⟩ = some (.int .i64 5) := cell_of_lit hS 1
  have cs2 : u.cell? ⟨m + 1 + 1, 2, none⟩ = some (.int .i64 0) := cell_of_lit hS 2
  have cs3 : u.cell? ⟨m + 1 + 1, 3, none⟩ = some (.bool false) := cell_of_lit hS 3
  have cs4 : u.cell? ⟨m + 1 + 1, 4, none⟩ = some (.bool false) := cell_of_lit hS 4
  have ct0 : u.cell? ⟨m + 1 + 1 + 1, 0, none⟩ = some (.int .u8 6) := cell_of_lit hT 0
  have ct1 : u.cell? ⟨m + 1 + 1 + 1, 1, none⟩ = some (.int .i64 5) := cell_of_lit hT 1
  have ct2 : u.cell? ⟨m + 1 + 1 + 1, 2, none⟩ = some (.int .i64 0) := cell_of_lit hT 2
  have ct3 : u.cell? ⟨m + 1 + 1 + 1, 3, none⟩ = some (.bool false) := cell_of_lit hT 3
  have ct4 : u.cell? ⟨m + 1 + 1 + 1, 4, none⟩ = some (.bool false) := cell_of_lit hT 4
  have R := Lib.hid hr
  clear hr hD hP hS hT
  have gd0 := fun d os => cell_regrown cd0 d os
  have gd1 := fun d os => cell_regrown cd1 d os
  have gd2 := fun d os => cell_regrown cd2 d os
  have gd3 := fun d os => cell_regrown cd3 d os
  have gd4 := fun d os => cell_regrown cd4 d os
  have gs0 := fun d os => cell_regrown cs0 d os
  have gs1 := fun d os => cell_regrown cs1 d os
  have gs2 := fun d os => cell_regrown cs2 d os
  have gs3 := fun d os => cell_regrown cs3 d os
  have gs4 := fun d os => cell_regrown cs4 d os
  have gt0 := fun d os => cell_regrown ct0 d os
  have gt1 := fun d os => cell_regrown ct1 d os
  have gt2 := fun d os => cell_regrown ct2 d os
  have gt3 := fun d os => cell_regrown ct3 d os
  have gt4 := fun d os => cell_regrown ct4 d os
  go_wp2_with (fail)
  refine wp_region_made 5 [0] [1, 2, 3, 4] (by kernel_rfl) (by kernel_rfl) (by intro c a d v w h; cases d <;> exact h) ?_
  simp only [moved, moveOf, Act.put, Act.eval, picked, List.foldr_cons, List.foldr_nil, Option.elim_some, List.getElem?_toArray, List.getElem?_cons_zero, List.getElem?_cons_succ, List.setIfInBounds_toArray, List.set_cons_zero, List.set_cons_succ, List.drop_succ_cons, List.drop_zero, Array.getD_eq_getD_getElem?, Option.getD_some]
  repeat (go_big_quiet_step ((first | (go_at_call 64; exact (plain_any _ _ u).again _ _) | (go_at_call 67; exact (wide_any _ _ _ u).again _ _))))
  refine wpQuiet_nil ?_
  intro v hv
  clear cd0 gd0 cd1 gd1 cd2 gd2 cd3 gd3 cd4 gd4 cs0 gs0 cs1 gs1 cs2 gs2 cs3 gs3 cs4 gs4 ct0 gt0 ct1 gt1 ct2 gt2 ct3 gt3 ct4 gt4
  go_wp2_with (fail)
  have hzv := hv.size
  have hva : Made u (v.alloc (.cells (flatF [fD, fPred, fS, fT]).toArray 51)) := hv.alloc hzv _
  have ho := World.ownsRow_lit (base := u.heap.size) (e := 51) (size := 5) v (flatF [fD, fPred, fS, fT]).toArray 4 hzv (by unfold maxLen; omega) rfl
  refine (row_any 14 1 _ _ _ (by decide) (by decide) (by decide) _ (hN.made (Made.trans hM hva)) _ (Made.refl _)).mono ?_
  rintro e w6 ⟨rfl, h6'⟩
  have HO := Lib.hid (owns_made ho h6')
  have h6 := Made.trans hva h6'
  clear ho h6' hva
  have hr6 := h6.heap R.out
  have c0 : w6.cell? ⟨n0, 0, none⟩ = some (.int .u8 0) := cell_of_lit hr6 0
  have c1 : w6.cell? ⟨n0, 1, none⟩ = some (.string { data := #[] }) := cell_of_lit hr6 1
  have c2 : w6.cell? ⟨n0, 2, none⟩ = some (.int .u8 0) := cell_of_lit hr6 2
  have c3 : w6.cell? ⟨n0, 3, none⟩ = some (.int .u8 0) := cell_of_lit hr6 3
  have c4 : w6.cell? ⟨n0, 4, none⟩ = some (.slice none 0 0) := cell_of_lit hr6 4
  have fz := free_of_lit hr6
  have H6 := Lib.hid h6
  clear hr6 h6 hv hM
  go_wp2
  refine bodyPost_ret (v := .agg #[.int .u8 14, .string (nameZ 14), .int .u8 1, .int .u8 (slotsZ 1), .slice (some ⟨v.heap.size, 0, none⟩) 4 4]) (by simp [results, Tryz.results46, go_sem, c0, c1, c2, c3, c4]) rfl ?_
  exact ⟨_, _, _, rfl, row_close HM.out H6.out hz0 hn0u HO.out _ _ _ _ _⟩
set_option maxRecDepth 100000 in
set_option maxHeartbeats 1000000 in
theorem rowOf_15 (W : World) (hN : Names W) (w : World) (hm : Made W w) : Calls Tryz.prog 46 #[.int .u8 15] w (IsRowOf W 15) := by
  have hz := hm.size
  go_enter Tryz.func46, Tryz.ntmps46
  go_wp2_with (fail)
  refine (plain_any _ _ _ _ (Made.refl _)).mono ?_
  rintro e w1 ⟨rfl, h1⟩
  go_wp2_with (fail)
  refine (plain_any _ _ _ _ (h1)).mono ?_
  rintro e w2 ⟨rfl, h2⟩
  go_wp2_with (fail)
  refine (plain_any _ _ _ _ (h2)).mono ?_
  rintro e w3 ⟨rfl, h3⟩
  go_wp2_with (fail)
  refine (plain_any _ _ _ _ (h3)).mono ?_
  rintro e w4 ⟨rfl, h4⟩
  clear h1 h2 h3
  have hz4 : w.heap.size < w4.heap.size := by have := h4.size; simp only [World.size_alloc] at this; omega
  have hW4 : Made W w4 := Made.trans (hm.alloc hz _) h4
  have hr4 : w4.heap[w.heap.size]? = some (.cells rowLit 98 (0, 0)) := h4.heap (heap_alloc_new w _)
  clear h4
  go_upto_region 2 with (fail)
  refine name_world (fun u => RowVars W w.heap.size w4.heap.size u) (rowVars_of hW4 hz4 hr4) ?_
  rintro u ⟨hM, hr, hD, hP, hS, hT, hzu⟩
  clear hW4 hr4
  generalize w4.heap.size = m at *
  generalize hn0 : w.heap.size = n0 at *
  have HN0 := Lib.hid hn0
  clear hn0
  have HM := Lib.hid hM
  have hz0 : W.heap.size ≤ n0 := hz
  have hn0u : n0 < u.heap.size := by omega
  have cd0 : u.cell? ⟨m, 0, none⟩ = some (.int .u8 3) := cell_of_lit hD 0
  have cd1 : u.cell? ⟨m, 1, none⟩ = some (.int .i64 5) := cell_of_lit hD 1
  have cd2 : u.cell? ⟨m, 2, none⟩ = some (.int .i64 0) := cell_of_lit hD 2
  have cd3 : u.cell? ⟨m, 3, none⟩ = some (.bool false) := cell_of_lit hD 3
  have cd4 : u.cell? ⟨m, 4, none⟩ = some (.bool false) := cell_of_lit hD 4
  have cs0 : u.cell? ⟨m + 1 + 1, 0, none⟩ = some (.int .u8 5) := cell_of_lit hS 0
  have cs1 : u.cell? ⟨m + 1 + 1, 1, none⟩ = some (.int .i64 5) := cell_of_lit hS 1
  have cs2 : u.cell? ⟨m + 1 + 1, 2, none⟩ = some (.int .i64 0) := cell_of_lit hS 2
  have cs3 : u.cell? ⟨m + 1 + 1, 3, none⟩ = some (.bool false) := cell_of_lit hS 3
  have cs4 : u.cell? ⟨m + 1 + 1, 4, none⟩ = some (.bool false) := cell_of_lit hS 4
  have R := Lib.hid hr
  clear hr hD hP hS hT
  have gd0 := fun d os => cell_regrown cd0 d os
  have gd1 := fun d os => cell_regrown cd1 d os
  have gd2 := fun d os => cell_regrown cd2 d os
  have gd3 := fun d os => cell_regrown cd3 d os
  have gd4 := fun d os => cell_regrown cd4 d os
  have gs0 := fun d os => cell_regrown cs0 d os
  have gs1 := fun d os => cell_regrown cs1 d os
  have gs2 := fun d os => cell_regrown cs2 d os
  have gs3 := fun d os => cell_regrown cs3 d os
  have gs4 := fun d os => cell_regrown cs4 d os
  go_wp2_with (fail)
  refine wp_region_made 4 [0] [1, 2, 3] (by kernel_rfl) (by kernel_rfl) (by intro c a d v w h; cases d <;> exact h) ?_
  simp only [moved, moveOf, Act.put, Act.eval, picked, List.foldr_cons, List.foldr_nil, Option.elim_some, List.getElem?_toArray, List.getElem?_cons_zero, List.getElem?_cons_succ, List.setIfInBounds_toArray, List.set_cons_zero, List.set_cons_succ, List.drop_succ_cons, List.drop_zero, Array.getD_eq_getD_getElem?, Option.getD_some]
  repeat (go_big_quiet_step ((first | (go_at_call 64; exact (plain_any _ _ u).again _ _) | (go_at_call 67; exact (wide_any _ _ _ u).again _ _))))
  refine wpQuiet_nil ?_
  intro v hv
  clear cd0 gd0 cd1 gd1 cd2 gd2 cd3 gd3 cd4 gd4 cs0 gs0 cs1 gs1 cs2 gs2 cs3 gs3 cs4 gs4
  go_wp2_with (fail)
  have hzv := hv.size
  have hva : Made u (v.alloc (.cells (flatF [fD, fS, fU5]).toArray 51)) := hv.alloc hzv _
  have ho := World.ownsRow_lit (base := u.heap.size) (e := 51) (size := 5) v (flatF [fD, fS, fU5]).toArray 3 hzv (by unfold maxLen; omega) rfl
  refine (row_any 15 2 _ _ _ (by decide) (by decide) (by decide) _ (hN.made (Made.trans hM hva)) _ (Made.refl _)).mono ?_
  rintro e w6 ⟨rfl, h6'⟩
  have HO := Lib.hid (owns_made ho h6')
  have h6 := Made.trans hva h6'
  clear ho h6' hva
  have hr6 := h6.heap R.out
  have c0 : w6.cell? ⟨n0, 0, none⟩ = some (.int .u8 0) := cell_of_lit hr6 0
  have c1 : w6.cell? ⟨n0, 1, none⟩ = some (.string { data := #[] }) := cell_of_lit hr6 1
  have c2 : w6.cell? ⟨n0, 2, none⟩ = some (.int .u8 0) := cell_of_lit hr6 2
  have c3 : w6.cell? ⟨n0, 3, none⟩ = some (.int .u8 0) := cell_of_lit hr6 3
  have c4 : w6.cell? ⟨n0, 4, none⟩ = some (.slice none 0 0) := cell_of_lit hr6 4
  have fz := free_of_lit hr6
  have H6 := Lib.hid h6
  clear hr6 h6 hv hM
  go_wp2
  refine bodyPost_ret (v := .agg #[.int .u8 15, .string (nameZ 15), .int .u8 2, .int .u8 (slotsZ 2), .slice (some ⟨v.heap.size, 0, none⟩) 3 3]) (by simp [results, Tryz.results46, go_sem, c0, c1, c2, c3, c4]) rfl ?_
  exact ⟨_, _, _, rfl, row_close HM.out H6.out hz0 hn0u HO.out _ _ _ _ _⟩
set_option maxRecDepth 100000 in
set_option maxHeartbeats 1000000 in
theorem rowOf_16 (W : World) (hN : Names W) (w : World) (hm : Made W w) : Calls Tryz.prog 46 #[.int .u8 16] w (IsRowOf W 16) := by
  have hz := hm.size
  go_enter Tryz.func46, Tryz.ntmps46
  go_wp2_with (fail)
  refine (plain_any _ _ _ _ (Made.refl _)).mono ?_
  rintro e w1 ⟨rfl, h1⟩
  go_wp2_with (fail)
  refine (plain_any _ _ _ _ (h1)).mono ?_
  rintro e w2 ⟨rfl, h2⟩
  go_wp2_with (fail)
  refine (plain_any _ _ _ _ (h2)).mono ?_
  rintro e w3 ⟨rfl, h3⟩
  go_wp2_with (fail)
  refine (plain_any _ _ _ _ (h3)).mono ?_
  rintro e w4 ⟨rfl, h4⟩
  clear h1 h2 h3
  have hz4 : w.heap.size < w4.heap.size := by have := h4.size; simp only [World.size_alloc] at this; omega
  have hW4 : Made W w4 := Made.trans (hm.alloc hz _) h4
  have hr4 : w4.heap[w.heap.size]? = some (.cells rowLit 98 (0, 0)) := h4.heap (heap_alloc_new w _)
  clear h4
  go_upto_region 2 with (fail)
  refine name_world (fun u => RowVars W w.heap.size w4.heap.size u) (rowVars_of hW4 hz4 hr4) ?_
  rintro u ⟨hM, hr, hD, hP, hS, hT, hzu⟩
  clear hW4 hr4
  generalize w4.heap.size = m at *
  generalize hn0 : w.heap.size = n0 at *
  have HN0 := Lib.hid hn0
  clear hn0
  have HM := Lib.hid hM
  have hz0 : W.heap.size ≤ n0 := hz
  have hn0u : n0 < u.heap.size := by omega
  have cd0 : u.cell? ⟨m, 0, none⟩ = some (.int .u8 3) := cell_of_lit hD 0
  have cd1 : u.cell? ⟨m, 1, none⟩ = some (.int .i64 5) := cell_of_lit hD 1
  have cd2 : u.cell? ⟨m, 2, none⟩ = some (.int .i64 0) := cell_of_lit hD 2
  have cd3 : u.cell? ⟨m, 3, none⟩ = some (.bool false) := cell_of_lit hD 3
  have cd4 : u.cell? ⟨m, 4, none⟩ = some (.bool false) := cell_of_lit hD 4
  have cs0 : u.cell? ⟨m + 1 + 1, 0, none⟩ = some (.int .u8 5) := cell_of_lit hS 0
  have cs1 : u.cell? ⟨m + 1 + 1, 1, none⟩ = some (.int .i64 5) := cell_of_lit hS 1
  have cs2 : u.cell? ⟨m + 1 + 1, 2, none⟩ = some (.int .i64 0) := cell_of_lit hS 2
  have cs3 : u.cell? ⟨m + 1 + 1, 3, none⟩ = some (.bool false) := cell_of_lit hS 3
  have cs4 : u.cell? ⟨m + 1 + 1, 4, none⟩ = some (.bool false) := cell_of_lit hS 4
  have R := Lib.hid hr
  clear hr hD hP hS hT
  have gd0 := fun d os => cell_regrown cd0 d os
  have gd1 := fun d os => cell_regrown cd1 d os
  have gd2 := fun d os => cell_regrown cd2 d os
  have gd3 := fun d os => cell_regrown cd3 d os
  have gd4 := fun d os => cell_regrown cd4 d os
  have gs0 := fun d os => cell_regrown cs0 d os
  have gs1 := fun d os => cell_regrown cs1 d os
  have gs2 := fun d os => cell_regrown cs2 d os
  have gs3 := fun d os => cell_regrown cs3 d os
  have gs4 := fun d os => cell_regrown cs4 d os
  go_wp2_with (fail)
  refine wp_region_made 4 [0] [1, 2, 3] (by kernel_rfl) (by kernel_rfl) (by intro c a d v w h; cases d <;> exact h) ?_
  simp only [moved, moveOf, Act.put, Act.eval, picked, List.foldr_cons, List.foldr_nil, Option.elim_some, List.getElem?_toArray, List.getElem?_cons_zero, List.getElem?_cons_succ, List.setIfInBounds_toArray, List.set_cons_zero, List.set_cons_succ, List.drop_succ_cons, List.drop_zero, Array.getD_eq_getD_getElem?, Option.getD_some]
  repeat (go_big_quiet_step ((first | (go_at_call 64; exact (plain_any _ _ u).again _ _) | (go_at_call 67; exact (wide_any _ _ _ u).again _ _))))
  refine wpQuiet_nil ?_
  intro v hv
  clear cd0 gd0 cd1 gd1 cd2 gd2 cd3 gd3 cd4 gd4 cs0 gs0 cs1 gs1 cs2 gs2 cs3 gs3 cs4 gs4
  go_wp2_with (fail)
  have hzv := hv.size
  have hva : Made u (v.alloc (.cells (flatF [fD, fS, fU5]).toArray 51)) := hv.alloc hzv _
  have ho := World.ownsRow_lit (base := u.heap.size) (e := 51) (size := 5) v (flatF [fD, fS, fU5]).toArray 3 hzv (by unfold maxLen; omega) rfl
  refine (row_any 16 2 _ _ _ (by decide) (by decide) (by decide) _ (hN.made (Made.trans hM hva)) _ (Made.refl _)).mono ?_
  rintro e w6 ⟨rfl, h6'⟩
  have HO := Lib.hid (owns_made ho h6')
  have h6 := Made.trans hva h6'
  clear ho h6' hva
  have hr6 := h6.heap R.out
  have c0 : w6.cell? ⟨n0, 0, none⟩ = some (.int .u8 0) := cell_of_lit hr6 0
  have c1 : w6.cell? ⟨n0, 1, none⟩ = some (.string { data := #[] }) := cell_of_lit hr6 1
  have c2 : w6.cell? ⟨n0, 2, none⟩ = some (.int .u8 0) := cell_of_lit hr6 2
  have c3 : w6.cell? ⟨n0, 3, none⟩ = some (.int .u8 0) := cell_of_lit hr6 3
  have c4 : w6.cell? ⟨n0, 4, none⟩ = some (.slice none 0 0) := cell_of_lit hr6 4
  have fz := free_of_lit hr6
  have H6 := Lib.hid h6
  clear hr6 h6 hv hM
  go_wp2
  refine bodyPost_ret (v := .agg #[.int .u8 16, .string (nameZ 16), .int .u8 2, .int .u8 (slotsZ 2), .slice (some ⟨v.heap.size, 0, none⟩) 3 3]) (by simp [results, Tryz.results46, go_sem, c0, c1, c2, c3, c4]) rfl ?_
  exact ⟨_, _, _, rfl, row_close HM.out H6.out hz0 hn0u HO.out _ _ _ _ _⟩
end
end Go.Proofs.YtnfmlmamgkpocaaGreatDoor
