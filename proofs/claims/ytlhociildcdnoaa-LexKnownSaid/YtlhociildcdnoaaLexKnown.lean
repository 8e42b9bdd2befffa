/- LexKnown of the laws of lex returns true. -/
import Derived.Test.YtlhociildcdnoaaLexLaws
import Derived.OwnWalk
import Derived.Laws.BytesString
import Derived.Laws.Cells
namespace Go.Proofs.Ytlhociildcdnoaa
open Go.ChangeShapes Go.WideShapes Go.ChangeAt Go.RowKit Go.Sort BigFrame

abbrev kx0 : List UInt8 := [76, 95, 49, 58, 32, 46, 111, 114, 103, 32, 49, 50]
abbrev kt0 : List Tk := [⟨1, [76, 95, 49], 0, 1, 1⟩, ⟨3, [58], 0, 1, 4⟩, ⟨1, [46, 111, 114, 103], 0, 1, 6⟩, ⟨2, [49, 50], 12, 1, 11⟩, ⟨4, [], 0, 1, 13⟩]
abbrev kw0 : List Wr := []
theorem kl0 (w : World) : Calls Try.prog 8 #[.string ⟨kx0.toArray⟩] w fun e w' => ∃ so c dg d, e = .returned (.tuple #[.slice so 5 c, .slice dg 0 d]) ∧ Toks w' so c kt0 ∧ Wrs w' dg d kw0 ∧ Made w w' :=
  lex_lit kx0 kt0 kw0 5 0 (by decide +kernel) (by decide +kernel) rfl rfl (by decide +kernel) w
abbrev kx1 : List UInt8 := [97, 32, 37, 49, 50, 10, 49, 120, 32, 46, 98]
abbrev kt1 : List Tk := [⟨1, [97], 0, 1, 1⟩, ⟨2, [49, 50], 12, 1, 4⟩, ⟨4, [], 0, 1, 6⟩, ⟨1, [46, 98], 0, 2, 4⟩, ⟨4, [], 0, 2, 6⟩]
abbrev kw1 : List Wr := [⟨1, 3, 8⟩, ⟨2, 1, 8⟩]
theorem kl1 (w : World) : Calls Try.prog 8 #[.string ⟨kx1.toArray⟩] w fun e w' => ∃ so c dg d, e = .returned (.tuple #[.slice so 5 c, .slice dg 2 d]) ∧ Toks w' so c kt1 ∧ Wrs w' dg d kw1 ∧ Made w w' :=
  lex_lit kx1 kt1 kw1 5 2 (by decide +kernel) (by decide +kernel) rfl rfl (by decide +kernel) w
abbrev kx2 : List UInt8 := [49, 48, 57, 57, 53, 49, 49, 54, 50, 55, 55, 55, 55]
abbrev kt2 : List Tk := [⟨4, [], 0, 1, 14⟩]
abbrev kw2 : List Wr := [⟨1, 1, 6⟩]
theorem kl2 (w : World) : Calls Try.prog 8 #[.string ⟨kx2.toArray⟩] w fun e w' => ∃ so c dg d, e = .returned (.tuple #[.slice so 1 c, .slice dg 1 d]) ∧ Toks w' so c kt2 ∧ Wrs w' dg d kw2 ∧ Made w w' :=
  lex_lit kx2 kt2 kw2 1 1 (by decide +kernel) (by decide +kernel) rfl rfl (by decide +kernel) w
abbrev kx3 : List UInt8 := [48, 120]
abbrev kt3 : List Tk := [⟨4, [], 0, 1, 3⟩]
abbrev kw3 : List Wr := [⟨1, 1, 8⟩]
theorem kl3 (w : World) : Calls Try.prog 8 #[.string ⟨kx3.toArray⟩] w fun e w' => ∃ so c dg d, e = .returned (.tuple #[.slice so 1 c, .slice dg 1 d]) ∧ Toks w' so c kt3 ∧ Wrs w' dg d kw3 ∧ Made w w' :=
  lex_lit kx3 kt3 kw3 1 1 (by decide +kernel) (by decide +kernel) rfl rfl (by decide +kernel) w
abbrev kx4 : List UInt8 := []
abbrev kt4 : List Tk := [⟨4, [], 0, 1, 1⟩]
abbrev kw4 : List Wr := []
theorem kl4 (w : World) : Calls Try.prog 8 #[.string ⟨kx4.toArray⟩] w fun e w' => ∃ so c dg d, e = .returned (.tuple #[.slice so 1 c, .slice dg 0 d]) ∧ Toks w' so c kt4 ∧ Wrs w' dg d kw4 ∧ Made w w' :=
  lex_lit kx4 kt4 kw4 1 0 (by decide +kernel) (by decide +kernel) rfl rfl (by decide +kernel) w
abbrev kx5 : List UInt8 := [47, 32, 47, 47, 123, 125, 10, 35, 35, 35]
abbrev kt5 : List Tk := [⟨4, [], 0, 1, 7⟩, ⟨3, [35, 35], 0, 2, 1⟩, ⟨3, [35], 0, 2, 3⟩, ⟨4, [], 0, 2, 4⟩]
abbrev kw5 : List Wr := [⟨1, 1, 8⟩]
theorem kl5 (w : World) : Calls Try.prog 8 #[.string ⟨kx5.toArray⟩] w fun e w' => ∃ so c dg d, e = .returned (.tuple #[.slice so 4 c, .slice dg 1 d]) ∧ Toks w' so c kt5 ∧ Wrs w' dg d kw5 ∧ Made w w' :=
  lex_lit kx5 kt5 kw5 4 1 (by decide +kernel) (by decide +kernel) rfl rfl (by decide +kernel) w
abbrev kx6 : List UInt8 := [49, 48, 57, 57, 53, 49, 49, 54, 50, 55, 55, 55, 54, 32, 48, 88, 48, 97, 32, 48, 48, 55]
abbrev kt6 : List Tk := [⟨2, [49, 48, 57, 57, 53, 49, 49, 54, 50, 55, 55, 55, 54], 1099511627776, 1, 1⟩, ⟨2, [48, 88, 48, 97], 10, 1, 15⟩, ⟨2, [48, 48, 55], 7, 1, 20⟩, ⟨4, [], 0, 1, 23⟩]
abbrev kw6 : List Wr := []
theorem kl6 (w : World) : Calls Try.prog 8 #[.string ⟨kx6.toArray⟩] w fun e w' => ∃ so c dg d, e = .returned (.tuple #[.slice so 4 c, .slice dg 0 d]) ∧ Toks w' so c kt6 ∧ Wrs w' dg d kw6 ∧ Made w w' :=
  lex_lit kx6 kt6 kw6 4 0 (by decide +kernel) (by decide +kernel) rfl rfl (by decide +kernel) w
abbrev kx7 : List UInt8 := List.replicate 150 0
abbrev kt7 : List Tk := [⟨4, [], 0, 1, 151⟩]
abbrev kw7 : List Wr := (List.range 100).map fun i : Nat => (⟨1, (i : Nat) + 1, 8⟩ : Wr)
theorem kl7 (w : World) : Calls Try.prog 8 #[.string ⟨kx7.toArray⟩] w fun e w' => ∃ so c dg d, e = .returned (.tuple #[.slice so 1 c, .slice dg 100 d]) ∧ Toks w' so c kt7 ∧ Wrs w' dg d kw7 ∧ Made w w' :=
  lex_lit kx7 kt7 kw7 1 100 (by decide +kernel) (by decide +kernel) rfl (by decide +kernel) (by decide +kernel) w
abbrev kx8 : List UInt8 := [97, 98, 99, 100, 101, 102, 103, 104, 105, 106, 107, 108, 109, 110, 111, 112, 113, 114, 115, 116, 117, 118, 119, 120, 121, 122, 48, 49, 50, 51, 52, 53, 54, 32, 97, 98, 99, 100, 101, 102, 103, 104, 105, 106, 107, 108, 109, 110, 111, 112, 113, 114, 115, 116, 117, 118, 119, 120, 121, 122, 48, 49, 50, 51, 52, 53]
abbrev kt8 : List Tk := [⟨1, [97, 98, 99, 100, 101, 102, 103, 104, 105, 106, 107, 108, 109, 110, 111, 112, 113, 114, 115, 116, 117, 118, 119, 120, 121, 122, 48, 49, 50, 51, 52, 53], 0, 1, 35⟩, ⟨4, [], 0, 1, 67⟩]
abbrev kw8 : List Wr := [⟨1, 1, 3⟩]
theorem kl8 (w : World) : Calls Try.prog 8 #[.string ⟨kx8.toArray⟩] w fun e w' => ∃ so c dg d, e = .returned (.tuple #[.slice so 2 c, .slice dg 1 d]) ∧ Toks w' so c kt8 ∧ Wrs w' dg d kw8 ∧ Made w w' :=
  lex_lit kx8 kt8 kw8 2 1 (by decide +kernel) (by decide +kernel) rfl rfl (by decide +kernel) w
theorem conv_row : (Try.prog.info? 5).map (fun i => (i.zero, i.size, i.bytes)) = some (some (.int .u8 0), 1, 1) := by kernel_rfl
theorem zeros_made : (madeCells (Value.int .u8 0).cells (150 * 1)).toList = (List.replicate 150 (0 : Int)).map (Value.int .u8) := by kernel_rfl
theorem conv_zeros (w : World) (B g : Nat) (h : w.ownsRow B 5 1 (.slice (some ⟨g, 0, none⟩) 150 150) 150 (madeCells (Value.int .u8 0).cells (150 * 1)).toList) : (convert 26 9 (.slice (some ⟨g, 0, none⟩) 150 150)).run Try.prog w = .ok (.string ⟨kx7.toArray⟩) w := by
  rw [zeros_made] at h
  have hl := run_loadCells_list (P := Try.prog) (w := w) ⟨g, 0, none⟩ ((List.replicate 150 (0 : Int)).map (Value.int .u8)) (fun j v hj => by
    have hj2 : j < 150 := by
      have := (List.getElem?_eq_some_iff.1 hj).1
      simpa using this
    rw [addr_add]
    exact (h.cellAt j (by omega)).trans hj)
  have hl2 : (loadCells ⟨g, 0, none⟩ 150).run Try.prog w = .ok ((List.replicate 150 (0 : Int)).map (Value.int .u8)).toArray w := hl
  have h3 := run_bytesToString w ⟨g, 0, none⟩ 150 150 (List.replicate 150 0) hl2
  have h4 := run_convert_bytes_string (P := Try.prog) w 26 9 5 (some ⟨g, 0, none⟩) 150 150 Try.underlying26 Try.underlying5 Try.underlying9
  have h5 : (List.replicate 150 (0 : Int)).foldl (fun r n => r.push (UInt8.ofNat n.toNat)) ByteArray.empty = ⟨kx7.toArray⟩ := by kernel_rfl
  rw [h4, h3, h5]
namespace lexKnown
section
attribute [local irreducible] World.cell?
set_option maxRecDepth 100000 in
set_option maxHeartbeats 32000000 in
theorem walk (W : World) : Calls Try.prog 3 #[] W fun e w' => e = .returned (.bool true) ∧ Made W w' := by
  have HA := Lib.hid (fun (u : World) (hu : Made W u) => awake14_any W u hu)
  go_enter Try.func3, Try.ntmps3
  go_wp2_with (fail)
  refine (kl0 _).mono ?_
  rintro e w0 ⟨s0, c0, g0, d0, rfl, hT0, hD0, h0⟩
  have M0 := Lib.hid h0
  have T0_0 := Lib.hid hT0
  have D0_0 := Lib.hid hD0
  clear hT0 hD0 h0
  go_wp2_with (fail)
  refine (kl1 _).mono ?_
  rintro e w1 ⟨s1, c1, g1, d1, rfl, hT1, hD1, h1⟩
  have M1 := Lib.hid (Made.trans M0.out h1)
  have T0_1 := Lib.hid (toks_made T0_0.out h1)
  have D0_1 := Lib.hid (wrs_made D0_0.out h1)
  have T1_1 := Lib.hid hT1
  have D1_1 := Lib.hid hD1
  clear hT1 hD1 h1 T0_0 D0_0 M0
  go_wp2_with (fail)
  refine (kl2 _).mono ?_
  rintro e w2 ⟨s2, c2, g2, d2, rfl, hT2, hD2, h2⟩
  have M2 := Lib.hid (Made.trans M1.out h2)
  have T0_2 := Lib.hid (toks_made T0_1.out h2)
  have D0_2 := Lib.hid (wrs_made D0_1.out h2)
  have T1_2 := Lib.hid (toks_made T1_1.out h2)
  have D1_2 := Lib.hid (wrs_made D1_1.out h2)
  have T2_2 := Lib.hid hT2
  have D2_2 := Lib.hid hD2
  clear hT2 hD2 h2 T0_1 D0_1 T1_1 D1_1 M1
  go_wp2_with (fail)
  refine (kl3 _).mono ?_
  rintro e w3 ⟨s3, c3, g3, d3, rfl, hT3, hD3, h3⟩
  have M3 := Lib.hid (Made.trans M2.out h3)
  have T0_3 := Lib.hid (toks_made T0_2.out h3)
  have D0_3 := Lib.hid (wrs_made D0_2.out h3)
  have T1_3 := Lib.hid (toks_made T1_2.out h3)
  have D1_3 := Lib.hid (wrs_made D1_2.out h3)
  have T2_3 := Lib.hid (toks_made T2_2.out h3)
  have D2_3 := Lib.hid (wrs_made D2_2.out h3)
  have T3_3 := Lib.hid hT3
  have D3_3 := Lib.hid hD3
  clear hT3 hD3 h3 T0_2 D0_2 T1_2 D1_2 T2_2 D2_2 M2
  go_wp2_with (fail)
  refine (kl4 _).mono ?_
  rintro e w4 ⟨s4, c4, g4, d4, rfl, hT4, hD4, h4⟩
  have M4 := Lib.hid (Made.trans M3.out h4)
  have T0_4 := Lib.hid (toks_made T0_3.out h4)
  have D0_4 := Lib.hid (wrs_made D0_3.out h4)
  have T1_4 := Lib.hid (toks_made T1_3.out h4)
  have D1_4 := Lib.hid (wrs_made D1_3.out h4)
  have T2_4 := Lib.hid (toks_made T2_3.out h4)
  have D2_4 := Lib.hid (wrs_made D2_3.out h4)
  have T3_4 := Lib.hid (toks_made T3_3.out h4)
  have D3_4 := Lib.hid (wrs_made D3_3.out h4)
  have T4_4 := Lib.hid hT4
  have D4_4 := Lib.hid hD4
  clear hT4 hD4 h4 T0_3 D0_3 T1_3 D1_3 T2_3 D2_3 T3_3 D3_3 M3
  go_wp2_with (fail)
  refine (kl5 _).mono ?_
  rintro e w5 ⟨s5, c5, g5, d5, rfl, hT5, hD5, h5⟩
  have M5 := Lib.hid (Made.trans M4.out h5)
  have T0_5 := Lib.hid (toks_made T0_4.out h5)
  have D0_5 := Lib.hid (wrs_made D0_4.out h5)
  have T1_5 := Lib.hid (toks_made T1_4.out h5)
  have D1_5 := Lib.hid (wrs_made D1_4.out h5)
  have T2_5 := Lib.hid (toks_made T2_4.out h5)
  have D2_5 := Lib.hid (wrs_made D2_4.out h5)
  have T3_5 := Lib.hid (toks_made T3_4.out h5)
  have D3_5 := Lib.hid (wrs_made D3_4.out h5)
  have T4_5 := Lib.hid (toks_made T4_4.out h5)
  have D4_5 := Lib.hid (wrs_made D4_4.out h5)
  have T5_5 := Lib.hid hT5
  have D5_5 := Lib.hid hD5
  clear hT5 hD5 h5 T0_4 D0_4 T1_4 D1_4 T2_4 D2_4 T3_4 D3_4 T4_4 D4_4 M4
  go_wp2_with (fail)
  refine (kl6 _).mono ?_
  rintro e w6 ⟨s6, c6, g6, d6, rfl, hT6, hD6, h6⟩
  have M6 := Lib.hid (Made.trans M5.out h6)
  have T0_6 := Lib.hid (toks_made T0_5.out h6)
  have D0_6 := Lib.hid (wrs_made D0_5.out h6)
  have T1_6 := Lib.hid (toks_made T1_5.out h6)
  have D1_6 := Lib.hid (wrs_made D1_5.out h6)
  have T2_6 := Lib.hid (toks_made T2_5.out h6)
  have D2_6 := Lib.hid (wrs_made D2_5.out h6)
  have T3_6 := Lib.hid (toks_made T3_5.out h6)
  have D3_6 := Lib.hid (wrs_made D3_5.out h6)
  have T4_6 := Lib.hid (toks_made T4_5.out h6)
  have D4_6 := Lib.hid (wrs_made D4_5.out h6)
  have T5_6 := Lib.hid (toks_made T5_5.out h6)
  have D5_6 := Lib.hid (wrs_made D5_5.out h6)
  have T6_6 := Lib.hid hT6
  have D6_6 := Lib.hid hD6
  clear hT6 hD6 h6 T0_5 D0_5 T1_5 D1_5 T2_5 D2_5 T3_5 D3_5 T4_5 D4_5 T5_5 D5_5 M5
  obtain ⟨i0, hi0, hz0, hz1, hz2⟩ := info_parts conv_row
  go_wp2_with (at_make; refine wpList_make_full _ rfl _ _ 26 rfl w6.heap.size 5 i0 (.int .u8 0) 1 Try.underlying26 hi0 hz0 hz1 _ _ _ _ 150 rfl rfl rfl rfl (by rw [hz2]; omega) (by unfold maxLen; omega) (Nat.le_refl _) ?_; intro v6 hown hgr; have hconv := conv_zeros v6 _ _ hown; have MV := Lib.hid (show Made w6 v6 from ⟨hgr.os, hgr.tape, hgr.output, hgr.size, fun k hk => hgr.block k hk (by simp)⟩); clear hown hgr)
  refine (kl7 _).mono ?_
  rintro e w7 ⟨s7, c7, g7, d7, rfl, hT7, hD7, h7⟩
  have h7 := Made.trans MV.out h7
  clear MV hconv
  have M7 := Lib.hid (Made.trans M6.out h7)
  have T0_7 := Lib.hid (toks_made T0_6.out h7)
  have D0_7 := Lib.hid (wrs_made D0_6.out h7)
  have T1_7 := Lib.hid (toks_made T1_6.out h7)
  have D1_7 := Lib.hid (wrs_made D1_6.out h7)
  have T2_7 := Lib.hid (toks_made T2_6.out h7)
  have D2_7 := Lib.hid (wrs_made D2_6.out h7)
  have T3_7 := Lib.hid (toks_made T3_6.out h7)
  have D3_7 := Lib.hid (wrs_made D3_6.out h7)
  have T4_7 := Lib.hid (toks_made T4_6.out h7)
  have D4_7 := Lib.hid (wrs_made D4_6.out h7)
  have T5_7 := Lib.hid (toks_made T5_6.out h7)
  have D5_7 := Lib.hid (wrs_made D5_6.out h7)
  have T6_7 := Lib.hid (toks_made T6_6.out h7)
  have D6_7 := Lib.hid (wrs_made D6_6.out h7)
  have T7_7 := Lib.hid hT7
  have D7_7 := Lib.hid hD7
  clear hT7 hD7 h7 T0_6 D0_6 T1_6 D1_6 T2_6 D2_6 T3_6 D3_6 T4_6 D4_6 T5_6 D5_6 T6_6 D6_6 M6
  go_wp2_with (fail)
  refine (kl8 _).mono ?_
  rintro e w8 ⟨s8, c8, g8, d8, rfl, hT8, hD8, h8⟩
  have M8 := Lib.hid (Made.trans M7.out h8)
  have T0_8 := Lib.hid (toks_made T0_7.out h8)
  have D0_8 := Lib.hid (wrs_made D0_7.out h8)
  have T1_8 := Lib.hid (toks_made T1_7.out h8)
  have D1_8 := Lib.hid (wrs_made D1_7.out h8)
  have T2_8 := Lib.hid (toks_made T2_7.out h8)
  have D2_8 := Lib.hid (wrs_made D2_7.out h8)
  have T3_8 := Lib.hid (toks_made T3_7.out h8)
  have D3_8 := Lib.hid (wrs_made D3_7.out h8)
  have T4_8 := Lib.hid (toks_made T4_7.out h8)
  have D4_8 := Lib.hid (wrs_made D4_7.out h8)
  have T5_8 := Lib.hid (toks_made T5_7.out h8)
  have D5_8 := Lib.hid (wrs_made D5_7.out h8)
  have T6_8 := Lib.hid (toks_made T6_7.out h8)
  have D6_8 := Lib.hid (wrs_made D6_7.out h8)
  have T7_8 := Lib.hid (toks_made T7_7.out h8)
  have D7_8 := Lib.hid (wrs_made D7_7.out h8)
  have T8_8 := Lib.hid hT8
  have D8_8 := Lib.hid hD8
  clear hT8 hD8 h8 T0_7 D0_7 T1_7 D1_7 T2_7 D2_7 T3_7 D3_7 T4_7 D4_7 T5_7 D5_7 T6_7 D6_7 T7_7 D7_7 M7
  obtain ⟨t0_0b, t0_0o, rfl, t0_0c0, t0_0c1, t0_0c2, t0_0c3, t0_0c4⟩ := toks_cells T0_8.out (t := 0) (by decide) _ rfl
  have t0_0lb := World.block_lt_of_cell? w8 _ t0_0c0
  obtain ⟨b', o', e', t0_1c0, t0_1c1, t0_1c2, t0_1c3, t0_1c4⟩ := toks_cells T0_8.out (t := 1) (by decide) _ rfl
  obtain ⟨rfl, rfl⟩ : t0_0b = b' ∧ t0_0o = o' := by simpa using e'
  clear e'
  obtain ⟨b', o', e', t0_2c0, t0_2c1, t0_2c2, t0_2c3, t0_2c4⟩ := toks_cells T0_8.out (t := 2) (by decide) _ rfl
  obtain ⟨rfl, rfl⟩ : t0_0b = b' ∧ t0_0o = o' := by simpa using e'
  clear e'
  obtain ⟨b', o', e', t0_3c0, t0_3c1, t0_3c2, t0_3c3, t0_3c4⟩ := toks_cells T0_8.out (t := 3) (by decide) _ rfl
  obtain ⟨rfl, rfl⟩ : t0_0b = b' ∧ t0_0o = o' := by simpa using e'
  clear e'
  obtain ⟨t1_1b, t1_1o, rfl, t1_1c0, t1_1c1, t1_1c2, t1_1c3, t1_1c4⟩ := toks_cells T1_8.out (t := 1) (by decide) _ rfl
  have t1_1lb := World.block_lt_of_cell? w8 _ t1_1c0
  obtain ⟨b', o', e', t1_3c0, t1_3c1, t1_3c2, t1_3c3, t1_3c4⟩ := toks_cells T1_8.out (t := 3) (by decide) _ rfl
  obtain ⟨rfl, rfl⟩ : t1_1b = b' ∧ t1_1o = o' := by simpa using e'
  clear e'
  obtain ⟨t4_0b, t4_0o, rfl, t4_0c0, t4_0c1, t4_0c2, t4_0c3, t4_0c4⟩ := toks_cells T4_8.out (t := 0) (by decide) _ rfl
  have t4_0lb := World.block_lt_of_cell? w8 _ t4_0c0
  obtain ⟨t5_0b, t5_0o, rfl, t5_0c0, t5_0c1, t5_0c2, t5_0c3, t5_0c4⟩ := toks_cells T5_8.out (t := 0) (by decide) _ rfl
  have t5_0lb := World.block_lt_of_cell? w8 _ t5_0c0
  obtain ⟨b', o', e', t5_1c0, t5_1c1, t5_1c2, t5_1c3, t5_1c4⟩ := toks_cells T5_8.out (t := 1) (by decide) _ rfl
  obtain ⟨rfl, rfl⟩ : t5_0b = b' ∧ t5_0o = o' := by simpa using e'
  clear e'
  obtain ⟨b', o', e', t5_2c0, t5_2c1, t5_2c2, t5_2c3, t5_2c4⟩ := toks_cells T5_8.out (t := 2) (by decide) _ rfl
  obtain ⟨rfl, rfl⟩ : t5_0b = b' ∧ t5_0o = o' := by simpa using e'
  clear e'
  obtain ⟨t6_0b, t6_0o, rfl, t6_0c0, t6_0c1, t6_0c2, t6_0c3, t6_0c4⟩ := toks_cells T6_8.out (t := 0) (by decide) _ rfl
  have t6_0lb := World.block_lt_of_cell? w8 _ t6_0c0
  obtain ⟨b', o', e', t6_1c0, t6_1c1, t6_1c2, t6_1c3, t6_1c4⟩ := toks_cells T6_8.out (t := 1) (by decide) _ rfl
  obtain ⟨rfl, rfl⟩ : t6_0b = b' ∧ t6_0o = o' := by simpa using e'
  clear e'
  obtain ⟨b', o', e', t6_2c0, t6_2c1, t6_2c2, t6_2c3, t6_2c4⟩ := toks_cells T6_8.out (t := 2) (by decide) _ rfl
  obtain ⟨rfl, rfl⟩ : t6_0b = b' ∧ t6_0o = o' := by simpa using e'
  clear e'
  obtain ⟨d1_0b, d1_0o, rfl, d1_0c0, d1_0c1, d1_0c2⟩ := wrs_cells D1_8.out (t := 0) (by decide) _ rfl
  have d1_0lb := World.block_lt_of_cell? w8 _ d1_0c0
  obtain ⟨b', o', e', d1_1c0, d1_1c1, d1_1c2⟩ := wrs_cells D1_8.out (t := 1) (by decide) _ rfl
  obtain ⟨rfl, rfl⟩ : d1_0b = b' ∧ d1_0o = o' := by simpa using e'
  clear e'
  obtain ⟨d2_0b, d2_0o, rfl, d2_0c0, d2_0c1, d2_0c2⟩ := wrs_cells D2_8.out (t := 0) (by decide) _ rfl
  have d2_0lb := World.block_lt_of_cell? w8 _ d2_0c0
  obtain ⟨d3_0b, d3_0o, rfl, d3_0c0, d3_0c1, d3_0c2⟩ := wrs_cells D3_8.out (t := 0) (by decide) _ rfl
  have d3_0lb := World.block_lt_of_cell? w8 _ d3_0c0
  obtain ⟨d5_0b, d5_0o, rfl, d5_0c0, d5_0c1, d5_0c2⟩ := wrs_cells D5_8.out (t := 0) (by decide) _ rfl
  have d5_0lb := World.block_lt_of_cell? w8 _ d5_0c0
  obtain ⟨d8_0b, d8_0o, rfl, d8_0c0, d8_0c1, d8_0c2⟩ := wrs_cells D8_8.out (t := 0) (by decide) _ rfl
  have d8_0lb := World.block_lt_of_cell? w8 _ d8_0c0
  replace t0_0c0 : w8.cell? ⟨t0_0b, t0_0o, none⟩ = some (.int .u8 1) := t0_0c0
  replace t0_0c1 : w8.cell? ⟨t0_0b, t0_0o + 1, none⟩ = some (.string ⟨#[76, 95, 49]⟩) := t0_0c1
  replace t0_0c2 : w8.cell? ⟨t0_0b, t0_0o + 2, none⟩ = some (.int .i64 0) := t0_0c2
  replace t0_0c3 : w8.cell? ⟨t0_0b, t0_0o + 3, none⟩ = some (.int .i64 1) := t0_0c3
  replace t0_0c4 : w8.cell? ⟨t0_0b, t0_0o + 4, none⟩ = some (.int .i64 1) := t0_0c4
  replace t0_1c0 : w8.cell? ⟨t0_0b, t0_0o + 5, none⟩ = some (.int .u8 3) := t0_1c0
  replace t0_1c1 : w8.cell? ⟨t0_0b, t0_0o + 6, none⟩ = some (.string ⟨#[58]⟩) := t0_1c1
  replace t0_1c2 : w8.cell? ⟨t0_0b, t0_0o + 7, none⟩ = some (.int .i64 0) := t0_1c2
  replace t0_1c3 : w8.cell? ⟨t0_0b, t0_0o + 8, none⟩ = some (.int .i64 1) := t0_1c3
  replace t0_1c4 : w8.cell? ⟨t0_0b, t0_0o + 9, none⟩ = some (.int .i64 4) := t0_1c4
  replace t0_2c0 : w8.cell? ⟨t0_0b, t0_0o + 10, none⟩ = some (.int .u8 1) := t0_2c0
  replace t0_2c1 : w8.cell? ⟨t0_0b, t0_0o + 11, none⟩ = some (.string ⟨#[46, 111, 114, 103]⟩) := t0_2c1
  replace t0_2c2 : w8.cell? ⟨t0_0b, t0_0o + 12, none⟩ = some (.int .i64 0) := t0_2c2
  replace t0_2c3 : w8.cell? ⟨t0_0b, t0_0o + 13, none⟩ = some (.int .i64 1) := t0_2c3
  replace t0_2c4 : w8.cell? ⟨t0_0b, t0_0o + 14, none⟩ = some (.int .i64 6) := t0_2c4
  replace t0_3c0 : w8.cell? ⟨t0_0b, t0_0o + 15, none⟩ = some (.int .u8 2) := t0_3c0
  replace t0_3c1 : w8.cell? ⟨t0_0b, t0_0o + 16, none⟩ = some (.string ⟨#[49, 50]⟩) := t0_3c1
  replace t0_3c2 : w8.cell? ⟨t0_0b, t0_0o + 17, none⟩ = some (.int .i64 12) := t0_3c2
  replace t0_3c3 : w8.cell? ⟨t0_0b, t0_0o + 18, none⟩ = some (.int .i64 1) := t0_3c3
  replace t0_3c4 : w8.cell? ⟨t0_0b, t0_0o + 19, none⟩ = some (.int .i64 11) := t0_3c4
  replace t1_1c0 : w8.cell? ⟨t1_1b, t1_1o + 5, none⟩ = some (.int .u8 2) := t1_1c0
  replace t1_1c1 : w8.cell? ⟨t1_1b, t1_1o + 6, none⟩ = some (.string ⟨#[49, 50]⟩) := t1_1c1
  replace t1_1c2 : w8.cell? ⟨t1_1b, t1_1o + 7, none⟩ = some (.int .i64 12) := t1_1c2
  replace t1_1c3 : w8.cell? ⟨t1_1b, t1_1o + 8, none⟩ = some (.int .i64 1) := t1_1c3
  replace t1_1c4 : w8.cell? ⟨t1_1b, t1_1o + 9, none⟩ = some (.int .i64 4) := t1_1c4
  replace t1_3c0 : w8.cell? ⟨t1_1b, t1_1o + 15, none⟩ = some (.int .u8 1) := t1_3c0
  replace t1_3c1 : w8.cell? ⟨t1_1b, t1_1o + 16, none⟩ = some (.string ⟨#[46, 98]⟩) := t1_3c1
  replace t1_3c2 : w8.cell? ⟨t1_1b, t1_1o + 17, none⟩ = some (.int .i64 0) := t1_3c2
  replace t1_3c3 : w8.cell? ⟨t1_1b, t1_1o + 18, none⟩ = some (.int .i64 2) := t1_3c3
  replace t1_3c4 : w8.cell? ⟨t1_1b, t1_1o + 19, none⟩ = some (.int .i64 4) := t1_3c4
  replace t4_0c0 : w8.cell? ⟨t4_0b, t4_0o, none⟩ = some (.int .u8 4) := t4_0c0
  replace t4_0c1 : w8.cell? ⟨t4_0b, t4_0o + 1, none⟩ = some (.string ⟨#[]⟩) := t4_0c1
  replace t4_0c2 : w8.cell? ⟨t4_0b, t4_0o + 2, none⟩ = some (.int .i64 0) := t4_0c2
  replace t4_0c3 : w8.cell? ⟨t4_0b, t4_0o + 3, none⟩ = some (.int .i64 1) := t4_0c3
  replace t4_0c4 : w8.cell? ⟨t4_0b, t4_0o + 4, none⟩ = some (.int .i64 1) := t4_0c4
  replace t5_0c0 : w8.cell? ⟨t5_0b, t5_0o, none⟩ = some (.int .u8 4) := t5_0c0
  replace t5_0c1 : w8.cell? ⟨t5_0b, t5_0o + 1, none⟩ = some (.string ⟨#[]⟩) := t5_0c1
  replace t5_0c2 : w8.cell? ⟨t5_0b, t5_0o + 2, none⟩ = some (.int .i64 0) := t5_0c2
  replace t5_0c3 : w8.cell? ⟨t5_0b, t5_0o + 3, none⟩ = some (.int .i64 1) := t5_0c3
  replace t5_0c4 : w8.cell? ⟨t5_0b, t5_0o + 4, none⟩ = some (.int .i64 7) := t5_0c4
  replace t5_1c0 : w8.cell? ⟨t5_0b, t5_0o + 5, none⟩ = some (.int .u8 3) := t5_1c0
  replace t5_1c1 : w8.cell? ⟨t5_0b, t5_0o + 6, none⟩ = some (.string ⟨#[35, 35]⟩) := t5_1c1
  replace t5_1c2 : w8.cell? ⟨t5_0b, t5_0o + 7, none⟩ = some (.int .i64 0) := t5_1c2
  replace t5_1c3 : w8.cell? ⟨t5_0b, t5_0o + 8, none⟩ = some (.int .i64 2) := t5_1c3
  replace t5_1c4 : w8.cell? ⟨t5_0b, t5_0o + 9, none⟩ = some (.int .i64 1) := t5_1c4
  replace t5_2c0 : w8.cell? ⟨t5_0b, t5_0o + 10, none⟩ = some (.int .u8 3) := t5_2c0
  replace t5_2c1 : w8.cell? ⟨t5_0b, t5_0o + 11, none⟩ = some (.string ⟨#[35]⟩) := t5_2c1
  replace t5_2c2 : w8.cell? ⟨t5_0b, t5_0o + 12, none⟩ = some (.int .i64 0) := t5_2c2
  replace t5_2c3 : w8.cell? ⟨t5_0b, t5_0o + 13, none⟩ = some (.int .i64 2) := t5_2c3
  replace t5_2c4 : w8.cell? ⟨t5_0b, t5_0o + 14, none⟩ = some (.int .i64 3) := t5_2c4
  replace t6_0c0 : w8.cell? ⟨t6_0b, t6_0o, none⟩ = some (.int .u8 2) := t6_0c0
  replace t6_0c1 : w8.cell? ⟨t6_0b, t6_0o + 1, none⟩ = some (.string ⟨#[49, 48, 57, 57, 53, 49, 49, 54, 50, 55, 55, 55, 54]⟩) := t6_0c1
  replace t6_0c2 : w8.cell? ⟨t6_0b, t6_0o + 2, none⟩ = some (.int .i64 1099511627776) := t6_0c2
  replace t6_0c3 : w8.cell? ⟨t6_0b, t6_0o + 3, none⟩ = some (.int .i64 1) := t6_0c3
  replace t6_0c4 : w8.cell? ⟨t6_0b, t6_0o + 4, none⟩ = some (.int .i64 1) := t6_0c4
  replace t6_1c0 : w8.cell? ⟨t6_0b, t6_0o + 5, none⟩ = some (.int .u8 2) := t6_1c0
  replace t6_1c1 : w8.cell? ⟨t6_0b, t6_0o + 6, none⟩ = some (.string ⟨#[48, 88, 48, 97]⟩) := t6_1c1
  replace t6_1c2 : w8.cell? ⟨t6_0b, t6_0o + 7, none⟩ = some (.int .i64 10) := t6_1c2
  replace t6_1c3 : w8.cell? ⟨t6_0b, t6_0o + 8, none⟩ = some (.int .i64 1) := t6_1c3
  replace t6_1c4 : w8.cell? ⟨t6_0b, t6_0o + 9, none⟩ = some (.int .i64 15) := t6_1c4
  replace t6_2c0 : w8.cell? ⟨t6_0b, t6_0o + 10, none⟩ = some (.int .u8 2) := t6_2c0
  replace t6_2c1 : w8.cell? ⟨t6_0b, t6_0o + 11, none⟩ = some (.string ⟨#[48, 48, 55]⟩) := t6_2c1
  replace t6_2c2 : w8.cell? ⟨t6_0b, t6_0o + 12, none⟩ = some (.int .i64 7) := t6_2c2
  replace t6_2c3 : w8.cell? ⟨t6_0b, t6_0o + 13, none⟩ = some (.int .i64 1) := t6_2c3
  replace t6_2c4 : w8.cell? ⟨t6_0b, t6_0o + 14, none⟩ = some (.int .i64 20) := t6_2c4
  replace d1_0c0 : w8.cell? ⟨d1_0b, d1_0o, none⟩ = some (.int .i64 1) := d1_0c0
  replace d1_0c1 : w8.cell? ⟨d1_0b, d1_0o + 1, none⟩ = some (.int .i64 3) := d1_0c1
  replace d1_0c2 : w8.cell? ⟨d1_0b, d1_0o + 2, none⟩ = some (.int .i64 8) := d1_0c2
  replace d1_1c0 : w8.cell? ⟨d1_0b, d1_0o + 3, none⟩ = some (.int .i64 2) := d1_1c0
  replace d1_1c1 : w8.cell? ⟨d1_0b, d1_0o + 4, none⟩ = some (.int .i64 1) := d1_1c1
  replace d1_1c2 : w8.cell? ⟨d1_0b, d1_0o + 5, none⟩ = some (.int .i64 8) := d1_1c2
  replace d2_0c0 : w8.cell? ⟨d2_0b, d2_0o, none⟩ = some (.int .i64 1) := d2_0c0
  replace d2_0c1 : w8.cell? ⟨d2_0b, d2_0o + 1, none⟩ = some (.int .i64 1) := d2_0c1
  replace d2_0c2 : w8.cell? ⟨d2_0b, d2_0o + 2, none⟩ = some (.int .i64 6) := d2_0c2
  replace d3_0c0 : w8.cell? ⟨d3_0b, d3_0o, none⟩ = some (.int .i64 1) := d3_0c0
  replace d3_0c1 : w8.cell? ⟨d3_0b, d3_0o + 1, none⟩ = some (.int .i64 1) := d3_0c1
  replace d3_0c2 : w8.cell? ⟨d3_0b, d3_0o + 2, none⟩ = some (.int .i64 8) := d3_0c2
  replace d5_0c0 : w8.cell? ⟨d5_0b, d5_0o, none⟩ = some (.int .i64 1) := d5_0c0
  replace d5_0c1 : w8.cell? ⟨d5_0b, d5_0o + 1, none⟩ = some (.int .i64 1) := d5_0c1
  replace d5_0c2 : w8.cell? ⟨d5_0b, d5_0o + 2, none⟩ = some (.int .i64 8) := d5_0c2
  replace d8_0c0 : w8.cell? ⟨d8_0b, d8_0o, none⟩ = some (.int .i64 1) := d8_0c0
  replace d8_0c1 : w8.cell? ⟨d8_0b, d8_0o + 1, none⟩ = some (.int .i64 1) := d8_0c1
  replace d8_0c2 : w8.cell? ⟨d8_0b, d8_0o + 2, none⟩ = some (.int .i64 3) := d8_0c2
  clear T0_8 D0_8 T1_8 D1_8 T2_8 D2_8 T3_8 D3_8 T4_8 D4_8 T5_8 D5_8 T6_8 D6_8 T7_8 D7_8 T8_8 D8_8
  go_wp2_with (fail)
  refine (HA.out _ M8.out).mono ?_
  rintro e w9 ⟨rfl, h9⟩
  go_wp2
  go_ret
  exact ⟨rfl, h9⟩
end
end lexKnown
end Go.Proofs.Ytlhociildcdnoaa
