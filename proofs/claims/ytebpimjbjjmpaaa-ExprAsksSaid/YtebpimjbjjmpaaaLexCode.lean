/- What Split of package lex returns; no condition but that on the length. -/
import Derived.Test.YtebpimjbjjmpaaaLexGoto
namespace Go.Proofs.Ytebpimjbjjmpaaa
open Go.ChangeShapes Go.WideShapes Go.ChangeAt Go.RowKit Go.Sort BigFrame

section
attribute [local irreducible] World.cell?
set_option maxRecDepth 100000 in
set_option maxHeartbeats 4000000 in
theorem lex_any (S : ByteArray) (l : List UInt8) (h : S.data.toList = l) (hl : l.length ≤ 20000) (w : World) : Calls Try.prog 18 #[.string S] w (LexSays l w) := by
  have hz : S.size = l.length := str_size h
  have hle : (S.size : Int) ≤ 33554432 := by omega
  have HSP := Lib.hid (fun v1 v2 u hu => split_any w w.heap.size S l h hl v1 v2 u hu)
  have HL := Lib.hid (show LxP w w.heap.size S 0 0 1 0 (.slice none 0 0) (.slice none 0 0) (.slice none 0 0) (.slice none 0 0) [] [] (w.alloc (.cells #[.string S, .int .i64 0, .int .i64 0, .int .i64 1, .int .i64 0, .slice none 0 0, .slice none 0 0] 77)) from
    ⟨(two_start w).next ((Made.refl w).alloc (Nat.le_refl _) _), heap_alloc_new w _, Nat.le_refl _⟩)
  clear h hz
  go_enter Try.func18, Try.ntmps18
  go_wp2_with (fail)
  refine (HSP.out _ _ _ HL.out).mono ?_
  rintro e w2 ⟨rfl, f, t, ln, lb, u1, u2, hL⟩
  obtain ⟨s1, c1, rfl, h1⟩ := hL.two.fst.recs tk_len (by decide)
  obtain ⟨s2, c2, rfl, h2⟩ := hL.two.snd.recs wr_len (by decide)
  obtain ⟨a0, a1, a2, a3, a4, a5, a6⟩ := lx_cells hL
  have H1 := Lib.hid h1
  have H2 := Lib.hid h2
  have HM := Lib.hid hL.made
  clear hL h1 h2 HSP HL
  go_wp2_with (fail)
  go_quiet (fail)
  go_wp2
  refine bodyPost_ret (v := .tuple #[.slice s1 (lexT l).length c1, .slice s2 (lexW l).length c2]) (by simp [results, Try.results18, go_sem]) rfl ?_
  exact ⟨s1, _, c1, s2, _, c2, rfl, rfl, rfl, toks_made H1.out (below_drewN (Made.refl _) _), wrs_made H2.out (below_drewN (Made.refl _) _), below_drewN HM.out _⟩
end
end Go.Proofs.Ytebpimjbjjmpaaa
