/- LexTells of the laws of lex returns true, for every text. -/
import Derived.Test.YtlhociildcdnoaaLexLaws
import Derived.Test.YtlhociildcdnoaaLexRefS
namespace Go.Proofs.Ytlhociildcdnoaa
open Go.ChangeShapes Go.WideShapes Go.ChangeAt Go.RowKit Go.Sort BigFrame

namespace lexTells
section
attribute [local irreducible] World.cell?
set_option maxRecDepth 100000 in
set_option maxHeartbeats 8000000 in
theorem walk (W : World) (a0 : ByteArray) (w0 : a0.size ≤ maxLen) : Calls Try.prog 4 #[.string a0] W fun e w' => e = .returned (.bool true) ∧ Made W w' := by
  have HA := Lib.hid (fun (u : World) (hu : Made W u) => awake14_any W u hu)
  unfold maxLen at w0
  have hcut : ∃ (T : ByteArray) (l : List UInt8), IsStr T l ∧ l.length ≤ 4000 ∧ ((T = a0 ∧ (a0.size : Int) ≤ 4000) ∨ (T = a0.extract 0 4000 ∧ (4000 : Int) < (a0.size : Int))) := by
    by_cases h : a0.size ≤ 4000
    · exact ⟨a0, a0.data.toList, rfl, by rw [← str_size (S := a0) rfl]; exact h, .inl ⟨rfl, by omega⟩⟩
    · refine ⟨a0.extract 0 4000, _, str_part (S := a0) rfl 0 4000, ?_, .inr ⟨rfl, by omega⟩⟩
      rw [List.length_take]
      omega
  obtain ⟨T, l, hT, hl, hways⟩ := hcut
  have HL := Lib.hid (fun (u : World) => lex_any T l hT (by omega) u)
  have HR := Lib.hid (fun (u : World) => rsplit_any T l hT (by omega) u)
  have f1 := lexT_few l
  have f2 := lexW_few l
  have HF := Lib.hid (And.intro f1 f2)
  clear hT f1 f2
  rcases hways with ⟨rfl, hs⟩ | ⟨hT, hs⟩
  · go_enter Try.func4, Try.ntmps4
    go_wp2_with (fail)
    refine (HL.out _).mono ?_
    rintro e w1 ⟨so, n, c, dg, m, d, rfl, hn, hm, hT, hW, h1⟩
    have HT := Lib.hid hT
    have HW := Lib.hid hW
    have HNM := Lib.hid (And.intro hn hm)
    have M1 := Lib.hid h1
    clear hn hm hT hW h1
    go_wp2_with (fail)
    refine (HR.out _).mono ?_
    rintro e w2 ⟨so2, n2, c2, dg2, m2, d2, rfl, hn2, hm2, hT2, hW2, h2⟩
    obtain rfl : n = n2 := HNM.out.1.symm.trans hn2
    obtain rfl : m = m2 := HNM.out.2.symm.trans hm2
    have HS := Lib.hid (same14_any so so2 dg dg2 c c2 d d2 (lexT l) (lexW l) w2 (toks_made HT.out h2) hT2 (wrs_made HW.out h2) hW2 (by have := HF.out.1; omega) (by have := HF.out.2; omega) n m HNM.out.1 HNM.out.2)
    have M2 := Lib.hid (Made.trans M1.out h2)
    clear hn2 hm2 hT2 hW2 h2
    go_wp2_with (fail)
    refine HS.out.mono ?_
    rintro e w3 ⟨rfl, h3⟩
    have M3 := Lib.hid (Made.trans M2.out h3)
    clear h3
    go_wp2_with (fail)
    refine (HA.out _ M3.out).mono ?_
    rintro e w4 ⟨rfl, h4⟩
    go_wp2
    go_ret
    exact ⟨rfl, h4⟩
  · have HTE := Lib.hid hT
    subst hT
    go_enter Try.func4, Try.ntmps4
    go_wp2_with (fail)
    refine (HL.out _).mono ?_
    rintro e w1 ⟨so, n, c, dg, m, d, rfl, hn, hm, hT, hW, h1⟩
    have HT := Lib.hid hT
    have HW := Lib.hid hW
    have HNM := Lib.hid (And.intro hn hm)
    have M1 := Lib.hid h1
    clear hn hm hT hW h1
    go_wp2_with (fail)
    refine (HR.out _).mono ?_
    rintro e w2 ⟨so2, n2, c2, dg2, m2, d2, rfl, hn2, hm2, hT2, hW2, h2⟩
    obtain rfl : n = n2 := HNM.out.1.symm.trans hn2
    obtain rfl : m = m2 := HNM.out.2.symm.trans hm2
    have HS := Lib.hid (same14_any so so2 dg dg2 c c2 d d2 (lexT l) (lexW l) w2 (toks_made HT.out h2) hT2 (wrs_made HW.out h2) hW2 (by have := HF.out.1; omega) (by have := HF.out.2; omega) n m HNM.out.1 HNM.out.2)
    have M2 := Lib.hid (Made.trans M1.out h2)
    clear hn2 hm2 hT2 hW2 h2
    go_wp2_with (fail)
    refine HS.out.mono ?_
    rintro e w3 ⟨rfl, h3⟩
    have M3 := Lib.hid (Made.trans M2.out h3)
    clear h3
    go_wp2_with (fail)
    refine (HA.out _ M3.out).mono ?_
    rintro e w4 ⟨rfl, h4⟩
    go_wp2
    go_ret
    exact ⟨rfl, h4⟩
end
end lexTells
end Go.Proofs.Ytlhociildcdnoaa
