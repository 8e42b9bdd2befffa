/- What number of the document's answer for lex returns; no condition but those named. -/
import Derived.Test.YtebpimjbjjmpaaaLexRefV
namespace Go.Proofs.Ytebpimjbjjmpaaa
open Go.ChangeShapes Go.WideShapes Go.ChangeAt Go.RowKit Go.Sort BigFrame

section
attribute [local irreducible] World.cell?
theorem str_tail {S : ByteArray} {a b : UInt8} {r : List UInt8} (h : IsStr S (a :: b :: r)) : IsStr (S.extract 2 S.size) r := by
  have h2 := str_part h 2 S.size
  have hs := str_size h
  rw [hs] at h2 ⊢
  have e : (List.drop 2 (a :: b :: r)).take ((a :: b :: r).length - 2) = r := by
    show r.take (r.length + 1 + 1 - 2) = r
    rw [List.take_of_length_le (by omega)]
  rw [e] at h2
  exact h2
end
end Go.Proofs.Ytebpimjbjjmpaaa
