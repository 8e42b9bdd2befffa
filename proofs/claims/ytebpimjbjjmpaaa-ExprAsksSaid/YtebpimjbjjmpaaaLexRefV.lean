/- What value and number of the document's answer for lex return; no condition but those named. -/
import Derived.Test.YtebpimjbjjmpaaaLexRef
import Derived.Deep.Cut
namespace Go.Proofs.Ytebpimjbjjmpaaa
open Go.ChangeShapes Go.WideShapes Go.ChangeAt Go.RowKit Go.Sort BigFrame

theorem low_range (b : UInt8) : 0 ≤ lowB b ∧ lowB b ≤ 255 := by
  have := b.toNat_lt
  unfold lowB
  split
  · omega
  · omega
section
attribute [local irreducible] World.cell?
end
end Go.Proofs.Ytebpimjbjjmpaaa
