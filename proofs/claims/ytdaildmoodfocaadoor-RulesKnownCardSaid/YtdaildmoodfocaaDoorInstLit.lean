/- Instructions written out, and the block of a variable that holds one and is kept; no condition. -/
import Derived.Test.YtdaildmoodfocaaDoorInstIn
namespace Go.Proofs.YtdaildmoodfocaaDoor
open Go.ChangeShapes Go.WideShapes Go.ChangeAt Go.RowKit Go.Sort

def smallB (x : In) : Bool :=
  decide (0 ≤ x.op) && decide (x.op ≤ 255) && decide (0 ≤ x.d) && decide (x.d ≤ 255) && decide (0 ≤ x.s) && decide (x.s ≤ 255) && decide (0 ≤ x.t) && decide (x.t ≤ 255) && decide (0 ≤ x.n) && decide (x.n ≤ 255) &&
    decide (0 ≤ x.pred) && decide (x.pred ≤ 255) && decide (0 ≤ x.mode) && decide (x.mode ≤ 255) && decide (0 ≤ x.count) && decide (x.count ≤ 65535) && decide (-9223372036854775808 ≤ x.imm) && decide (x.imm ≤ 9223372036854775807)
theorem small_of {x : In} (h : smallB x = true) : x.small := by
  unfold smallB at h
  simp only [Bool.and_eq_true, decide_eq_true_eq] at h
  obtain ⟨⟨⟨⟨⟨⟨⟨⟨⟨⟨⟨⟨⟨⟨⟨⟨⟨h0, h1⟩, h2⟩, h3⟩, h4⟩, h5⟩, h6⟩, h7⟩, h8⟩, h9⟩, h10⟩, h11⟩, h12⟩, h13⟩, h14⟩, h15⟩, h16⟩, h17⟩ := h
  exact ⟨h0, h1, h2, h3, h4, h5, h6, h7, h8, h9, h10, h11, h12, h13, h14, h15, h16, h17⟩
abbrev litIn (op d s t n pred mode : Int) (new ext : Bool) (count imm : Int) : In := ⟨op, d, s, t, n, pred, mode, new, ext, count, imm⟩
/-- A variable that holds the instruction, kept. -/
structure Own (W : World) (B : Nat) (x : In) (w : World) : Prop where
  made : Made W w
  in_ : InAt w B x
theorem Own.next {W w w' : World} {B : Nat} {x : In} (h : Own W B x w) (hm : Made w w') : Own W B x w' := ⟨Made.trans h.made hm, hm.heap h.in_⟩
end Go.Proofs.YtdaildmoodfocaaDoor
