/- What Right, Parse, Names and Eval of package expr return, and the texts of tokens are no longer than what was cut. -/
import Derived.Test.YtebpimjbjjmpaaaGExprXV
import Derived.Test.YtebpimjbjjmpaaaGExprXP
import Derived.Test.YtebpimjbjjmpaaaLexPlaceM
namespace Go.Proofs.Ytebpimjbjjmpaaa

theorem placed_text {s : List UInt8} : ∀ {p : Nat} {l : List Tk}, PlacedT s p l → ∀ t ∈ l, t.text.length ≤ s.length
  | p, t :: r, h, x, hx => by
    obtain ⟨q, -, -, h1, -, -, -, h2⟩ := h
    rcases List.mem_cons.1 hx with rfl | hx
    · omega
    · exact placed_text h2 x hx
theorem lex_text (s : List UInt8) : ∀ t ∈ lexT s, t.text.length ≤ s.length := placed_text (lex_placed s).1
end Go.Proofs.Ytebpimjbjjmpaaa
