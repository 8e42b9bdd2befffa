/- What fields of the document's answer for isa returns, for every letter of the table. -/
import Derived.Test.YtabcakdnnnajiaaDoorIsaRef
import Derived.Test.YtabcakdnnnajiaaDoorIsaText
namespace Go.Proofs.YtabcakdnnnajiaaDoor
open Go.ChangeShapes Go.WideShapes Go.ChangeAt Go.RowKit Go.Sort

theorem isRow_lit {E : TypeId} {W w : World} (hm : Made W w) (fs : List Fd) (cs : Array Value) (n : Nat) (hcs : cs = (flatF fs).toArray) (hn : fs.length = n) (h8 : n ≤ 8) :
    IsRow E W fs (.returned (.slice (some ⟨w.heap.size, 0, none⟩) n n)) (w.alloc (.cells cs E)) := by
  subst hcs; subst hn
  exact ⟨_, _, _, rfl, hm.alloc hm.size _, World.ownsRow_lit (size := 5) w (flatF fs).toArray _ hm.size (by unfold maxLen; omega) (by rw [List.size_toArray]; exact flat_len fs)⟩
def isLetter (c : Int) : Prop := c ∈ ([99, 100, 112, 113, 115, 116, 110, 119, 105, 108, 109, 111, 117, 114, 120, 121, 118] : List Int)
set_option maxHeartbeats 2000000 in
theorem refFields_any (c : Int) (hc : isLetter c) (W w : World) (hm : Made W w) : Calls Tryd.prog 19 #[.int .u8 c] w (IsRow 39 W (letterF c)) := by
  have hz := hm.size
  simp only [isLetter, List.mem_cons, List.not_mem_nil, or_false] at hc
  rcases hc with rfl | rfl | rfl | rfl | rfl | rfl | rfl | rfl | rfl | rfl | rfl | rfl | rfl | rfl | rfl | rfl | rfl
  all_goals
    go_enter Tryd.func19, Tryd.ntmps19
    go_wp2
    go_ret
    exact isRow_lit hm _ _ _ rfl rfl (by decide)
theorem letters_ok : ∀ op, op < 32 → ∀ c ∈ letters op, isLetter (c.toNat : Int) := by
  unfold isLetter; decide +kernel
end Go.Proofs.YtabcakdnnnajiaaDoor
