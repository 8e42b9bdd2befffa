/- What Class, Slots of the document's answer for isa return, for every argument. -/
import Derived.Test.YtabcakdnnnajiaaDoorIsaFns
namespace Go.Proofs.YtabcakdnnnajiaaDoor
open Go.ChangeShapes Go.WideShapes Go.ChangeAt Go.RowKit Go.Sort

theorem refSlots_any (c : Int) (h0 : 0 ≤ c) (h1 : c < 256) (W : World) : Makes Tryd.prog W 15 #[.int .u8 c] (.int .u8 (slotsZ c)) := by
  intro w hm
  have hz := hm.size
  have hc : c = 0 ∨ c = 1 ∨ c = 2 ∨ c = 3 ∨ c = 4 ∨ c = 5 ∨ c = 6 ∨ 6 < c := by omega
  rcases hc with rfl | rfl | rfl | rfl | rfl | rfl | rfl | hc
  case inr.inr.inr.inr.inr.inr.inr =>
    have e : slotsZ c = 0 := by
      unfold slotsZ slotsL
      obtain ⟨k, rfl⟩ := Int.eq_ofNat_of_zero_le h0
      rw [Int.toNat_natCast, List.getD_eq_getElem?_getD, List.getElem?_eq_none (by simp; omega)]; rfl
    rw [e]
    have c1 : decide (c < 7) = false := by simp; omega
    clear e hc
    go_enter Tryd.func15, Tryd.ntmps15
    go_wp2
    go_ret
    exact ⟨rfl, by go_grown⟩
  all_goals
    go_enter Tryd.func15, Tryd.ntmps15
    go_wp2
    go_ret
    exact ⟨rfl, by go_grown⟩

theorem refClass_any (c : Int) (k : Nat) (h : k < 6) (hc : c = [65, 88, 76, 83, 74, 67].getD k 0) : Still Tryd.prog 18 #[.int .u8 c] (.int .u8 (k + 1)) := by
  intro w
  have hk : k = 0 ∨ k = 1 ∨ k = 2 ∨ k = 3 ∨ k = 4 ∨ k = 5 := by omega
  rcases hk with rfl | rfl | rfl | rfl | rfl | rfl
  all_goals
    obtain rfl := hc
    go_enter Tryd.func18, Tryd.ntmps18
    go_wp2
    go_rounds 7
    go_ret
    exact ⟨rfl, rfl⟩
end Go.Proofs.YtabcakdnnnajiaaDoor
