/- What Fits of package bits returns, for every argument of the Go types. -/
import Derived.Test.YtckekkedjlkljaaDoorBase
import Derived.Test.YtckekkedjlkljaaDoorBitsMath
namespace Go.Proofs.YtckekkedjlkljaaDoor
open Go.ChangeShapes Go.WideShapes Go.ChangeAt Go.RowKit

theorem tmod_of_dvd {v m : Int} (h : v % m = 0) : v.tmod m = 0 := Int.tmod_eq_zero_of_dvd (Int.dvd_of_emod_eq_zero h)
theorem dvd_of_tmod {v m : Int} (h : v.tmod m = 0) : v % m = 0 := Int.emod_eq_zero_of_dvd (Int.dvd_of_tmod_eq_zero h)
theorem tdiv_of_dvd {v m : Int} (h : v % m = 0) : v.tdiv m = v / m := by
  obtain ⟨k, rfl⟩ := Int.dvd_of_emod_eq_zero h
  by_cases hm : m = 0
  · subst hm; simp
  · rw [Int.mul_tdiv_cancel_left _ hm, Int.mul_ediv_cancel_left _ hm]

end Go.Proofs.YtckekkedjlkljaaDoor
