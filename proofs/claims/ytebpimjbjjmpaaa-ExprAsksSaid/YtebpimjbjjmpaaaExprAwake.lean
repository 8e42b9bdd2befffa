/- What of, is and awake of the laws of expr return, of a text that is written out. -/
import Derived.Test.YtebpimjbjjmpaaaExprLaws
import Derived.Test.YtebpimjbjjmpaaaExprRun
namespace Go.Proofs.Ytebpimjbjjmpaaa
open Go.ChangeShapes Go.WideShapes Go.ChangeAt Go.RowKit Go.Sort BigFrame

/-- A text that is read within n steps. -/
def ofN (n : Nat) (l : List UInt8) : Option (Int × Int) := (pf n .sum 0 (Ts l)).map ofV
theorem of_lit (l : List UInt8) (n : Nat) (v e : Int) (h : ofN n l = some (v, e)) (hl : l.length ≤ 5000) (W : World) : Makes Try.prog W 11 #[.string ⟨l.toArray⟩] (.tuple #[.int .i64 v, .int .i64 e]) := by
  intro w hm
  obtain ⟨res, hr, hv⟩ := Option.map_eq_some_iff.1 h
  refine (of_any ⟨l.toArray⟩ l rfl hl res (pf_sound _ _ _ _ _ hr) w).mono ?_
  rintro x w' ⟨rfl, hm'⟩
  rw [hv]
  exact ⟨rfl, Made.trans hm hm'⟩
section
attribute [local irreducible] World.cell?
set_option maxRecDepth 100000 in
set_option maxHeartbeats 8000000 in
theorem is_lit (l : List UInt8) (n : Nat) (v : Int) (h : ofN n l = some (v, 0)) (hl : l.length ≤ 5000) (W : World) : Makes Try.prog W 16 #[.string ⟨l.toArray⟩, .int .i64 v] (.bool true) := by
  intro w hm
  have HO := Lib.hid (of_lit l n v 0 h hl)
  have M0 := Lib.hid hm
  clear h hm
  go_enter Try.func16, Try.ntmps16
  go_wp2_with (fail)
  refine (HO.out _ _ (Made.refl _)).mono ?_
  rintro x w1 ⟨rfl, h1⟩
  have M1 := Lib.hid (Made.trans M0.out h1)
  clear h1
  go_wp2
  go_ret
  exact ⟨rfl, M1.out⟩
set_option maxRecDepth 100000 in
set_option maxHeartbeats 8000000 in
theorem awake15_any (W : World) : Makes Try.prog W 17 #[] (.bool true) := by
  intro w hm
  have H1 := Lib.hid (is_lit [49, 43, 50, 42, 51] 100 7 (by decide +kernel) (by decide))
  have H2 := Lib.hid (is_lit [40, 49, 43, 50, 41, 42, 51] 100 9 (by decide +kernel) (by decide))
  have H3 := Lib.hid (is_lit [50, 45, 51, 45, 52] 100 (-5) (by decide +kernel) (by decide))
  have H4 := Lib.hid (is_lit [45, 32, 45, 53] 100 5 (by decide +kernel) (by decide))
  have H5 := Lib.hid (is_lit [97, 42, 97, 45, 98] 100 8 (by decide +kernel) (by decide))
  have M0 := Lib.hid hm
  clear hm
  go_enter Try.func17, Try.ntmps17
  go_wp2_with (fail)
  refine (H1.out W _ M0.out).mono ?_
  rintro x w1 ⟨rfl, h1⟩
  clear M0
  have M1 := Lib.hid h1
  clear h1
  go_wp2_with (fail)
  refine (H2.out W _ M1.out).mono ?_
  rintro x w2 ⟨rfl, h1⟩
  clear M1
  have M1 := Lib.hid h1
  clear h1
  go_wp2_with (fail)
  refine (H3.out W _ M1.out).mono ?_
  rintro x w3 ⟨rfl, h1⟩
  clear M1
  have M1 := Lib.hid h1
  clear h1
  go_wp2_with (fail)
  refine (H4.out W _ M1.out).mono ?_
  rintro x w4 ⟨rfl, h1⟩
  clear M1
  have M1 := Lib.hid h1
  clear h1
  go_wp2_with (fail)
  refine (H5.out W _ M1.out).mono ?_
  rintro x w5 ⟨rfl, h1⟩
  clear M1
  have M1 := Lib.hid h1
  clear h1
  go_wp2
  go_ret
  exact ⟨rfl, M1.out⟩
end
end Go.Proofs.Ytebpimjbjjmpaaa
