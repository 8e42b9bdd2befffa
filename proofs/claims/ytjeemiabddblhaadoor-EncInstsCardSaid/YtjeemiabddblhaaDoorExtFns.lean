/- What the functions of package ext return, for every argument, in every world that has grown out of one that holds the table of names. -/
import Derived.Test.YtjeemiabddblhaaDoorExtMath
import Derived.Test.YtjeemiabddblhaaDoorIsaUse
import Derived.Test.YtjeemiabddblhaaDoorBitsFns
namespace Go.Proofs.YtjeemiabddblhaaDoor
open Go.ChangeShapes Go.WideShapes Go.ChangeAt Go.RowKit Go.Sort BigFrame

theorem extSigned_any (v : Int) (hv : isU32 v) : Quiet Tryd.prog 70 #[.int .u32 v] (.int .i64 (s32 v)) := by
  intro w
  have h := sext_any v 32 hv ⟨by decide, by decide⟩
  rw [sext_s32] at h
  go_enter Tryd.func70, Tryd.ntmps70
  go_wp2_with (go_at_call 66; refine (h _).mono ?_; rintro e w' ⟨rfl, k, rfl⟩)
  go_ret
  exact ⟨rfl, k, rfl⟩
theorem extSplit_any (v : Int) : Quiet Tryd.prog 43 #[.int .i64 v] (.tuple #[.int .u32 (upperZ v), .int .u32 (lowerZ v)]) := by
  intro w
  have hu : isU32 (v % 4294967296) := ⟨by omega, by omega⟩
  have h1 := get_any (v % 4294967296) 8 24 hu ⟨by decide, by decide⟩
  have h2 := get_any (v % 4294967296) 0 8 hu ⟨by decide, by decide⟩
  rw [get_upper] at h1
  rw [get_lower] at h2
  go_enter Tryd.func43, Tryd.ntmps43
  go_wp2_with (first
    | (go_at_call 51; with_reducible refine (h1 _).mono ?_; rintro e w' ⟨rfl, k, rfl⟩)
    | (go_at_call 51; with_reducible refine (h2 _).mono ?_; rintro e w' ⟨rfl, k2, rfl⟩))
  refine bodyPost_ret (v := .tuple #[.int .u32 (upperZ v), .int .u32 (lowerZ v)]) (by simp [results, Tryd.results43, go_sem]) rfl ?_
  exact ⟨rfl, _, rfl⟩
theorem extJoin_any (u l : Int) (hu : isU32 u) (hl : isU32 l) : Quiet Tryd.prog 65 #[.int .u32 u, .int .u32 l] (.int .i64 (joinZ u l)) := by
  intro w
  have u0 : isU32 0 := ⟨by decide, by decide⟩
  have h1 := put_any 0 8 24 u u0 hu ⟨by decide, by decide⟩
  have hq := putZ_u32 0 8 24 u u0 hu
  have h2 := put_any (putZ 0 8 24 u) 0 8 l hq hl ⟨by decide, by decide⟩
  have hr := putZ_u32 (putZ 0 8 24 u) 0 8 l hq hl
  have h3 := extSigned_any _ hr
  rw [← sext_s32, join_put] at h3
  go_enter Tryd.func65, Tryd.ntmps65
  go_wp2_with (first
    | (go_at_call 20; with_reducible refine (h1 _).mono ?_; rintro e w' ⟨rfl, rfl⟩)
    | (go_at_call 20; with_reducible refine (h2 _).mono ?_; rintro e w' ⟨rfl, rfl⟩)
    | (go_at_call 70; with_reducible refine (h3 _).mono ?_; rintro e w' ⟨rfl, k, rfl⟩))
  go_ret
  exact ⟨rfl, k, rfl⟩
theorem extTarget_any (r p : Int) : Still Tryd.prog 67 #[.int .i64 r, .int .u32 p] (.int .i64 (targetZ r p)) := by
  intro w
  have e : (p + r % 4294967296) % 4294967296 = targetZ r p := by unfold targetZ; omega
  have hb := target_i r p
  go_enter Tryd.func67, Tryd.ntmps67
  go_wp2
  go_ret
  exact ⟨rfl, rfl⟩
end Go.Proofs.YtjeemiabddblhaaDoor
