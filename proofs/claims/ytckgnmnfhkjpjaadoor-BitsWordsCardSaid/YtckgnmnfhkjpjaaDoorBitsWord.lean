/- What Parts, Word, Thirty and FromThirty of package bits return, in every world that holds the table of pieces. -/
import Derived.Test.YtckgnmnfhkjpjaaDoorBitsParts
namespace Go.Proofs.YtckgnmnfhkjpjaaDoor
open Go.ChangeShapes Go.WideShapes Go.ChangeAt Go.RowKit

/-! ### bits.Parts, Word, Thirty, FromThirty -/
theorem getPart_code (W : World) (hp : Pieces W) (v : Int) (hv : isU32 v) : Pure Tryd.prog W 29 #[.int .u32 v, .int .u8 1] (.int .u32 (codeZ v)) := by
  have h := getPart_any W hp v 1 hv; rwa [gp_code v hv] at h
theorem getPart_pay (W : World) (hp : Pieces W) (v : Int) (hv : isU32 v) : Pure Tryd.prog W 29 #[.int .u32 v, .int .u8 2] (.int .u32 (payZ v)) := by
  have h := getPart_any W hp v 2 hv; rwa [gp_pay v hv] at h
theorem getPart_parse (W : World) (hp : Pieces W) (v : Int) (hv : isU32 v) : Pure Tryd.prog W 29 #[.int .u32 v, .int .u8 3] (.int .u32 (parseZ v)) := by
  have h := getPart_any W hp v 3 hv; rwa [gp_parse v hv] at h
theorem getPart_thirty (W : World) (hp : Pieces W) (v : Int) (hv : isU32 v) : Pure Tryd.prog W 29 #[.int .u32 v, .int .u8 4] (.int .u32 (thirtyZ v)) := by
  have h := getPart_any W hp v 4 hv; rwa [gp_thirty v hv] at h

theorem parts_any (W : World) (hp : Pieces W) (v : Int) (hv : isU32 v) : Pure Tryd.prog W 18 #[.int .u32 v] (.tuple #[.int .u8 (codeZ v), .int .u32 (payZ v), .int .u8 (parseZ v)]) := by
  intro w hg
  have c1 : 0 ≤ codeZ v := by unfold codeZ; omega
  have c2 : codeZ v < 64 := by unfold codeZ; omega
  have c3 : 0 ≤ parseZ v := by unfold parseZ; omega
  have c4 : parseZ v < 4 := by unfold parseZ; omega
  go_enter Tryd.func18, Tryd.ntmps18
  go_wp2_with (go_at_call 29; (first | (with_reducible refine (getPart_code W hp _ hv _ (by assumption)).mono ?_) | (with_reducible refine (getPart_pay W hp _ hv _ (by assumption)).mono ?_) | (with_reducible refine (getPart_parse W hp _ hv _ (by assumption)).mono ?_)); rintro e w' ⟨rfl, hg'⟩)
  go_ret3
  exact ⟨rfl, by assumption⟩

theorem thirty_any (W : World) (hp : Pieces W) (v : Int) (hv : isU32 v) : Pure Tryd.prog W 21 #[.int .u32 v] (.int .u32 (thirtyZ v)) := by
  intro w hg
  go_enter Tryd.func21, Tryd.ntmps21
  go_wp2_with (go_at_call 29; with_reducible refine (getPart_thirty W hp _ hv _ (by assumption)).mono ?_; rintro e w' ⟨rfl, hg'⟩)
  go_ret
  exact ⟨rfl, by assumption⟩

theorem word_any (W : World) (hp : Pieces W) (c p q : Int) (hc : isU8 c) (hpp : isU32 p) (hq : isU8 q) : Pure Tryd.prog W 19 #[.int .u8 c, .int .u32 p, .int .u8 q] (.int .u32 (wordZ c p q)) := by
  intro w hg
  have u0 : isU32 0 := ⟨by decide, by decide⟩
  have u1 := ppZ_u32 0 c 1 ⟨by decide, by decide⟩ hc.u32 6
  have u2 := ppZ_u32 _ p 2 u1 hpp 6
  have k := pp_word c p q hc.u32 hpp hq.u32
  have K := Lib.hid k
  clear k
  obtain ⟨c0, c1⟩ := id hc
  obtain ⟨q0, q1⟩ := id hq
  go_enter Tryd.func19, Tryd.ntmps19
  go_wp2_with (go_at_call 30; (first | (with_reducible refine (putPart_any W hp 0 1 c u0 hc.u32 _ (by assumption)).mono ?_) | (with_reducible refine (putPart_any W hp _ 2 p u1 hpp _ (by assumption)).mono ?_) | (with_reducible refine (putPart_any W hp _ 3 q u2 hq.u32 _ (by assumption)).mono ?_)); rintro e w' ⟨rfl, hg'⟩)
  go_ret
  exact ⟨ret_int K.out, by assumption⟩

theorem fromThirty_any (W : World) (hp : Pieces W) (v q : Int) (hv : isU32 v) (hq : isU8 q) : Pure Tryd.prog W 23 #[.int .u32 v, .int .u8 q] (.int .u32 (fromThirtyZ v q)) := by
  intro w hg
  have u0 : isU32 0 := ⟨by decide, by decide⟩
  have u1 := ppZ_u32 0 v 4 ⟨by decide, by decide⟩ hv 6
  have k := pp_thirty v q hv hq.u32
  have K := Lib.hid k
  clear k
  obtain ⟨q0, q1⟩ := id hq
  go_enter Tryd.func23, Tryd.ntmps23
  go_wp2_with (go_at_call 30; (first | (with_reducible refine (putPart_any W hp 0 4 v u0 hv _ (by assumption)).mono ?_) | (with_reducible refine (putPart_any W hp _ 3 q u1 hq.u32 _ (by assumption)).mono ?_)); rintro e w' ⟨rfl, hg'⟩)
  go_ret
  exact ⟨ret_int K.out, by assumption⟩
end Go.Proofs.YtckgnmnfhkjpjaaDoor
