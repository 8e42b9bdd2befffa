/- Two instructions compared by Go's == : equal just if each part is; no condition. -/
import Derived.Test.YtdaildmoodfocaaDoorInstTake
import Derived.Laws.StructEq
namespace Go.Proofs.YtdaildmoodfocaaDoor
open Go.ChangeShapes Go.WideShapes Go.ChangeAt Go.RowKit Go.Sort

set_option maxHeartbeats 1000000 in
theorem run_in_eql (y z : In) (w : World) : (binOp .eql 24 y.val z.val).run Tryd.prog w = .ok (.bool (decide (y = z))) w := by
  obtain ⟨y0, y1, y2, y3, y4, y5, y6, y7, y8, y9, y10⟩ := y
  obtain ⟨z0, z1, z2, z3, z4, z5, z6, z7, z8, z9, z10⟩ := z
  by_cases h0 : y0 = z0
  rotate_left
  · simp [go_sem, h0]
  subst h0
  by_cases h1 : y1 = z1
  rotate_left
  · simp [go_sem, h1]
  subst h1
  by_cases h2 : y2 = z2
  rotate_left
  · simp [go_sem, h2]
  subst h2
  by_cases h3 : y3 = z3
  rotate_left
  · simp [go_sem, h3]
  subst h3
  by_cases h4 : y4 = z4
  rotate_left
  · simp [go_sem, h4]
  subst h4
  by_cases h5 : y5 = z5
  rotate_left
  · simp [go_sem, h5]
  subst h5
  by_cases h6 : y6 = z6
  rotate_left
  · simp [go_sem, h6]
  subst h6
  by_cases h7 : y7 = z7
  rotate_left
  · simp [go_sem, h7]
  subst h7
  by_cases h8 : y8 = z8
  rotate_left
  · simp [go_sem, h8]
  subst h8
  by_cases h9 : y9 = z9
  rotate_left
  · simp [go_sem, h9]
  subst h9
  by_cases h10 : y10 = z10
  rotate_left
  · simp [go_sem, h10]
  subst h10
  simp [go_sem]
abbrev zeroV : Value := .agg #[.int .u8 0, .int .u8 0, .int .u8 0, .int .u8 0, .int .u8 0, .int .u8 0, .int .u8 0, .bool false, .bool false, .int .u16 0, .int .i64 0]
theorem run_in_zero (y : In) (w : World) : (binOp .eql 24 y.val zeroV).run Tryd.prog w = .ok (.bool (decide (y = inZero))) w := run_in_eql y inZero w
theorem run_in_zero0 (x : In) (w : World) : (binOp .eql 24 (.agg #[.int .u8 0, .int .u8 x.d, .int .u8 x.s, .int .u8 x.t, .int .u8 x.n, .int .u8 x.pred, .int .u8 x.mode, .bool x.new, .bool x.ext, .int .u16 x.count, .int .i64 x.imm]) zeroV).run Tryd.prog w =
    .ok (.bool (decide ({ x with op := 0 } = inZero))) w := run_in_eql { x with op := 0 } inZero w
end Go.Proofs.YtdaildmoodfocaaDoor
