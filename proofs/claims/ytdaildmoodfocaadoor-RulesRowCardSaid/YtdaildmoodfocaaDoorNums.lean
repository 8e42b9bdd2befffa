/- Slices of numbers in memory, wherever they lie; a world that is named; no condition. -/
import Derived.Test.YtdaildmoodfocaaDoorTail
namespace Go.Proofs.YtdaildmoodfocaaDoor
open Go.ChangeShapes Go.WideShapes Go.ChangeAt Go.RowKit Go.Sort BigFrame

theorem world_named {P : Program} {c : Code} {Q : Exit → Act → World → Prop} {a : Act} {w : World} (F : World → Prop) (hF : F w) (h : ∀ u, F u → c.wp P Q a u) : c.wp P Q a w := h w hF
/-- A slice of numbers in memory, wherever it lies. -/
structure Nums (k : IntKind) (w : World) (ao : Option Addr) (cap : Nat) (zs : List Nat) : Prop where
  room : zs.length ≤ cap
  max : cap ≤ maxLen
  bare : ao = none → zs = [] ∧ cap = 0
  cell : ∀ a, ao = some a → ∀ t, t < zs.length → w.cell? (a.add t) = some (.int k (zs.getD t 0))
theorem Nums.keep {k : IntKind} {w w' : World} {ao : Option Addr} {cap : Nat} {zs : List Nat} (h : Nums k w ao cap zs) (hc : ∀ a v, w.cell? a = some v → w'.cell? a = some v) : Nums k w' ao cap zs :=
  ⟨h.room, h.max, h.bare, fun a ha t ht => hc _ _ (h.cell a ha t ht)⟩
theorem made_cell {w w' : World} (hm : Made w w') (a : Addr) (v : Value) (h : w.cell? a = some v) : w'.cell? a = some v :=
  (World.cell?_of_block (hm.block a.block (World.block_lt_of_cell? w a h))).trans h
theorem Nums.made {k : IntKind} {w w' : World} {ao : Option Addr} {cap : Nat} {zs : List Nat} (h : Nums k w ao cap zs) (hm : Made w w') : Nums k w' ao cap zs := h.keep (made_cell hm)
theorem Nums.some {k : IntKind} {w : World} {ao : Option Addr} {cap : Nat} {zs : List Nat} (h : Nums k w ao cap zs) {t : Nat} (ht : t < zs.length) : ∃ a, ao = some a := by
  cases ao with
  | none => rw [(h.bare rfl).1] at ht; exact absurd ht (by simp)
  | some a => exact ⟨a, rfl⟩

theorem made_drew {W w : World} (h : Made W w) : Made W w.drew := ⟨h.os, h.tape, h.output, h.size, h.block⟩
end Go.Proofs.YtdaildmoodfocaaDoor
