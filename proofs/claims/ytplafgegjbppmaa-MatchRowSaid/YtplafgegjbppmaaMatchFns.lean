/- Rows of numbers in memory; what allows of package match and Go's slices.Index and Contains at numbers return. -/
import Derived.Test.YtplafgegjbppmaaTail
import Derived.Test.YtplafgegjbppmaaMatchSteps
namespace Go.Proofs.Ytplafgegjbppmaa
open Go.ChangeShapes Go.WideShapes Go.ChangeAt Go.RowKit Go.Sort BigFrame

theorem world_named {P : Program} {c : Code} {Q : Exit → Act → World → Prop} {a : Act} {w : World} (F : World → Prop) (hF : F w) (h : ∀ u, F u → c.wp P Q a u) : c.wp P Q a w := h w hF
/-- A slice of numbers in memory, wherever it lies. -/
structure Nums (k : IntKind) (w : World) (ao : Option Addr) (cap : Nat) (zs : List Nat) : Prop where
  room : zs.length ≤ cap
  max : cap ≤ maxLen
  bare : ao = none → zs = [] ∧ cap = 0
  cell : ∀ a, ao = some a → ∀ t, t < zs.length → w.cell? (a.add t) = some (.int k (zs.getD t 0))
theorem Nums.keep {k : IntKind} {w w' : World} {ao : Option Addr} {cap : Nat} {zs : List Nat} (h : Nums k w ao cap zs) (hc : ∀ a v, w.cell? a = some v → w'.cell? a = some v) : Nums k w' ao cap zs :=
  ⟨h.room, h.max, h.bare, fun a ha t ht => hc _ _ (h.cell a ha t ht)⟩
theorem made_cell {w w' : World} (hm : Made w w') (a : Addr) (v : Value) (h : w.cell? a = some v) : w'.cell? a = some v :=
  (World.cell?_of_block (hm.block a.block (World.block_lt_of_cell? w a h))).trans h
theorem Nums.made {k : IntKind} {w w' : World} {ao : Option Addr} {cap : Nat} {zs : List Nat} (h : Nums k w ao cap zs) (hm : Made w w') : Nums k w' ao cap zs := h.keep (made_cell hm)
theorem Nums.some {k : IntKind} {w : World} {ao : Option Addr} {cap : Nat} {zs : List Nat} (h : Nums k w ao cap zs) {t : Nat} (ht : t < zs.length) : ∃ a, ao = some a := by
  cases ao with
  | none => rw [(h.bare rfl).1] at ht; exact absurd ht (by simp)
  | some a => exact ⟨a, rfl⟩

theorem made_drew {W w : World} (h : Made W w) : Made W w.drew := ⟨h.os, h.tape, h.output, h.size, h.block⟩
theorem and_one (x : Int) (h0 : 0 ≤ x) (h1 : x < 256) : bits .and .u8 x 1 = x % 2 := by
  have h : allBelow (fun n => bits .and .u8 (n : Int) 1 == (n : Int) % 2) 256 = true := by decide +kernel
  have h2 := allBelow_at h x.toNat (by omega)
  rw [show ((x.toNat : Nat) : Int) = x by omega] at h2
  simpa using h2
theorem has_bits (m s : Nat) (hm : m < 256) : (bits .and .u8 ((m : Int) / 2 ^ s) 1 == 1) = hasN m s := by
  have h0 : (0 : Int) ≤ (m : Int) / 2 ^ s := Int.ediv_nonneg (by omega) (Int.le_of_lt (Int.pow_pos (by decide)))
  have h1 : (m : Int) / 2 ^ s ≤ m := Int.ediv_le_self _ (by omega)
  rw [and_one _ h0 (by omega)]
  unfold hasN
  have e : (m : Int) / 2 ^ s % 2 = ((m / 2 ^ s % 2 : Nat) : Int) := by simp
  rw [e]
  generalize m / 2 ^ s % 2 = x
  cases h : decide (x = 1)
  · have h2 : x ≠ 1 := by simpa using h
    rw [beq_eq_false_iff_ne.2 h2]
    exact beq_eq_false_iff_ne.2 (by omega)
  · have h2 : x = 1 := by simpa using h
    subst h2; rfl
theorem allows_any (m s : Nat) (hm : m < 256) (hs : s < 4) : Still Try.prog 19 #[.int .u8 m, .int .i64 s] (.bool (hasN m s)) := by
  intro w
  have e := has_bits m s hm
  have HE := Lib.hid e
  clear e
  go_enter Try.func19, Try.ntmps19
  go_wp2
  go_ret
  exact ⟨ret_bool HE.out, rfl⟩
end Go.Proofs.Ytplafgegjbppmaa
