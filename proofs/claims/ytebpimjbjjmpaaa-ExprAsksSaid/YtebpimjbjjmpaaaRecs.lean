/- Rows of structs in memory, for any struct that is s cells, each told by a function f; rows of a call's own; no condition but those named. -/
import Derived.Test.YtebpimjbjjmpaaaGBase
namespace Go.Proofs.Ytebpimjbjjmpaaa
open Go.ChangeShapes Go.WideShapes Go.ChangeAt Go.RowKit Go.Sort BigFrame

section
variable {α : Type} {f : α → List Value} {s : Nat}
theorem flat_len' (hf : ∀ x, (f x).length = s) : ∀ l : List α, (l.flatMap f).length = l.length * s
  | [] => by simp
  | x :: l => by
    have := flat_len' hf l
    rw [List.flatMap_cons, List.length_append, hf, this, List.length_cons, Nat.add_mul, Nat.one_mul, Nat.add_comm]
theorem flat_at' (hf : ∀ x, (f x).length = s) : ∀ (l : List α) (t r : Nat) (h : t < l.length), r < s → (l.flatMap f)[t * s + r]? = (f l[t])[r]?
  | x :: l, 0, r, _, hr => by
    rw [List.flatMap_cons, Nat.zero_mul, Nat.zero_add, List.getElem_cons_zero, List.getElem?_append_left (by rw [hf]; exact hr)]
  | x :: l, t + 1, r, h, hr => by
    have ih := flat_at' hf l t r (by simpa using h) hr
    have e : (t + 1) * s + r = s + (t * s + r) := by rw [Nat.add_mul, Nat.one_mul]; omega
    rw [List.flatMap_cons, List.getElem_cons_succ, List.getElem?_append_right (by rw [hf, e]; exact Nat.le_add_right _ _), hf, e, Nat.add_sub_cancel_left]
    exact ih
/-- Structs in memory, wherever they lie. -/
structure Recs (f : α → List Value) (s : Nat) (w : World) (ao : Option Addr) (cap : Nat) (l : List α) : Prop where
  room : l.length ≤ cap
  max : cap ≤ maxLen
  cell : ∀ t (h : t < l.length), ∃ b o, ao = some ⟨b, o, none⟩ ∧ ∀ r, r < s → w.cell? ⟨b, o + t * s + r, none⟩ = (f l[t])[r]?
theorem Recs.made {w w' : World} {ao : Option Addr} {cap : Nat} {l : List α} (hf : ∀ x, (f x).length = s) (h : Recs f s w ao cap l) (hm : Made w w') : Recs f s w' ao cap l :=
  ⟨h.room, h.max, fun t ht => by
    obtain ⟨b, o, e, hcell⟩ := h.cell t ht
    refine ⟨b, o, e, fun r hr => ?_⟩
    have h1 := hcell r hr
    have h2 : r < (f l[t]).length := by rw [hf]; exact hr
    rw [List.getElem?_eq_getElem h2] at h1 ⊢
    exact (World.cell?_of_block (hm.block b (World.block_lt_of_cell? w _ h1))).trans h1⟩
theorem recs_none (w : World) : Recs f s w none 0 ([] : List α) := ⟨Nat.le_refl _, Nat.zero_le _, fun t ht => absurd ht (Nat.not_lt_zero t)⟩
theorem recs_first {w : World} {ao : Option Addr} {cap : Nat} {l : List α} (h : Recs f s w ao cap l) (k : Nat) : Recs f s w ao cap (l.take k) :=
  ⟨by rw [List.length_take]; have := h.room; omega, h.max, fun t ht => by
    rw [List.length_take] at ht
    obtain ⟨b, o, e, hc⟩ := h.cell t (by omega)
    exact ⟨b, o, e, fun r hr => by rw [hc r hr, List.getElem_take]⟩⟩
theorem owns_recs {w : World} {B : Nat} {T : TypeId} {v : Value} {n : Nat} {l : List α} (hf : ∀ x, (f x).length = s) (hs : 0 < s) (h : w.ownsRow B T s v n (l.flatMap f)) : l.length = n ∧ ∃ so cap, v = .slice so n cap ∧ Recs f s w so cap l := by
  have hl : l.length = n := by
    have := h.1
    rw [flat_len' hf] at this
    exact Nat.eq_of_mul_eq_mul_right hs this
  refine ⟨hl, ?_⟩
  rcases h.2 with ⟨rfl, rfl⟩ | ⟨g, cap, cur, rfl, _, hg, hn, hm, _⟩
  · obtain rfl := List.eq_nil_of_length_eq_zero hl
    exact ⟨none, 0, rfl, recs_none w⟩
  · refine ⟨_, cap, rfl, by omega, hm, fun t ht => ⟨g, 0, rfl, fun r hr => ?_⟩⟩
    rw [Nat.zero_add]
    refine (h.cellAt (t * s + r) ?_).trans (flat_at' hf l t r ht hr)
    have h2 : (t + 1) * s ≤ n * s := Nat.mul_le_mul_right s (by omega)
    rw [Nat.add_mul, Nat.one_mul] at h2
    omega
/-- What lies in memory, as the cells that an append asks for. -/
theorem recs_olds {w : World} {ao : Option Addr} {cap : Nat} {l : List α} (hf : ∀ x, (f x).length = s) (hs : 0 < s) (h : Recs f s w ao cap l) : ∀ ad, ao = some ad → ∀ j u, (l.flatMap f)[j]? = some u → w.cell? (ad.add j) = some u := by
  intro ad had j u hu
  have hj : j < l.length * s := by
    have := (List.getElem?_eq_some_iff.1 hu).1
    rwa [flat_len' hf] at this
  have ht : j / s < l.length := Nat.div_lt_of_lt_mul (by rwa [Nat.mul_comm] at hj)
  obtain ⟨b, o, e, hc⟩ := h.cell (j / s) ht
  obtain rfl := Option.some.inj (had.symm.trans e)
  have hr : j % s < s := Nat.mod_lt _ hs
  have h1 := hc (j % s) hr
  have h2 := flat_at' hf l (j / s) (j % s) ht hr
  have e2 : j / s * s + j % s = j := Nat.div_add_mod' j s
  rw [e2] at h2
  rw [add_plain, show o + j = o + j / s * s + j % s by rw [Nat.add_assoc, e2], h1, ← h2]
  exact hu
/-- Structs written out in a block. -/
theorem recs_lit {w : World} {b n : Nat} {l : List α} {T : TypeId} (hf : ∀ x, (f x).length = s) (h : w.heap[b]? = some (.cells (l.flatMap f).toArray T (0, 0))) (hn : l.length = n) (hl : n ≤ 1000) : Recs f s w (some ⟨b, 0, none⟩) n l := by
  refine ⟨by omega, by unfold maxLen; omega, fun t ht => ⟨b, 0, rfl, fun r hr => ?_⟩⟩
  rw [Nat.zero_add, cell_of_lit h]
  exact flat_at' hf l t r ht hr
/-- A row of the call's own, in blocks from B on. -/
structure Grows (f : α → List Value) (s : Nat) (T : TypeId) (W : World) (B : Nat) (v : Value) (l : List α) (w : World) : Prop where
  made : Made W w
  low : W.heap.size ≤ B
  row : w.ownsRow B T s v l.length (l.flatMap f)
theorem grows_nil {T : TypeId} {W w : World} {B : Nat} (h : Made W w) (hB : W.heap.size ≤ B) : Grows f s T W B (.slice none 0 0) [] w := ⟨h, hB, by refine ⟨by simp, .inl ⟨rfl, rfl⟩⟩⟩
theorem Grows.next {T : TypeId} {W w w' : World} {B : Nat} {v : Value} {l : List α} (h : Grows f s T W B v l w) (hm : Made w w') : Grows f s T W B v l w' := ⟨Made.trans h.made hm, h.low, owns_made h.row hm⟩
theorem Grows.recs {T : TypeId} {W w : World} {B : Nat} {v : Value} {l : List α} (hf : ∀ x, (f x).length = s) (hs : 0 < s) (h : Grows f s T W B v l w) : ∃ so c, v = .slice so l.length c ∧ Recs f s w so c l := (owns_recs hf hs h.row).2
theorem Grows.more {T : TypeId} {W w w1 : World} {B : Nat} {v v1 : Value} {l l2 : List α} {n : Nat} (h : Grows f s T W B v l w) (hn : l.length + l2.length = n) (own : w1.ownsRow B T s v1 n (l.flatMap f ++ l2.flatMap f)) (gr : w.grownBy w1 v.ownBlock) : Grows f s T W B v1 (l ++ l2) w1 := by
  refine ⟨Below.grown h.made gr h.made.size (fun t ht => Nat.le_trans h.low (h.row.lt t ht).1), h.low, ?_⟩
  rw [List.flatMap_append, List.length_append, hn]
  exact own
end
end Go.Proofs.Ytebpimjbjjmpaaa
