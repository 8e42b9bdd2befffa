/- Small general lemmas on calls that make new memory, in the words 'Below' and 'ownsRow', for every program and world; no condition. -/
import Derived.Test.YtdaildmoodfocaaDoorBase
import Derived.Laws.AppendOwnNone
import Derived.Lib.QuietBelow
import Derived.Deep.RegionHeld3
import Derived.StillTailTactics
namespace Go.Proofs.YtdaildmoodfocaaDoor
open Go.ChangeShapes Go.WideShapes Go.ChangeAt Go.RowKit

/-- Nothing that was there when W stood has turned. -/
abbrev Made (W w : World) : Prop := Below W.heap.size W w
theorem Made.refl (W : World) : Made W W := Below.refl _ _
theorem Made.trans {a b c : World} (h : Made a b) (k : Made b c) : Made a c := Below.trans h (Below.mono k h.size)
/-- What the call returns in every world that has grown out of W; it makes new blocks alone. -/
abbrev Makes (P : Program) (W : World) (f : FuncId) (args : Array Value) (v : Value) : Prop := ∀ w : World, Made W w → Calls P f args w fun e w' => e = .returned v ∧ Made W w'
theorem Still.makes {P : Program} {f : FuncId} {args : Array Value} {v : Value} (h : Still P f args v) (W : World) : Makes P W f args v := fun w hg => (h w).mono fun _ _ ⟨he, hw⟩ => ⟨he, hw ▸ hg⟩
theorem Still.at {P : Program} {f : FuncId} {args : Array Value} {v : Value} (h : Still P f args v) (w : World) : Calls P f args w fun e w' => e = .returned v ∧ w' = w := (h w).mono fun _ _ ⟨he, hw⟩ => ⟨he, hw.symm⟩
theorem heap_at {w : World} {o : Obj} {n : Nat} (h : n = w.heap.size) : (w.alloc o).heap[n]? = some o := by subst h; exact heap_alloc_new w o
theorem owns_made {w w' : World} {B : Nat} {E : TypeId} {size : Nat} {v : Value} {n : Nat} {xs : List Value} (h : w.ownsRow B E size v n xs) (hb : Made w w') : w'.ownsRow B E size v n xs := by
  refine ⟨h.1, ?_⟩
  rcases h.2 with h | ⟨g, cap, cur, hv, hg, hh, r⟩
  · exact .inl h
  · exact .inr ⟨g, cap, cur, hv, hg, (hb.block g (by rcases Nat.lt_or_ge g w.heap.size with h' | h'; exact h'; simp [Array.getElem?_eq_none h'] at hh)).trans hh, r⟩
theorem owns_mono {w : World} {B B' : Nat} {E : TypeId} {size : Nat} {v : Value} {n : Nat} {xs : List Value} (h : w.ownsRow B E size v n xs) (hb : B' ≤ B) : w.ownsRow B' E size v n xs := by
  refine ⟨h.1, ?_⟩
  rcases h.2 with h | ⟨g, cap, cur, hv, hg, r⟩
  · exact .inl h
  · exact .inr ⟨g, cap, cur, hv, Nat.le_trans hb hg, r⟩
theorem free_of_lit {w : World} {b : Nat} {cs : Array Value} {T : TypeId} (h : w.heap[b]? = some (.cells cs T (0, 0))) (j : Nat) : w.frozen? ⟨b, j, none⟩ = false := by
  simp [World.frozen?, h]
theorem bcell {W w : World} (hb : Made W w) : (∀ b o, b < W.heap.size → w.cell? ⟨b, o, none⟩ = W.cell? ⟨b, o, none⟩) ∧ (∀ b o, b < W.heap.size → w.frozen? ⟨b, o, none⟩ = W.frozen? ⟨b, o, none⟩) :=
  ⟨fun b o h => hb.cell (p := ⟨b, o, none⟩) h, fun b o h => hb.frozen (p := ⟨b, o, none⟩) h⟩
theorem heap_lt {w : World} {i : Nat} {o : Obj} (h : w.heap[i]? = some o) : i < w.heap.size := by
  rcases Nat.lt_or_ge i w.heap.size with h' | h'
  · exact h'
  · simp [Array.getElem?_eq_none h'] at h
theorem Made.heap {W w : World} (hb : Made W w) {i : Nat} {o : Obj} (h : W.heap[i]? = some o) : w.heap[i]? = some o := (hb.block i (heap_lt h)).trans h
theorem below_drewN {B : Nat} {a w : World} (h : Below B a w) (n : Nat) : Below B a (w.drewN n) := ⟨h.os, h.tape, h.output, h.size, h.block⟩
theorem cell_of_lit {w : World} {b : Nat} {cs : List Value} {T : TypeId} {fr : Nat × Nat} (h : w.heap[b]? = some (.cells cs.toArray T fr)) (j : Nat) : w.cell? ⟨b, j, none⟩ = cs[j]? := by
  simp [World.cell?, h]
theorem addr_add (b j : Nat) : (⟨b, 0, none⟩ : Addr).add j = ⟨b, j, none⟩ := by
  unfold Addr.add; split
  · rename_i h; subst h; rfl
  · simp
theorem cells_of_lit {w : World} {b : Nat} {cs : List Value} {T : TypeId} {fr : Nat × Nat} (h : w.heap[b]? = some (.cells cs.toArray T fr)) (j : Nat) (u : Value) (hj : cs[j]? = some u) : w.cell? ((⟨b, 0, none⟩ : Addr).add j) = some u := by
  rw [addr_add, cell_of_lit h, hj]
/-- A region that draws its order: all but its last operations only read, the last ones come in one order: the draw spelt as 'drew'. -/
theorem wp_region_tail {P : Program} {id : Nat} {Q : Exit → Act → World → Prop} {a : Act} {w : World} {l : List Oper} (n : Nat) (hm : P.follows .mixedOrders = true) (hB : Region.lexTailB .any l.toArray n = true)
    (h : wpStill P l.toArray w.drew (fun a' => wpList P l.toArray Q (l.drop n) a' w.drew) (l.take n) a) : (Code.region id l.toArray true).wp P Q a w := wp_region_still_tail n hm hB h
end Go.Proofs.YtdaildmoodfocaaDoor
