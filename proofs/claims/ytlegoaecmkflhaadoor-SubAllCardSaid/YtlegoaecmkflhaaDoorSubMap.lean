/- A map keyed by instructions, the call's own; how many small instructions of a code stand below a number; no condition. -/
import Derived.Test.YtlegoaecmkflhaaDoorSubLaws
import Derived.Test.YtlegoaecmkflhaaDoorInstOpen
import Derived.Maps.Own
import Derived.Maps.OwnOps
import Derived.Maps.Views
import Derived.DeepKeys4
import Derived.MapViews
namespace Go.Proofs.YtlegoaecmkflhaaDoor
open Go.ChangeShapes Go.WideShapes Go.ChangeAt Go.RowKit Go.Sort BigFrame Go.Maps

theorem wideInst : (match Tryd.prog.underlying 26 with | some (.array _ _) | some (.struct _) => true | _ => false) = true := by rw [Tryd.underlying26]
theorem instLaw : Keyed Tryd.prog 26 := Keyed.of_law (deep_law_laid (by kernel_rfl) (m := 2) (by omega) (of_decide_eq_true (by kernel_rfl)) (by kernel_rfl) wideInst)
def klOf (x : In) : Lit := (x.data (H := Unit)).asKey
theorem key_in (x : In) (hx : x.small) : keyOf Tryd.prog 26 x.val = some (klOf x) :=
  (keyOf_asKey (H := Unit) (enc := fun _ => ()) (w := default) (base := 0) (sp := fun _ => true) (held := false) (by kernel_rfl) wideInst (by simp [Value.formed, Tryd.underlying26]; kernel_rfl) (shut_inst x hx)).1
theorem kl_inj {x y : In} (hx : x.small) (hy : y.small) (h : klOf x = klOf y) : x = y := by
  have := instLaw.inj (key_in x hx) (h ▸ key_in y hy)
  obtain ⟨x0, x1, x2, x3, x4, x5, x6, x7, x8, x9, x10⟩ := x
  obtain ⟨y0, y1, y2, y3, y4, y5, y6, y7, y8, y9, y10⟩ := y
  simp at this
  simp [this]
theorem zeroInt (w : World) : (zeroValue 3).run Tryd.prog w = .ok (.int .i64 0) w := by kernel_rfl

def fullB (c : Nat) : Bool := [1, 2, 5, 6, 7, 8, 9].contains c
def halfB (c : Nat) : Bool := [3, 4].contains c
def okB (k : Nat) : Bool := fullB (k / 2048) || (halfB (k / 2048) && k % 8 == 0)
theorem sub_ok (k : Nat) (hk : k < 32768) : (subInst k).2 = okB k := by
  rw [inst_doc k (by omega) (by omega)]
  have hc : k / 2048 = 0 ∨ k / 2048 = 1 ∨ k / 2048 = 2 ∨ k / 2048 = 3 ∨ k / 2048 = 4 ∨ k / 2048 = 5 ∨ k / 2048 = 6 ∨ k / 2048 = 7 ∨ k / 2048 = 8 ∨ k / 2048 = 9 ∨ 9 < k / 2048 := by omega
  unfold docInst okB
  have hc2 : (k : Int) / 2048 = ((k / 2048 : Nat) : Int) := by omega
  have h8 : (k : Int) % 8 = ((k % 8 : Nat) : Int) := by omega
  rw [hc2, h8]
  rcases hc with e | e | e | e | e | e | e | e | e | e | e
  case inr.inr.inr.inr.inr.inr.inr.inr.inr.inr =>
    generalize k / 2048 = c at *
    have n : ∀ j : Int, 1 ≤ j → j ≤ 9 → ¬ (c : Int) = j := by omega
    simp only []
    iterate 9 (rw [if_neg (n _ (by decide) (by decide))])
    have f1 : fullB c = false := by unfold fullB; simp; omega
    have f2 : halfB c = false := by unfold halfB; simp; omega
    rw [f1, f2]
    rfl
  case inr.inr.inr.inl =>
    rw [e]
    by_cases h : k % 8 = 0
    · rw [h]; rfl
    · have h1 : ¬ ((k % 8 : Nat) : Int) = 0 := by omega
      have h2 : (k % 8 == 0) = false := by simpa using h
      rw [h2]
      generalize ((k % 8 : Nat) : Int) = m at *
      simp [h1, fullB, halfB]
  case inr.inr.inr.inr.inl =>
    rw [e]
    by_cases h : k % 8 = 0
    · rw [h]; rfl
    · have h1 : ¬ ((k % 8 : Nat) : Int) = 0 := by omega
      have h2 : (k % 8 == 0) = false := by simpa using h
      rw [h2]
      generalize ((k % 8 : Nat) : Int) = m at *
      simp [h1, fullB, halfB]
  all_goals rw [e]; rfl
/-- How many small instructions of the code c stand below k. -/
def gotN (k c : Nat) : Nat := if fullB c then min (k - 2048 * c) 2048 else if halfB c then (min (k - 2048 * c) 2048 + 7) / 8 else 0
theorem got_step (k c : Nat) (hc : c < 16) : gotN (k + 1) c = if c = k / 2048 ∧ okB k = true then gotN k c + 1 else gotN k c := by
  have hcc : c = 0 ∨ c = 1 ∨ c = 2 ∨ c = 3 ∨ c = 4 ∨ c = 5 ∨ c = 6 ∨ c = 7 ∨ c = 8 ∨ c = 9 ∨ c = 10 ∨ c = 11 ∨ c = 12 ∨ c = 13 ∨ c = 14 ∨ c = 15 := by omega
  unfold okB
  by_cases h : c = k / 2048
  · rw [← h]
    rcases hcc with rfl | rfl | rfl | rfl | rfl | rfl | rfl | rfl | rfl | rfl | rfl | rfl | rfl | rfl | rfl | rfl
    all_goals simp [gotN, fullB, halfB]
    all_goals first | omega | (split <;> omega)
  · rw [if_neg (fun h' => h h'.1)]
    rcases hcc with rfl | rfl | rfl | rfl | rfl | rfl | rfl | rfl | rfl | rfl | rfl | rfl | rfl | rfl | rfl | rfl
    all_goals simp [gotN, fullB, halfB]
    all_goals omega
def gotL (k : Nat) : List Value := (List.range 16).map fun c => Value.int .i64 (gotN k c)
def manyL : List Value := [.int .i64 0, .int .i64 2048, .int .i64 2048, .int .i64 256, .int .i64 256, .int .i64 2048, .int .i64 2048, .int .i64 2048, .int .i64 2048, .int .i64 2048, .int .i64 0, .int .i64 0, .int .i64 0, .int .i64 0, .int .i64 0, .int .i64 0]
def zerosL : List Value := [.int .i64 0, .int .i64 0, .int .i64 0, .int .i64 0, .int .i64 0, .int .i64 0, .int .i64 0, .int .i64 0, .int .i64 0, .int .i64 0, .int .i64 0, .int .i64 0, .int .i64 0, .int .i64 0, .int .i64 0, .int .i64 0]
theorem got_zero : gotL 0 = zerosL := by rfl
theorem got_end : gotL 32768 = manyL := by
  have h : (List.range 16).map (fun c => gotN 32768 c) = [0, 2048, 2048, 256, 256, 2048, 2048, 2048, 2048, 2048, 0, 0, 0, 0, 0, 0] := by decide +kernel
  have e : gotL 32768 = ((List.range 16).map (fun c => gotN 32768 c)).map fun (n : Nat) => Value.int .i64 (n : Int) := by rw [List.map_map]; rfl
  rw [e, h]
  rfl
theorem got_same (k : Nat) (h : okB k = false) : gotL (k + 1) = gotL k := by
  unfold gotL
  refine List.map_congr_left fun c hc => ?_
  rw [got_step k c (List.mem_range.1 hc), if_neg (fun h' => by rw [h] at h'; cases h'.2)]
theorem got_set (k : Nat) (h : okB k = true) : (gotL k).toArray.setIfInBounds (k / 2048) (.int .i64 ((gotN k (k / 2048) : Nat) + 1 : Int)) = (gotL (k + 1)).toArray := by
  refine Array.ext (by simp [gotL]) fun i h1 h2 => ?_
  have hi : i < 16 := by simpa [gotL] using h2
  have hs := got_step k i hi
  rw [Array.getElem_setIfInBounds (by simpa [gotL] using hi)]
  by_cases he : k / 2048 = i
  · rw [if_pos he]
    rw [if_pos ⟨he.symm, h⟩] at hs
    simp [gotL, hs, he]
  · rw [if_neg he]
    rw [if_neg (fun h' => he h'.1.symm)] at hs
    simp [gotL, hs]
theorem got_at (k c : Nat) (hc : c < 16) : (gotL k)[c]? = some (.int .i64 (gotN k c)) := by
  simp [gotL, hc]
theorem got_le (k c : Nat) : gotN k c ≤ 2048 := by
  unfold gotN
  split
  · omega
  · split <;> omega

/-- What stands while the loop runs: the numbers that are to be, the numbers so far, the map of those that were said. -/
structure AllAt (W : World) (wr : World) (k : Nat) (L : List Value) : Prop where
  made : Made W wr
  many : wr.heap[W.heap.size]? = some (.cells manyL.toArray 36 (0, 0))
  got : wr.heap[W.heap.size + 1]? = some (.cells L.toArray 36 (0, 0))
  seen : ∃ D : DataW Unit, wr.ownsMap Tryd.prog 26 (plainElem Tryd.prog 3) (W.heap.size + 1 + 1) k D ∧ IsMap D ∧ ∀ y : In, y.small → (∀ j : Nat, j < k → subInst j ≠ (y, true)) → D.atKey (klOf y) (.lit (.int .i64 0)) = .lit (.int .i64 0)
theorem owns_next {w w' : World} {b n : Nat} {D : DataW Unit} (h : w.ownsMap Tryd.prog 26 (plainElem Tryd.prog 3) b n D) (e : w'.heap[b]? = w.heap[b]?) : w'.ownsMap Tryd.prog 26 (plainElem Tryd.prog 3) b n D := by
  obtain ⟨es, clock, hb, r⟩ := h
  exact ⟨es, clock, e.trans hb, r⟩
theorem AllAt.next {W w w' : World} {k : Nat} {L : List Value} (h : AllAt W w k L) (hm : Made w w') : AllAt W w' k L := by
  obtain ⟨h1, h2, h3, D, h4, h5, h6⟩ := h
  exact ⟨Made.trans h1 hm, Made.heap hm h2, Made.heap hm h3, D, owns_next h4 (hm.block _ h4.lt), h5, h6⟩
theorem AllAt.room {W w : World} {k : Nat} {L : List Value} (h : AllAt W w k L) : W.heap.size + 1 + 1 < w.heap.size := by
  obtain ⟨_, _, _, D, h4, _⟩ := h
  exact h4.lt
/-- Behind 'got[c]++'. -/
theorem AllAt.plus {W w : World} {k j : Nat} {L L' : List Value} {v : Value} (h : AllAt W w k L) (e : L.toArray.setIfInBounds j v = L'.toArray) : AllAt W (w.setCell ⟨W.heap.size + 1, j, none⟩ v) k L' := by
  obtain ⟨h1, h2, h3, D, h4, h5, h6⟩ := h
  refine ⟨h1.setCell (p := ⟨W.heap.size + 1, j, none⟩) (Nat.le_succ _) v, (Below.heap_setCell w ⟨W.heap.size + 1, j, none⟩ v _ (show W.heap.size ≠ W.heap.size + 1 by omega)).trans h2, ?_, D, owns_next h4 (Below.heap_setCell w ⟨W.heap.size + 1, j, none⟩ v _ (show W.heap.size + 1 + 1 ≠ W.heap.size + 1 by omega)), h5, h6⟩
  have := heap_setCell_same w (W.heap.size + 1) j L.toArray 36 v h3
  rwa [e] at this
/-- Behind a round whose number says nothing. -/
theorem AllAt.skip {W w : World} {k : Nat} {L : List Value} (h : AllAt W w k L) : AllAt W w (k + 1) L := by
  obtain ⟨h1, h2, h3, D, h4, h5, h6⟩ := h
  exact ⟨h1, h2, h3, D, h4.mono (Nat.le_succ k), h5, fun y hy hj => h6 y hy fun j hlt => hj j (by omega)⟩
/-- Behind 'seen[in] = 1'. -/
theorem AllAt.put {W w w' : World} {k : Nat} {L : List Value} {x : In} (hx : x.small) (hs : subInst k = (x, true)) (h1 : Made W w) (h2 : w.heap[W.heap.size]? = some (.cells manyL.toArray 36 (0, 0))) (h3 : w.heap[W.heap.size + 1]? = some (.cells L.toArray 36 (0, 0)))
    {D : DataW Unit} (h5 : IsMap D) (h6 : ∀ y : In, y.small → (∀ j : Nat, j < k → subInst j ≠ (y, true)) → D.atKey (klOf y) (.lit (.int .i64 0)) = .lit (.int .i64 0))
    (hw : w'.ownsMap Tryd.prog 26 (plainElem Tryd.prog 3) (W.heap.size + 1 + 1) (k + 1) (D.put (klOf x) (.lit (.int .i64 1)))) (hg : w.grownBy w' (some (W.heap.size + 1 + 1))) : AllAt W w' (k + 1) L := by
  refine ⟨h1.grown hg h1.size (fun j hj => by cases hj; omega), (hg.block _ (heap_lt h2) (by simp; omega)).trans h2, (hg.block _ (heap_lt h3) (by simp)).trans h3, _, hw, h5.put _ _, fun y hy hj => ?_⟩
  have hne : klOf y ≠ klOf x := fun e => hj k (Nat.lt_succ_self k) (by rw [hs, kl_inj hy hx e])
  rw [atKey_put_other hne]
  exact h6 y hy fun j hlt => hj j (by omega)
end Go.Proofs.YtlegoaecmkflhaaDoor
