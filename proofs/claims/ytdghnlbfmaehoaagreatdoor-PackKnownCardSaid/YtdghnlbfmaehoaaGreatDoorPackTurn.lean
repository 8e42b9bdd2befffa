/- A packet turned: the row of its instructions from the end on, from any place on; what does not turn with it; no condition. -/
import Derived.Test.YtdghnlbfmaehoaaGreatDoorPackLaws
namespace Go.Proofs.YtdghnlbfmaehoaaGreatDoor
open Go.ChangeShapes Go.WideShapes Go.ChangeAt Go.RowKit Go.Sort BigFrame

def turnL (l : List In) (t : Nat) : List In := (l.drop (t % l.length) ++ l.take (t % l.length)).reverse
theorem turn_perm (l : List In) (t : Nat) : (turnL l t).Perm l := by
  unfold turnL
  refine (List.reverse_perm _).trans (List.perm_append_comm.trans ?_)
  rw [List.take_append_drop]
theorem turn_len (l : List In) (t : Nat) : (turnL l t).length = l.length := (turn_perm l t).length_eq
theorem turn_at {l : List In} {t i : Nat} (hi : i < l.length) (x : In) (hx : l[(l.length - 1 - i + t) % l.length]'(Nat.mod_lt _ (by omega)) = x) : (turnL l t)[i]'(by rw [turn_len]; exact hi) = x := by
  have hr : t % l.length < l.length := Nat.mod_lt _ (by omega)
  have hm : (l.length - 1 - i + t) % l.length = if l.length - 1 - i + t % l.length < l.length then l.length - 1 - i + t % l.length else l.length - 1 - i + t % l.length - l.length := by
    rw [← Nat.add_mod_mod]
    generalize t % l.length = r at *
    split
    · exact Nat.mod_eq_of_lt (by assumption)
    · rw [Nat.mod_eq_sub_mod (by omega), Nat.mod_eq_of_lt (by omega)]
  rw [← hx]
  unfold turnL
  rw [List.getElem_reverse]
  have hl : (l.drop (t % l.length) ++ l.take (t % l.length)).length = l.length := by simp; omega
  simp only [hl]
  by_cases hc : l.length - 1 - i + t % l.length < l.length
  · rw [if_pos hc] at hm
    rw [List.getElem_append_left (by rw [List.length_drop]; omega), List.getElem_drop]
    simp only [hm]
    congr 1
    omega
  · rw [if_neg hc] at hm
    rw [List.getElem_append_right (by rw [List.length_drop]; omega), List.getElem_take]
    simp only [hm]
    congr 1
    rw [List.length_drop]
    omega
theorem turn_next {l : List In} {t i : Nat} (hi : i < l.length) (x : In) (hx : l[(l.length - 1 - i + t) % l.length]'(Nat.mod_lt _ (by omega)) = x) : (turnL l t).take (i + 1) = (turnL l t).take i ++ [x] := by
  rw [List.take_succ_eq_append_getElem (by rw [turn_len]; exact hi), turn_at hi x hx]
theorem turn_all (l : List In) (t : Nat) : (turnL l t).take l.length = turnL l t := List.take_of_length_le (by rw [turn_len]; omega)
theorem raw_legal (l : List In) (e0 e1 r s : Bool) : legalP ⟨l, e0, e1, r, false⟩ = legalP ⟨l, e0, e1, s, false⟩ := by cases r <;> cases s <;> rfl
/-- What Words tells does not turn with the packet. -/
theorem row_out {pc : Int} {l m : List In} {e0 e1 r s dup : Bool} {er fr : Int} {zs ys : List Int} (hs : ∀ x ∈ l, x.small) (hp : m.Perm l) (hr : dup = true → s = r) (h : IsOut pc ⟨l, e0, e1, r, dup⟩ er zs) (k : IsOut pc ⟨m, e0, e1, s, dup⟩ fr ys) : er = fr ∧ zs = ys := by
  have hl : legalP ⟨m, e0, e1, s, dup⟩ = legalP ⟨l, e0, e1, r, dup⟩ := by
    have h1 : legalP ⟨m, e0, e1, s, dup⟩ = legalP ⟨l, e0, e1, s, dup⟩ := legal_perm hp rfl rfl rfl rfl
    rw [h1]
    cases dup with
    | true => rw [hr rfl]
    | false => exact raw_legal l e0 e1 s r
  have hy : sayAll pc m = sayAll pc l := sayAll_perm hp
  have k' : IsOut pc ⟨l, e0, e1, r, dup⟩ fr ys := by
    refine ⟨fun h0 => ?_, fun h0 h1 => ?_, fun h0 h1 => ?_⟩
    · rw [← hl] at h0 ⊢
      exact k.bad h0
    · exact k.far (hl.trans h0) (hy.trans h1)
    · obtain ⟨a, b⟩ := k.ok (hl.trans h0) (hy.trans h1)
      exact ⟨a, words_perm' (p := ⟨m, e0, e1, s, dup⟩) (q := ⟨l, e0, e1, r, dup⟩) (fun x hx => said_of hs h1 x (hp.mem_iff.1 hx)) hp.symm rfl rfl rfl b⟩
  exact out_one h k'
theorem out_fine {pc : Int} {p : Pk} {er : Int} {zs : List Int} (h : IsOut pc p er zs) : (er ≠ 0 ∧ zs = []) ∨ (er = 0 ∧ legalP p = 0 ∧ sayAll pc p.insts = true ∧ IsWords pc p zs) := by
  by_cases h0 : legalP p = 0
  · cases h1 : sayAll pc p.insts with
    | false =>
      obtain ⟨rfl, h2⟩ := h.far h0 h1
      exact .inl ⟨by decide, h2⟩
    | true =>
      obtain ⟨a, b⟩ := h.ok h0 h1
      exact .inr ⟨a, h0, rfl, b⟩
  · obtain ⟨rfl, h2⟩ := h.bad h0
    exact .inl ⟨h0, h2⟩
theorem words_pos {pc : Int} {p : Pk} {zs : List Int} (h : IsWords pc p zs) (hn : p.insts ≠ []) : 1 ≤ zs.length := by
  have h1 := words_len h
  obtain ⟨i, j, k1, -, -⟩ := h
  have h2 : 0 < p.insts.length := List.length_pos_iff.2 hn
  unfold wordsP at h1
  cases hd : p.dup with
  | false =>
    rw [hd] at h1
    simp only [Bool.false_eq_true, if_false] at h1
    omega
  | true =>
    obtain ⟨a, b, -, -⟩ := (k1 hd).some rfl
    rw [row_len] at b
    rw [hd] at h1
    simp only [if_true] at h1
    omega
/-- The parse bits of the words. -/
theorem words_parse {pc : Int} {p : Pk} {zs : List Int} (h : IsWords pc p zs) {k : Nat} (hk : k < zs.length) : zs[k] / 16384 % 4 = parseAt p.e0 p.e1 p.dup zs.length k := by
  obtain ⟨i, j, -, -, rfl⟩ := h
  have hk2 : k < (bareP pc p i j).length := by rw [endsL_len] at hk; exact hk
  have h1 := parse_put (bareP pc p i j)[k] (parseAt p.e0 p.e1 p.dup (bareP pc p i j).length k)
  have h2 := parseAt_code p.e0 p.e1 p.dup (bareP pc p i j).length k
  rw [endsL_at _ _ _ _ hk2, endsL_len]
  unfold parseZ at h1
  omega
theorem parse_ways (e0 e1 dup : Bool) (n k : Nat) : (k + 1 = n ∧ dup = true ∧ parseAt e0 e1 dup n k = 0) ∨ (k + 1 = n ∧ dup = false ∧ parseAt e0 e1 dup n k = 3) ∨ (k + 1 ≠ n ∧ parseAt e0 e1 dup n k = 2) ∨ (k + 1 ≠ n ∧ parseAt e0 e1 dup n k = 1) := by
  by_cases h1 : k + 1 = n
  · cases dup
    · exact .inr (.inl ⟨h1, rfl, parse_last _ _ _ h1⟩)
    · exact .inl ⟨h1, rfl, parse_last _ _ _ h1⟩
  · cases h2 : endW e0 e1 k with
    | true => exact .inr (.inr (.inl ⟨h1, parse_two _ _ _ h1 h2⟩))
    | false => exact .inr (.inr (.inr ⟨h1, parse_one _ _ _ h1 h2⟩))
theorem words_u32 {pc : Int} {p : Pk} {zs : List Int} (hs : Said pc p.insts) (h : IsWords pc p zs) : ∀ z ∈ zs, isU32 z := by
  obtain ⟨i, j, k1, -, rfl⟩ := h
  have sr : Said pc (rowP pc p.insts) := fun x hx => hs x ((row_perm pc p.insts).mem_iff.1 hx)
  have key : ∀ w ∈ bareP pc p i j, isU32 w := by
    unfold bareP
    cases hd : p.dup with
    | false =>
      intro w hw
      exact (bareW_ok sr w hw).u
    | true =>
      obtain ⟨-, -, c, -⟩ := (k1 hd).some rfl
      unfold okAt at c
      rw [Bool.and_eq_true] at c
      have hp := paired _ _ _ (show pairP ((rowP pc p.insts).getD i inZero) ((rowP pc p.insts).getD j inZero) = ((pairP ((rowP pc p.insts).getD i inZero) ((rowP pc p.insts).getD j inZero)).1, true) from Prod.ext rfl c.1)
      intro w hw
      rcases List.mem_append.1 hw with h1 | h1
      · exact (bareW_ok (fun x hx => sr x (List.mem_of_mem_eraseIdx (List.mem_of_mem_eraseIdx hx))) w h1).u
      · rw [List.mem_singleton.1 h1]
        exact hp.u32
  intro z hz
  obtain ⟨k, hk, rfl⟩ := List.mem_iff_getElem.1 hz
  rw [endsL_at _ _ _ _ (by rw [endsL_len] at hk; exact hk)]
  exact put_u32 (key _ (List.getElem_mem _))
theorem and_three (z : Int) (h : isU32 z) : bits .and .u32 (z / 16384) 3 = z / 16384 % 4 := and_mask (z / 16384) 2 (by omega) (by unfold isU32 at *; omega)
theorem parse_four {pc : Int} {l : List In} {e0 e1 raw dup : Bool} {zs : List Int} (hs : Said pc l) (h : IsWords pc ⟨l, e0, e1, raw, dup⟩ zs) {k : Nat} (hk : k < zs.length) :
    (k + 1 = zs.length ∧ dup = true ∧ bits .and .u32 (zs[k] / 16384) 3 = 0) ∨ (k + 1 = zs.length ∧ dup = false ∧ bits .and .u32 (zs[k] / 16384) 3 = 3) ∨ (k + 1 ≠ zs.length ∧ bits .and .u32 (zs[k] / 16384) 3 = 2) ∨ (k + 1 ≠ zs.length ∧ bits .and .u32 (zs[k] / 16384) 3 = 1) := by
  have h1 : zs[k] / 16384 % 4 = parseAt e0 e1 dup zs.length k := words_parse h hk
  rw [and_three _ (words_u32 hs h _ (List.getElem_mem hk)), h1]
  exact parse_ways e0 e1 dup zs.length k
/-! The turned packet in memory. -/
theorem RowAt.grows {W u z : World} {B Q : Nat} {cs : List Value} {so : Option Addr} {n cq : Nat} {e0 e1 raw dup : Bool} {l : List In} (h : RowAt W B Q cs so n cq e0 e1 raw dup l u) {x : In} (hx : x.small) {s1 : Option Addr} {n1 c1 : Nat}
    (own : z.ownsRow (Q + 1) 42 11 (.slice s1 n1 c1) n1 (flatI l ++ flatI [x])) (gr : u.grownBy z (Value.slice so n cq).ownBlock) : RowAt W B Q cs s1 n1 c1 e0 e1 raw dup (l ++ [x]) (z.setCell ⟨Q, 0, none⟩ (.slice s1 n1 c1)) := by
  have hlow := h.low
  have hlt := h.lt
  have far : ∀ k, k ≤ Q → k < u.heap.size → z.heap[k]? = u.heap[k]? := fun k hk hk2 => gr.block k hk2 (fun e => by
    have := (h.row.lt k e.symm).1
    omega)
  have hq := heap_lt h.qk
  have hb := heap_lt h.pk
  have hqz : z.heap[Q]? = some (.cells (boxL so n cq e0 e1 raw dup).toArray 30 (0, 0)) := (far Q (Nat.le_refl _) hq).trans h.qk
  refine ⟨Below.setCell (p := ⟨Q, 0, none⟩) (Below.grown h.made gr h.made.size (fun t ht => by have := (h.row.lt t ht).1; omega)) (show W.heap.size ≤ Q by omega) _, hlow, hlt, ?_, heap_setCell_same z Q 0 _ _ _ hqz, ?_, ?_⟩
  · exact (heap_setCell_other z ⟨Q, 0, none⟩ B _ (show B ≠ Q by omega)).trans ((far B (by omega) hb).trans h.pk)
  · rw [flatI_app]
    exact ownsRow_setCell_below own (show Q < Q + 1 by omega) (a := ⟨Q, 0, none⟩) _
  · intro y hy
    rcases List.mem_append.1 hy with h1 | h1
    · exact h.small y h1
    · obtain rfl : y = x := by simpa using h1
      exact hx
theorem RowAt.box {W u z : World} {B Q : Nat} {cs : List Value} {so : Option Addr} {n cq : Nat} {e0 e1 raw dup : Bool} {l : List In} (h : RowAt W B Q cs so n cq e0 e1 raw dup l u) (gr : u.grownBy z (Value.slice so n cq).ownBlock) : z.heap[Q]? = some (.cells (boxL so n cq e0 e1 raw dup).toArray 30 (0, 0)) :=
  (gr.block Q (heap_lt h.qk) (fun e => by
    have := (h.row.lt Q e.symm).1
    omega)).trans h.qk
theorem RowAt.grows_small {W u : World} {B Q : Nat} {cs : List Value} {so : Option Addr} {n cq : Nat} {e0 e1 raw dup : Bool} {l : List In} (h : RowAt W B Q cs so n cq e0 e1 raw dup l u) {x : In} (hx : x.small) : ∀ y ∈ l ++ [x], y.small := fun y hy => by
  rcases List.mem_append.1 hy with h1 | h1
  · exact h.small y h1
  · obtain rfl : y = x := by simpa using h1
    exact hx
theorem RowAt.raw {W u : World} {B Q : Nat} {cs : List Value} {so : Option Addr} {n cq : Nat} {e0 e1 raw dup : Bool} {l : List In} (h : RowAt W B Q cs so n cq e0 e1 raw dup l u) (r : Bool) : RowAt W B Q cs so n cq e0 e1 r dup l (u.setCell ⟨Q, 3, none⟩ (.bool r)) := by
  have hlow := h.low
  have hlt := h.lt
  exact ⟨Below.setCell (p := ⟨Q, 3, none⟩) h.made (show W.heap.size ≤ Q by omega) _, hlow, hlt, (heap_setCell_other u ⟨Q, 3, none⟩ B _ (show B ≠ Q by omega)).trans h.pk, heap_setCell_same u Q 3 _ _ _ h.qk,
    ownsRow_setCell_below h.row (show Q < Q + 1 by omega) (a := ⟨Q, 3, none⟩) _, h.small⟩
theorem turned_start (W : World) (ao : Option Addr) (n cap : Nat) (e0 e1 raw dup : Bool) :
    RowAt W W.heap.size (W.heap.size + 1) (boxL ao n cap e0 e1 raw dup) none 0 0 e0 e1 raw dup [] ((W.alloc (.cells (boxL ao n cap e0 e1 raw dup).toArray 30)).alloc (.cells (boxL none 0 0 e0 e1 raw dup).toArray 30)) := by
  have m1 := made_alloc (Made.refl W) (.cells (boxL ao n cap e0 e1 raw dup).toArray 30)
  have b1 : (W.alloc (.cells (boxL ao n cap e0 e1 raw dup).toArray 30)).heap[W.heap.size]? = some (.cells (boxL ao n cap e0 e1 raw dup).toArray 30 (0, 0)) := heap_alloc_new W _
  exact ⟨made_alloc m1 _, Nat.le_refl _, Nat.lt_succ_self _, (Below.heap_alloc _ _ _ (heap_lt b1)).trans b1, heap_at (by simp), ⟨by simp, .inl ⟨rfl, rfl⟩⟩, fun x hx => by simp at hx⟩
end Go.Proofs.YtdghnlbfmaehoaaGreatDoor
