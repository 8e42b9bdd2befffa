/- Rows of instructions that a call itself makes, copied and gone through; instructions compared by Go's != with themselves; no condition. -/
import Derived.Test.YtdaildmoodfocaaDoorRulesOpen
import Derived.Laws.AppendOwnNone
import Derived.Laws.StructEq
namespace Go.Proofs.YtdaildmoodfocaaDoor
open Go.ChangeShapes Go.WideShapes Go.ChangeAt Go.RowKit Go.Sort BigFrame

theorem inst_row : (Tryd.prog.info? 24).map (fun i => (i.zero, i.size, i.bytes)) = some (some (In.val inZero), 11, 24) := by kernel_rfl
abbrev flatI (l : List In) : List Value := l.flatMap In.cells
theorem flatI_len : ∀ l : List In, (flatI l).length = l.length * 11
  | [] => rfl
  | x :: l => by
    have hl : x.cells.length = 11 := rfl
    have := flatI_len l
    simp only [flatI, List.flatMap_cons, List.length_append, List.length_cons] at this ⊢
    omega
theorem flatI_at : ∀ (l : List In) (t r : Nat) (h : t < l.length), r < 11 → (flatI l)[t * 11 + r]? = (l[t].cells)[r]?
  | x :: l, 0, r, _, hr => by
    have hl : x.cells.length = 11 := rfl
    simp only [flatI, List.flatMap_cons, Nat.zero_mul, Nat.zero_add, List.getElem_cons_zero]
    rw [List.getElem?_append_left (by omega)]
  | x :: l, t + 1, r, h, hr => by
    have hl : x.cells.length = 11 := rfl
    have ih := flatI_at l t r (by simpa using h) hr
    simp only [flatI, List.flatMap_cons, List.getElem_cons_succ] at ih ⊢
    rw [List.getElem?_append_right (by omega), show (t + 1) * 11 + r - x.cells.length = t * 11 + r by omega]
    exact ih
theorem cell_one (x : In) : ∀ u ∈ x.cells, u.oneCell' = true := by
  intro u hu
  simp only [In.cells, List.mem_cons, List.not_mem_nil, or_false] at hu
  rcases hu with rfl | rfl | rfl | rfl | rfl | rfl | rfl | rfl | rfl | rfl | rfl <;> rfl
theorem flatI_one (l : List In) : ∀ u ∈ flatI l, u.oneCell' = true := by
  intro u hu
  obtain ⟨x, _, h⟩ := List.mem_flatMap.1 hu
  exact cell_one x u h
theorem flatI_app (a b : List In) : flatI (a ++ b) = flatI a ++ flatI b := List.flatMap_append
/-- What lies in memory, as the cells that an append asks for. -/
theorem insts_olds {w : World} {ao : Option Addr} {cap : Nat} {l : List In} (h : Insts w ao cap l) : ∀ ad, ao = some ad → ∀ j u, (flatI l)[j]? = some u → w.cell? (ad.add j) = some u := by
  intro ad had j u hu
  have hj : j < l.length * 11 := by
    have := (List.getElem?_eq_some_iff.1 hu).1
    rwa [flatI_len] at this
  have ht : j / 11 < l.length := by omega
  obtain ⟨b, o, e, hc⟩ := h.cell (j / 11) ht
  obtain rfl := Option.some.inj (had.symm.trans e)
  have hr : j % 11 < 11 := Nat.mod_lt _ (by omega)
  have h1 := hc (j % 11) hr
  have h2 := flatI_at l (j / 11) (j % 11) ht hr
  have e2 : j / 11 * 11 + j % 11 = j := by omega
  rw [e2] at h2
  rw [add_plain, show o + j = o + j / 11 * 11 + j % 11 by omega, h1, ← h2]
  exact hu
theorem owns_insts {w : World} {B : Nat} {v : Value} {n : Nat} {l : List In} (h : w.ownsRow B 24 11 v n (flatI l)) (hs : ∀ x ∈ l, x.small) : l.length = n ∧ ∃ so cap, v = .slice so n cap ∧ Insts w so cap l := by
  have hl : l.length = n := by have := h.1; rw [flatI_len] at this; omega
  refine ⟨hl, ?_⟩
  have hc := fun g hg => h.cells (g := g) hg
  rcases h.2 with ⟨rfl, rfl⟩ | ⟨g, cap, cur, rfl, _, hg, hn, hm, _⟩
  · obtain rfl := List.eq_nil_of_length_eq_zero hl
    exact ⟨none, 0, rfl, Nat.le_refl _, Nat.zero_le _, fun x hx => by simp at hx, fun _ => ⟨rfl, rfl⟩, fun t ht => absurd ht (Nat.not_lt_zero t)⟩
  · refine ⟨_, cap, rfl, by omega, hm, hs, fun h => by simp at h, fun t ht => ⟨g, 0, rfl, fun r hr => ?_⟩⟩
    have h1 := flatI_at l t r ht hr
    have h2 : r < (l[t].cells).length := hr
    rw [List.getElem?_eq_getElem h2] at h1 ⊢
    have h3 := hc g rfl (t * 11 + r) _ h1
    rw [add_plain] at h3
    rw [Nat.zero_add]
    simpa using h3
/-- 'append' of whatever came in to a slice of the call's own: nil, empty or not; elements of any size. -/
theorem wpList_append_each {P : Program} {w : World} {ops : Array Oper} {rest : List Oper} {o : Oper} {a : Act} {Q : Exit → Act → World → Prop} (hgd : o.guard = none) (s x : Operand) (t : TypeId)
    (ho : o.op = .call { callee := .builtin .append, args := #[s, x], argTypes := #[t, t] })
    (base : Nat) (e : TypeId) (i : TypeInfo) (z : Value) (size bytes : Nat) (ht : P.underlying t = some (.slice e)) (hi : P.info? e = some i) (hz : i.zero = some z)
    (hsize : i.size = size) (hby : i.bytes = bytes) (hzs : z.cells.size = size) (hsz : 0 < size)
    (v : Value) (n : Nat) (xs : List Value) (hs : a.eval s = v) (hown : w.ownsRow base e size v n xs)
    (ao : Option Addr) (m c : Nat) (news : List Value) (hx : a.eval x = .slice ao m c) (hnone : ao = none → m = 0 ∧ c = 0) (hl : news.length = m * size) (hnews : ∀ ad, ao = some ad → ∀ j u, news[j]? = some u → w.cell? (ad.add j) = some u) (h1 : ∀ u ∈ news, u.oneCell' = true)
    (h63 : n + m ≤ maxLen) (hbytes : (n + m) * bytes ≤ 140737488355328) (hbase : base ≤ w.heap.size)
    (h : ∀ v' w', w'.ownsRow base e size v' (n + m) (xs ++ news) → w.grownBy w' v.ownBlock → wpList P ops Q rest (a.put o.dst v') w') : wpList P ops Q (o :: rest) a w := by
  cases ao with
  | none =>
    obtain ⟨rfl, rfl⟩ := hnone rfl
    obtain rfl : news = [] := List.eq_nil_of_length_eq_zero (by omega)
    exact wpList_append_own_none hgd s x t ho base e i size ht hi v n xs hs hown hx (h v w (by simpa using hown) ⟨rfl, rfl, rfl, Nat.le_refl _, fun _ _ _ => rfl⟩)
  | some ad =>
    exact wpList_append_own w hgd s x t ho base e i z size bytes ht hi hz hsize hby hzs hsz v n xs hs hown ad m c news hx hl (hnews ad rfl) h1 h63 hbytes hbase fun v' w' h2 h3 _ => h v' w' h2 h3
/-- An append to a row of the call's own, as one step of a region that draws. -/
theorem step_append_each {P : Program} {ops : Array Oper} {o : Oper} {a : Act} {w : World} {K : Act → World → Prop} {Q : Exit → Act → World → Prop} {X : Prop} (hg : o.guard = none) (s x : Operand) (t : TypeId)
    (ho : o.op = .call { callee := .builtin .append, args := #[s, x], argTypes := #[t, t] })
    (base : Nat) (e : TypeId) (i : TypeInfo) (z : Value) (size bytes : Nat) (ht : P.underlying t = some (.slice e)) (hi : P.info? e = some i) (hz : i.zero = some z)
    (hsize : i.size = size) (hby : i.bytes = bytes) (hzs : z.cells.size = size) (hsz : 0 < size)
    (v : Value) (n : Nat) (xs : List Value) (hs : a.eval s = v) (hown : w.ownsRow base e size v n xs)
    (ad : Addr) (m c : Nat) (news : List Value) (hx : a.eval x = .slice (some ad) m c) (hl : news.length = m * size) (hnews : ∀ j u, news[j]? = some u → w.cell? (ad.add j) = some u) (h1 : ∀ u ∈ news, u.oneCell' = true)
    (h63 : n + m ≤ maxLen) (hbytes : (n + m) * bytes ≤ 140737488355328) (hbase : base ≤ w.heap.size)
    (h : ∀ v' w', w'.ownsRow base e size v' (n + m) (xs ++ news) → w.grownBy w' v.ownBlock → (v' = .slice none 0 0 ↔ v = .slice none 0 0 ∧ m = 0) → K (a.put o.dst v') w') :
    if Region.wanted o (yielded ops a.tmps) = true then Oper.wp P o a w K Q else X := by
  rw [if_pos (by simp [Region.wanted, hg])]
  exact wp_append_own w s x t ho base e i z size bytes ht hi hz hsize hby hzs hsz v n xs hs hown ad m c news hx hl hnews h1 h63 hbytes hbase h
theorem run_neq_same (y : In) (w : World) : (binOp .neq 24 y.val y.val).run Tryd.prog w = .ok (.bool false) w := by
  obtain ⟨y0, y1, y2, y3, y4, y5, y6, y7, y8, y9, y10⟩ := y
  simp [go_sem]
end Go.Proofs.YtdaildmoodfocaaDoor
