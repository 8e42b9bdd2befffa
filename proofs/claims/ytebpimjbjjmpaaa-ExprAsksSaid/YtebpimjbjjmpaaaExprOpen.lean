/- Slices of terms and of names among a law's arguments, opened; they read behind a call that makes new memory alone as before it. -/
import Derived.Test.YtebpimjbjjmpaaaExprNam
import Derived.Test.YtebpimjbjjmpaaaGBase
import Derived.WalkKit
import Derived.ProofKit
import Derived.OpenShut
import Derived.Deep.Slices
import Derived.Carry
import Derived.SizedLaws
namespace Go.Proofs.Ytebpimjbjjmpaaa
open Go.ChangeShapes Go.WideShapes Go.ChangeAt Go.RowKit Go.Deep

theorem laid_out15 : laidOutB Try.prog = true := by kernel_rfl
theorem xadd_plain (b o k : Nat) : (⟨b, o, none⟩ : Addr).add k = ⟨b, o + k, none⟩ := by
  unfold Addr.add
  split
  · rename_i h; subst h; rfl
  · rfl
theorem choose_any {α : Type} {P : Nat → α → Prop} : ∀ n : Nat, (∀ t, t < n → ∃ x, P t x) → ∃ l : List α, l.length = n ∧ ∀ t (h : t < l.length), P t l[t]
  | 0, _ => ⟨[], rfl, fun t h => absurd h (Nat.not_lt_zero t)⟩
  | n + 1, h => by
    obtain ⟨l, hl, hp⟩ := choose_any n fun t ht => h t (by omega)
    obtain ⟨x, hx⟩ := h n (by omega)
    refine ⟨l ++ [x], by simp [hl], fun t ht => ?_⟩
    simp only [List.length_append, List.length_cons, List.length_nil] at ht
    by_cases h1 : t < l.length
    · rw [List.getElem_append_left h1]
      exact hp t h1
    · obtain rfl : t = n := by omega
      subst hl
      simpa using hx
section
variable {H : Type} {enc : TypeId × Value → H} {w : World}
/-- A slice of structs, opened. -/
theorem open_rows {α : Type} {f : α → List Value} {s : Nat} {t e : TypeId} (Pr : α → Prop) (ht : Try.prog.underlying t = some (.slice e)) (hc : Try.prog.cellsOf e = s) (hs0 : 0 < s)
    (ho : ∀ (base fuel : Nat) (spare : Nat → Bool) (held : Bool) (cs : List Value) (z : DataW H × List MemPlace), cs.length = s → DataW.trod enc Try.prog w base spare held fuel e cs = some z → ∃ x : α, cs = f x ∧ Pr x)
    {fuel : Nat} {ao : Option Addr} {n cap : Nat} {z : DataW H × List MemPlace} (h : DataW.trod enc Try.prog w 0 (fun _ => true) true fuel t [.slice ao n cap] = some z) : ∃ l : List α, l.length = n ∧ (∀ x ∈ l, Pr x) ∧ Recs f s w ao cap l := by
  rcases open_slice ht h with ⟨hcs, _⟩ | ⟨a, len, cap', m, k, D, Pl, hcs, _, hl, hm, hmm, _, hx⟩
  · simp only [List.cons.injEq, Value.slice.injEq, and_true] at hcs
    obtain ⟨rfl, rfl, rfl⟩ := hcs
    exact ⟨[], rfl, fun x hx => by simp at hx, recs_none w⟩
  · simp only [List.cons.injEq, Value.slice.injEq, and_true] at hcs
    obtain ⟨rfl, rfl, rfl⟩ := hcs
    simp only [if_true] at hmm
    subst hmm
    rw [hc] at hx
    have hspot : 0 < n → a.spot = none := fun h0 => by
      obtain ⟨cs', h1, h2⟩ := hx 0 (by omega)
      obtain ⟨h3, h4, h5⟩ := World.cells?_some h1
      have h6 := h5 0 (by omega)
      obtain ⟨v, hv⟩ : ∃ v, cs'[0]? = some v := ⟨_, List.getElem?_eq_getElem (by omega)⟩
      simpa [Addr.add] using World.cell?_spot (h6.trans hv)
    obtain ⟨l, hll, hp⟩ := choose_any (P := fun t x => Pr x ∧ ∃ b o, a = ⟨b, o, none⟩ ∧ ∀ r, r < s → w.cell? ⟨b, o + t * s + r, none⟩ = (f x)[r]?) n (fun t ht => by
      obtain ⟨cs', h1, h2⟩ := hx t (by omega)
      obtain ⟨h3, h4, h5⟩ := World.cells?_some h1
      obtain ⟨x, rfl, hs⟩ := ho _ _ _ _ _ _ h4 h2
      have hsp := hspot (by omega)
      obtain ⟨b, o, sp⟩ := a
      have hsp2 : sp = none := hsp
      subst hsp2
      refine ⟨x, hs, b, o, rfl, fun r hr => ?_⟩
      rw [← h5 r hr, xadd_plain, xadd_plain])
    exact ⟨l, hll, fun x hx => by
      obtain ⟨t, ht, rfl⟩ := List.mem_iff_getElem.1 hx
      exact (hp t ht).1, by omega, hm, fun t ht => by
      obtain ⟨b, o, e, hcell⟩ := (hp t ht).2
      exact ⟨b, o, by rw [e], hcell⟩⟩
variable {base : Nat} {spare : Nat → Bool} {held : Bool}
theorem list5x {α : Type} {l : List α} (h : l.length = 5) : ∃ c0 c1 c2 c3 c4, l = [c0, c1, c2, c3, c4] := by
  match l, h with
  | [c0, c1, c2, c3, c4], _ => exact ⟨c0, c1, c2, c3, c4, rfl⟩
theorem list3x {α : Type} {l : List α} (h : l.length = 3) : ∃ c0 c1 c2, l = [c0, c1, c2] := by
  match l, h with
  | [c0, c1, c2], _ => exact ⟨c0, c1, c2, rfl⟩
theorem xcells_u8 : Try.prog.cellsOf 5 = 1 := by kernel_rfl
theorem xcells_i64 : Try.prog.cellsOf 2 = 1 := by kernel_rfl
theorem xcells_int : Try.prog.cellsOf 3 = 1 := by kernel_rfl
theorem xcells_str : Try.prog.cellsOf 9 = 1 := by kernel_rfl
theorem xi64_wf {n : Int} (h : (Lit.int .i64 n).wf = true) : -9223372036854775808 ≤ n ∧ n ≤ 9223372036854775807 := by
  simp only [Lit.wf, Bool.and_eq_true, decide_eq_true_eq] at h
  have h1 : IntKind.i64.min = -9223372036854775808 := rfl
  have h2 : IntKind.i64.max = 9223372036854775807 := rfl
  exact ⟨by omega, by omega⟩
set_option maxRecDepth 100000 in
theorem open_term_cells {fuel : Nat} {cs : List Value} {z : DataW H × List MemPlace} (hlen0 : cs.length = 5) (hf : DataW.trod enc Try.prog w base spare held fuel 36 cs = some z) : ∃ x : Tm, cs = x.cells ∧ True := by
  obtain ⟨xs, n, _, hx, _, hlen, hfld⟩ := DataW.trod_struct Try.underlying36 hf
  obtain ⟨c0, c1, c2, c3, c4, rfl⟩ := list5x hlen0
  obtain ⟨y0, y1, y2, y3, y4, rfl⟩ := list5x hlen
  have h0 : DataW.trod enc Try.prog w base spare held n 5 [c0] = some y0 := by simpa [xcells_u8] using hfld 0 _ rfl
  obtain ⟨a0, e0, hy0, w0⟩ := DataW.trod_int Try.underlying5 h0
  obtain rfl : c0 = _ := List.head_eq_of_cons_eq e0
  have h1 : DataW.trod enc Try.prog w base spare held n 2 [c1] = some y1 := by simpa [xcells_u8, xcells_i64] using hfld 1 _ rfl
  obtain ⟨a1, e1, hy1, w1⟩ := DataW.trod_int Try.underlying2 h1
  obtain rfl : c1 = _ := List.head_eq_of_cons_eq e1
  have h2 : DataW.trod enc Try.prog w base spare held n 9 [c2] = some y2 := by simpa [xcells_u8, xcells_i64, xcells_str] using hfld 2 _ rfl
  obtain ⟨a2, e2, hy2, w2⟩ := DataW.trod_string Try.underlying9 h2
  obtain rfl : c2 = _ := List.head_eq_of_cons_eq e2
  have h3 : DataW.trod enc Try.prog w base spare held n 3 [c3] = some y3 := by simpa [xcells_u8, xcells_i64, xcells_str, xcells_int] using hfld 3 _ rfl
  obtain ⟨a3, e3, hy3, w3⟩ := DataW.trod_int Try.underlying3 h3
  obtain rfl : c3 = _ := List.head_eq_of_cons_eq e3
  have h4 : DataW.trod enc Try.prog w base spare held n 3 [c4] = some y4 := by simpa [xcells_u8, xcells_i64, xcells_str, xcells_int] using hfld 4 _ rfl
  obtain ⟨a4, e4, hy4, w4⟩ := DataW.trod_int Try.underlying3 h4
  obtain rfl : c4 = _ := List.head_eq_of_cons_eq e4
  exact ⟨⟨a0, a1, a2.data.toList, a3, a4⟩, rfl, trivial⟩
set_option maxRecDepth 100000 in
theorem open_name_cells {fuel : Nat} {cs : List Value} {z : DataW H × List MemPlace} (hlen0 : cs.length = 3) (hf : DataW.trod enc Try.prog w base spare held fuel 38 cs = some z) : ∃ x : Nm, cs = x.cells ∧ -9223372036854775808 ≤ x.v ∧ x.v ≤ 9223372036854775807 := by
  obtain ⟨xs, n, _, hx, _, hlen, hfld⟩ := DataW.trod_struct Try.underlying38 hf
  obtain ⟨c0, c1, c2, rfl⟩ := list3x hlen0
  obtain ⟨y0, y1, y2, rfl⟩ := list3x hlen
  have h0 : DataW.trod enc Try.prog w base spare held n 9 [c0] = some y0 := by simpa [xcells_str] using hfld 0 _ rfl
  obtain ⟨a0, e0, hy0, w0⟩ := DataW.trod_string Try.underlying9 h0
  obtain rfl : c0 = _ := List.head_eq_of_cons_eq e0
  have h1 : DataW.trod enc Try.prog w base spare held n 2 [c1] = some y1 := by simpa [xcells_str, xcells_i64] using hfld 1 _ rfl
  obtain ⟨a1, e1, hy1, w1⟩ := DataW.trod_int Try.underlying2 h1
  obtain rfl : c1 = _ := List.head_eq_of_cons_eq e1
  have h2 : DataW.trod enc Try.prog w base spare held n 3 [c2] = some y2 := by simpa [xcells_str, xcells_i64, xcells_int] using hfld 2 _ rfl
  obtain ⟨a2, e2, hy2, w2⟩ := DataW.trod_int Try.underlying3 h2
  obtain rfl : c2 = _ := List.head_eq_of_cons_eq e2
  exact ⟨⟨a0.data.toList, a1, a2⟩, rfl, xi64_wf w1⟩
end
theorem ask_64 (l : List Nm) (h : ∀ x ∈ l, -9223372036854775808 ≤ x.v ∧ x.v ≤ 9223372036854775807) (s : List UInt8) : -9223372036854775808 ≤ (askL l s).1 ∧ (askL l s).1 ≤ 9223372036854775807 := by
  induction l with
  | nil => exact ⟨show (-9223372036854775808 : Int) ≤ 0 by decide, show (0 : Int) ≤ 9223372036854775807 by decide⟩
  | cons x r ih =>
    simp only [askL]
    split
    · exact h x (List.mem_cons_self ..)
    · exact ih fun y hy => h y (List.mem_cons_of_mem _ hy)
/-- Names of a law's own argument. -/
structure NmIn (W : World) (ao : Option Addr) (cap : Nat) (l : List Nm) : Prop where
  row : Nms W ao cap l
  v64 : ∀ s, -9223372036854775808 ≤ (askL l s).1 ∧ (askL l s).1 ≤ 9223372036854775807
/-- Terms of a law's own argument. -/
structure TmIn (W : World) (ao : Option Addr) (cap : Nat) (l : List Tm) : Prop where
  row : Tms W ao cap l
  nm : ∀ t ∈ l, t.name.length ≤ 140737488351232
theorem weightsAll_mem {H : Type} {P : Program} {e : TypeId} : ∀ {l : List (DataW H)} {d : DataW H}, d ∈ l → ∀ n ∈ d.weights P e, n ∈ DataW.weightsAll P e l
  | d' :: r, d, hd, n, hn => by
    simp only [DataW.weightsAll, List.mem_append]
    rcases List.mem_cons.1 hd with rfl | h
    · exact Or.inl hn
    · exact Or.inr (weightsAll_mem h n hn)
section
variable {H : Type} {enc : TypeId × Value → H} {w : World}
/-- A slice of structs, opened, with the form's own reach of each. -/
theorem open_rows_w {α : Type} {f : α → List Value} {s : Nat} {t e : TypeId} (Pr : α → Prop) (ht : Try.prog.underlying t = some (.slice e)) (hc : Try.prog.cellsOf e = s) (hs0 : 0 < s)
    (ho : ∀ (base fuel : Nat) (spare : Nat → Bool) (held : Bool) (cs : List Value) (z : DataW H × List MemPlace), cs.length = s → DataW.trod enc Try.prog w base spare held fuel e cs = some z → (∀ n ∈ z.1.weights Try.prog e, n ≤ reachBytes) → ∃ x : α, cs = f x ∧ Pr x)
    {fuel : Nat} {ao : Option Addr} {n cap : Nat} {z : DataW H × List MemPlace} (hw : ∀ n ∈ z.1.weights Try.prog t, n ≤ reachBytes) (h : DataW.trod enc Try.prog w 0 (fun _ => true) true fuel t [.slice ao n cap] = some z) : ∃ l : List α, l.length = n ∧ (∀ x ∈ l, Pr x) ∧ Recs f s w ao cap l := by
  rcases open_slice ht h with ⟨hcs, _⟩ | ⟨a, len, cap', m, k, D, Pl, hcs, _, hl, hm, hmm, hz, hx⟩
  · simp only [List.cons.injEq, Value.slice.injEq, and_true] at hcs
    obtain ⟨rfl, rfl, rfl⟩ := hcs
    exact ⟨[], rfl, fun x hx => by simp at hx, recs_none w⟩
  · simp only [List.cons.injEq, Value.slice.injEq, and_true] at hcs
    obtain ⟨rfl, rfl, rfl⟩ := hcs
    simp only [if_true] at hmm
    subst hmm
    rw [hc] at hx
    have hspot : 0 < n → a.spot = none := fun h0 => by
      obtain ⟨cs', h1, h2⟩ := hx 0 (by omega)
      obtain ⟨h3, h4, h5⟩ := World.cells?_some h1
      have h6 := h5 0 (by omega)
      obtain ⟨v, hv⟩ : ∃ v, cs'[0]? = some v := ⟨_, List.getElem?_eq_getElem (by omega)⟩
      simpa [Addr.add] using World.cell?_spot (h6.trans hv)
    obtain ⟨l, hll, hp⟩ := choose_any (P := fun t x => Pr x ∧ ∃ b o, a = ⟨b, o, none⟩ ∧ ∀ r, r < s → w.cell? ⟨b, o + t * s + r, none⟩ = (f x)[r]?) n (fun t1 ht1 => by
      obtain ⟨cs', h1, h2⟩ := hx t1 (by omega)
      obtain ⟨h3, h4, h5⟩ := World.cells?_some h1
      obtain ⟨x, rfl, hs⟩ := ho _ _ _ _ _ _ h4 h2 (fun q hq => hw q (by
        rw [hz]
        simp only [DataW.weights, ht, List.mem_cons, List.mem_append]
        exact .inr (.inl (weightsAll_mem (List.mem_map.2 ⟨t1, List.mem_range.2 ht1, rfl⟩) q hq))))
      have hsp := hspot (by omega)
      obtain ⟨b, o, sp⟩ := a
      have hsp2 : sp = none := hsp
      subst hsp2
      refine ⟨x, hs, b, o, rfl, fun r hr => ?_⟩
      rw [← h5 r hr, xadd_plain, xadd_plain])
    exact ⟨l, hll, fun x hx => by
      obtain ⟨t, ht, rfl⟩ := List.mem_iff_getElem.1 hx
      exact (hp t ht).1, by omega, hm, fun t ht => by
      obtain ⟨b, o, e, hcell⟩ := (hp t ht).2
      exact ⟨b, o, by rw [e], hcell⟩⟩
variable {base : Nat} {spare : Nat → Bool} {held : Bool}
set_option maxRecDepth 100000 in
theorem open_term_cells_w {fuel : Nat} {cs : List Value} {z : DataW H × List MemPlace} (hlen0 : cs.length = 5) (hf : DataW.trod enc Try.prog w base spare held fuel 36 cs = some z) (hw : ∀ n ∈ z.1.weights Try.prog 36, n ≤ reachBytes) : ∃ x : Tm, cs = x.cells ∧ x.name.length ≤ 140737488351232 := by
  obtain ⟨x, hx, -⟩ := open_term_cells hlen0 hf
  refine ⟨x, hx, ?_⟩
  obtain ⟨xs, n, _, hz, _, hlen, hfld⟩ := DataW.trod_struct Try.underlying36 hf
  obtain ⟨y0, y1, y2, y3, y4, rfl⟩ := list5x hlen
  subst hx
  have h2 : DataW.trod enc Try.prog w base spare held n 9 [.string (strOf x.name)] = some y2 := by simpa [xcells_u8, xcells_i64, xcells_str] using hfld 2 _ rfl
  obtain ⟨a2, e2, hy2, w2⟩ := DataW.trod_string Try.underlying9 h2
  simp only [List.cons.injEq, Value.string.injEq, and_true] at e2
  subst e2
  refine hw _ ?_
  rw [hz]
  simp only [DataW.weights, Try.underlying36]
  refine DataW.weights_mem_each (j := 2) (t := 9) (d := y2.1) rfl rfl _ ?_
  rw [hy2]
  simp [DataW.weights]
end
set_option maxRecDepth 100000 in
theorem open_terms {H : Type} {enc : TypeId × Value → H} {W : World} {base : Nat} {v : Value} {d : DataW H} {p : List MemPlace} (hval : Value.okWide Try.prog W .any base 26 v)
    (h : DataW.Trod enc Try.prog W 0 (fun _ => true) true 26 v d p) (hw : ∀ n ∈ d.weights Try.prog 26, n ≤ reachBytes) : ∃ (ao : Option Addr) (cap : Nat) (l : List Tm), v = .slice ao l.length cap ∧ TmIn W ao cap l := by
  obtain ⟨a0, len, cap, rfl⟩ := okWide_slice Try.underlying26 hval
  obtain ⟨fuel, hf⟩ := h
  obtain ⟨l, rfl, hr, hi⟩ := open_rows_w (f := Tm.cells) (s := 5) (fun x : Tm => x.name.length ≤ 140737488351232) Try.underlying26 (by kernel_rfl) (by decide) (fun _ _ _ _ _ _ h1 h2 h3 => open_term_cells_w h1 h2 h3) (z := (d, p)) (ao := a0) (n := len) (cap := cap) hw (by simpa [Value.cells] using hf)
  exact ⟨a0, cap, l, rfl, hi, hr⟩
/-- The form's own reach, of one argument. -/
theorem sized_arg {H : Type} {P : Program} {ts : List TypeId} {ds : List (DataW H)} (h : (DataW.weightsEach P ts ds).all (· ≤ reachBytes) = true) {j : Nat} {t : TypeId} {d : DataW H} (ht : ts[j]? = some t) (hd : ds[j]? = some d) : ∀ n ∈ d.weights P t, n ≤ reachBytes := fun n hn => by
  have := List.all_eq_true.1 h _ (DataW.weights_mem_each ht hd n hn)
  simpa using this
set_option maxRecDepth 100000 in
theorem open_names {H : Type} {enc : TypeId × Value → H} {W : World} {base : Nat} {v : Value} {d : DataW H} {p : List MemPlace} (hval : Value.okWide Try.prog W .any base 39 v)
    (h : DataW.Trod enc Try.prog W 0 (fun _ => true) true 39 v d p) : ∃ (ao : Option Addr) (cap : Nat) (l : List Nm), v = .slice ao l.length cap ∧ NmIn W ao cap l := by
  obtain ⟨a0, len, cap, rfl⟩ := okWide_slice Try.underlying39 hval
  obtain ⟨fuel, hf⟩ := h
  obtain ⟨l, rfl, hr, hi⟩ := open_rows (f := Nm.cells) (s := 3) (fun x : Nm => -9223372036854775808 ≤ x.v ∧ x.v ≤ 9223372036854775807) Try.underlying39 (by kernel_rfl) (by decide) (fun _ _ _ _ _ _ h1 h2 => open_name_cells h1 h2) (z := (d, p)) (ao := a0) (n := len) (cap := cap) (by simpa [Value.cells] using hf)
  exact ⟨a0, cap, l, rfl, hi, ask_64 l hr⟩
set_option maxRecDepth 100000 in
theorem keep_terms {H : Type} {enc : TypeId × Value → H} {W W' : World} {v : Value} {d : DataW H} {p : List MemPlace} (h : DataW.Trod enc Try.prog W 0 (fun _ => true) true 26 v d p)
    (hm : Made W W') (hlt : ∀ x ∈ p, x.block < W.heap.size) (sp : Nat → Bool) (hs : ∀ x ∈ p, sp x.block = true) : DataW.Trod enc Try.prog W' 0 sp true 26 v d p :=
  WideElems.Trod_stays laid_out15 (by kernel_rfl) (of_decide_eq_true (by kernel_rfl)) h (fun x hx => hm.same (hlt x hx)) hs
set_option maxRecDepth 100000 in
theorem keep_names {H : Type} {enc : TypeId × Value → H} {W W' : World} {v : Value} {d : DataW H} {p : List MemPlace} (h : DataW.Trod enc Try.prog W 0 (fun _ => true) true 39 v d p)
    (hm : Made W W') (hlt : ∀ x ∈ p, x.block < W.heap.size) (sp : Nat → Bool) (hs : ∀ x ∈ p, sp x.block = true) : DataW.Trod enc Try.prog W' 0 sp true 39 v d p :=
  WideElems.Trod_stays laid_out15 (by kernel_rfl) (of_decide_eq_true (by kernel_rfl)) h (fun x hx => hm.same (hlt x hx)) hs
end Go.Proofs.Ytebpimjbjjmpaaa
