/- What a listed package variable without pointers holds, reckoned from its type and its datum; the condition is that the list is met. -/
import Derived.Test.YtdaildmoodfocaaDoorBase
import Derived.LaidLaws
import Derived.ChangeArms
import Derived.Deep.DeepHandedRow
namespace Go.Proofs.YtdaildmoodfocaaDoor
open Go

/-! WHAT A LISTED VARIABLE WITHOUT POINTERS HOLDS: its cells, reckoned from its type and its datum. -/
def contig : Nat → List (Nat × List Value) → Option Nat
  | o, [] => some o
  | o, (off, p) :: r => if off = o then contig (o + p.length) r else none
theorem contig_spec {cs : List Value} : ∀ {l : List (Nat × List Value)} {o : Nat}, contig o l = some cs.length → (∀ x ∈ l, (cs.drop x.1).take x.2.length = x.2) → cs.drop o = l.flatMap (·.2)
  | [], o, h, _ => by
    simp only [contig, Option.some.injEq] at h
    simp [h]
  | (off, p) :: r, o, h, hx => by
    simp only [contig] at h
    split at h
    · rename_i e
      subst e
      have h1 := hx (off, p) (by simp)
      have h2 := contig_spec h (fun x hm => hx x (by simp [hm]))
      simp only [List.flatMap_cons]
      rw [← h2, ← List.drop_drop]
      conv => lhs; rw [← List.take_append_drop p.length (cs.drop off)]
      rw [h1]
    · cases h

def flatT {H : Type} (P : Program) : Nat → TypeId → DataW H → Option (List Value)
  | 0, _, _ => none
  | m + 1, t, d =>
    match P.underlying t, d with
    | some .bool, .lit (.bool b) => some [.bool b]
    | some (.int _), .lit (.int k n) => some [.int k n]
    | some .string, .lit (.string b) => some [.string ⟨b.toArray⟩]
    | some (.struct fs), .agg ds =>
      ((List.range fs.size).mapM fun i => (fs[i]?).bind fun f => (ds[i]?).bind fun d => (flatT P m f.type d).bind fun cs => if cs.length = P.cellsOf f.type then some (f.offset, cs) else none).bind fun l =>
        if contig 0 l = some (P.cellsOf t) then some (l.flatMap (·.2)) else none
    | some (.array n e), .agg ds =>
      ((List.range n).mapM fun i => (ds[i]?).bind fun d => (flatT P m e d).bind fun cs => if cs.length = P.cellsOf e then some (i * P.cellsOf e, cs) else none).bind fun l =>
        if contig 0 l = some (P.cellsOf t) then some (l.flatMap (·.2)) else none
    | _, _ => none

theorem mapM_mem {α β : Type} {f : α → Option β} : ∀ {l : List α} {r : List β}, l.mapM f = some r → ∀ b ∈ r, ∃ a ∈ l, f a = some b
  | [], r, h, b, hb => by
    simp at h
    subst h
    cases hb
  | x :: l, r, h, b, hb => by
    simp only [List.mapM_cons, Option.bind_eq_bind, Option.bind_eq_some_iff, Option.pure_def, Option.some.injEq] at h
    obtain ⟨y, hy, r', hr', rfl⟩ := h
    rcases List.mem_cons.1 hb with rfl | hb
    · exact ⟨x, by simp, hy⟩
    · obtain ⟨a, ha, hf⟩ := mapM_mem hr' b hb
      exact ⟨a, by simp [ha], hf⟩

theorem flatT_spec {H : Type} {enc : TypeId × Value → H} {P : Program} {w : World} {base : Nat} {sp : Nat → Bool} {held : Bool} :
    ∀ (m : Nat) {fuel : Nat} {t : TypeId} {cs : List Value} {d : DataW H} {p : List MemPlace} {vs : List Value}, DataW.trod enc P w base sp held fuel t cs = some (d, p) → flatT P m t d = some vs → cs = vs
  | 0, _, _, _, _, _, _, _, hf => by simp [flatT] at hf
  | m + 1, fuel, t, cs, d, p, vs, h, hf => by
    unfold flatT at hf
    split at hf
    · rename_i ht
      obtain ⟨b, rfl, hx⟩ := DataW.trod_bool ht h
      cases hx
      simpa using hf
    · rename_i ht
      obtain ⟨n, rfl, hx, _⟩ := DataW.trod_int ht h
      cases hx
      simpa using hf
    · rename_i ht
      obtain ⟨s, rfl, hx, _⟩ := DataW.trod_string ht h
      cases hx
      simp only [Option.some.injEq] at hf
      rw [← hf]
    · rename_i fs ds ht
      obtain ⟨xs, n, rfl, hx, hlen, hxl, hall⟩ := DataW.trod_struct ht h
      obtain ⟨l, hl, hc⟩ := Option.bind_eq_some_iff.1 hf
      split at hc
      · rename_i hcon
        simp only [Option.some.injEq] at hc
        subst hc
        have := contig_spec (cs := cs) (l := l) (o := 0) (by rw [hcon, hlen]) (fun x hxm => by
          obtain ⟨i, _, hi⟩ := mapM_mem hl x hxm
          obtain ⟨f, hf1, hi⟩ := Option.bind_eq_some_iff.1 hi
          obtain ⟨d', hd, hi⟩ := Option.bind_eq_some_iff.1 hi
          obtain ⟨c, hcc, hi⟩ := Option.bind_eq_some_iff.1 hi
          split at hi
          · rename_i hcl
            simp only [Option.some.injEq] at hi
            subst hi
            have h1 := hall i f hf1
            simp only [Prod.mk.injEq, DataW.agg.injEq] at hx
            obtain ⟨rfl, rfl⟩ := hx
            simp only [List.getElem?_map, Option.map_eq_some_iff] at hd
            obtain ⟨⟨d'', p''⟩, hd1, rfl⟩ := hd
            rw [hd1] at h1
            have := flatT_spec m h1 hcc
            simp only
            rw [hcl]
            exact this
          · cases hi)
        simpa using this
      · cases hc
    · rename_i k e ds ht
      obtain ⟨xs, n, rfl, hx, hlen, hxl, hall⟩ := DataW.trod_array ht h
      obtain ⟨l, hl, hc⟩ := Option.bind_eq_some_iff.1 hf
      split at hc
      · rename_i hcon
        simp only [Option.some.injEq] at hc
        subst hc
        have := contig_spec (cs := cs) (l := l) (o := 0) (by rw [hcon, hlen]) (fun x hxm => by
          obtain ⟨i, hin, hi⟩ := mapM_mem hl x hxm
          obtain ⟨d', hd, hi⟩ := Option.bind_eq_some_iff.1 hi
          obtain ⟨c, hcc, hi⟩ := Option.bind_eq_some_iff.1 hi
          split at hi
          · rename_i hcl
            simp only [Option.some.injEq] at hi
            subst hi
            have h1 := hall i (by simpa using hin)
            simp only [Prod.mk.injEq, DataW.agg.injEq] at hx
            obtain ⟨rfl, rfl⟩ := hx
            simp only [List.getElem?_map, Option.map_eq_some_iff] at hd
            obtain ⟨⟨d'', p''⟩, hd1, rfl⟩ := hd
            rw [hd1] at h1
            have := flatT_spec m h1 hcc
            simp only
            rw [hcl]
            exact this
          · cases hi)
        simpa using this
      · cases hc
    · cases hf

theorem laidVars_mem {P : Program} {w : World} {n : String} {d : DataW Unit} : ∀ {l : List (String × DataW Unit)} {ps : List MemPlace}, DataW.LaidVars P w l ps → (n, d) ∈ l →
    ∃ g t cs fuel p, P.globalNamed n = some g ∧ (P.globals[g]?).map (·.type) = some t ∧ w.var? P n = some cs ∧ DataW.trod (fun _ => ()) P w 0 (fun _ => true) false fuel t cs.toList = some (d, p)
  | [], _, _, hm => by cases hm
  | (n', d') :: r, ps, h, hm => by
    obtain ⟨g, t, cs, fuel, p, q, e1, e2, e3, e4, hr, rfl⟩ := h
    rcases List.mem_cons.1 hm with h | h
    · cases h
      exact ⟨g, t, cs, fuel, p, e1, e2, e3, e4⟩
    · exact laidVars_mem hr h

/-- WHAT THE ROW's LIST GIVES: the variable's block holds just these cells. -/
theorem laid_block {P : Program} {W : World} {l : List (String × DataW Unit)} {n : String} {d : DataW Unit} {g : Nat} {t : TypeId} {vs : List Value} (m : Nat) (i : Nat) (h : laidMet P l W) (hm : l[i]? = some (n, d))
    (hg : P.globalNamed n = some g) (ht : (P.globals[g]?).map (·.type) = some t) (hf : flatT P m t d = some vs) : ∃ T fr, W.heap[g]? = some (.cells vs.toArray T fr) := by
  obtain ⟨ps, hv, _⟩ := h
  obtain ⟨g', t', cs, fuel, p, e1, e2, e3, e4⟩ := laidVars_mem hv (List.mem_of_getElem? hm)
  obtain rfl := Option.some.inj (hg.symm.trans e1)
  obtain rfl := Option.some.inj (ht.symm.trans e2)
  have hcs := flatT_spec m e4 hf
  unfold World.var? at e3
  rw [hg, Option.bind_some] at e3
  split at e3
  · rename_i c T fr hw
    cases e3
    exact ⟨T, fr, by rw [hw, ← hcs]⟩
  · cases e3
end Go.Proofs.YtdaildmoodfocaaDoor
