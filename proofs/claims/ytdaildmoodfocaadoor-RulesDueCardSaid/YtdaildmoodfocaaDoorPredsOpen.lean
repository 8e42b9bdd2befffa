/- Four predicates among a law's arguments ([4]bool by value), opened; they read behind a call that makes new memory alone as before it. -/
import Derived.Test.YtdaildmoodfocaaDoorRulesOpen
namespace Go.Proofs.YtdaildmoodfocaaDoor
open Go.ChangeShapes Go.WideShapes Go.ChangeAt Go.RowKit Go.Deep

abbrev fourL (q : Nat → Bool) : List Value := [.bool (q 0), .bool (q 1), .bool (q 2), .bool (q 3)]
abbrev fourV (q : Nat → Bool) : Value := .agg #[.bool (q 0), .bool (q 1), .bool (q 2), .bool (q 3)]
theorem cells_four : Tryd.prog.cellsOf 38 = 4 := by kernel_rfl
theorem array4 {α : Type} {cs : Array α} (h : cs.size = 4) : ∃ c0 c1 c2 c3, cs = #[c0, c1, c2, c3] := by
  obtain ⟨l⟩ := cs
  match l, h with
  | [c0, c1, c2, c3], _ => exact ⟨c0, c1, c2, c3, rfl⟩
theorem list4 {α : Type} {l : List α} (h : l.length = 4) : ∃ c0 c1 c2 c3, l = [c0, c1, c2, c3] := by
  match l, h with
  | [c0, c1, c2, c3], _ => exact ⟨c0, c1, c2, c3, rfl⟩
set_option maxRecDepth 100000 in
theorem open_preds {H : Type} {enc : TypeId × Value → H} {w : World} {base : Nat} {v : Value} {d : DataW H} {p : List MemPlace} (hval : Value.okWide Tryd.prog w .any base 38 v)
    (h : DataW.Trod enc Tryd.prog w 0 (fun _ => true) true 38 v d p) : ∃ q : Nat → Bool, v = fourV q := by
  have hv : ∃ cs, v = .agg cs ∧ cs.size = Tryd.prog.cellsOf 38 := by
    simp only [Value.okWide, Tryd.underlying38] at hval
    obtain ⟨cs, h1, h2, _⟩ := hval
    exact ⟨cs, h1, h2⟩
  obtain ⟨cs, rfl, hsz⟩ := hv
  obtain ⟨fuel, hf⟩ := h
  obtain ⟨xs, n, _, _, _, hlen, hfld⟩ := DataW.trod_array Tryd.underlying38 hf
  obtain ⟨c0, c1, c2, c3, rfl⟩ := array4 (hsz.trans cells_four)
  obtain ⟨y0, y1, y2, y3, rfl⟩ := list4 hlen
  have h0 : DataW.trod enc Tryd.prog w 0 (fun _ => true) true n 4 [c0] = some y0 := by simpa [Value.cells, cells_bool] using hfld 0 (by omega)
  have h1 : DataW.trod enc Tryd.prog w 0 (fun _ => true) true n 4 [c1] = some y1 := by simpa [Value.cells, cells_bool] using hfld 1 (by omega)
  have h2 : DataW.trod enc Tryd.prog w 0 (fun _ => true) true n 4 [c2] = some y2 := by simpa [Value.cells, cells_bool] using hfld 2 (by omega)
  have h3 : DataW.trod enc Tryd.prog w 0 (fun _ => true) true n 4 [c3] = some y3 := by simpa [Value.cells, cells_bool] using hfld 3 (by omega)
  obtain ⟨a0, e0, _⟩ := DataW.trod_bool Tryd.underlying4 h0
  obtain ⟨a1, e1, _⟩ := DataW.trod_bool Tryd.underlying4 h1
  obtain ⟨a2, e2, _⟩ := DataW.trod_bool Tryd.underlying4 h2
  obtain ⟨a3, e3, _⟩ := DataW.trod_bool Tryd.underlying4 h3
  obtain rfl : c0 = _ := List.head_eq_of_cons_eq e0
  obtain rfl : c1 = _ := List.head_eq_of_cons_eq e1
  obtain rfl : c2 = _ := List.head_eq_of_cons_eq e2
  obtain rfl : c3 = _ := List.head_eq_of_cons_eq e3
  exact ⟨fun j => match j with | 0 => a0 | 1 => a1 | 2 => a2 | _ => a3, rfl⟩
theorem keep_preds {H : Type} {enc : TypeId × Value → H} {w w' : World} {v : Value} {d : DataW H} {p : List MemPlace} (h : DataW.Trod enc Tryd.prog w 0 (fun _ => true) true 38 v d p)
    (hm : Made w w') (hlt : ∀ x ∈ p, x.block < w.heap.size) (sp : Nat → Bool) (hs : ∀ x ∈ p, sp x.block = true) : DataW.Trod enc Tryd.prog w' 0 sp true 38 v d p :=
  WideElems.Trod_stays laid_out10 (by kernel_rfl) (of_decide_eq_true (by kernel_rfl)) h (fun x hx => hm.same (hlt x hx)) hs
end Go.Proofs.YtdaildmoodfocaaDoor
