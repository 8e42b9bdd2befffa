/- A slice of bytes among a law's arguments, opened into its numbers; it reads behind a call that makes new memory alone as before it. -/
import Derived.Test.YtdaildmoodfocaaDoorNums
import Derived.Test.YtdaildmoodfocaaDoorClose
import Derived.OpenShut
import Derived.Carry
namespace Go.Proofs.YtdaildmoodfocaaDoor
open Go.ChangeShapes Go.WideShapes Go.ChangeAt Go.RowKit

theorem laid_out : laidOutB Tryd.prog = true := by kernel_rfl
theorem cells_byte9 : Tryd.prog.cellsOf 5 = 1 := by kernel_rfl
set_option maxRecDepth 100000 in
theorem open_bytes {H : Type} {enc : TypeId × Value → H} {W : World} {base : Nat} {v : Value} {d : DataW H} {p : List MemPlace} (hval : Value.okWide Tryd.prog W .any base 47 v)
    (h : DataW.Trod enc Tryd.prog W 0 (fun _ => true) true 47 v d p) : ∃ (ao : Option Addr) (cap : Nat) (ns : List Nat), v = .slice ao ns.length cap ∧ Nums .u8 W ao cap ns ∧ ∀ t, ns.getD t 0 < 256 := by
  obtain ⟨a0, len, cap, rfl⟩ := okWide_slice Tryd.underlying47 hval
  obtain ⟨fuel, hf⟩ := h
  rcases open_ints Tryd.underlying47 Tryd.underlying5 cells_byte9 hf with ⟨hcs, hx⟩ | ⟨a, len', cap', zs, hcs, _, hl, hm, hz, hx, hcell, hwz⟩
  · simp [Value.cells] at hcs
    obtain ⟨rfl, rfl, rfl⟩ := hcs
    exact ⟨none, 0, [], rfl, ⟨Nat.le_refl _, Nat.zero_le _, fun _ => ⟨rfl, rfl⟩, fun a h => by cases h⟩, fun t => by simp⟩
  · simp [Value.cells] at hcs
    obtain ⟨rfl, rfl, rfl⟩ := hcs
    simp only [if_true] at hz
    have hr : ∀ t, t < len → 0 ≤ zs.getD t 0 ∧ zs.getD t 0 < 256 := fun t ht => by
      have h1 : zs.getD t 0 = zs[t]'(by omega) := by simp [List.getD, show t < zs.length by omega]
      rw [h1]
      have h2 := hwz _ (List.getElem_mem (show t < zs.length by omega))
      have e1 : IntKind.u8.min = 0 := rfl
      have e2 : IntKind.u8.max = 255 := rfl
      simp only [Lit.wf, Bool.and_eq_true, decide_eq_true_eq] at h2
      omega
    refine ⟨some a, cap, (zs.take len).map Int.toNat, ?_, ?_, fun t => ?_⟩
    · simp; omega
    · refine ⟨by simp; omega, hm, fun h => by simp at h, fun b hb t ht => ?_⟩
      obtain rfl := Option.some.inj hb
      have ht2 : t < len := by simp at ht; omega
      rw [hcell t (by omega)]
      have h3 := (hr t ht2).1
      have h4 : ((((zs.take len).map Int.toNat).getD t 0 : Nat) : Int) = zs.getD t 0 := by
        have h5 : t < zs.length := by omega
        simp [List.getD, ht2, h5] at h3 ⊢
        omega
      rw [h4]
    · by_cases ht : t < len
      · have h3 := hr t ht
        have h5 : t < zs.length := by omega
        simp [List.getD, ht, h5] at h3 ⊢
        omega
      · have h6 : ((zs.take len).map Int.toNat)[t]? = none := List.getElem?_eq_none (by simp; omega)
        simp only [List.getD, h6]
        simp
set_option maxRecDepth 100000 in
theorem keep_bytes {H : Type} {enc : TypeId × Value → H} {W W' : World} {v : Value} {d : DataW H} {p : List MemPlace} (h : DataW.Trod enc Tryd.prog W 0 (fun _ => true) true 47 v d p)
    (hm : Made W W') (hlt : ∀ x ∈ p, x.block < W.heap.size) (sp : Nat → Bool) (hs : ∀ x ∈ p, sp x.block = true) : DataW.Trod enc Tryd.prog W' 0 sp true 47 v d p :=
  WideElems.Trod_stays laid_out (by kernel_rfl) (of_decide_eq_true (by kernel_rfl)) h (fun x hx => hm.same (hlt x hx)) hs
end Go.Proofs.YtdaildmoodfocaaDoor
