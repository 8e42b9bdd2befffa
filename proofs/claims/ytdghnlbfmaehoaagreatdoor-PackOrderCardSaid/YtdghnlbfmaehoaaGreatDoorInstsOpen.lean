/- A slice of instructions among a law's arguments, opened; it reads behind a call that makes new memory alone as before it. -/
import Derived.Test.YtdghnlbfmaehoaaGreatDoorGRules
namespace Go.Proofs.YtdghnlbfmaehoaaGreatDoor
open Go.ChangeShapes Go.WideShapes Go.ChangeAt Go.RowKit

set_option maxRecDepth 100000 in
theorem open_list {H : Type} {enc : TypeId × Value → H} {W : World} {base : Nat} {v : Value} {d : DataW H} {p : List MemPlace} (hval : Value.okWide Tryz.prog W .any base 22 v)
    (h : DataW.Trod enc Tryz.prog W 0 (fun _ => true) true 22 v d p) : ∃ (ao : Option Addr) (cap : Nat) (l : List In), v = .slice ao l.length cap ∧ Insts W ao cap l := by
  obtain ⟨a0, len, cap, rfl⟩ := okWide_slice Tryz.underlying22 hval
  obtain ⟨fuel, hf⟩ := h
  obtain ⟨l, rfl, hi⟩ := open_insts (z := (d, p)) (ao := a0) (n := len) (cap := cap) (by simpa [Value.cells] using hf)
  exact ⟨a0, cap, l, rfl, hi⟩
set_option maxRecDepth 100000 in
theorem keep_list {H : Type} {enc : TypeId × Value → H} {W W' : World} {v : Value} {d : DataW H} {p : List MemPlace} (h : DataW.Trod enc Tryz.prog W 0 (fun _ => true) true 22 v d p)
    (hm : Made W W') (hlt : ∀ x ∈ p, x.block < W.heap.size) (sp : Nat → Bool) (hs : ∀ x ∈ p, sp x.block = true) : DataW.Trod enc Tryz.prog W' 0 sp true 22 v d p :=
  WideElems.Trod_stays laid_out10 (by kernel_rfl) (of_decide_eq_true (by kernel_rfl)) h (fun x hx => hm.same (hlt x hx)) hs
end Go.Proofs.YtdghnlbfmaehoaaGreatDoor
