/- A slice of words among a law's arguments, opened; it reads behind a call that makes new memory alone as before it. -/
import Derived.Test.YtanjmoiepmadhaaGreatDoorGUn
import Derived.Test.YtanjmoiepmadhaaGreatDoorGMatchB
namespace Go.Proofs.YtanjmoiepmadhaaGreatDoor
open Go.ChangeShapes Go.WideShapes Go.ChangeAt Go.RowKit

theorem cells_word13 : Tryz.prog.cellsOf 23 = 1 := by kernel_rfl
set_option maxRecDepth 100000 in
theorem open_words {H : Type} {enc : TypeId × Value → H} {W : World} {base : Nat} {v : Value} {d : DataW H} {p : List MemPlace} (hval : Value.okWide Tryz.prog W .any base 22 v)
    (h : DataW.Trod enc Tryz.prog W 0 (fun _ => true) true 22 v d p) : ∃ (ao : Option Addr) (cap : Nat) (zs : List Int), v = .slice ao zs.length cap ∧ Ws W ao cap zs ∧ U32s zs := by
  obtain ⟨a0, len, cap, rfl⟩ := okWide_slice Tryz.underlying22 hval
  obtain ⟨fuel, hf⟩ := h
  rcases open_ints Tryz.underlying22 Tryz.underlying23 cells_word13 hf with ⟨hcs, hx⟩ | ⟨a, len', cap', zs, hcs, _, hl, hm, hz, hx, hcell, hwz⟩
  · simp [Value.cells] at hcs
    obtain ⟨rfl, rfl, rfl⟩ := hcs
    exact ⟨none, 0, [], rfl, ws_nil W, fun z hz => by simp at hz⟩
  · simp [Value.cells] at hcs
    obtain ⟨rfl, rfl, rfl⟩ := hcs
    simp only [if_true] at hz
    refine ⟨some a, cap, zs.take len, ?_, ⟨by simp; omega, hm, fun t ht => ?_⟩, fun z hzm => ?_⟩
    · simp; omega
    · have ht2 : t < len := by simp at ht; omega
      have hc := hcell t (by omega)
      obtain ⟨b, o, sp⟩ := a
      have hsp : sp = none := by
        have h6 := World.cell?_spot (hcell 0 (by omega))
        simpa [Addr.add] using h6
      subst hsp
      refine ⟨b, o, rfl, ?_⟩
      rw [add_plain] at hc
      rw [hc]
      have h5 : t < zs.length := by omega
      simp [List.getD, h5]
    · have h2 := hwz z (List.mem_of_mem_take hzm)
      have e1 : IntKind.u32.min = 0 := rfl
      have e2 : IntKind.u32.max = 4294967295 := rfl
      simp only [Lit.wf, Bool.and_eq_true, decide_eq_true_eq] at h2
      unfold isU32
      omega
set_option maxRecDepth 100000 in
theorem keep_words {H : Type} {enc : TypeId × Value → H} {W W' : World} {v : Value} {d : DataW H} {p : List MemPlace} (h : DataW.Trod enc Tryz.prog W 0 (fun _ => true) true 22 v d p)
    (hm : Made W W') (hlt : ∀ x ∈ p, x.block < W.heap.size) (sp : Nat → Bool) (hs : ∀ x ∈ p, sp x.block = true) : DataW.Trod enc Tryz.prog W' 0 sp true 22 v d p :=
  WideElems.Trod_stays laid_out (by kernel_rfl) (of_decide_eq_true (by kernel_rfl)) h (fun x hx => hm.same (hlt x hx)) hs
end Go.Proofs.YtanjmoiepmadhaaGreatDoor
