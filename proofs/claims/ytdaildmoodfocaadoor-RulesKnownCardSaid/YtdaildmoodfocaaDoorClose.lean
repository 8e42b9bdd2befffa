/- The end of a law's row whose call made new memory alone: of what was there nothing has turned; the conditions are what the row's reading gives. -/
import Derived.Test.YtdaildmoodfocaaDoorMem
import Derived.ChangeSame
import Derived.OpenShut
namespace Go.Proofs.YtdaildmoodfocaaDoor
open Go.RowKit Go.WideShapes Go.ChangeShapes

theorem post_made {H : Type} {enc : TypeId × Value → H} {P : Program} {f : Func} {s : ChangeSpec} {apart fresh handsOn again : Bool} {W W' : World} {args : Array Value} {v : Value} {ds gs : List (DataW H)} {before pa pv : List MemPlace}
    (hW : DataW.Whole enc P f.params.toList s.vars apart W args.toList ds gs before)
    (hres : ∀ (b : Nat) (sp : Nat → Bool) (hd : Bool), DataW.TrodAll enc P W' b sp hd f.resultTypes.toList (v.resultList f.resultTypes.size) (s.fn H (ds ++ gs)).results [])
    (hargs : ∀ sp : Nat → Bool, (∀ p ∈ before, sp p.block = true) → DataW.TrodAll enc P W' 0 sp true f.params.toList args.toList (s.fn H (ds ++ gs)).args pa)
    (hvars : ∀ sp : Nat → Bool, (∀ p ∈ before, sp p.block = true) → DataW.TrodVars enc P W' sp s.vars (s.fn H (ds ++ gs)).vars pv)
    (hps : before = pa ++ pv) (hm : Made W W')
    (hok : ∀ (j : Nat) (t : TypeId) (r : Value), f.resultTypes[j]? = some t → (v.resultList f.resultTypes.size)[j]? = some r → Value.okWide P W' .any 0 t r) :
    s.post enc P f apart fresh handsOn again W args v W' := by
  subst hps
  have old : ∀ p, p ∈ pa ++ pv → p.block < W.heap.size := fun p => hW.lt p
  have spared : ∀ p, p ∈ pa ++ pv → decide (p.block < W.heap.size) = true := fun p hp => decide_eq_true (old p hp)
  have kept : W.keptBut W' fun p => p ∈ pa ++ pv ∧ (p ∈ ([] : List MemPlace) ∨ p ∈ pa ∨ p ∈ pv) := World.keptBut_mono (fun p hp => ⟨hp, .inr (List.mem_append.1 hp)⟩) (hm.frame fun p => p ∈ pa ++ pv)
  have hW2 := hW
  obtain ⟨_, _, _, _, _, sz, nd⟩ := hW2
  refine ⟨ds, gs, pa ++ pv, [], pa, pv, hW, hres _ _ _, hargs (fun b => decide (b < W.heap.size)) spared, hvars _ spared, by simpa using kept, fun _ => ⟨hok, _, _, pa ++ pv, ⟨pa, pv, by simpa using trodAll_append (hargs _ fun _ _ => rfl) (hres _ _ _), hvars _ fun _ _ => rfl, rfl, fun b off hp => ?_, nd⟩, fun p hp _ => hp⟩⟩
  rw [hm.frozen (p := ⟨b, off, none⟩) (old _ hp)]
  exact sz b off hp
end Go.Proofs.YtdaildmoodfocaaDoor
