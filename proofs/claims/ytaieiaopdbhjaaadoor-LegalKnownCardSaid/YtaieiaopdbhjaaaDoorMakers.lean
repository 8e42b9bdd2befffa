/- A region that draws its order and whose operations make memory alone: whatever the order, each operation leaves in its temporary a value of which is so what the caller says of that temporary. No condition but those named. -/
import Derived.Test.YtaieiaopdbhjaaaDoorGBase
import Derived.Great.BuildSlice
namespace Go.Proofs.YtaieiaopdbhjaaaDoor
open Go.ChangeShapes Go.WideShapes Go.ChangeAt Go.RowKit

def readsT (o : Oper) (t : Tmp) : Bool := o.op.operands.toList.any fun | .tmp u => u == t | _ => false
/-- An operation of such a region: no guard; its edges lead back; what it reads of what another one sets stands behind an edge; no other one sets its temporary. -/
def makerAt (own : Tmp → Bool) (l : List Oper) (n i : Nat) (o : Oper) : Bool :=
  o.guard.isNone && (match o.dst with | some d => decide (d < n) && own d | none => false) &&
  o.after.toList.all (fun e => !Region.binds .any e || decide (e.on < i)) &&
  (List.range l.length).all fun j => match l[j]? with
    | none => true
    | some oj => (i == j || oj.dst != o.dst) && (match oj.dst with
      | some t => !readsT o t || (o.after.toList.any fun e => e.on == j && Region.binds .any e)
      | none => true)
def makersB (own : Tmp → Bool) (l : List Oper) (n : Nat) : Bool :=
  ((List.range l.length).all fun i => match l[i]? with | none => true | some o => makerAt own l n i o) &&
  (List.range n).all fun t => !own t || l.any fun o => o.dst == some t
/-- What an operation finds. -/
structure Finds (W : World) (a0 : Act) (own : Tmp → Bool) (R : Tmp → Value → World → Prop) (o : Oper) (a : Act) (w : World) : Prop where
  made : Made W w
  still : ∀ t, own t = false → a.eval (.tmp t) = a0.eval (.tmp t)
  told : ∀ t, own t = true → readsT o t = true → R t (a.eval (.tmp t)) w
/-- What it does. -/
def Maker (P : Program) (W : World) (a0 : Act) (own : Tmp → Bool) (R : Tmp → Value → World → Prop) (Q : Exit → Act → World → Prop) (o : Oper) : Prop :=
  ∀ a w, Finds W a0 own R o a w → o.wp P a w (fun a' w' => ∃ v, a' = a.put o.dst v ∧ (∀ d, o.dst = some d → R d v w') ∧ Made w w') Q
/-- What stands when some are done. -/
structure Stands (W : World) (a0 : Act) (own : Tmp → Bool) (R : Tmp → Value → World → Prop) (l : List Oper) (listed : Array Bool) (a : Act) (w : World) : Prop where
  made : Made W w
  still : ∀ t, own t = false → a.eval (.tmp t) = a0.eval (.tmp t)
  size : a.tmps.size = a0.tmps.size
  defers : a.defers = a0.defers
  all : listed.size = l.length
  told : ∀ j o d, l[j]? = some o → listed.getD j false = true → o.dst = some d → R d (a.eval (.tmp d)) w
theorem eval_put_same {a : Act} {d : Tmp} {v : Value} (h : d < a.tmps.size) : (a.put (some d) v).eval (.tmp d) = v := by
  simp [Act.eval, Act.put, h]
theorem eval_put_other {a : Act} {d t : Tmp} {v : Value} (h : t ≠ d) : (a.put (some d) v).eval (.tmp t) = a.eval (.tmp t) :=
  Act.eval_put fun d' hd e => by
    cases hd
    cases e
    exact h rfl
def left (l : List Oper) (listed : Array Bool) : Nat := (List.range l.length).countP fun j => !listed.getD j true
theorem getD_size {listed : Array Bool} {j : Nat} (h : j < listed.size) (b c : Bool) : listed.getD j b = listed.getD j c := by
  simp [Array.getD, h]
theorem getD_set {listed : Array Bool} {i j : Nat} (hi : i < listed.size) (b : Bool) : (listed.setIfInBounds i true).getD j b = if i = j then true else listed.getD j b := by
  by_cases h : i = j
  · subst h
    simp [Array.getD, hi]
  · rw [if_neg h]
    by_cases hj : j < listed.size
    · simp [Array.getD, hj, h]
    · simp [Array.getD, hj]
theorem countP_less {p q : Nat → Bool} {i : Nat} (hp : p i = true) (hq : q i = false) (h : ∀ j, j ≠ i → q j = p j) : ∀ {l : List Nat}, l.Nodup → i ∈ l → l.countP q + 1 = l.countP p
  | [], _, hi => by simp at hi
  | x :: r, hn, hi => by
    rw [List.nodup_cons] at hn
    rw [List.countP_cons, List.countP_cons]
    by_cases hx : x = i
    · subst hx
      have e : r.countP q = r.countP p := by
        refine List.countP_congr fun j hj => ?_
        rw [h j fun e => hn.1 (e ▸ hj)]
      rw [hp, hq, e]
      simp
    · have hir : i ∈ r := by
        rcases List.mem_cons.1 hi with h1 | h1
        · exact absurd h1.symm hx
        · exact h1
      have ih := countP_less hp hq h hn.2 hir
      rw [h x hx]
      omega
theorem left_set {l : List Oper} {listed : Array Bool} {i : Nat} (hs : listed.size = l.length) (hi : i < l.length) (hl : listed.getD i true = false) : left l (listed.setIfInBounds i true) + 1 = left l listed := by
  unfold left
  refine countP_less (i := i) (by rw [hl]; rfl) (by rw [getD_set (by omega), if_pos rfl]; rfl) (fun j hj => ?_) List.nodup_range (List.mem_range.2 hi)
  rw [getD_set (by omega), if_neg (Ne.symm hj)]
theorem ready_mem {l : List Oper} {listed : Array Bool} {i : Nat} : i ∈ Region.ready .any l.toArray listed ↔ i < l.length ∧ listed.getD i true = false ∧ ∃ o, l[i]? = some o ∧ ∀ e ∈ o.after.toList, Region.binds .any e = true → listed.getD e.on false = true := by
  unfold Region.ready
  simp only [List.mem_filter, List.mem_range, List.size_toArray, Bool.and_eq_true, Bool.not_eq_true', List.getElem?_toArray]
  constructor
  · rintro ⟨h1, h2, h3⟩
    obtain ⟨o, ho⟩ : ∃ o, l[i]? = some o := ⟨l[i], List.getElem?_eq_getElem h1⟩
    refine ⟨h1, h2, o, ho, fun e he hb => ?_⟩
    rw [ho] at h3
    simp only [Option.map_some, Option.getD_some, Array.all_eq_true_iff_forall_mem] at h3
    have := h3 e (by simpa using he)
    simpa [hb] using this
  · rintro ⟨h1, h2, o, ho, h3⟩
    refine ⟨h1, h2, ?_⟩
    rw [ho]
    simp only [Option.map_some, Option.getD_some, Array.all_eq_true_iff_forall_mem]
    intro e he
    cases hb : Region.binds .any e with
    | false => rfl
    | true => simpa [hb] using h3 e (by simpa using he) hb
section
variable {P : Program} {W : World} {a0 : Act} {own : Tmp → Bool} {R : Tmp → Value → World → Prop} {Q : Exit → Act → World → Prop} {l : List Oper}
theorem makerAt_of (hB : makersB own l a0.tmps.size = true) {i : Nat} {o : Oper} (ho : l[i]? = some o) : makerAt own l a0.tmps.size i o = true := by
  unfold makersB at hB
  simp only [Bool.and_eq_true, List.all_eq_true] at hB
  have hi : i < l.length := (List.getElem?_eq_some_iff.1 ho).1
  have := hB.1 i (List.mem_range.2 hi)
  rwa [ho] at this
/-- All are done, where none is ready. -/
theorem all_done (hB : makersB own l a0.tmps.size = true) {listed : Array Bool} (hs : listed.size = l.length) (hr : Region.ready .any l.toArray listed = []) : ∀ i, i < l.length → listed.getD i true = true := by
  intro i
  induction i using Nat.strongRecOn with
  | _ i ih =>
    intro hi
    cases hl : listed.getD i true with
    | true => rfl
    | false =>
      obtain ⟨o, ho⟩ : ∃ o, l[i]? = some o := ⟨l[i], List.getElem?_eq_getElem hi⟩
      have hm := makerAt_of hB ho
      unfold makerAt at hm
      simp only [Bool.and_eq_true, List.all_eq_true, Bool.or_eq_true, Bool.not_eq_true', decide_eq_true_eq] at hm
      have : i ∈ Region.ready .any l.toArray listed := ready_mem.2 ⟨hi, hl, o, ho, fun e he hbe => by
        have h1 : e.on < i := (hm.1.2 e he).resolve_left (by rw [hbe]; simp)
        rw [getD_size (by omega) false true]
        exact ih e.on h1 (by omega)⟩
      rw [hr] at this
      simp at this
theorem stands_step (hB : makersB own l a0.tmps.size = true) (hmono : ∀ t v w w', R t v w → Made w w' → R t v w') {listed : Array Bool} {a : Act} {w w' : World} {i : Nat} {o : Oper} {v : Value}
    (h : Stands W a0 own R l listed a w) (ho : l[i]? = some o) (hv : ∀ d, o.dst = some d → R d v w') (hm : Made w w') : Stands W a0 own R l (listed.setIfInBounds i true) (a.put o.dst v) w' := by
  have hi : i < l.length := (List.getElem?_eq_some_iff.1 ho).1
  have hk := makerAt_of hB ho
  unfold makerAt at hk
  simp only [Bool.and_eq_true, List.all_eq_true] at hk
  obtain ⟨⟨⟨-, hdst⟩, -⟩, hothers⟩ := hk
  obtain ⟨d, hd⟩ : ∃ d, o.dst = some d := by
    cases he : o.dst with
    | none => rw [he] at hdst; simp at hdst
    | some d => exact ⟨d, rfl⟩
  rw [hd] at hdst
  simp only [Bool.and_eq_true, decide_eq_true_eq] at hdst
  refine ⟨Made.trans h.made hm, fun t ht => ?_, ?_, ?_, ?_, fun j oj dj hj hlj hdj => ?_⟩
  · rw [hd, eval_put_other (fun e => by rw [e] at ht; rw [hdst.2] at ht; exact absurd ht (by simp))]
    exact h.still t ht
  · rw [hd]
    simpa [Act.put] using h.size
  · rw [hd]
    simpa [Act.put] using h.defers
  · simpa using h.all
  · by_cases hij : i = j
    · subst hij
      rw [ho] at hj
      cases hj
      rw [hd] at hdj
      cases hdj
      rw [hd, eval_put_same (by rw [h.size]; exact hdst.1)]
      exact hv d hd
    · have hjl : j < l.length := (List.getElem?_eq_some_iff.1 hj).1
      have h1 := hothers j (List.mem_range.2 hjl)
      rw [hj] at h1
      simp only [Bool.and_eq_true, Bool.or_eq_true, beq_iff_eq, bne_iff_ne, ne_eq] at h1
      have h2 : oj.dst ≠ o.dst := by
        rcases h1.1 with h3 | h3
        · exact absurd h3 hij
        · exact h3
      rw [hdj, hd] at h2
      rw [hd, eval_put_other (fun e => h2 (by rw [e]))]
      rw [getD_set (by rw [h.all]; exact hi), if_neg hij] at hlj
      exact hmono _ _ _ _ (h.told j oj dj hj hlj hdj) hm
theorem wpAny_makers (hB : makersB own l a0.tmps.size = true) (hown : ∀ t, own t = true → t < a0.tmps.size) (hmono : ∀ t v w w', R t v w → Made w w' → R t v w') (hstep : ∀ o ∈ l, Maker P W a0 own R Q o)
    (hend : ∀ a w, Made W w → a.tmps.size = a0.tmps.size → a.defers = a0.defers → (∀ t, own t = false → a.eval (.tmp t) = a0.eval (.tmp t)) → (∀ t, own t = true → R t (a.eval (.tmp t)) w) → Q .normal a w) :
    ∀ (fuel : Nat) (listed : Array Bool) (a : Act) (w : World), left l listed ≤ fuel → Stands W a0 own R l listed a w → wpAny P .any l.toArray Q fuel listed a w := by
  have close : ∀ (listed : Array Bool) (a : Act) (w : World), Stands W a0 own R l listed a w → Region.ready .any l.toArray listed = [] → Q .normal a w := fun listed a w h hr => by
    refine hend a w h.made h.size h.defers h.still fun t ht => ?_
    have h1 := hB
    unfold makersB at h1
    simp only [Bool.and_eq_true, List.all_eq_true, Bool.or_eq_true, Bool.not_eq_true', List.any_eq_true, beq_iff_eq] at h1
    rcases h1.2 t (List.mem_range.2 (hown t ht)) with h2 | ⟨o, hol, hot⟩
    · rw [ht] at h2
      exact absurd h2 (by simp)
    · obtain ⟨j, hj⟩ := List.mem_iff_getElem?.1 hol
      have hjl : j < l.length := (List.getElem?_eq_some_iff.1 hj).1
      refine h.told j o t hj ?_ hot
      rw [getD_size (by rw [h.all]; exact hjl) false true]
      exact all_done hB h.all hr j hjl
  intro fuel
  induction fuel with
  | zero =>
    intro listed a w hf h
    have hr : Region.ready .any l.toArray listed = [] := by
      rw [List.eq_nil_iff_forall_not_mem]
      intro i hi
      obtain ⟨h1, h2, -⟩ := ready_mem.1 hi
      have := left_set h.all h1 h2
      omega
    exact ⟨hr, close listed a w h hr⟩
  | succ fuel ih =>
    intro listed a w hf h
    refine ⟨close listed a w h, fun i hi => ?_⟩
    obtain ⟨h1, h2, o, ho, h3⟩ := ready_mem.1 hi
    have hk := makerAt_of hB ho
    unfold makerAt at hk
    simp only [Bool.and_eq_true, List.all_eq_true] at hk
    obtain ⟨⟨⟨hg, -⟩, -⟩, hothers⟩ := hk
    have hw : Region.wanted o (yielded l.toArray a.tmps) = true := by
      unfold Region.wanted
      cases he : o.guard with
      | none => rfl
      | some g => rw [he] at hg; simp at hg
    unfold wpOp
    simp only [List.getElem?_toArray, ho, hw, if_true]
    refine .inl (Oper.wp_mono ?_ (hstep o (List.mem_of_getElem? ho) a w ⟨h.made, h.still, fun t ht hrd => ?_⟩))
    · rintro a' w' ⟨v, rfl, hv, hm⟩
      exact ih _ _ _ (by have := left_set h.all h1 h2; omega) (stands_step hB hmono h ho hv hm)
    · have h4 := hB
      unfold makersB at h4
      simp only [Bool.and_eq_true, List.all_eq_true, Bool.or_eq_true, Bool.not_eq_true', List.any_eq_true, beq_iff_eq] at h4
      rcases h4.2 t (List.mem_range.2 (hown t ht)) with h5 | ⟨oj, hol, hot⟩
      · rw [ht] at h5
        exact absurd h5 (by simp)
      · obtain ⟨j, hj⟩ := List.mem_iff_getElem?.1 hol
        have hjl : j < l.length := (List.getElem?_eq_some_iff.1 hj).1
        have h6 := hothers j (List.mem_range.2 hjl)
        rw [hj] at h6
        simp only [hot, Bool.and_eq_true, Bool.or_eq_true, Bool.not_eq_true', List.any_eq_true, beq_iff_eq] at h6
        rcases h6.2 with h7 | ⟨e, he, h8, h9⟩
        · rw [hrd] at h7
          exact absurd h7 (by simp)
        · refine h.told j oj t hj ?_ hot
          rw [← h8]
          exact h3 e he h9
/-- The region. -/
theorem wp_region_makers {id : Nat} (W0 : World) (hW : W0.drew = W) (hm : P.follows .mixedOrders = true) (hB : makersB own l a0.tmps.size = true) (hown : ∀ t, own t = true → t < a0.tmps.size) (hmono : ∀ t v w w', R t v w → Made w w' → R t v w')
    (hstep : ∀ o ∈ l, Maker P W a0 own R Q o)
    (hend : ∀ a w, Made W w → a.tmps.size = a0.tmps.size → a.defers = a0.defers → (∀ t, own t = false → a.eval (.tmp t) = a0.eval (.tmp t)) → (∀ t, own t = true → R t (a.eval (.tmp t)) w) → Q .normal a w) :
    (Code.region id l.toArray true).wp P Q a0 W0 := by
  refine wp_region_any hm ?_
  subst hW
  refine wpAny_makers hB hown hmono hstep hend _ _ _ _ ?_ ⟨Made.refl _, fun _ _ => rfl, rfl, rfl, by simp, fun j o d hj hl _ => ?_⟩
  · unfold left
    refine Nat.le_trans List.countP_le_length ?_
    simp
  · have hjl : j < l.length := (List.getElem?_eq_some_iff.1 hj).1
    simp [Array.getD, hjl] at hl
end
end Go.Proofs.YtaieiaopdbhjaaaDoor
