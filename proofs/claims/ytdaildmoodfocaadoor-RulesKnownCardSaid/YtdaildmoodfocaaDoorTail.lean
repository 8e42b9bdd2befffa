/- A region that draws its order, whose moves come first, whose next operations read or make new memory alone and whose last ones come in one order, is met by one walk in the text's order; the condition is a closed Bool over the region. -/
import Derived.Test.YtdaildmoodfocaaDoorMem
namespace Go.Proofs.YtdaildmoodfocaaDoor
open Go.RowKit Go.Sort

section
variable {P : Program} {md : Region.Mode} {ops : Array Oper} {C : World → Prop}

/-- The first operations, in whatever order they come up, each with one value in every world of the class; then 'L'. -/
def headQ (P : Program) (md : Region.Mode) (ops : Array Oper) (C : World → Prop) (n : Nat) (L : Array Bool → Act → Prop) : Nat → Array Bool → Act → Prop
  | 0, listed, a => L listed a
  | f + 1, listed, a => Region.ready md ops listed ≠ [] ∧ ∀ i, i ∈ Region.ready md ops listed → i < n ∧ qOp P ops C i (headQ P md ops C n L f (listed.setIfInBounds i true)) a

theorem headQ_wpAny {n g : Nat} {L : Array Bool → Act → Prop} {Q : Exit → Act → World → Prop} (hL : ∀ listed a, L listed a → ∀ w, C w → wpAny P md ops Q g listed a w) :
    ∀ f listed a, headQ P md ops C n L f listed a → ∀ w, C w → wpAny P md ops Q (f + g) listed a w
  | 0, listed, a, h, w, hw => (Nat.zero_add g).symm ▸ hL listed a h w hw
  | f + 1, listed, a, h, w, hw => by
    rw [Nat.succ_add]
    refine ⟨fun e => absurd e h.1, fun i hi => ?_⟩
    exact wpOp_of_qOp hw (fun a' w' hw' k => headQ_wpAny hL f _ a' k w' hw') (h.2 i hi).2

/-- What is so while the first operations come up: 'L0' is what had come up before. -/
structure HInv (md : Region.Mode) (ops : Array Oper) (n : Nat) (L0 listed : Array Bool) : Prop where
  size : listed.size = ops.size
  closed : ∀ j oj, ops[j]? = some oj → listed.getD j false = true → ∀ e ∈ oj.after, Region.binds md e = true → listed.getD e.on false = true
  tail : ∀ t, n ≤ t → t < ops.size → listed.getD t true = false
  mono : ∀ i, listed.getD i true = false → L0.getD i true = false

theorem HInv.set {n i : Nat} {L0 listed : Array Bool} (inv : HInv md ops n L0 listed) (hi : i ∈ Region.ready md ops listed) (hin : i < n) : HInv md ops n L0 (listed.setIfInBounds i true) := by
  obtain ⟨_, oi, hoi, hall⟩ := mem_ready.1 hi
  refine ⟨by rw [Array.size_setIfInBounds]; exact inv.size, fun j oj hj hl e he hb => ?_, fun t ht ht' => by rw [getD_set_ne true (by omega)]; exact inv.tail t ht ht', fun k hk => ?_⟩
  · by_cases ij : i = j
    · subst ij
      obtain rfl : oj = oi := Option.some.inj (hj.symm.trans hoi)
      exact getD_set_true (hall e he hb)
    · rw [getD_set_ne false ij] at hl
      exact getD_set_true (inv.closed j oj hj hl e he hb)
  · by_cases ik : i = k
    · subst ik
      exact inv.mono i (mem_ready.1 hi).1
    · rw [getD_set_ne true ik] at hk
      exact inv.mono k hk

/-- Each of the first operations that is still to come is waited for by a later one up to the tail's first. -/
def sinks (md : Region.Mode) (ops : Array Oper) (n : Nat) (L0 : Array Bool) : Bool :=
  (List.range n).all fun i => L0.getD i true || (List.range (n + 1)).any fun j => decide (i < j) && Region.waitsFor md ops j i

theorem tail_not_ready {n : Nat} {L0 listed : Array Bool} (hs : sinks md ops n L0 = true) (hc : Region.chainB md ops n = true) (hn : n < ops.size) (inv : HInv md ops n L0 listed) :
    ∀ (d i : Nat), n - i = d → i < n → listed.getD i true = false → ∀ t, n ≤ t → t ∉ Region.ready md ops listed := by
  intro d
  induction d using Nat.strongRecOn with
  | _ d ih =>
    intro i hd hi un t ht hr
    obtain ⟨_, ot, hot, hall⟩ := mem_ready.1 hr
    have htlt : t < ops.size := (Array.getElem?_eq_some_iff.1 hot).1
    rcases Nat.lt_or_eq_of_le ht with htn | htn
    · have h1 := List.all_eq_true.1 hc t (List.mem_range.2 htlt)
      simp only [Bool.or_eq_true, decide_eq_true_eq] at h1
      obtain ⟨o', ho', e, he, hb, hon⟩ := Region.waitsFor_spec (h1.resolve_left (by omega))
      obtain rfl : o' = ot := Option.some.inj (ho'.symm.trans hot)
      have h2 := hall e he hb
      rw [hon, getD_both (inv.tail (t - 1) (by omega) (by omega))] at h2
      exact absurd h2 Bool.false_ne_true
    · subst htn
      have h1 := List.all_eq_true.1 hs i (List.mem_range.2 hi)
      rw [inv.mono i un, Bool.false_or] at h1
      obtain ⟨j, hj, hj2⟩ := List.any_eq_true.1 h1
      simp only [Bool.and_eq_true, decide_eq_true_eq] at hj2
      obtain ⟨oj, hoj, e, he, hb, hon⟩ := Region.waitsFor_spec hj2.2
      have hjle := List.mem_range.1 hj
      by_cases hjt : j = n
      · subst hjt
        obtain rfl : oj = ot := Option.some.inj (hoj.symm.trans hot)
        have h2 := hall e he hb
        rw [hon, getD_both un] at h2
        exact absurd h2 Bool.false_ne_true
      · cases hl : listed.getD j false with
        | true =>
          have h2 := inv.closed j oj hoj hl e he hb
          rw [hon, getD_both un] at h2
          exact absurd h2 Bool.false_ne_true
        | false => exact ih (n - j) (by omega) j rfl (by omega) (getD_in (by rw [inv.size]; omega) hl) n (Nat.le_refl _) hr

/-- Whoever may come up may be taken first. -/
theorem headQ_first {n i : Nat} {oi : Oper} {v : Value} {L0 : Array Bool} {L : Array Bool → Act → Prop} (hi : ops[i]? = some oi) (hsel : ∀ (j : Nat) (o : Oper) cs b, ops[j]? = some o → o.op ≠ .select cs b)
    (hs : sinks md ops n L0 = true) (hc : Region.chainB md ops n = true) (hn : n < ops.size) (hin : i < n) (hdone : ∀ listed a, L listed a → ∀ j ∈ Region.ready md ops listed, n ≤ j) (f : Nat) :
    ∀ (listed : Array Bool) (a : Act), HInv md ops n L0 listed →
      (∀ j oj, ops[j]? = some oj → j ≠ i → listed.getD j true = false → (∀ e ∈ oj.after, Region.binds md e = true → e.on ≠ i) → oi.apart ops oj = true) →
      i ∈ Region.ready md ops listed → YieldsIn P ops C oi v a → headQ P md ops C n L f (listed.setIfInBounds i true) (a.put oi.dst v) → headQ P md ops C n L (f + 1) listed a := by
  induction f with
  | zero =>
    intro listed a inv _ hr hy H
    have un := (mem_ready.1 hr).1
    refine ⟨List.ne_nil_of_mem hr, fun j hj => ?_⟩
    have hjn : j < n := Nat.lt_of_not_le fun hle => tail_not_ready hs hc hn inv _ i rfl hin un j hle hj
    by_cases e : j = i
    · subst e; exact ⟨hjn, hy.qOp hi H⟩
    · exact absurd (hdone _ _ H j (ready_mono hj e)) (Nat.not_le_of_lt hjn)
  | succ f ih =>
    intro listed a inv free hr hy H
    have un := (mem_ready.1 hr).1
    refine ⟨List.ne_nil_of_mem hr, fun j hj => ?_⟩
    have hjn : j < n := Nat.lt_of_not_le fun hle => tail_not_ready hs hc hn inv _ i rfl hin un j hle hj
    refine ⟨hjn, ?_⟩
    by_cases e : j = i
    · subst e; exact hy.qOp hi H
    · obtain ⟨hju, oj, hoj, hall⟩ := mem_ready.1 hj
      have far : ∀ e ∈ oj.after, Region.binds md e = true → e.on ≠ i := fun e he hb on => by
        have := hall e he hb
        rw [on, getD_both un] at this
        exact absurd this Bool.false_ne_true
      have swap := qOp_put hoj (free j oj hoj e hju far) (fun cs b => hsel i oi cs b hi) (fun cs b => hsel j oj cs b hoj) hy (H.2 j (ready_mono hj e)).2
      refine qOp_mono (fun a' k => ih _ a' (inv.set hj hjn) (fun k ok hk ki ku kf => free k ok hk ki ?_ kf) (ready_mono hr (Ne.symm e)) k.1 ?_) swap
      · by_cases jk : j = k
        · subst jk; exact hju
        · rwa [getD_set_ne true jk] at ku
      · rw [Array.setIfInBounds_comm _ _ e]; exact k.2

/-- The operations numbered 'is'. -/
def picked (ops : Array Oper) (is : List Nat) : List Oper := List.foldr (fun i r => (ops[i]?).elim r fun o => o :: r) [] is
/-- The operations numbered 'is' may be taken one behind the other; then the rest comes in one order. -/
def heads (md : Region.Mode) (ops : Array Oper) (n : Nat) : List Nat → Array Bool → Bool
  | [], listed => Region.seqB md ops (ops.size - n) n listed
  | i :: r, listed => decide (i < n) && (Region.ready md ops listed).contains i && Region.free md ops listed i && heads md ops n r (listed.setIfInBounds i true)

theorem headQ_lex {n : Nat} {L0 : Array Bool} {R : Act → Prop} (hsel : Region.noSelect ops = true) (hs : sinks md ops n L0 = true) (hc : Region.chainB md ops n = true) (hn : n < ops.size) :
    ∀ (is : List Nat) (listed : Array Bool) (a : Act), HInv md ops n L0 listed → heads md ops n is listed = true → wpQuiet P ops C R (picked ops is) a →
      headQ P md ops C n (fun listed' a' => Region.seqB md ops (ops.size - n) n listed' = true ∧ R a') is.length listed a
  | [], listed, a, _, hB, h => ⟨hB, h⟩
  | i :: is, listed, a, inv, hB, h => by
    simp only [heads, Bool.and_eq_true, decide_eq_true_eq] at hB
    obtain ⟨⟨⟨hin, hr⟩, hf⟩, hB⟩ := hB
    have hr : i ∈ Region.ready md ops listed := by simpa using hr
    obtain ⟨o, h0⟩ : ∃ o, ops[i]? = some o := ⟨_, Array.getElem?_eq_getElem (Nat.lt_trans hin hn)⟩
    have hp : picked ops (i :: is) = o :: picked ops is := by show (ops[i]?).elim _ _ = _; rw [h0]; rfl
    rw [hp] at h
    obtain ⟨v, hy, rest⟩ := yieldsIn_of_qOp (P := P) (C := C) (K := wpQuiet P ops C R (picked ops is)) (a := a) h0 (by unfold qOp; rw [h0]; exact h)
    exact headQ_first h0 (Region.noSelect_spec hsel) hs hc hn hin (fun _ _ e => seqB_ready e.1) _ listed a inv (Region.free_spec h0 hf) hr hy (headQ_lex hsel hs hc hn is _ _ (inv.set hr hin) hB rest)

/-- The value that a move hands on; other operations: none. -/
def moveOf : Op → Option Operand
  | .move x => some x
  | .assign x => some x
  | _ => none
/-- The frame behind the moves numbered 'ms'. -/
def moved (ops : Array Oper) : List Nat → Act → Act
  | [], a => a
  | i :: r, a => moved ops r (match ops[i]? with | some o => (match moveOf o.op with | some x => a.put o.dst (a.eval x) | none => a) | none => a)
def listedBy : List Nat → Array Bool → Array Bool
  | [], l => l
  | i :: r, l => listedBy r (l.setIfInBounds i true)
/-- The moves numbered 'ms' may be taken first. -/
def takes (md : Region.Mode) (ops : Array Oper) (n : Nat) : List Nat → Array Bool → Bool
  | [], _ => true
  | i :: r, listed => decide (i < n) && (Region.ready md ops listed).contains i && Region.free md ops listed i && ((ops[i]?).any fun o => o.guard.isNone && (moveOf o.op).isSome) && takes md ops n r (listed.setIfInBounds i true)

theorem listedBy_tail {n : Nat} : ∀ (ms : List Nat) (listed : Array Bool), takes md ops n ms listed = true → HInv md ops n listed listed → HInv md ops n (listedBy ms listed) (listedBy ms listed)
  | [], _, _, inv => inv
  | i :: r, listed, h, inv => by
    simp only [takes, Bool.and_eq_true, decide_eq_true_eq] at h
    have hr : i ∈ Region.ready md ops listed := by simpa using h.1.1.1.2
    have k := inv.set hr h.1.1.1.1
    exact listedBy_tail r _ h.2 ⟨k.size, k.closed, k.tail, fun _ h => h⟩

theorem yields_move {o : Oper} {x : Operand} {a : Act} (hg : o.guard.isNone = true) (h : moveOf o.op = some x) : Yields P ops o (a.eval x) a := by
  have hg' : o.guard = none := by simpa using hg
  refine .inl ⟨by simp [Region.wanted, hg'], fun w => ?_⟩
  cases ho : o.op <;> rw [ho] at h <;> simp only [moveOf, Option.some.injEq, reduceCtorEq] at h
  · subst h; exact BigFrame.run_move _ ho w
  · subst h; exact BigFrame.run_assign _ ho w

theorem wpAny_moves {n : Nat} {Q : Exit → Act → World → Prop} {w : World} {f : Nat} (hsel : Region.noSelect ops = true) (hQ : ∀ c a d v w, Q (.panic c) (Act.put a d v) w → Q (.panic c) a w) :
    ∀ (ms : List Nat) (listed : Array Bool) (a : Act), takes md ops n ms listed = true → wpAny P md ops Q f (listedBy ms listed) (moved ops ms a) w → wpAny P md ops Q (ms.length + f) listed a w
  | [], listed, a, _, h => (Nat.zero_add f).symm ▸ h
  | i :: r, listed, a, hB, h => by
    simp only [takes, Bool.and_eq_true, decide_eq_true_eq] at hB
    obtain ⟨⟨⟨⟨_, hr⟩, hf⟩, ho⟩, hB⟩ := hB
    obtain ⟨o, h0, ho⟩ := (Option.any_eq_true ..).1 ho
    simp only [Bool.and_eq_true] at ho
    obtain ⟨x, hx⟩ := Option.isSome_iff_exists.1 ho.2
    rw [List.length_cons, Nat.add_right_comm]
    refine wpAny_take h0 hsel hf hr (fun c a w => hQ c a _ _ w) (yields_move ho.1 hx) (wpAny_moves hsel hQ r _ _ hB ?_)
    simpa only [moved, listedBy, h0, hx] using h

/-- The closed Bool of a region: the moves 'ms' first, then 'is', each below n, then the rest in one order. -/
def tailB (ops : Array Oper) (n : Nat) (ms is : List Nat) : Bool :=
  Region.noSelect ops && decide (n < ops.size) && takes .any ops n ms (Array.replicate ops.size false) && sinks .any ops n (listedBy ms (Array.replicate ops.size false)) && Region.chainB .any ops n &&
    heads .any ops n is (listedBy ms (Array.replicate ops.size false)) && decide (ms.length + is.length = n)

/-- A REGION THAT DRAWS ITS ORDER: its moves, then its first operations in a class of worlds, its last ones one behind the other. -/
theorem wp_region_class {id : Nat} {Q : Exit → Act → World → Prop} {a : Act} {w : World} {l : List Oper} (n : Nat) (ms is : List Nat) (hm : P.follows .mixedOrders = true) (hB : tailB l.toArray n ms is = true)
    (hQ : ∀ c a d v w, Q (.panic c) (Act.put a d v) w → Q (.panic c) a w) (hC : C w.drew)
    (h : wpQuiet P l.toArray C (fun a' => ∀ w', C w' → wpList P l.toArray Q (l.drop n) a' w') (picked l.toArray is) (moved l.toArray ms a)) : (Code.region id l.toArray true).wp P Q a w := by
  simp only [tailB, Bool.and_eq_true, decide_eq_true_eq] at hB
  obtain ⟨⟨⟨⟨⟨⟨hsel, hn⟩, ht⟩, hs⟩, hc⟩, hh⟩, hlen⟩ := hB
  have hsz : l.toArray.size = l.length := List.size_toArray ..
  have hdl : (l.drop n).length = l.toArray.size - n := by rw [List.length_drop, hsz]
  have inv0 : HInv .any l.toArray n (Array.replicate l.toArray.size false) (Array.replicate l.toArray.size false) :=
    ⟨Array.size_replicate .., fun j _ _ hl => absurd (getD_replicate_false _ j ▸ hl) Bool.false_ne_true, fun t _ ht => getD_in (by rw [Array.size_replicate]; exact ht) (getD_replicate_false _ _), fun _ h => h⟩
  have inv1 := listedBy_tail ms _ ht inv0
  have H := headQ_lex (P := P) (C := C) hsel hs hc hn is _ _ inv1 hh h
  have T : ∀ listed a', (Region.seqB .any l.toArray (l.toArray.size - n) n listed = true ∧ ∀ w', C w' → wpList P l.toArray Q (l.drop n) a' w') → ∀ w', C w' → wpAny P .any l.toArray Q (l.toArray.size - n) listed a' w' := fun listed a' hL w' hw' => by
    rw [← hdl]
    exact wpAny_of_seq (l.drop n) n listed a' w' (fun j => by rw [List.getElem?_drop, List.getElem?_toArray]) (by rw [hdl]; exact hL.1) (hL.2 w' hw')
  have G := wpAny_moves hsel hQ ms _ a ht (headQ_wpAny T _ _ _ H w.drew hC)
  rw [show ms.length + (is.length + (l.toArray.size - n)) = l.toArray.size by omega] at G
  exact wp_region_any hm G
end

theorem made_regrown {w w' : World} (h : ∃ p : Regrown, w' = grow (redrawn w p.d) p.os) : Made w w' := by
  obtain ⟨p, rfl⟩ := h
  exact below_regrown w p.d p.os
theorem regrown_drew (w : World) : ∃ p : Regrown, w.drew = grow (redrawn w p.d) p.os := ⟨⟨w.drawn + 1, #[]⟩, by rw [grow_empty]; rfl⟩
/-- The same at the class of the worlds that have grown out of the world at hand. -/
theorem wp_region_made {P : Program} {id : Nat} {Q : Exit → Act → World → Prop} {a : Act} {w : World} {l : List Oper} (n : Nat) (ms is : List Nat) (hm : P.follows .mixedOrders = true) (hB : tailB l.toArray n ms is = true)
    (hQ : ∀ c a d v w, Q (.panic c) (Act.put a d v) w → Q (.panic c) a w)
    (h : wpQuiet P l.toArray (fun w' => ∃ p : Regrown, w' = grow (redrawn w p.d) p.os) (fun a' => ∀ w', Made w w' → wpList P l.toArray Q (l.drop n) a' w') (picked l.toArray is) (moved l.toArray ms a)) : (Code.region id l.toArray true).wp P Q a w := by
  refine wp_region_class (C := fun w' => ∃ p : Regrown, w' = grow (redrawn w p.d) p.os) n ms is hm hB hQ (regrown_drew w) ?_
  have e : (fun a' => ∀ w', Made w w' → wpList P l.toArray Q (l.drop n) a' w') = fun a' => ∀ w', (∃ p : Regrown, w' = grow (redrawn w p.d) p.os) → wpList P l.toArray Q (l.drop n) a' w' :=
    funext fun a' => propext ⟨fun k w' hw' => k w' (made_regrown hw'), fun k w' hw' => k w' (regrown_of_below hw')⟩
  rw [← e]
  exact h
/-- A callee that makes new blocks alone, met in a world of the class. -/
theorem Makes.again {P : Program} {w : World} {f : FuncId} {args : Array Value} {v : Value} (h : Makes P w f args v) (d : Nat) (os : Array Obj) :
    Calls P f args (grow (redrawn w d) os) fun e w'' => e = .returned v ∧ ∃ p : Regrown, w'' = grow (redrawn w p.d) p.os :=
  (h _ (below_regrown w d os)).mono fun _ _ ⟨he, hb⟩ => ⟨he, regrown_of_below hb⟩
end Go.Proofs.YtdaildmoodfocaaDoor
