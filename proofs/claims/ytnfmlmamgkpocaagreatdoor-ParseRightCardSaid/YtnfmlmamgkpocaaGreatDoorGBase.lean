/- Small general lemmas on calls that make new memory alone, for every program and world; no condition. · Small general lemmas on calls that make new memory, in the words 'Below' and 'ownsRow', for every program and world; no condition. · A region that draws its order, whose moves come first, whose next operations read or make new memory alone and whose last ones come in one order, is met by one walk in the text's order; the condition is a closed Bool over the region. · What a listed package variable without pointers holds, reckoned from its type and its datum; the condition is that the list is met. · The end of a law's row whose call made new memory alone: of what was there nothing has turned; the conditions are what the row's reading gives. · Slices of numbers in memory, wherever they lie; a world that is named; no condition. · 'append' of whatever came in to a row of the call's own, elements of any size; no condition. -/
import Derived.Test.YtnfmlmamgkpocaaGreatDoorRows
import Derived.WalkKit
import Derived.ProofKit
import Derived.OpenShut
import Derived.BigQuiet
import Derived.Deep.QuietTactic
import Derived.Handy
import Derived.Lib.Hide
import Derived.Laws.AppendOwnNone
import Derived.Lib.QuietBelow
import Derived.Deep.RegionHeld3
import Derived.StillTailTactics
import Derived.LaidLaws
import Derived.ChangeArms
import Derived.Deep.DeepHandedRow
import Derived.ChangeSame
namespace Go.Proofs.YtnfmlmamgkpocaaGreatDoor
section
open Go.ChangeShapes Go.WideShapes Go.ChangeAt Go.RowKit

/-! A REGION THAT DRAWS ITS ORDER, OVER ALL WORLDS THAT HAVE GROWN OUT OF W: its calls may make memory, if each returns one value in all these worlds. -/
theorem wp_region_grown {P : Program} {W : World} {id : Nat} {Q : Exit → Act → World → Prop} {a : Act} {w : World} {l : List Oper} (hm : P.follows .mixedOrders = true) (hB : Region.lexB .any l.toArray = true) (hg : Grown W w)
    (h : wpQuiet P l.toArray (fun w' => Grown W w') (fun a' => ∀ w', Grown W w' → Q .normal a' w') l a) : (Code.region id l.toArray true).wp P Q a w :=
  wp_region_quiet (C := fun w' => Grown W w') hm hB hg.drew (by simpa using h)

theorem grown_all (W : World) : ∀ p : Prop, (∀ w, Grown W w → p) = p := fun _ => propext ⟨fun h => h W (Grown.refl W), fun h _ _ => h⟩
theorem grown_drewN {W w : World} (h : Grown W w) (n : Nat) : Grown W (w.drewN n) := h
theorem grown_trans {a b c : World} (h : Grown a b) (k : Grown b c) : Grown a c :=
  ⟨World.keptBut_trans h.1 k.1, fun x => (k.2.1 x).trans (h.2.1 x), Nat.le_trans h.2.2 k.2.2⟩

/-- What the call returns, whatever the world; of the world only draws turn. -/
abbrev Quiet (P : Program) (f : FuncId) (args : Array Value) (v : Value) : Prop := ∀ w : World, Calls P f args w fun e w' => e = .returned v ∧ ∃ k, w' = w.drewN k
theorem Quiet.grown {P : Program} {f : FuncId} {args : Array Value} {v : Value} (h : Quiet P f args v) {W w : World} (hg : Grown W w) : Calls P f args w fun e w' => e = .returned v ∧ Grown W w' :=
  (h w).mono fun _ _ ⟨he, k, hk⟩ => ⟨he, by subst hk; exact grown_drewN hg k⟩
theorem Quiet.again {P : Program} {f : FuncId} {args : Array Value} {v : Value} (h : Quiet P f args v) {w : World} (n : Nat) : Calls P f args (w.drewN n) fun e w' => e = .returned v ∧ ∃ k, w' = w.drewN k :=
  (h _).mono fun _ _ ⟨he, k, hk⟩ => ⟨he, n + k, by rw [hk, World.drewN_drewN]⟩
theorem Quiet.again2 {P : Program} {f : FuncId} {args : Array Value} {v : Value} (h : Quiet P f args v) {w : World} (m n : Nat) : Calls P f args (w.drewN (m + n)) fun e w' => e = .returned v ∧ ∃ k, w' = w.drewN (m + k) :=
  (h _).mono fun _ _ ⟨he, k, hk⟩ => ⟨he, n + k, by rw [hk, World.drewN_drewN, Nat.add_assoc]⟩
/-- The call leaves the world as it is. -/
abbrev Still (P : Program) (f : FuncId) (args : Array Value) (v : Value) : Prop := ∀ w : World, Calls P f args w fun e w' => e = .returned v ∧ w = w'
theorem Still.quiet {P : Program} {f : FuncId} {args : Array Value} {v : Value} (h : Still P f args v) : Quiet P f args v := fun w => (h w).mono fun _ _ ⟨he, hw⟩ => ⟨he, 0, hw.symm⟩
/-- What the call returns in every world that has grown out of W; it makes new blocks alone. -/
abbrev Pure (P : Program) (W : World) (f : FuncId) (args : Array Value) (v : Value) : Prop := ∀ w : World, Grown W w → Calls P f args w fun e w' => e = .returned v ∧ Grown W w'
theorem Quiet.pure {P : Program} {f : FuncId} {args : Array Value} {v : Value} (h : Quiet P f args v) (W : World) : Pure P W f args v := fun _ hg => h.grown hg
theorem Still.pure {P : Program} {f : FuncId} {args : Array Value} {v : Value} (h : Still P f args v) (W : World) : Pure P W f args v := h.quiet.pure W

theorem ret_int {k : IntKind} {a b : Int} (h : a = b) : Ending.returned (.int k a) = .returned (.int k b) := by rw [h]
theorem ret_bool {a b : Bool} (h : a = b) : Ending.returned (.bool a) = .returned (.bool b) := by rw [h]
end
section
open Go.ChangeShapes Go.WideShapes Go.ChangeAt Go.RowKit

/-- Nothing that was there when W stood has turned. -/
abbrev Made (W w : World) : Prop := Below W.heap.size W w
theorem Made.refl (W : World) : Made W W := Below.refl _ _
theorem Made.trans {a b c : World} (h : Made a b) (k : Made b c) : Made a c := Below.trans h (Below.mono k h.size)
/-- What the call returns in every world that has grown out of W; it makes new blocks alone. -/
abbrev Makes (P : Program) (W : World) (f : FuncId) (args : Array Value) (v : Value) : Prop := ∀ w : World, Made W w → Calls P f args w fun e w' => e = .returned v ∧ Made W w'
theorem Still.makes {P : Program} {f : FuncId} {args : Array Value} {v : Value} (h : Still P f args v) (W : World) : Makes P W f args v := fun w hg => (h w).mono fun _ _ ⟨he, hw⟩ => ⟨he, hw ▸ hg⟩
theorem Still.at {P : Program} {f : FuncId} {args : Array Value} {v : Value} (h : Still P f args v) (w : World) : Calls P f args w fun e w' => e = .returned v ∧ w' = w := (h w).mono fun _ _ ⟨he, hw⟩ => ⟨he, hw.symm⟩
theorem heap_at {w : World} {o : Obj} {n : Nat} (h : n = w.heap.size) : (w.alloc o).heap[n]? = some o := by subst h; exact heap_alloc_new w o
theorem owns_made {w w' : World} {B : Nat} {E : TypeId} {size : Nat} {v : Value} {n : Nat} {xs : List Value} (h : w.ownsRow B E size v n xs) (hb : Made w w') : w'.ownsRow B E size v n xs := by
  refine ⟨h.1, ?_⟩
  rcases h.2 with h | ⟨g, cap, cur, hv, hg, hh, r⟩
  · exact .inl h
  · exact .inr ⟨g, cap, cur, hv, hg, (hb.block g (by rcases Nat.lt_or_ge g w.heap.size with h' | h'; exact h'; simp [Array.getElem?_eq_none h'] at hh)).trans hh, r⟩
theorem owns_mono {w : World} {B B' : Nat} {E : TypeId} {size : Nat} {v : Value} {n : Nat} {xs : List Value} (h : w.ownsRow B E size v n xs) (hb : B' ≤ B) : w.ownsRow B' E size v n xs := by
  refine ⟨h.1, ?_⟩
  rcases h.2 with h | ⟨g, cap, cur, hv, hg, r⟩
  · exact .inl h
  · exact .inr ⟨g, cap, cur, hv, Nat.le_trans hb hg, r⟩
theorem free_of_lit {w : World} {b : Nat} {cs : Array Value} {T : TypeId} (h : w.heap[b]? = some (.cells cs T (0, 0))) (j : Nat) : w.frozen? ⟨b, j, none⟩ = false := by
  simp [World.frozen?, h]
theorem bcell {W w : World} (hb : Made W w) : (∀ b o, b < W.heap.size → w.cell? ⟨b, o, none⟩ = W.cell? ⟨b, o, none⟩) ∧ (∀ b o, b < W.heap.size → w.frozen? ⟨b, o, none⟩ = W.frozen? ⟨b, o, none⟩) :=
  ⟨fun b o h => hb.cell (p := ⟨b, o, none⟩) h, fun b o h => hb.frozen (p := ⟨b, o, none⟩) h⟩
theorem heap_lt {w : World} {i : Nat} {o : Obj} (h : w.heap[i]? = some o) : i < w.heap.size := by
  rcases Nat.lt_or_ge i w.heap.size with h' | h'
  · exact h'
  · simp [Array.getElem?_eq_none h'] at h
theorem Made.heap {W w : World} (hb : Made W w) {i : Nat} {o : Obj} (h : W.heap[i]? = some o) : w.heap[i]? = some o := (hb.block i (heap_lt h)).trans h
theorem below_drewN {B : Nat} {a w : World} (h : Below B a w) (n : Nat) : Below B a (w.drewN n) := ⟨h.os, h.tape, h.output, h.size, h.block⟩
theorem cell_of_lit {w : World} {b : Nat} {cs : List Value} {T : TypeId} {fr : Nat × Nat} (h : w.heap[b]? = some (.cells cs.toArray T fr)) (j : Nat) : w.cell? ⟨b, j, none⟩ = cs[j]? := by
  simp [World.cell?, h]
theorem addr_add (b j : Nat) : (⟨b, 0, none⟩ : Addr).add j = ⟨b, j, none⟩ := by
  unfold Addr.add; split
  · rename_i h; subst h; rfl
  · simp
theorem cells_of_lit {w : World} {b : Nat} {cs : List Value} {T : TypeId} {fr : Nat × Nat} (h : w.heap[b]? = some (.cells cs.toArray T fr)) (j : Nat) (u : Value) (hj : cs[j]? = some u) : w.cell? ((⟨b, 0, none⟩ : Addr).add j) = some u := by
  rw [addr_add, cell_of_lit h, hj]
/-- A region that draws its order: all but its last operations only read, the last ones come in one order: the draw spelt as 'drew'. -/
theorem wp_region_tail {P : Program} {id : Nat} {Q : Exit → Act → World → Prop} {a : Act} {w : World} {l : List Oper} (n : Nat) (hm : P.follows .mixedOrders = true) (hB : Region.lexTailB .any l.toArray n = true)
    (h : wpStill P l.toArray w.drew (fun a' => wpList P l.toArray Q (l.drop n) a' w.drew) (l.take n) a) : (Code.region id l.toArray true).wp P Q a w := wp_region_still_tail n hm hB h
end
section
open Go.RowKit Go.Sort

section
variable {P : Program} {md : Region.Mode} {ops : Array Oper} {C : World → Prop}

/-- The first operations, in whatever order they come up, each with one value in every world of the class; then 'L'. -/
def headQ (P : Program) (md : Region.Mode) (ops : Array Oper) (C : World → Prop) (n : Nat) (L : Array Bool → Act → Prop) : Nat → Array Bool → Act → Prop
  | 0, listed, a => L listed a
  | f + 1, listed, a => Region.ready md ops listed ≠ [] ∧ ∀ i, i ∈ Region.ready md ops listed → i < n ∧ qOp P ops C i (headQ P md ops C n L f (listed.setIfInBounds i true)) a

theorem headQ_wpAny {n g : Nat} {L : Array Bool → Act → Prop} {Q : Exit → Act → World → Prop} (hL : ∀ listed a, L listed a → ∀ w, C w → wpAny P md ops Q g listed a w) :
    ∀ f listed a, headQ P md ops C n L f listed a → ∀ w, C w → wpAny P md ops Q (f + g) listed a w
  | 0, listed, a, h, w, hw => (Nat.zero_add g).symm ▸ hL listed a h w hw
  | f + 1, listed, a, h, w, hw => by
    rw [Nat.succ_add]
    refine ⟨fun e => absurd e h.1, fun i hi => ?_⟩
    exact wpOp_of_qOp hw (fun a' w' hw' k => headQ_wpAny hL f _ a' k w' hw') (h.2 i hi).2

/-- What is so while the first operations come up: 'L0' is what had come up before. -/
structure HInv (md : Region.Mode) (ops : Array Oper) (n : Nat) (L0 listed : Array Bool) : Prop where
  size : listed.size = ops.size
  closed : ∀ j oj, ops[j]? = some oj → listed.getD j false = true → ∀ e ∈ oj.after, Region.binds md e = true → listed.getD e.on false = true
  tail : ∀ t, n ≤ t → t < ops.size → listed.getD t true = false
  mono : ∀ i, listed.getD i true = false → L0.getD i true = false

theorem HInv.set {n i : Nat} {L0 listed : Array Bool} (inv : HInv md ops n L0 listed) (hi : i ∈ Region.ready md ops listed) (hin : i < n) : HInv md ops n L0 (listed.setIfInBounds i true) := by
  obtain ⟨_, oi, hoi, hall⟩ := mem_ready.1 hi
  refine ⟨by rw [Array.size_setIfInBounds]; exact inv.size, fun j oj hj hl e he hb => ?_, fun t ht ht' => by rw [getD_set_ne true (by omega)]; exact inv.tail t ht ht', fun k hk => ?_⟩
  · by_cases ij : i = j
    · subst ij
      obtain rfl : oj = oi := Option.some.inj (hj.symm.trans hoi)
      exact getD_set_true (hall e he hb)
    · rw [getD_set_ne false ij] at hl
      exact getD_set_true (inv.closed j oj hj hl e he hb)
  · by_cases ik : i = k
    · subst ik
      exact inv.mono i (mem_ready.1 hi).1
    · rw [getD_set_ne true ik] at hk
      exact inv.mono k hk

/-- Each of the first operations that is still to come is waited for by a later one up to the tail's first. -/
def sinks (md : Region.Mode) (ops : Array Oper) (n : Nat) (L0 : Array Bool) : Bool :=
  (List.range n).all fun i => L0.getD i true || (List.range (n + 1)).any fun j => decide (i < j) && Region.waitsFor md ops j i

theorem tail_not_ready {n : Nat} {L0 listed : Array Bool} (hs : sinks md ops n L0 = true) (hc : Region.chainB md ops n = true) (hn : n < ops.size) (inv : HInv md ops n L0 listed) :
    ∀ (d i : Nat), n - i = d → i < n → listed.getD i true = false → ∀ t, n ≤ t → t ∉ Region.ready md ops listed := by
  intro d
  induction d using Nat.strongRecOn with
  | _ d ih =>
    intro i hd hi un t ht hr
    obtain ⟨_, ot, hot, hall⟩ := mem_ready.1 hr
    have htlt : t < ops.size := (Array.getElem?_eq_some_iff.1 hot).1
    rcases Nat.lt_or_eq_of_le ht with htn | htn
    · have h1 := List.all_eq_true.1 hc t (List.mem_range.2 htlt)
      simp only [Bool.or_eq_true, decide_eq_true_eq] at h1
      obtain ⟨o', ho', e, he, hb, hon⟩ := Region.waitsFor_spec (h1.resolve_left (by omega))
      obtain rfl : o' = ot := Option.some.inj (ho'.symm.trans hot)
      have h2 := hall e he hb
      rw [hon, getD_both (inv.tail (t - 1) (by omega) (by omega))] at h2
      exact absurd h2 Bool.false_ne_true
    · subst htn
      have h1 := List.all_eq_true.1 hs i (List.mem_range.2 hi)
      rw [inv.mono i un, Bool.false_or] at h1
      obtain ⟨j, hj, hj2⟩ := List.any_eq_true.1 h1
      simp only [Bool.and_eq_true, decide_eq_true_eq] at hj2
      obtain ⟨oj, hoj, e, he, hb, hon⟩ := Region.waitsFor_spec hj2.2
      have hjle := List.mem_range.1 hj
      by_cases hjt : j = n
      · subst hjt
        obtain rfl : oj = ot := Option.some.inj (hoj.symm.trans hot)
        have h2 := hall e he hb
        rw [hon, getD_both un] at h2
        exact absurd h2 Bool.false_ne_true
      · cases hl : listed.getD j false with
        | true =>
          have h2 := inv.closed j oj hoj hl e he hb
          rw [hon, getD_both un] at h2
          exact absurd h2 Bool.false_ne_true
        | false => exact ih (n - j) (by omega) j rfl (by omega) (getD_in (by rw [inv.size]; omega) hl) n (Nat.le_refl _) hr

/-- Whoever may come up may be taken first. -/
theorem headQ_first {n i : Nat} {oi : Oper} {v : Value} {L0 : Array Bool} {L : Array Bool → Act → Prop} (hi : ops[i]? = some oi) (hsel : ∀ (j : Nat) (o : Oper) cs b, ops[j]? = some o → o.op ≠ .select cs b)
    (hs : sinks md ops n L0 = true) (hc : Region.chainB md ops n = true) (hn : n < ops.size) (hin : i < n) (hdone : ∀ listed a, L listed a → ∀ j ∈ Region.ready md ops listed, n ≤ j) (f : Nat) :
    ∀ (listed : Array Bool) (a : Act), HInv md ops n L0 listed →
      (∀ j oj, ops[j]? = some oj → j ≠ i → listed.getD j true = false → (∀ e ∈ oj.after, Region.binds md e = true → e.on ≠ i) → oi.apart ops oj = true) →
      i ∈ Region.ready md ops listed → YieldsIn P ops C oi v a → headQ P md ops C n L f (listed.setIfInBounds i true) (a.put oi.dst v) → headQ P md ops C n L (f + 1) listed a := by
  induction f with
  | zero =>
    intro listed a inv _ hr hy H
    have un := (mem_ready.1 hr).1
    refine ⟨List.ne_nil_of_mem hr, fun j hj => ?_⟩
    have hjn : j < n := Nat.lt_of_not_le fun hle => tail_not_ready hs hc hn inv _ i rfl hin un j hle hj
    by_cases e : j = i
    · subst e; exact ⟨hjn, hy.qOp hi H⟩
    · exact absurd (hdone _ _ H j (ready_mono hj e)) (Nat.not_le_of_lt hjn)
  | succ f ih =>
    intro listed a inv free hr hy H
    have un := (mem_ready.1 hr).1
    refine ⟨List.ne_nil_of_mem hr, fun j hj => ?_⟩
    have hjn : j < n := Nat.lt_of_not_le fun hle => tail_not_ready hs hc hn inv _ i rfl hin un j hle hj
    refine ⟨hjn, ?_⟩
    by_cases e : j = i
    · subst e; exact hy.qOp hi H
    · obtain ⟨hju, oj, hoj, hall⟩ := mem_ready.1 hj
      have far : ∀ e ∈ oj.after, Region.binds md e = true → e.on ≠ i := fun e he hb on => by
        have := hall e he hb
        rw [on, getD_both un] at this
        exact absurd this Bool.false_ne_true
      have swap := qOp_put hoj (free j oj hoj e hju far) (fun cs b => hsel i oi cs b hi) (fun cs b => hsel j oj cs b hoj) hy (H.2 j (ready_mono hj e)).2
      refine qOp_mono (fun a' k => ih _ a' (inv.set hj hjn) (fun k ok hk ki ku kf => free k ok hk ki ?_ kf) (ready_mono hr (Ne.symm e)) k.1 ?_) swap
      · by_cases jk : j = k
        · subst jk; exact hju
        · rwa [getD_set_ne true jk] at ku
      · rw [Array.setIfInBounds_comm _ _ e]; exact k.2

/-- The operations numbered 'is'. -/
def picked (ops : Array Oper) (is : List Nat) : List Oper := List.foldr (fun i r => (ops[i]?).elim r fun o => o :: r) [] is
/-- The operations numbered 'is' may be taken one behind the other; then the rest comes in one order. -/
def heads (md : Region.Mode) (ops : Array Oper) (n : Nat) : List Nat → Array Bool → Bool
  | [], listed => Region.seqB md ops (ops.size - n) n listed
  | i :: r, listed => decide (i < n) && (Region.ready md ops listed).contains i && Region.free md ops listed i && heads md ops n r (listed.setIfInBounds i true)

theorem headQ_lex {n : Nat} {L0 : Array Bool} {R : Act → Prop} (hsel : Region.noSelect ops = true) (hs : sinks md ops n L0 = true) (hc : Region.chainB md ops n = true) (hn : n < ops.size) :
    ∀ (is : List Nat) (listed : Array Bool) (a : Act), HInv md ops n L0 listed → heads md ops n is listed = true → wpQuiet P ops C R (picked ops is) a →
      headQ P md ops C n (fun listed' a' => Region.seqB md ops (ops.size - n) n listed' = true ∧ R a') is.length listed a
  | [], listed, a, _, hB, h => ⟨hB, h⟩
  | i :: is, listed, a, inv, hB, h => by
    simp only [heads, Bool.and_eq_true, decide_eq_true_eq] at hB
    obtain ⟨⟨⟨hin, hr⟩, hf⟩, hB⟩ := hB
    have hr : i ∈ Region.ready md ops listed := by simpa using hr
    obtain ⟨o, h0⟩ : ∃ o, ops[i]? = some o := ⟨_, Array.getElem?_eq_getElem (Nat.lt_trans hin hn)⟩
    have hp : picked ops (i :: is) = o :: picked ops is := by show (ops[i]?).elim _ _ = _; rw [h0]; rfl
    rw [hp] at h
    obtain ⟨v, hy, rest⟩ := yieldsIn_of_qOp (P := P) (C := C) (K := wpQuiet P ops C R (picked ops is)) (a := a) h0 (by unfold qOp; rw [h0]; exact h)
    exact headQ_first h0 (Region.noSelect_spec hsel) hs hc hn hin (fun _ _ e => seqB_ready e.1) _ listed a inv (Region.free_spec h0 hf) hr hy (headQ_lex hsel hs hc hn is _ _ (inv.set hr hin) hB rest)

/-- The value that a move hands on; other operations: none. -/
def moveOf : Op → Option Operand
  | .move x => some x
  | .assign x => some x
  | _ => none
/-- The frame behind the moves numbered 'ms'. -/
def moved (ops : Array Oper) : List Nat → Act → Act
  | [], a => a
  | i :: r, a => moved ops r (match ops[i]? with | some o => (match moveOf o.op with | some x => a.put o.dst (a.eval x) | none => a) | none => a)
def listedBy : List Nat → Array Bool → Array Bool
  | [], l => l
  | i :: r, l => listedBy r (l.setIfInBounds i true)
/-- The moves numbered 'ms' may be taken first. -/
def takes (md : Region.Mode) (ops : Array Oper) (n : Nat) : List Nat → Array Bool → Bool
  | [], _ => true
  | i :: r, listed => decide (i < n) && (Region.ready md ops listed).contains i && Region.free md ops listed i && ((ops[i]?).any fun o => o.guard.isNone && (moveOf o.op).isSome) && takes md ops n r (listed.setIfInBounds i true)

theorem listedBy_tail {n : Nat} : ∀ (ms : List Nat) (listed : Array Bool), takes md ops n ms listed = true → HInv md ops n listed listed → HInv md ops n (listedBy ms listed) (listedBy ms listed)
  | [], _, _, inv => inv
  | i :: r, listed, h, inv => by
    simp only [takes, Bool.and_eq_true, decide_eq_true_eq] at h
    have hr : i ∈ Region.ready md ops listed := by simpa using h.1.1.1.2
    have k := inv.set hr h.1.1.1.1
    exact listedBy_tail r _ h.2 ⟨k.size, k.closed, k.tail, fun _ h => h⟩

theorem yields_move {o : Oper} {x : Operand} {a : Act} (hg : o.guard.isNone = true) (h : moveOf o.op = some x) : Yields P ops o (a.eval x) a := by
  have hg' : o.guard = none := by simpa using hg
  refine .inl ⟨by simp [Region.wanted, hg'], fun w => ?_⟩
  cases ho : o.op <;> rw [ho] at h <;> simp only [moveOf, Option.some.injEq, reduceCtorEq] at h
  · subst h; exact BigFrame.run_move _ ho w
  · subst h; exact BigFrame.run_assign _ ho w

theorem wpAny_moves {n : Nat} {Q : Exit → Act → World → Prop} {w : World} {f : Nat} (hsel : Region.noSelect ops = true) (hQ : ∀ c a d v w, Q (.panic c) (Act.put a d v) w → Q (.panic c) a w) :
    ∀ (ms : List Nat) (listed : Array Bool) (a : Act), takes md ops n ms listed = true → wpAny P md ops Q f (listedBy ms listed) (moved ops ms a) w → wpAny P md ops Q (ms.length + f) listed a w
  | [], listed, a, _, h => (Nat.zero_add f).symm ▸ h
  | i :: r, listed, a, hB, h => by
    simp only [takes, Bool.and_eq_true, decide_eq_true_eq] at hB
    obtain ⟨⟨⟨⟨_, hr⟩, hf⟩, ho⟩, hB⟩ := hB
    obtain ⟨o, h0, ho⟩ := (Option.any_eq_true ..).1 ho
    simp only [Bool.and_eq_true] at ho
    obtain ⟨x, hx⟩ := Option.isSome_iff_exists.1 ho.2
    rw [List.length_cons, Nat.add_right_comm]
    refine wpAny_take h0 hsel hf hr (fun c a w => hQ c a _ _ w) (yields_move ho.1 hx) (wpAny_moves hsel hQ r _ _ hB ?_)
    simpa only [moved, listedBy, h0, hx] using h

/-- The closed Bool of a region: the moves 'ms' first, then 'is', each below n, then the rest in one order. -/
def tailB (ops : Array Oper) (n : Nat) (ms is : List Nat) : Bool :=
  Region.noSelect ops && decide (n < ops.size) && takes .any ops n ms (Array.replicate ops.size false) && sinks .any ops n (listedBy ms (Array.replicate ops.size false)) && Region.chainB .any ops n &&
    heads .any ops n is (listedBy ms (Array.replicate ops.size false)) && decide (ms.length + is.length = n)

/-- A REGION THAT DRAWS ITS ORDER: its moves, then its first operations in a class of worlds, its last ones one behind the other. -/
theorem wp_region_class {id : Nat} {Q : Exit → Act → World → Prop} {a : Act} {w : World} {l : List Oper} (n : Nat) (ms is : List Nat) (hm : P.follows .mixedOrders = true) (hB : tailB l.toArray n ms is = true)
    (hQ : ∀ c a d v w, Q (.panic c) (Act.put a d v) w → Q (.panic c) a w) (hC : C w.drew)
    (h : wpQuiet P l.toArray C (fun a' => ∀ w', C w' → wpList P l.toArray Q (l.drop n) a' w') (picked l.toArray is) (moved l.toArray ms a)) : (Code.region id l.toArray true).wp P Q a w := by
  simp only [tailB, Bool.and_eq_true, decide_eq_true_eq] at hB
  obtain ⟨⟨⟨⟨⟨⟨hsel, hn⟩, ht⟩, hs⟩, hc⟩, hh⟩, hlen⟩ := hB
  have hsz : l.toArray.size = l.length := List.size_toArray ..
  have hdl : (l.drop n).length = l.toArray.size - n := by rw [List.length_drop, hsz]
  have inv0 : HInv .any l.toArray n (Array.replicate l.toArray.size false) (Array.replicate l.toArray.size false) :=
    ⟨Array.size_replicate .., fun j _ _ hl => absurd (getD_replicate_false _ j ▸ hl) Bool.false_ne_true, fun t _ ht => getD_in (by rw [Array.size_replicate]; exact ht) (getD_replicate_false _ _), fun _ h => h⟩
  have inv1 := listedBy_tail ms _ ht inv0
  have H := headQ_lex (P := P) (C := C) hsel hs hc hn is _ _ inv1 hh h
  have T : ∀ listed a', (Region.seqB .any l.toArray (l.toArray.size - n) n listed = true ∧ ∀ w', C w' → wpList P l.toArray Q (l.drop n) a' w') → ∀ w', C w' → wpAny P .any l.toArray Q (l.toArray.size - n) listed a' w' := fun listed a' hL w' hw' => by
    rw [← hdl]
    exact wpAny_of_seq (l.drop n) n listed a' w' (fun j => by rw [List.getElem?_drop, List.getElem?_toArray]) (by rw [hdl]; exact hL.1) (hL.2 w' hw')
  have G := wpAny_moves hsel hQ ms _ a ht (headQ_wpAny T _ _ _ H w.drew hC)
  rw [show ms.length + (is.length + (l.toArray.size - n)) = l.toArray.size by omega] at G
  exact wp_region_any hm G
end

theorem made_regrown {w w' : World} (h : ∃ p : Regrown, w' = grow (redrawn w p.d) p.os) : Made w w' := by
  obtain ⟨p, rfl⟩ := h
  exact below_regrown w p.d p.os
theorem regrown_drew (w : World) : ∃ p : Regrown, w.drew = grow (redrawn w p.d) p.os := ⟨⟨w.drawn + 1, #[]⟩, by rw [grow_empty]; rfl⟩
/-- The same at the class of the worlds that have grown out of the world at hand. -/
theorem wp_region_made {P : Program} {id : Nat} {Q : Exit → Act → World → Prop} {a : Act} {w : World} {l : List Oper} (n : Nat) (ms is : List Nat) (hm : P.follows .mixedOrders = true) (hB : tailB l.toArray n ms is = true)
    (hQ : ∀ c a d v w, Q (.panic c) (Act.put a d v) w → Q (.panic c) a w)
    (h : wpQuiet P l.toArray (fun w' => ∃ p : Regrown, w' = grow (redrawn w p.d) p.os) (fun a' => ∀ w', Made w w' → wpList P l.toArray Q (l.drop n) a' w') (picked l.toArray is) (moved l.toArray ms a)) : (Code.region id l.toArray true).wp P Q a w := by
  refine wp_region_class (C := fun w' => ∃ p : Regrown, w' = grow (redrawn w p.d) p.os) n ms is hm hB hQ (regrown_drew w) ?_
  have e : (fun a' => ∀ w', Made w w' → wpList P l.toArray Q (l.drop n) a' w') = fun a' => ∀ w', (∃ p : Regrown, w' = grow (redrawn w p.d) p.os) → wpList P l.toArray Q (l.drop n) a' w' :=
    funext fun a' => propext ⟨fun k w' hw' => k w' (made_regrown hw'), fun k w' hw' => k w' (regrown_of_below hw')⟩
  rw [← e]
  exact h
/-- A callee that makes new blocks alone, met in a world of the class. -/
theorem Makes.again {P : Program} {w : World} {f : FuncId} {args : Array Value} {v : Value} (h : Makes P w f args v) (d : Nat) (os : Array Obj) :
    Calls P f args (grow (redrawn w d) os) fun e w'' => e = .returned v ∧ ∃ p : Regrown, w'' = grow (redrawn w p.d) p.os :=
  (h _ (below_regrown w d os)).mono fun _ _ ⟨he, hb⟩ => ⟨he, regrown_of_below hb⟩
end
section
open Go

/-! WHAT A LISTED VARIABLE WITHOUT POINTERS HOLDS: its cells, reckoned from its type and its datum. -/
def contig : Nat → List (Nat × List Value) → Option Nat
  | o, [] => some o
  | o, (off, p) :: r => if off = o then contig (o + p.length) r else none
theorem contig_spec {cs : List Value} : ∀ {l : List (Nat × List Value)} {o : Nat}, contig o l = some cs.length → (∀ x ∈ l, (cs.drop x.1).take x.2.length = x.2) → cs.drop o = l.flatMap (·.2)
  | [], o, h, _ => by
    simp only [contig, Option.some.injEq] at h
    simp [h]
  | (off, p) :: r, o, h, hx => by
    simp only [contig] at h
    split at h
    · rename_i e
      subst e
      have h1 := hx (off, p) (by simp)
      have h2 := contig_spec h (fun x hm => hx x (by simp [hm]))
      simp only [List.flatMap_cons]
      rw [← h2, ← List.drop_drop]
      conv => lhs; rw [← List.take_append_drop p.length (cs.drop off)]
      rw [h1]
    · cases h

def flatT {H : Type} (P : Program) : Nat → TypeId → DataW H → Option (List Value)
  | 0, _, _ => none
  | m + 1, t, d =>
    match P.underlying t, d with
    | some .bool, .lit (.bool b) => some [.bool b]
    | some (.int _), .lit (.int k n) => some [.int k n]
    | some .string, .lit (.string b) => some [.string ⟨b.toArray⟩]
    | some (.struct fs), .agg ds =>
      ((List.range fs.size).mapM fun i => (fs[i]?).bind fun f => (ds[i]?).bind fun d => (flatT P m f.type d).bind fun cs => if cs.length = P.cellsOf f.type then some (f.offset, cs) else none).bind fun l =>
        if contig 0 l = some (P.cellsOf t) then some (l.flatMap (·.2)) else none
    | some (.array n e), .agg ds =>
      ((List.range n).mapM fun i => (ds[i]?).bind fun d => (flatT P m e d).bind fun cs => if cs.length = P.cellsOf e then some (i * P.cellsOf e, cs) else none).bind fun l =>
        if contig 0 l = some (P.cellsOf t) then some (l.flatMap (·.2)) else none
    | _, _ => none

theorem mapM_mem {α β : Type} {f : α → Option β} : ∀ {l : List α} {r : List β}, l.mapM f = some r → ∀ b ∈ r, ∃ a ∈ l, f a = some b
  | [], r, h, b, hb => by
    simp at h
    subst h
    cases hb
  | x :: l, r, h, b, hb => by
    simp only [List.mapM_cons, Option.bind_eq_bind, Option.bind_eq_some_iff, Option.pure_def, Option.some.injEq] at h
    obtain ⟨y, hy, r', hr', rfl⟩ := h
    rcases List.mem_cons.1 hb with rfl | hb
    · exact ⟨x, by simp, hy⟩
    · obtain ⟨a, ha, hf⟩ := mapM_mem hr' b hb
      exact ⟨a, by simp [ha], hf⟩

theorem flatT_spec {H : Type} {enc : TypeId × Value → H} {P : Program} {w : World} {base : Nat} {sp : Nat → Bool} {held : Bool} :
    ∀ (m : Nat) {fuel : Nat} {t : TypeId} {cs : List Value} {d : DataW H} {p : List MemPlace} {vs : List Value}, DataW.trod enc P w base sp held fuel t cs = some (d, p) → flatT P m t d = some vs → cs = vs
  | 0, _, _, _, _, _, _, _, hf => by simp [flatT] at hf
  | m + 1, fuel, t, cs, d, p, vs, h, hf => by
    unfold flatT at hf
    split at hf
    · rename_i ht
      obtain ⟨b, rfl, hx⟩ := DataW.trod_bool ht h
      cases hx
      simpa using hf
    · rename_i ht
      obtain ⟨n, rfl, hx, _⟩ := DataW.trod_int ht h
      cases hx
      simpa using hf
    · rename_i ht
      obtain ⟨s, rfl, hx, _⟩ := DataW.trod_string ht h
      cases hx
      simp only [Option.some.injEq] at hf
      rw [← hf]
    · rename_i fs ds ht
      obtain ⟨xs, n, rfl, hx, hlen, hxl, hall⟩ := DataW.trod_struct ht h
      obtain ⟨l, hl, hc⟩ := Option.bind_eq_some_iff.1 hf
      split at hc
      · rename_i hcon
        simp only [Option.some.injEq] at hc
        subst hc
        have := contig_spec (cs := cs) (l := l) (o := 0) (by rw [hcon, hlen]) (fun x hxm => by
          obtain ⟨i, _, hi⟩ := mapM_mem hl x hxm
          obtain ⟨f, hf1, hi⟩ := Option.bind_eq_some_iff.1 hi
          obtain ⟨d', hd, hi⟩ := Option.bind_eq_some_iff.1 hi
          obtain ⟨c, hcc, hi⟩ := Option.bind_eq_some_iff.1 hi
          split at hi
          · rename_i hcl
            simp only [Option.some.injEq] at hi
            subst hi
            have h1 := hall i f hf1
            simp only [Prod.mk.injEq, DataW.agg.injEq] at hx
            obtain ⟨rfl, rfl⟩ := hx
            simp only [List.getElem?_map, Option.map_eq_some_iff] at hd
            obtain ⟨⟨d'', p''⟩, hd1, rfl⟩ := hd
            rw [hd1] at h1
            have := flatT_spec m h1 hcc
            simp only
            rw [hcl]
            exact this
          · cases hi)
        simpa using this
      · cases hc
    · rename_i k e ds ht
      obtain ⟨xs, n, rfl, hx, hlen, hxl, hall⟩ := DataW.trod_array ht h
      obtain ⟨l, hl, hc⟩ := Option.bind_eq_some_iff.1 hf
      split at hc
      · rename_i hcon
        simp only [Option.some.injEq] at hc
        subst hc
        have := contig_spec (cs := cs) (l := l) (o := 0) (by rw [hcon, hlen]) (fun x hxm => by
          obtain ⟨i, hin, hi⟩ := mapM_mem hl x hxm
          obtain ⟨d', hd, hi⟩ := Option.bind_eq_some_iff.1 hi
          obtain ⟨c, hcc, hi⟩ := Option.bind_eq_some_iff.1 hi
          split at hi
          · rename_i hcl
            simp only [Option.some.injEq] at hi
            subst hi
            have h1 := hall i (by simpa using hin)
            simp only [Prod.mk.injEq, DataW.agg.injEq] at hx
            obtain ⟨rfl, rfl⟩ := hx
            simp only [List.getElem?_map, Option.map_eq_some_iff] at hd
            obtain ⟨⟨d'', p''⟩, hd1, rfl⟩ := hd
            rw [hd1] at h1
            have := flatT_spec m h1 hcc
            simp only
            rw [hcl]
            exact this
          · cases hi)
        simpa using this
      · cases hc
    · cases hf

theorem laidVars_mem {P : Program} {w : World} {n : String} {d : DataW Unit} : ∀ {l : List (String × DataW Unit)} {ps : List MemPlace}, DataW.LaidVars P w l ps → (n, d) ∈ l →
    ∃ g t cs fuel p, P.globalNamed n = some g ∧ (P.globals[g]?).map (·.type) = some t ∧ w.var? P n = some cs ∧ DataW.trod (fun _ => ()) P w 0 (fun _ => true) false fuel t cs.toList = some (d, p)
  | [], _, _, hm => by cases hm
  | (n', d') :: r, ps, h, hm => by
    obtain ⟨g, t, cs, fuel, p, q, e1, e2, e3, e4, hr, rfl⟩ := h
    rcases List.mem_cons.1 hm with h | h
    · cases h
      exact ⟨g, t, cs, fuel, p, e1, e2, e3, e4⟩
    · exact laidVars_mem hr h

/-- WHAT THE ROW's LIST GIVES: the variable's block holds just these cells. -/
theorem laid_block {P : Program} {W : World} {l : List (String × DataW Unit)} {n : String} {d : DataW Unit} {g : Nat} {t : TypeId} {vs : List Value} (m : Nat) (i : Nat) (h : laidMet P l W) (hm : l[i]? = some (n, d))
    (hg : P.globalNamed n = some g) (ht : (P.globals[g]?).map (·.type) = some t) (hf : flatT P m t d = some vs) : ∃ T fr, W.heap[g]? = some (.cells vs.toArray T fr) := by
  obtain ⟨ps, hv, _⟩ := h
  obtain ⟨g', t', cs, fuel, p, e1, e2, e3, e4⟩ := laidVars_mem hv (List.mem_of_getElem? hm)
  obtain rfl := Option.some.inj (hg.symm.trans e1)
  obtain rfl := Option.some.inj (ht.symm.trans e2)
  have hcs := flatT_spec m e4 hf
  unfold World.var? at e3
  rw [hg, Option.bind_some] at e3
  split at e3
  · rename_i c T fr hw
    cases e3
    exact ⟨T, fr, by rw [hw, ← hcs]⟩
  · cases e3
end
section
open Go.RowKit Go.WideShapes Go.ChangeShapes

theorem post_made {H : Type} {enc : TypeId × Value → H} {P : Program} {f : Func} {s : ChangeSpec} {apart fresh handsOn again : Bool} {W W' : World} {args : Array Value} {v : Value} {ds gs : List (DataW H)} {before pa pv : List MemPlace}
    (hW : DataW.Whole enc P f.params.toList s.vars apart W args.toList ds gs before)
    (hres : ∀ (b : Nat) (sp : Nat → Bool) (hd : Bool), DataW.TrodAll enc P W' b sp hd f.resultTypes.toList (v.resultList f.resultTypes.size) (s.fn H (ds ++ gs)).results [])
    (hargs : ∀ sp : Nat → Bool, (∀ p ∈ before, sp p.block = true) → DataW.TrodAll enc P W' 0 sp true f.params.toList args.toList (s.fn H (ds ++ gs)).args pa)
    (hvars : ∀ sp : Nat → Bool, (∀ p ∈ before, sp p.block = true) → DataW.TrodVars enc P W' sp s.vars (s.fn H (ds ++ gs)).vars pv)
    (hps : before = pa ++ pv) (hm : Made W W')
    (hok : ∀ (j : Nat) (t : TypeId) (r : Value), f.resultTypes[j]? = some t → (v.resultList f.resultTypes.size)[j]? = some r → Value.okWide P W' .any 0 t r) :
    s.post enc P f apart fresh handsOn again W args v W' := by
  subst hps
  have old : ∀ p, p ∈ pa ++ pv → p.block < W.heap.size := fun p => hW.lt p
  have spared : ∀ p, p ∈ pa ++ pv → decide (p.block < W.heap.size) = true := fun p hp => decide_eq_true (old p hp)
  have kept : W.keptBut W' fun p => p ∈ pa ++ pv ∧ (p ∈ ([] : List MemPlace) ∨ p ∈ pa ∨ p ∈ pv) := World.keptBut_mono (fun p hp => ⟨hp, .inr (List.mem_append.1 hp)⟩) (hm.frame fun p => p ∈ pa ++ pv)
  have hW2 := hW
  obtain ⟨_, _, _, _, _, sz, nd⟩ := hW2
  refine ⟨ds, gs, pa ++ pv, [], pa, pv, hW, hres _ _ _, hargs (fun b => decide (b < W.heap.size)) spared, hvars _ spared, by simpa using kept, fun _ => ⟨hok, _, _, pa ++ pv, ⟨pa, pv, by simpa using trodAll_append (hargs _ fun _ _ => rfl) (hres _ _ _), hvars _ fun _ _ => rfl, rfl, fun b off hp => ?_, nd⟩, fun p hp _ => hp⟩⟩
  rw [hm.frozen (p := ⟨b, off, none⟩) (old _ hp)]
  exact sz b off hp
end
section
open Go.ChangeShapes Go.WideShapes Go.ChangeAt Go.RowKit Go.Sort BigFrame

theorem world_named {P : Program} {c : Code} {Q : Exit → Act → World → Prop} {a : Act} {w : World} (F : World → Prop) (hF : F w) (h : ∀ u, F u → c.wp P Q a u) : c.wp P Q a w := h w hF
/-- A slice of numbers in memory, wherever it lies. -/
structure Nums (k : IntKind) (w : World) (ao : Option Addr) (cap : Nat) (zs : List Nat) : Prop where
  room : zs.length ≤ cap
  max : cap ≤ maxLen
  bare : ao = none → zs = [] ∧ cap = 0
  cell : ∀ a, ao = some a → ∀ t, t < zs.length → w.cell? (a.add t) = some (.int k (zs.getD t 0))
theorem Nums.keep {k : IntKind} {w w' : World} {ao : Option Addr} {cap : Nat} {zs : List Nat} (h : Nums k w ao cap zs) (hc : ∀ a v, w.cell? a = some v → w'.cell? a = some v) : Nums k w' ao cap zs :=
  ⟨h.room, h.max, h.bare, fun a ha t ht => hc _ _ (h.cell a ha t ht)⟩
theorem made_cell {w w' : World} (hm : Made w w') (a : Addr) (v : Value) (h : w.cell? a = some v) : w'.cell? a = some v :=
  (World.cell?_of_block (hm.block a.block (World.block_lt_of_cell? w a h))).trans h
theorem Nums.made {k : IntKind} {w w' : World} {ao : Option Addr} {cap : Nat} {zs : List Nat} (h : Nums k w ao cap zs) (hm : Made w w') : Nums k w' ao cap zs := h.keep (made_cell hm)
theorem Nums.some {k : IntKind} {w : World} {ao : Option Addr} {cap : Nat} {zs : List Nat} (h : Nums k w ao cap zs) {t : Nat} (ht : t < zs.length) : ∃ a, ao = some a := by
  cases ao with
  | none => rw [(h.bare rfl).1] at ht; exact absurd ht (by simp)
  | some a => exact ⟨a, rfl⟩

theorem made_drew {W w : World} (h : Made W w) : Made W w.drew := ⟨h.os, h.tape, h.output, h.size, h.block⟩
end
section
open Go.ChangeShapes Go.WideShapes Go.ChangeAt Go.RowKit

/-- 'append' of whatever came in to a slice of the call's own: nil, empty or not; elements of any size. -/
theorem wpList_append_each {P : Program} {w : World} {ops : Array Oper} {rest : List Oper} {o : Oper} {a : Act} {Q : Exit → Act → World → Prop} (hgd : o.guard = none) (s x : Operand) (t : TypeId)
    (ho : o.op = .call { callee := .builtin .append, args := #[s, x], argTypes := #[t, t] })
    (base : Nat) (e : TypeId) (i : TypeInfo) (z : Value) (size bytes : Nat) (ht : P.underlying t = some (.slice e)) (hi : P.info? e = some i) (hz : i.zero = some z)
    (hsize : i.size = size) (hby : i.bytes = bytes) (hzs : z.cells.size = size) (hsz : 0 < size)
    (v : Value) (n : Nat) (xs : List Value) (hs : a.eval s = v) (hown : w.ownsRow base e size v n xs)
    (ao : Option Addr) (m c : Nat) (news : List Value) (hx : a.eval x = .slice ao m c) (hnone : ao = none → m = 0 ∧ c = 0) (hl : news.length = m * size) (hnews : ∀ ad, ao = some ad → ∀ j u, news[j]? = some u → w.cell? (ad.add j) = some u) (h1 : ∀ u ∈ news, u.oneCell' = true)
    (h63 : n + m ≤ maxLen) (hbytes : (n + m) * bytes ≤ 140737488355328) (hbase : base ≤ w.heap.size)
    (h : ∀ v' w', w'.ownsRow base e size v' (n + m) (xs ++ news) → w.grownBy w' v.ownBlock → wpList P ops Q rest (a.put o.dst v') w') : wpList P ops Q (o :: rest) a w := by
  cases ao with
  | none =>
    obtain ⟨rfl, rfl⟩ := hnone rfl
    obtain rfl : news = [] := List.eq_nil_of_length_eq_zero (by omega)
    exact wpList_append_own_none hgd s x t ho base e i size ht hi v n xs hs hown hx (h v w (by simpa using hown) ⟨rfl, rfl, rfl, Nat.le_refl _, fun _ _ _ => rfl⟩)
  | some ad =>
    exact wpList_append_own w hgd s x t ho base e i z size bytes ht hi hz hsize hby hzs hsz v n xs hs hown ad m c news hx hl (hnews ad rfl) h1 h63 hbytes hbase fun v' w' h2 h3 _ => h v' w' h2 h3
/-- An append to a row of the call's own, as one step of a region that draws. -/
theorem step_append_each {P : Program} {ops : Array Oper} {o : Oper} {a : Act} {w : World} {K : Act → World → Prop} {Q : Exit → Act → World → Prop} {X : Prop} (hg : o.guard = none) (s x : Operand) (t : TypeId)
    (ho : o.op = .call { callee := .builtin .append, args := #[s, x], argTypes := #[t, t] })
    (base : Nat) (e : TypeId) (i : TypeInfo) (z : Value) (size bytes : Nat) (ht : P.underlying t = some (.slice e)) (hi : P.info? e = some i) (hz : i.zero = some z)
    (hsize : i.size = size) (hby : i.bytes = bytes) (hzs : z.cells.size = size) (hsz : 0 < size)
    (v : Value) (n : Nat) (xs : List Value) (hs : a.eval s = v) (hown : w.ownsRow base e size v n xs)
    (ad : Addr) (m c : Nat) (news : List Value) (hx : a.eval x = .slice (some ad) m c) (hl : news.length = m * size) (hnews : ∀ j u, news[j]? = some u → w.cell? (ad.add j) = some u) (h1 : ∀ u ∈ news, u.oneCell' = true)
    (h63 : n + m ≤ maxLen) (hbytes : (n + m) * bytes ≤ 140737488355328) (hbase : base ≤ w.heap.size)
    (h : ∀ v' w', w'.ownsRow base e size v' (n + m) (xs ++ news) → w.grownBy w' v.ownBlock → (v' = .slice none 0 0 ↔ v = .slice none 0 0 ∧ m = 0) → K (a.put o.dst v') w') :
    if Region.wanted o (yielded ops a.tmps) = true then Oper.wp P o a w K Q else X := by
  rw [if_pos (by simp [Region.wanted, hg])]
  exact wp_append_own w s x t ho base e i z size bytes ht hi hz hsize hby hzs hsz v n xs hs hown ad m c news hx hl hnews h1 h63 hbytes hbase h
end
end Go.Proofs.YtnfmlmamgkpocaaGreatDoor
