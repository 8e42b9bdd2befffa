/- The rules for what is done at once as plain data: clashes, and what is wrong with a packet; it does not hang on the row of the instructions; of what is due none writes what another one writes; without one that writes nothing nothing gets wrong. No condition but those named. -/
import Derived.Test.YtdaildmoodfocaaDoorInstMath
namespace Go.Proofs.YtdaildmoodfocaaDoor

def exclB (a b : In) : Bool := a.pred == b.pred && ((a.mode == 1 && b.mode == 2) || (a.mode == 2 && b.mode == 1) || (a.mode == 3 && b.mode == 4) || (a.mode == 4 && b.mode == 3))
def regB (x : In) (r : Int) : Bool := (writesP x).2 && (writesP x).1 == r
def setB (x : In) (p : Int) : Bool := (wpredP x).2 && (wpredP x).1 == p
def wClash (a b : In) : Bool := (writesP a).2 && regB b (writesP a).1 && !exclB a b
def pClash (a b : In) : Bool := (wpredP a).2 && setB b (wpredP a).1
def clashP (a b : In) : Bool := wClash a b || pClash a b
theorem beq_comm' (a b : Int) : (a == b) = (b == a) := by
  by_cases h : a = b
  · subst h; rfl
  · rw [beq_eq_false_iff_ne.2 h, beq_eq_false_iff_ne.2 (Ne.symm h)]
theorem exclB_comm (a b : In) : exclB a b = exclB b a := by
  unfold exclB
  rw [beq_comm' a.pred b.pred]
  cases (b.pred == a.pred) <;> cases (a.mode == 1) <;> cases (a.mode == 2) <;> cases (a.mode == 3) <;> cases (a.mode == 4) <;> cases (b.mode == 1) <;> cases (b.mode == 2) <;> cases (b.mode == 3) <;> cases (b.mode == 4) <;> rfl
theorem wClash_comm (a b : In) : wClash a b = wClash b a := by
  unfold wClash regB
  rw [exclB_comm a b, beq_comm' (writesP b).1 (writesP a).1]
  cases (writesP a).2 <;> cases (writesP b).2 <;> rfl
theorem pClash_comm (a b : In) : pClash a b = pClash b a := by
  unfold pClash setB
  rw [beq_comm' (wpredP b).1 (wpredP a).1]
  cases (wpredP a).2 <;> cases (wpredP b).2 <;> rfl
theorem clashP_comm (a b : In) : clashP a b = clashP b a := by unfold clashP; rw [wClash_comm, pClash_comm]

def classP (x : In) : Int := classZ (if isOp x.op then x.op else 0)
def countC (l : List In) (c : Int) : Nat := l.countP fun x => classP x == c
def clashL : List In → Bool
  | [] => false
  | a :: r => r.any (clashP a) || clashL r
theorem clashL_iff : ∀ l : List In, clashL l = false ↔ l.Pairwise fun a b => clashP a b = false
  | [] => by simp [clashL]
  | a :: r => by
    have e : clashL (a :: r) = (r.any (clashP a) || clashL r) := rfl
    rw [e, Bool.or_eq_false_iff, List.pairwise_cons, clashL_iff r]
    simp
def setsB (l : List In) (p : Int) : Bool := l.any fun y => setB y p
def writers (l : List In) (r : Int) : Nat := l.countP fun y => regB y r
def goodB (y : In) (r : Int) : Bool := regB y r && (classP y == 1 || classP y == 2) && y.mode == 0
def goods (l : List In) (r : Int) : Nat := l.countP fun y => goodB y r
def freshOne (l : List In) (x : In) : Bool := (decide (x.mode ≤ 2) || setsB l x.pred) && (!x.new || (writers l x.t == 1 && goods l x.t == 1))
def freshB (l : List In) : Bool := l.all (freshOne l)
/-- A packet as plain data. -/
structure Pk where
  insts : List In
  e0 : Bool
  e1 : Bool
  raw : Bool
  dup : Bool
def formB (p : Pk) : Bool := p.insts.length != 0 && decide (p.insts.length ≤ 4) && !(p.raw && p.dup) && p.insts.all rightB
def loopB (p : Pk) : Bool := (p.e0 || p.e1) && decide (0 < countC p.insts 5 + countC p.insts 6)
def checkP (p : Pk) : Int := if !formB p then 8 else if 1 < countC p.insts 5 then 14 else if clashL p.insts then 11 else if !freshB p.insts then 12 else if loopB p then 13 else 0

theorem perm_clash {l m : List In} (h : l.Perm m) : clashL l = clashL m := by
  have key : ∀ {a b : List In}, a.Perm b → clashL a = false → clashL b = false := fun {a b} hp ha =>
    (clashL_iff b).2 ((hp.pairwise_iff (fun {x y} hxy => by rw [clashP_comm]; exact hxy)).1 ((clashL_iff a).1 ha))
  cases h1 : clashL l with
  | false => exact (key h h1).symm
  | true =>
    cases h2 : clashL m with
    | true => rfl
    | false => exact absurd (key h.symm h2) (by rw [h1]; simp)
theorem perm_all {l m : List In} (h : l.Perm m) (f : In → Bool) : l.all f = m.all f := by
  have e : ∀ x, x ∈ l ↔ x ∈ m := fun x => h.mem_iff
  rw [Bool.eq_iff_iff, List.all_eq_true, List.all_eq_true]
  exact ⟨fun k x hx => k x ((e x).2 hx), fun k x hx => k x ((e x).1 hx)⟩
theorem perm_any {l m : List In} (h : l.Perm m) (f : In → Bool) : l.any f = m.any f := by
  have e : ∀ x, x ∈ l ↔ x ∈ m := fun x => h.mem_iff
  rw [Bool.eq_iff_iff, List.any_eq_true, List.any_eq_true]
  exact ⟨fun ⟨x, hx, k⟩ => ⟨x, (e x).1 hx, k⟩, fun ⟨x, hx, k⟩ => ⟨x, (e x).2 hx, k⟩⟩
theorem perm_fresh {l m : List In} (h : l.Perm m) : freshB l = freshB m := by
  have e : freshOne l = freshOne m := funext fun x => by
    unfold freshOne setsB writers goods
    rw [perm_any h, h.countP_eq, h.countP_eq]
  unfold freshB
  rw [e, perm_all h]
/-- What is wrong with a packet does not hang on the row of its instructions. -/
theorem check_perm {p q : Pk} (h : p.insts.Perm q.insts) (h0 : p.e0 = q.e0) (h1 : p.e1 = q.e1) (h2 : p.raw = q.raw) (h3 : p.dup = q.dup) : checkP p = checkP q := by
  unfold checkP formB loopB countC
  rw [h.length_eq, perm_all h, h.countP_eq, h.countP_eq, perm_clash h, perm_fresh h, h0, h1, h2, h3]

/-- What is so of a packet that is OK. -/
structure AllOk (p : Pk) : Prop where
  form : formB p = true
  branch : countC p.insts 5 ≤ 1
  clash : clashL p.insts = false
  fresh : freshB p.insts = true
  loop : loopB p = false
theorem ok_iff (p : Pk) : checkP p = 0 ↔ AllOk p := by
  unfold checkP
  constructor
  · intro h
    by_cases h1 : formB p = true
    · by_cases h2 : 1 < countC p.insts 5
      · simp [h1, h2] at h
      · cases h3 : clashL p.insts with
        | true => simp [h1, h2, h3] at h
        | false =>
          cases h4 : freshB p.insts with
          | false => simp [h1, h2, h3, h4] at h
          | true =>
            cases h5 : loopB p with
            | true => simp [h1, h2, h3, h4, h5] at h
            | false => exact ⟨h1, by omega, h3, h4, h5⟩
    · simp [h1] at h
  · rintro ⟨h1, h2, h3, h4, h5⟩
    simp [h1, show ¬ 1 < countC p.insts 5 by omega, h3, h4, h5]
theorem form_iff (p : Pk) : formB p = true ↔ p.insts ≠ [] ∧ p.insts.length ≤ 4 ∧ (p.raw && p.dup) = false ∧ ∀ x ∈ p.insts, rightB x = true := by
  unfold formB
  simp only [Bool.and_eq_true, bne_iff_ne, decide_eq_true_eq, Bool.not_eq_true', List.all_eq_true, ne_eq, List.length_eq_zero_iff]
  constructor
  · rintro ⟨⟨⟨a, b⟩, c⟩, d⟩; exact ⟨a, b, c, d⟩
  · rintro ⟨a, b, c, d⟩; exact ⟨⟨⟨a, b⟩, c⟩, d⟩

/-! What is due. -/
def dueB (x : In) (old fr : Nat → Bool) : Bool :=
  if x.mode = 1 then old (x.pred % 4).toNat else if x.mode = 2 then !old (x.pred % 4).toNat else if x.mode = 3 then fr (x.pred % 4).toNat else if x.mode = 4 then !fr (x.pred % 4).toNat else true
theorem excl_due {a b : In} (h : exclB a b = true) (old fr : Nat → Bool) : (dueB a old fr && dueB b old fr) = false := by
  unfold exclB at h
  simp only [Bool.and_eq_true, Bool.or_eq_true, beq_iff_eq] at h
  obtain ⟨hp, ((⟨h1, h2⟩ | ⟨h1, h2⟩) | ⟨h1, h2⟩) | ⟨h1, h2⟩⟩ := h <;> simp [dueB, h1, h2, hp]
theorem count_one {α : Type} {p : α → Bool} : ∀ {l : List α}, l.Pairwise (fun a b => (p a && p b) = false) → l.countP p ≤ 1
  | [], _ => by simp
  | a :: r, h => by
    rw [List.pairwise_cons] at h
    have ih := count_one (l := r) h.2
    rw [List.countP_cons]
    by_cases ha : p a = true
    · have h0 : r.countP p = 0 := by
        rw [List.countP_eq_zero]
        intro x hx hpx
        have := h.1 x hx
        rw [ha, hpx] at this
        exact absurd this (by simp)
      rw [if_pos ha]
      omega
    · rw [if_neg ha]
      omega
/-- Of a packet that is OK no two of the instructions that are due write one register. -/
theorem due_once {p : Pk} (h : AllOk p) (old fr : Nat → Bool) (r : Int) : (p.insts.countP fun x => regB x r && dueB x old fr) ≤ 1 := by
  refine count_one ((clashL_iff _).1 h.clash |>.imp ?_)
  intro a b hc
  cases ha : regB a r <;> cases hb : regB b r <;> simp
  intro hda
  have ea : (writesP a).2 = true ∧ (writesP a).1 = r := by simpa [regB] using ha
  cases he : exclB a b with
  | true =>
    have := excl_due he old fr
    rw [hda] at this
    simpa using this
  | false =>
    have : clashP a b = true := by
      unfold clashP wClash
      rw [ea.1, ea.2, hb, he]
      rfl
    rw [this] at hc
    exact absurd hc (by simp)
theorem pred_once {p : Pk} (h : AllOk p) (r : Int) : (p.insts.countP fun x => setB x r) ≤ 1 := by
  refine count_one ((clashL_iff _).1 h.clash |>.imp ?_)
  intro a b hc
  cases ha : setB a r <;> cases hb : setB b r <;> simp
  have ea : (wpredP a).2 = true ∧ (wpredP a).1 = r := by simpa [setB] using ha
  have : clashP a b = true := by
    unfold clashP pClash
    rw [ea.1, ea.2, hb]
    simp
  rw [this] at hc
  exact absurd hc (by simp)

/-! Without one that writes nothing. -/
theorem reg_quiet {x : In} (h : (writesP x).2 = false) (r : Int) : regB x r = false := by unfold regB; rw [h]; rfl
theorem set_quiet {x : In} (h : (wpredP x).2 = false) (r : Int) : setB x r = false := by unfold setB; rw [h]; rfl
theorem less_ok {a b : List In} {x : In} {e0 e1 raw dup : Bool} (h : AllOk ⟨a ++ x :: b, e0, e1, raw, dup⟩) (hw : (writesP x).2 = false) (hp : (wpredP x).2 = false) (hl : (a ++ x :: b).length ≠ 1) (f0 f1 : Bool) (hf : (f0 || f1) = true → (e0 || e1) = true) : AllOk ⟨a ++ b, f0, f1, raw, dup⟩ := by
  have hsub : (a ++ b).Sublist (a ++ x :: b) := List.Sublist.append_left (List.sublist_cons_self x b) a
  obtain ⟨k1, k2, k3, k4⟩ := (form_iff _).1 h.form
  have hsets : ∀ r, setsB (a ++ b) r = setsB (a ++ x :: b) r := fun r => by simp [setsB, set_quiet hp]
  have hwr : ∀ r, writers (a ++ b) r = writers (a ++ x :: b) r := fun r => by simp [writers, reg_quiet hw]
  have hgd : ∀ r, goods (a ++ b) r = goods (a ++ x :: b) r := fun r => by simp [goods, goodB, reg_quiet hw]
  have hone : freshOne (a ++ b) = freshOne (a ++ x :: b) := funext fun y => by unfold freshOne; rw [hsets, hwr, hgd]
  have hcnt : ∀ c, countC (a ++ b) c ≤ countC (a ++ x :: b) c := fun c => List.Sublist.countP_le hsub
  refine ⟨(form_iff _).2 ⟨fun e => hl ?_, ?_, k3, fun y hy => k4 y (hsub.subset hy)⟩, Nat.le_trans (hcnt 5) h.branch, ?_, ?_, ?_⟩
  · have e1 : a ++ b = [] := e
    rw [List.append_eq_nil_iff] at e1
    simp [e1.1, e1.2]
  · have : (a ++ b).length ≤ (a ++ x :: b).length := hsub.length_le
    exact Nat.le_trans this k2
  · exact (clashL_iff _).2 (List.Pairwise.sublist hsub ((clashL_iff _).1 h.clash))
  · have hf := h.fresh
    unfold freshB at hf ⊢
    rw [List.all_eq_true] at hf ⊢
    intro y hy
    rw [hone]
    exact hf y (hsub.subset hy)
  · have hlp := h.loop
    unfold loopB at hlp ⊢
    simp only [Bool.and_eq_false_iff, decide_eq_false_iff_not] at hlp ⊢
    cases hff : (f0 || f1) with
    | false => exact .inl rfl
    | true =>
      rcases hlp with h1 | h1
      · have := hf hff
        rw [h1] at this
        exact absurd this (by simp)
      · have c5 := hcnt 5
        have c6 := hcnt 6
        have h1' : ¬ 0 < countC (a ++ x :: b) 5 + countC (a ++ x :: b) 6 := h1
        exact .inr (by show ¬ 0 < countC (a ++ b) 5 + countC (a ++ b) 6; omega)
theorem less_ends {p : Pk} (h : AllOk p) : AllOk { p with e0 := false, e1 := false } := ⟨h.form, h.branch, h.clash, h.fresh, rfl⟩
/-- Two instructions in each other's place. -/
theorem swap_perm (l : List In) (i j : Nat) (hi : i < l.length) (hj : j < l.length) : ((l.set i l[j]).set j l[i]).Perm l := by
  have h := Array.swap_perm (xs := l.toArray) (i := i) (j := j) (by simpa using hi) (by simpa using hj)
  have h2 := h.toList
  simpa [Array.swap] using h2
end Go.Proofs.YtdaildmoodfocaaDoor
