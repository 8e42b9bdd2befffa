/- What the program's parse reads is right: its parts, its value and its count; plain data; no condition. (Written by gen_parrt.py.) -/
import Derived.Test.YtnfmlmamgkpocaaGreatDoorGParF
import Derived.Test.YtnfmlmamgkpocaaGreatDoorGForm
namespace Go.Proofs.YtnfmlmamgkpocaaGreatDoor

theorem bind_ok' {p : PR} {f : Nat → Ln → PR} {b : Nat} {y : Ln} (h : p.bind f = .ok b y) : ∃ c z, p = .ok c z ∧ f c z = .ok b y := by
  cases p with
  | ok c z => exact ⟨c, z, rfl, h⟩
  | bad c w => cases h
section
variable {L : List Tk} {a b : Nat} {x y : Ln}
theorem sgn_rt {s : List UInt8} (h : signP L s a x = .ok b y) : y = x := by unfold signP at h; split at h <;> cases h; rfl
theorem reg_rt {f : Ln → Int → Ln} (h : regP L f a x = .ok b y) : ∃ v, 0 ≤ v ∧ v < 32 ∧ y = f x v := by
  unfold regP at h
  split at h
  · rename_i h0
    cases h
    exact ⟨_, h0, (named_small 114 32 _ (by decide)).2, rfl⟩
  · cases h
theorem pred_rt {f : Ln → Int → Ln} (h : predP L f a x = .ok b y) : ∃ v, 0 ≤ v ∧ v < 4 ∧ y = f x v := by
  unfold predP at h
  split at h
  · rename_i h0
    cases h
    exact ⟨_, h0, (named_small 112 4 _ (by decide)).2, rfl⟩
  · cases h
/-- An expression that is right, and no longer than the tokens. -/
def GoodE (L : List Tk) (e : List Tm) : Prop := rightXB e = true ∧ e.length ≤ L.length
theorem value_right {e : List Tm} {c : Nat} (h : valueR L a = (e, c, 0)) : GoodE L e := by
  have hr := readR_rd ((L.drop a).map Tk.q)
  unfold valueR at h
  generalize readR ((L.drop a).map Tk.q) = res at hr h
  cases res with
  | bad r w =>
    have := rd_why hr r w rfl
    simp only [Prod.mk.injEq] at h
    omega
  | ok e2 r =>
    simp only [Prod.mk.injEq] at h
    rw [← h.1]
    have hf := rd_few hr e2 r rfl
    simp only [List.length_map, List.length_drop] at hf
    exact ⟨post_right (rd_fine hr e2 r rfl trivial), by rw [post_len]; omega⟩
theorem expr_rt {f : Ln → List Tm → Ln} (h : exprP L f a x = .ok b y) : ∃ e, GoodE L e ∧ y = f x e := by
  unfold exprP at h
  split at h
  · rename_i h0
    cases h
    refine ⟨_, value_right (L := L) (a := a) (c := (valueR L a).2.1) ?_, rfl⟩
    rw [← h0]
  · cases h
theorem choose_rt {op : Int} (h : chooseP op a x = .ok b y) : op ≠ 0 ∧ (x.mode = 0 ∨ hasM op = true) ∧ y = pSetOp x op := by
  unfold chooseP at h
  split at h
  · cases h
  · rename_i h0
    cases h
    refine ⟨fun he => h0 (.inl he), ?_, rfl⟩
    by_cases hm : x.mode = 0
    · exact .inl hm
    · right
      cases hh : hasM op with
      | true => rfl
      | false => exact absurd (.inr ⟨hm, hh⟩) h0
theorem imm_rt (h : immP L a x = .ok b y) : ∃ f e, GoodE L e ∧ y = pSetV (pSetF x f) e := by
  unfold immP at h
  split at h
  · obtain ⟨e, h1, h2⟩ := expr_rt h
    exact ⟨_, e, h1, h2⟩
  · obtain ⟨c, z, h1, h2⟩ := bind_ok' h
    obtain rfl := sgn_rt h1
    obtain ⟨e, h3, h4⟩ := expr_rt h2
    exact ⟨_, e, h3, h4⟩
theorem target_rt (h : targetP L a x = .ok b y) : ∃ f e, GoodE L e ∧ y = pSetV (pSetF x f) e := by
  unfold targetP at h
  split at h
  · obtain ⟨e, h1, h2⟩ := expr_rt h
    exact ⟨_, e, h1, h2⟩
  · obtain ⟨e, h3, h4⟩ := expr_rt h
    exact ⟨_, e, h3, h4⟩
theorem address_rt (h : addressP L a x = .ok b y) : ∃ s f e, 0 ≤ s ∧ s < 32 ∧ GoodE L e ∧ y = pSetV (pSetF (pSetS x s) f) e := by
  obtain ⟨c, z, h1, h2⟩ := bind_ok' h
  obtain ⟨s, s0, s1, rfl⟩ := reg_rt h1
  obtain ⟨d, u, h3, h4⟩ := bind_ok' h2
  obtain rfl := sgn_rt h3
  obtain ⟨f, e, h5, h6⟩ := imm_rt h4
  exact ⟨s, f, e, s0, s1, h5, h6⟩
theorem two_rt (h : twoP L a x = .ok b y) : ∃ s, 0 ≤ s ∧ s < 32 ∧ ((∃ t, 0 ≤ t ∧ t < 32 ∧ y = pSetT (pSetS x s) t) ∨ (∃ f e, valueOp x.op ≠ 0 ∧ (x.mode = 0 ∨ hasM (valueOp x.op) = true) ∧ GoodE L e ∧ y = pSetV (pSetF (pSetOp (pSetS x s) (valueOp x.op)) f) e)) := by
  obtain ⟨c, z, h1, h2⟩ := bind_ok' h
  obtain ⟨s, s0, s1, rfl⟩ := reg_rt h1
  obtain ⟨d, u, h3, h4⟩ := bind_ok' h2
  obtain rfl := sgn_rt h3
  refine ⟨s, s0, s1, ?_⟩
  split at h4
  · obtain ⟨g, w, h5, h6⟩ := bind_ok' h4
    obtain ⟨k1, k2, rfl⟩ := choose_rt h5
    obtain ⟨f, e, h7, h8⟩ := imm_rt h6
    exact .inr ⟨f, e, k1, k2, h7, h8⟩
  · obtain ⟨t, t0, t1, h5⟩ := reg_rt h4
    exact .inl ⟨t, t0, t1, h5⟩
theorem shift_rt (h : shiftP L a x = .ok b y) : ∃ s e, 0 ≤ s ∧ s < 32 ∧ GoodE L e ∧ y = pSetV (pSetS x s) e := by
  obtain ⟨c, z, h1, h2⟩ := bind_ok' h
  obtain ⟨s, s0, s1, rfl⟩ := reg_rt h1
  obtain ⟨d, u, h3, h4⟩ := bind_ok' h2
  obtain rfl := sgn_rt h3
  obtain ⟨g, w, h5, h6⟩ := bind_ok' h4
  obtain rfl := sgn_rt h5
  obtain ⟨e, h7, h8⟩ := expr_rt h6
  exact ⟨s, e, s0, s1, h7, h8⟩
theorem new_rt (h : newP L a x = .ok b y) : ∃ t w, 0 ≤ t ∧ t < 32 ∧ y = { x with t := t, new := w } := by
  unfold newP at h
  split at h
  · rename_i h0
    cases h
    exact ⟨_, _, h0, (named_small 114 32 _ (by decide)).2, rfl⟩
  · cases h
theorem store_rt (h : storeP L a x = .ok b y) : ∃ s f e t w, 0 ≤ s ∧ s < 32 ∧ GoodE L e ∧ 0 ≤ t ∧ t < 32 ∧ y = { pSetV (pSetF (pSetS x s) f) e with t := t, new := w } := by
  obtain ⟨c, z, h1, h2⟩ := bind_ok' h
  obtain rfl := sgn_rt h1
  obtain ⟨d, u, h3, h4⟩ := bind_ok' h2
  obtain ⟨s, f, e, s0, s1, he, rfl⟩ := address_rt h3
  obtain ⟨g, w, h5, h6⟩ := bind_ok' h4
  obtain rfl := sgn_rt h5
  obtain ⟨i, v, h7, h8⟩ := bind_ok' h6
  obtain rfl := sgn_rt h7
  obtain ⟨t, q, t0, t1, h9⟩ := new_rt h8
  exact ⟨s, f, e, t, q, s0, s1, he, t0, t1, h9⟩
theorem loop_rt (h : loopP L a x = .ok b y) : ∃ f e, GoodE L e ∧ ((∃ c, GoodE L c ∧ y = pSetC (pSetV (pSetF x f) e) c) ∨ (∃ s, 0 ≤ s ∧ s < 32 ∧ (x.mode = 0 ∨ hasM 31 = true) ∧ y = pSetS (pSetOp (pSetV (pSetF x f) e) 31) s)) := by
  obtain ⟨c, z, h1, h2⟩ := bind_ok' h
  obtain rfl := sgn_rt h1
  obtain ⟨d, u, h3, h4⟩ := bind_ok' h2
  obtain ⟨f, e, he, rfl⟩ := target_rt h3
  obtain ⟨g, w, h5, h6⟩ := bind_ok' h4
  obtain rfl := sgn_rt h5
  obtain ⟨i, v, h7, h8⟩ := bind_ok' h6
  obtain rfl := sgn_rt h8
  refine ⟨f, e, he, ?_⟩
  unfold countP at h7
  split at h7
  · obtain ⟨q, h9, h10⟩ := expr_rt h7
    exact .inl ⟨q, h9, h10⟩
  · obtain ⟨j, v2, h9, h10⟩ := bind_ok' h7
    obtain ⟨-, k2, rfl⟩ := choose_rt h9
    obtain ⟨s, s0, s1, h11⟩ := reg_rt h10
    exact .inr ⟨s, s0, s1, k2, h11⟩
theorem operands_rt (h : operandsP L a x = .ok b y) :
    (x.op = 14 ∧ ∃ p s t, 0 ≤ p ∧ p < 4 ∧ 0 ≤ s ∧ s < 32 ∧ 0 ≤ t ∧ t < 32 ∧ y = pSetT (pSetS (pSetPd x p) s) t) ∨
    ((x.op = 15 ∨ x.op = 16 ∨ x.op = 17) ∧ ∃ s e, 0 ≤ s ∧ s < 32 ∧ GoodE L e ∧ y = pSetV (pSetS x s) e) ∨
    ((x.op = 21 ∨ x.op = 22 ∨ x.op = 23) ∧ ∃ s f e, 0 ≤ s ∧ s < 32 ∧ GoodE L e ∧ y = pSetV (pSetF (pSetS x s) f) e) ∨
    (x.op ≠ 14 ∧ ¬ (x.op = 15 ∨ x.op = 16 ∨ x.op = 17) ∧ ¬ (x.op = 21 ∨ x.op = 22 ∨ x.op = 23) ∧ ∃ s, 0 ≤ s ∧ s < 32 ∧ ((∃ t, 0 ≤ t ∧ t < 32 ∧ y = pSetT (pSetS x s) t) ∨ (∃ f e, valueOp x.op ≠ 0 ∧ (x.mode = 0 ∨ hasM (valueOp x.op) = true) ∧ GoodE L e ∧ y = pSetV (pSetF (pSetOp (pSetS x s) (valueOp x.op)) f) e))) := by
  obtain ⟨c, z, h1, h2⟩ := bind_ok' h
  obtain rfl := sgn_rt h1
  obtain ⟨d, u, h3, h4⟩ := bind_ok' h2
  obtain rfl := sgn_rt h4
  unfold insideP at h3
  by_cases h14 : z.op = 14
  · rw [if_pos h14] at h3
    obtain ⟨g, w, h5, h6⟩ := bind_ok' h3
    obtain ⟨p, p0, p1, rfl⟩ := pred_rt h5
    obtain ⟨i, v, h7, h8⟩ := bind_ok' h6
    obtain rfl := sgn_rt h7
    obtain ⟨s, s0, s1, h9⟩ := two_rt h8
    rcases h9 with ⟨t, t0, t1, h9⟩ | ⟨f, e, k1, -, -, -⟩
    · exact .inl ⟨h14, p, s, t, p0, p1, s0, s1, t0, t1, h9⟩
    · exact absurd (show valueOp (pSetPd z p).op = 0 from by show valueOp z.op = 0; rw [h14]; rfl) k1
  · rw [if_neg h14] at h3
    by_cases h15 : z.op = 15 ∨ z.op = 16 ∨ z.op = 17
    · rw [if_pos h15] at h3
      exact .inr (.inl ⟨h15, shift_rt h3⟩)
    · rw [if_neg h15] at h3
      by_cases h21 : z.op = 21 ∨ z.op = 22 ∨ z.op = 23
      · rw [if_pos h21] at h3
        exact .inr (.inr (.inl ⟨h21, address_rt h3⟩))
      · rw [if_neg h21] at h3
        exact .inr (.inr (.inr ⟨h14, h15, h21, two_rt h3⟩))
end
/-- Its parts, as an instruction. -/
def Ln.ins (x : Ln) : In := ⟨x.op, x.d, x.s, x.t, x.n, x.pred, x.mode, x.new, false, 0, 0⟩
def hasV (op : Int) : Bool := [7, 8, 13, 15, 16, 17, 21, 22, 23, 24, 25, 26, 27, 29, 30, 31].contains op
structure Fine (L : List Tk) (y : Ln) : Prop where
  ref : refB y.ins = true
  small : y.ins.small
  val : if hasV y.op = true then GoodE L y.value else y.value = []
  cnt : if y.op = 30 then GoodE L y.count else y.count = []
def CondOk (p m : Int) : Prop := 0 ≤ p ∧ p < 4 ∧ 0 ≤ m ∧ m ≤ 4 ∧ (m = 0 → p = 0)
/-- What a leaf of the reading leaves: small parts. -/
theorem smallL_of {y : Ln} (h : 0 ≤ y.op ∧ y.op ≤ 31 ∧ 0 ≤ y.d ∧ y.d < 32 ∧ 0 ≤ y.s ∧ y.s < 32 ∧ 0 ≤ y.t ∧ y.t < 32 ∧ 0 ≤ y.n ∧ y.n < 2 ∧ 0 ≤ y.pred ∧ y.pred < 4 ∧ 0 ≤ y.mode ∧ y.mode ≤ 4) : y.ins.small := by
  obtain ⟨h1, h2, h3, h4, h5, h6, h7, h8, h9, h10, h11, h12, h13, h14⟩ := h
  constructor <;> simp only [Ln.ins] <;> omega

theorem ref_1 {o : Int} (ho : o = 2 ∨ o = 3 ∨ o = 4 ∨ o = 5 ∨ o = 6) {d s t p m : Int} (h0 : 0 ≤ d ∧ d < 32) (h1 : 0 ≤ s ∧ s < 32) (h2 : 0 ≤ t ∧ t < 32) (h3 : CondOk p m) : refB ⟨o, d, s, t, 0, p, m, false, false, 0, 0⟩ = true := by
  unfold CondOk at *
  rcases ho with rfl | rfl | rfl | rfl | rfl
  all_goals
    simp [refB, kindZ, kindL, refK, regsB, okK, isK, condB, inZero]
    omega

theorem ref_2 {o : Int} (ho : o = 7) {d s : Int} (h0 : 0 ≤ d ∧ d < 32) (h1 : 0 ≤ s ∧ s < 32) : refB ⟨o, d, s, 0, 0, 0, 0, false, false, 0, 0⟩ = true := by
  subst ho
  simp [refB, kindZ, kindL, refK, regsB, okK, isK, withinB, inZero]
  omega

theorem ref_3 {o : Int} (ho : o = 8) {d p m : Int} (h0 : 0 ≤ d ∧ d < 32) (h1 : CondOk p m) : refB ⟨o, d, 0, 0, 0, p, m, false, false, 0, 0⟩ = true := by
  unfold CondOk at *
  subst ho
  simp [refB, kindZ, kindL, refK, regsB, okK, isK, condB, withinB, inZero]
  omega

theorem ref_4 {o : Int} (ho : o = 9) {d s p m : Int} (h0 : 0 ≤ d ∧ d < 32) (h1 : 0 ≤ s ∧ s < 32) (h2 : CondOk p m) : refB ⟨o, d, s, 0, 0, p, m, false, false, 0, 0⟩ = true := by
  unfold CondOk at *
  subst ho
  simp [refB, kindZ, kindL, refK, regsB, okK, isK, condB, inZero]
  omega

theorem ref_5 {o : Int} (ho : o = 10 ∨ o = 11 ∨ o = 12) {d s t : Int} (h0 : 0 ≤ d ∧ d < 4) (h1 : 0 ≤ s ∧ s < 32) (h2 : 0 ≤ t ∧ t < 32) : refB ⟨o, d, s, t, 0, 0, 0, false, false, 0, 0⟩ = true := by
  rcases ho with rfl | rfl | rfl
  all_goals
    simp [refB, kindZ, kindL, refK, regsB, okK, isK, inZero]
    omega

theorem ref_6 {o : Int} (ho : o = 13) {d s : Int} (h0 : 0 ≤ d ∧ d < 4) (h1 : 0 ≤ s ∧ s < 32) : refB ⟨o, d, s, 0, 0, 0, 0, false, false, 0, 0⟩ = true := by
  subst ho
  simp [refB, kindZ, kindL, refK, regsB, okK, isK, withinB, inZero]
  omega

theorem ref_7 {o : Int} (ho : o = 14) {d s t p : Int} (h0 : 0 ≤ d ∧ d < 32) (h1 : 0 ≤ s ∧ s < 32) (h2 : 0 ≤ t ∧ t < 32) (h3 : 0 ≤ p ∧ p < 4) : refB ⟨o, d, s, t, 0, p, 0, false, false, 0, 0⟩ = true := by
  subst ho
  simp [refB, kindZ, kindL, refK, regsB, okK, isK, inZero]
  omega

theorem ref_8 {o : Int} (ho : o = 15 ∨ o = 16 ∨ o = 17) {d s : Int} (h0 : 0 ≤ d ∧ d < 32) (h1 : 0 ≤ s ∧ s < 32) : refB ⟨o, d, s, 0, 0, 0, 0, false, false, 0, 0⟩ = true := by
  rcases ho with rfl | rfl | rfl
  all_goals
    simp [refB, kindZ, kindL, refK, regsB, okK, isK, inZero]
    omega

theorem ref_9 {o : Int} (ho : o = 18 ∨ o = 19 ∨ o = 20) {d s t : Int} (h0 : 0 ≤ d ∧ d < 32) (h1 : 0 ≤ s ∧ s < 32) (h2 : 0 ≤ t ∧ t < 32) : refB ⟨o, d, s, t, 0, 0, 0, false, false, 0, 0⟩ = true := by
  rcases ho with rfl | rfl | rfl
  all_goals
    simp [refB, kindZ, kindL, refK, regsB, okK, isK, inZero]
    omega

theorem ref_10 {o : Int} (ho : o = 21 ∨ o = 22 ∨ o = 23) {d s : Int} (h0 : 0 ≤ d ∧ d < 32) (h1 : 0 ≤ s ∧ s < 32) : refB ⟨o, d, s, 0, 0, 0, 0, false, false, 0, 0⟩ = true := by
  rcases ho with rfl | rfl | rfl
  all_goals
    simp [refB, kindZ, kindL, refK, regsB, okK, isK, withinB, inZero, scaleZ]
    omega

theorem ref_12 {o : Int} (ho : o = 27) {p m : Int} (h0 : CondOk p m) : refB ⟨o, 0, 0, 0, 0, p, m, false, false, 0, 0⟩ = true := by
  unfold CondOk at *
  subst ho
  simp [refB, kindZ, kindL, refK, regsB, okK, isK, condB, aimB, inZero]
  omega

theorem ref_13 {o : Int} (ho : o = 28) {s p m : Int} (h0 : 0 ≤ s ∧ s < 32) (h1 : CondOk p m) : refB ⟨o, 0, s, 0, 0, p, m, false, false, 0, 0⟩ = true := by
  unfold CondOk at *
  subst ho
  simp [refB, kindZ, kindL, refK, regsB, okK, isK, condB, inZero]
  omega

theorem ref_14 {o : Int} (ho : o = 29)   : refB ⟨o, 0, 0, 0, 0, 0, 0, false, false, 0, 0⟩ = true := by
  subst ho
  simp [refB, kindZ, kindL, refK, regsB, okK, isK, aimB, inZero]

theorem ref_15 {o : Int} (ho : o = 30) {n : Int} (h0 : 0 ≤ n ∧ n < 2) : refB ⟨o, 0, 0, 0, n, 0, 0, false, false, 0, 0⟩ = true := by
  subst ho
  simp [refB, kindZ, kindL, refK, regsB, okK, isK, aimB, inZero]
  omega

theorem ref_16 {o : Int} (ho : o = 31) {n s : Int} (h0 : 0 ≤ n ∧ n < 2) (h1 : 0 ≤ s ∧ s < 32) : refB ⟨o, 0, s, 0, n, 0, 0, false, false, 0, 0⟩ = true := by
  subst ho
  simp [refB, kindZ, kindL, refK, regsB, okK, isK, aimB, inZero]
  omega

theorem ref_17 {o : Int} (ho : o = 1)   : refB ⟨o, 0, 0, 0, 0, 0, 0, false, false, 0, 0⟩ = true := by
  subst ho
  simp [refB, kindZ, kindL, refK, regsB, okK, isK, inZero]

theorem ref_11 {o : Int} (ho : o = 24 ∨ o = 25 ∨ o = 26) {s t : Int} (w : Bool) (h0 : 0 ≤ s ∧ s < 32) (h1 : 0 ≤ t ∧ t < 32) : refB ⟨o, 0, s, t, 0, 0, 0, w, false, 0, 0⟩ = true := by
  rcases ho with rfl | rfl | rfl
  all_goals
    simp [refB, kindZ, kindL, refK, regsB, okK, isK, withinB, inZero, scaleZ]
    omega

end Go.Proofs.YtnfmlmamgkpocaaGreatDoor
