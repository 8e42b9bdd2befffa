/- What the program's parse has read of tokens it reads as well of these tokens alone; plain data; no condition but those named. -/
import Derived.Test.YtnfmlmamgkpocaaGreatDoorGParF
namespace Go.Proofs.YtnfmlmamgkpocaaGreatDoor

/-- Tokens that the reading finds as it finds others, up to a place. -/
structure Alike (m : Nat) (L O : List Tk) : Prop where
  nm : ∀ a, a < m → nameR O a = nameR L a
  sg : ∀ a, a < m → signR O a = signR L a
  vl : ∀ a e b, valueR L a = (e, b, 0) → b ≤ m → valueR O a = (e, b, 0)
/-- .. a step that reads on, or that stays. -/
def Ar (m a : Nat) (p q : PR) : Prop := ∀ b y, p = .ok b y → a < b ∧ (b ≤ m → q = .ok b y)
def Aw (m a : Nat) (p q : PR) : Prop := ∀ b y, p = .ok b y → a ≤ b ∧ (b ≤ m → q = .ok b y)
theorem Ar.weak {m a : Nat} {p q : PR} (h : Ar m a p q) : Aw m a p q := fun b y e => ⟨Nat.le_of_lt (h b y e).1, (h b y e).2⟩
theorem Ar.le {m a c : Nat} {p q : PR} (h : Ar m c p q) (hac : a ≤ c) : Ar m a p q := fun b y e => ⟨Nat.lt_of_le_of_lt hac (h b y e).1, (h b y e).2⟩
theorem Aw.lt {m a c : Nat} {p q : PR} (h : Aw m c p q) (hac : a < c) : Ar m a p q := fun b y e => ⟨Nat.lt_of_lt_of_le hac (h b y e).1, (h b y e).2⟩
theorem ar_bind {m a : Nat} {p q : PR} {f g : Nat → Ln → PR} (h : Ar m a p q) (hf : ∀ b x, p = .ok b x → Aw m b (f b x) (g b x)) : Ar m a (p.bind f) (q.bind g) := by
  intro b y e
  cases p with
  | bad c w => cases e
  | ok c x =>
    obtain ⟨h1, h2⟩ := hf c x rfl b y e
    obtain ⟨h3, h4⟩ := h c x rfl
    exact ⟨Nat.lt_of_lt_of_le h3 h1, fun hb => by rw [h4 (Nat.le_trans h1 hb)]; exact h2 hb⟩
theorem aw_bind {m a : Nat} {p q : PR} {f g : Nat → Ln → PR} (h : Aw m a p q) (hf : ∀ b x, p = .ok b x → Ar m b (f b x) (g b x)) : Ar m a (p.bind f) (q.bind g) := by
  intro b y e
  cases p with
  | bad c w => cases e
  | ok c x =>
    obtain ⟨h1, h2⟩ := hf c x rfl b y e
    obtain ⟨h3, h4⟩ := h c x rfl
    exact ⟨Nat.lt_of_le_of_lt h3 h1, fun hb => by rw [h4 (Nat.le_trans (Nat.le_of_lt h1) hb)]; exact h2 hb⟩
theorem ar_ite {m a : Nat} {c c' : Prop} [Decidable c] [Decidable c'] {r s r' s' : PR} (hc : a < m → (c ↔ c')) (h1 : c → Ar m a r r') (h2 : ¬ c → Ar m a s s') : Ar m a (if c then r else s) (if c' then r' else s') := by
  intro b y e
  by_cases h : c
  · rw [if_pos h] at e
    obtain ⟨h3, h4⟩ := h1 h b y e
    exact ⟨h3, fun hb => by rw [if_pos ((hc (Nat.lt_of_lt_of_le h3 hb)).1 h)]; exact h4 hb⟩
  · rw [if_neg h] at e
    obtain ⟨h3, h4⟩ := h2 h b y e
    exact ⟨h3, fun hb => by rw [if_neg (fun h' => h ((hc (Nat.lt_of_lt_of_le h3 hb)).2 h'))]; exact h4 hb⟩
theorem aw_ite {m a : Nat} {c : Prop} [Decidable c] {r s r' s' : PR} (h1 : c → Aw m a r r') (h2 : ¬ c → Aw m a s s') : Aw m a (if c then r else s) (if c then r' else s') := by
  by_cases h : c
  · rw [if_pos h, if_pos h]; exact h1 h
  · rw [if_neg h, if_neg h]; exact h2 h
/-- What reads one token, and hangs on that token alone. -/
theorem ar_one {m a : Nat} {p q : PR} (h1 : ∀ b y, p = .ok b y → b = a + 1) (he : a < m → q = p) : Ar m a p q := fun b y e => by
  obtain rfl := h1 b y e
  exact ⟨Nat.lt_succ_self a, fun hb => by rw [he hb, e]⟩
theorem choose_aw {m : Nat} (op : Int) (a : Nat) (x : Ln) : Aw m a (chooseP op a x) (chooseP op a x) := fun _ _ e => ⟨Nat.le_of_eq (choose_ok e).symm, fun _ => e⟩
section
variable {m : Nat} {L O : List Tk} (H : Alike m L O)
include H
theorem regz_al {a : Nat} (h : a < m) : regZ O a = regZ L a := by unfold regZ; rw [H.nm a h]
theorem predz_al {a : Nat} (h : a < m) : predZ O a = predZ L a := by unfold predZ; rw [H.nm a h]
theorem begv_al {a : Nat} (h : a < m) : beginsV O a = beginsV L a := by unfold beginsV; rw [H.sg a h]
theorem sgn_ar (s : List UInt8) (a : Nat) (x : Ln) : Ar m a (signP L s a x) (signP O s a x) :=
  ar_one (fun b y e => by unfold signP at e; split at e <;> cases e; rfl) fun hm => by unfold signP; rw [H.sg a hm]
theorem reg_ar (f : Ln → Int → Ln) (a : Nat) (x : Ln) : Ar m a (regP L f a x) (regP O f a x) :=
  ar_one (fun b y e => by unfold regP at e; split at e <;> cases e; rfl) fun hm => by unfold regP; rw [regz_al H hm]
theorem pred_ar (f : Ln → Int → Ln) (a : Nat) (x : Ln) : Ar m a (predP L f a x) (predP O f a x) :=
  ar_one (fun b y e => by unfold predP at e; split at e <;> cases e; rfl) fun hm => by unfold predP; rw [predz_al H hm]
theorem new_ar (a : Nat) (x : Ln) : Ar m a (newP L a x) (newP O a x) :=
  ar_one (fun b y e => by unfold newP at e; split at e <;> cases e; rfl) fun hm => by unfold newP; rw [H.nm a hm]
theorem expr_ar (f : Ln → List Tm → Ln) (a : Nat) (x : Ln) : Ar m a (exprP L f a x) (exprP O f a x) := by
  intro b y e
  unfold exprP at e
  split at e
  · rename_i h0
    cases e
    obtain ⟨v, hv⟩ : ∃ v, valueR L a = v := ⟨_, rfl⟩
    obtain ⟨e1, b1, w1⟩ := v
    rw [hv] at h0 ⊢
    simp only [] at h0
    subst h0
    refine ⟨?_, fun hb => by unfold exprP; rw [H.vl a e1 b1 hv hb, if_pos rfl]⟩
    have hr := readR_rd ((L.drop a).map Tk.q)
    unfold valueR at hv
    generalize readR ((L.drop a).map Tk.q) = res at hr hv
    cases res with
    | bad r w =>
      have := rd_why hr r w rfl
      simp only [Prod.mk.injEq] at hv
      omega
    | ok e2 r =>
      have hl := (rd_len hr).2 e2 r rfl
      simp only [Prod.mk.injEq] at hv
      rw [List.length_map, List.length_drop] at hl
      have : Md.sum.eats = 1 := rfl
      show a < b1
      omega
  · cases e
theorem imm_ar (a : Nat) (x : Ln) : Ar m a (immP L a x) (immP O a x) :=
  ar_ite (fun hm => by rw [H.sg a hm]) (fun _ => (expr_ar H _ (a + 1) _).le (Nat.le_succ a)) fun _ => ar_bind (sgn_ar H _ a _) fun b y _ => (expr_ar H _ b y).weak
theorem target_ar (a : Nat) (x : Ln) : Ar m a (targetP L a x) (targetP O a x) :=
  ar_ite (fun hm => by rw [H.sg a hm]) (fun _ => (expr_ar H _ (a + 1) _).le (Nat.le_succ a)) fun _ => expr_ar H _ a _
theorem address_ar (a : Nat) (x : Ln) : Ar m a (addressP L a x) (addressP O a x) :=
  ar_bind (reg_ar H _ a x) fun b y _ => (ar_bind (sgn_ar H _ b y) fun c z _ => (imm_ar H c z).weak).weak
theorem two_ar (a : Nat) (x : Ln) : Ar m a (twoP L a x) (twoP O a x) :=
  ar_bind (reg_ar H _ a x) fun b y _ => (ar_bind (sgn_ar H _ b y) fun c z _ => (ar_ite (fun hm => by rw [begv_al H hm]) (fun _ => aw_bind (choose_aw _ c z) fun d u _ => imm_ar H d u) fun _ => reg_ar H _ c z).weak).weak
theorem shift_ar (a : Nat) (x : Ln) : Ar m a (shiftP L a x) (shiftP O a x) :=
  ar_bind (reg_ar H _ a x) fun b y _ => (ar_bind (sgn_ar H _ b y) fun c z _ => (ar_bind (sgn_ar H _ c z) fun d u _ => (expr_ar H _ d u).weak).weak).weak
theorem inside_ar (a : Nat) (x : Ln) : Ar m a (insideP L a x) (insideP O a x) :=
  ar_ite (fun _ => Iff.rfl) (fun _ => ar_bind (pred_ar H _ a x) fun b y _ => (ar_bind (sgn_ar H _ b y) fun c z _ => (two_ar H c z).weak).weak) fun _ => ar_ite (fun _ => Iff.rfl) (fun _ => shift_ar H a x) fun _ => ar_ite (fun _ => Iff.rfl) (fun _ => address_ar H a x) fun _ => two_ar H a x
theorem operands_ar (a : Nat) (x : Ln) : Ar m a (operandsP L a x) (operandsP O a x) :=
  ar_bind (sgn_ar H _ a x) fun b y _ => (ar_bind (inside_ar H b y) fun c z _ => (sgn_ar H _ c z).weak).weak
theorem store_ar (a : Nat) (x : Ln) : Ar m a (storeP L a x) (storeP O a x) :=
  ar_bind (sgn_ar H _ a x) fun b y _ => (ar_bind (address_ar H b y) fun c z _ => (ar_bind (sgn_ar H _ c z) fun d u _ => (ar_bind (sgn_ar H _ d u) fun e v _ => (new_ar H e v).weak).weak).weak).weak
theorem count_ar (a : Nat) (x : Ln) : Ar m a (countP L a x) (countP O a x) :=
  ar_ite (fun hm => by rw [H.sg a hm]) (fun _ => (expr_ar H _ (a + 1) _).le (Nat.le_succ a)) fun _ => aw_bind (choose_aw _ a x) fun d u _ => reg_ar H _ d u
theorem loop_ar (a : Nat) (x : Ln) : Ar m a (loopP L a x) (loopP O a x) :=
  ar_bind (sgn_ar H _ a x) fun b y _ => (ar_bind (target_ar H b y) fun c z _ => (ar_bind (sgn_ar H _ c z) fun d u _ => (ar_bind (count_ar H d u) fun e v _ => (sgn_ar H _ e v).weak).weak).weak).weak
theorem body_aw (n : Int) (a : Nat) (x : Ln) : Aw m a (bodyP L n a x) (bodyP O n a x) :=
  aw_ite (fun _ => (target_ar H a x).weak) fun _ => aw_ite (fun _ => (reg_ar H _ a x).weak) fun _ => aw_ite (fun _ => (loop_ar H a _).weak) fun _ => aw_ite (fun _ => (store_ar H a x).weak) fun _ => fun b y e => ⟨by cases e; exact Nat.le_refl _, fun _ => e⟩
theorem pick_ar (f : List UInt8 → Int) (F G : Nat → Ln → PR) (a : Nat) (x : Ln) (h : ∀ y, Ar m a (F a y) (G a y)) : Ar m a ((chooseP (f (nameR L a)) a x).bind F) ((chooseP (f (nameR O a)) a x).bind G) := by
  have hl : Ar m a ((chooseP (f (nameR L a)) a x).bind F) ((chooseP (f (nameR L a)) a x).bind G) := aw_bind (choose_aw _ a x) fun b y e => by
    obtain rfl := choose_ok e
    exact h y
  intro b y e
  obtain ⟨h1, h2⟩ := hl b y e
  exact ⟨h1, fun hb => by rw [H.nm a (Nat.lt_of_lt_of_le h1 hb)]; exact h2 hb⟩
theorem assign_ar (a : Nat) (x : Ln) : Ar m a (assignP L a x) (assignP O a x) :=
  ar_ite (fun hm => by rw [regz_al H hm]) (fun _ => aw_bind (choose_aw _ a x) fun b y e => by
    obtain rfl := choose_ok e
    exact ar_one (fun c z e => by cases e; rfl) fun hm => by rw [regz_al H hm]) fun _ => ar_ite (fun hm => by rw [begv_al H hm]) (fun _ => aw_bind (choose_aw _ a x) fun d u _ => imm_ar H d u) fun _ => pick_ar H (fun s => (wdOf s).sets) _ _ a x fun y => (operands_ar H (a + 1) y).le (Nat.le_succ a)
theorem compare_ar (a : Nat) (x : Ln) : Ar m a (compareP L a x) (compareP O a x) := pick_ar H (fun s => (wdOf s).compares) _ _ a x fun y => (operands_ar H (a + 1) y).le (Nat.le_succ a)
theorem named_ar (a : Nat) (x : Ln) : Ar m a (namedP L a x) (namedP O a x) := by
  have hl : Ar m a (namedP L a x) ((chooseP (wdOf (nameR O a)).begins a x).bind fun b y => bodyP O (wdOf (nameR L a)).n (b + 1) y) := pick_ar H (fun s => (wdOf s).begins) _ (fun b y => bodyP O (wdOf (nameR L a)).n (b + 1) y) a x fun y => (body_aw H _ (a + 1) y).lt (Nat.lt_succ_self a)
  intro b y e
  obtain ⟨h1, h2⟩ := hl b y e
  refine ⟨h1, fun hb => ?_⟩
  rw [← h2 hb]
  unfold namedP
  rw [H.nm a (Nat.lt_of_lt_of_le h1 hb)]
theorem action_ar (a : Nat) (x : Ln) : Ar m a (actionP L a x) (actionP O a x) := by
  have hl : Ar m a (actionP L a x) (if 0 ≤ regZ L a then (signP O [61] (a + 1) { x with d := regZ L a }).bind (assignP O) else if 0 ≤ predZ L a then (chooseP 10 a x).bind fun b y => (signP O [61] (b + 1) { y with d := predZ L a }).bind (compareP O) else namedP O a x) :=
    ar_ite (fun _ => Iff.rfl) (fun _ => (ar_bind (sgn_ar H _ (a + 1) _) fun b y _ => (assign_ar H b y).weak).le (Nat.le_succ a)) fun _ => ar_ite (fun _ => Iff.rfl) (fun _ => aw_bind (choose_aw _ a x) fun b y _ => (ar_bind (sgn_ar H _ (b + 1) _) fun c z _ => (compare_ar H c z).weak).le (Nat.le_succ b)) fun _ => named_ar H a x
  intro b y e
  obtain ⟨h1, h2⟩ := hl b y e
  refine ⟨h1, fun hb => ?_⟩
  have ha := Nat.lt_of_lt_of_le h1 hb
  rw [← h2 hb]
  unfold actionP
  rw [regz_al H ha, predz_al H ha]
theorem ask_ar (q : Bool) (a : Nat) (x : Ln) : Ar m a (askP L q a x) (askP O q a x) := by
  have hl : Ar m a (askP L q a x) (if 0 ≤ namedR 112 4 (bareR (nameR L a)).1 then signP O [41] (a + 1) { x with pred := namedR 112 4 (bareR (nameR L a)).1, mode := modeZ q (bareR (nameR L a)).2 } else .bad a 8) :=
    ar_ite (fun _ => Iff.rfl) (fun _ => (sgn_ar H _ (a + 1) _).le (Nat.le_succ a)) fun _ => fun b y e => by cases e
  intro b y e
  obtain ⟨h1, h2⟩ := hl b y e
  refine ⟨h1, fun hb => ?_⟩
  rw [← h2 hb]
  unfold askP
  rw [H.nm a (Nat.lt_of_lt_of_le h1 hb)]
theorem cond_ar (x : Ln) : Ar m 0 ((signP L [40] 1 x).bind fun a x => if signR L a = [33] then askP L true (a + 1) x else askP L false a x) ((signP O [40] 1 x).bind fun a x => if signR O a = [33] then askP O true (a + 1) x else askP O false a x) :=
  (ar_bind (sgn_ar H _ 1 x) fun b y _ => (ar_ite (fun hm => by rw [H.sg b hm]) (fun _ => (ask_ar H true (b + 1) y).le (Nat.le_succ b)) fun _ => ask_ar H false b y).weak).le (Nat.zero_le 1)
/-- What has been read is read of tokens alike. -/
theorem read_al {b : Nat} {y : Ln} (e : readP L = .ok b y) (hb : b ≤ m) : readP O = .ok b y := by
  by_cases hif : nameR L 0 = [105, 102]
  · have hc : readP L = ((signP L [40] 1 lnZero).bind fun a x => if signR L a = [33] then askP L true (a + 1) x else askP L false a x).bind (actionP L) := by
      unfold readP condP
      rw [if_pos hif]
    rw [hc] at e
    obtain ⟨h1, h2⟩ := ar_bind (cond_ar H lnZero) (fun c z _ => (action_ar H c z).weak) b y e
    rw [← h2 hb]
    unfold readP condP
    rw [H.nm 0 (Nat.lt_of_lt_of_le h1 hb), if_pos hif]
  · have hc : readP L = actionP L 0 lnZero := by
      unfold readP condP
      rw [if_neg hif]
      rfl
    rw [hc] at e
    obtain ⟨h1, h2⟩ := action_ar H 0 lnZero b y e
    rw [← h2 hb]
    unfold readP condP
    rw [H.nm 0 (Nat.lt_of_lt_of_le h1 hb), if_neg hif]
    rfl
end
theorem name_q (L : List Tk) (a : Nat) : nameR L a = match (L.map Tk.q)[a]? with | some t => if t.kind = 1 then t.text else [] | none => [] := by
  unfold nameR
  rw [List.getElem?_map]
  cases L[a]? <;> rfl
theorem sign_q (L : List Tk) (a : Nat) : signR L a = match (L.map Tk.q)[a]? with | some t => if t.kind = 3 then t.text else [] | none => [] := by
  unfold signR
  rw [List.getElem?_map]
  cases L[a]? <;> rfl
/-- The first tokens, at whatever places. -/
theorem alike_first {L O : List Tk} {m : Nat} (hm : m ≤ L.length) (hq : O.map Tk.q = (L.map Tk.q).take m) : Alike m L O := by
  have hol : O.length = m := by
    have := congrArg List.length hq
    rw [List.length_map, List.length_take, List.length_map] at this
    omega
  refine ⟨fun a ha => ?_, fun a ha => ?_, fun a e b hv hb => ?_⟩
  · rw [name_q, name_q, hq, List.getElem?_take_of_lt ha]
  · rw [sign_q, sign_q, hq, List.getElem?_take_of_lt ha]
  · have hr := readR_rd ((L.drop a).map Tk.q)
    unfold valueR at hv
    generalize readR ((L.drop a).map Tk.q) = res at hr hv
    cases res with
    | bad r w =>
      have := rd_why hr r w rfl
      simp only [Prod.mk.injEq] at hv
      omega
    | ok e2 r =>
      simp only [Prod.mk.injEq, and_true] at hv
      obtain ⟨rfl, hb2⟩ := hv
      have hl := (rd_len hr).2 e2 r rfl
      have heat : Md.sum.eats = 1 := rfl
      rw [List.length_map, List.length_drop] at hl
      obtain ⟨c, e1, k⟩ := rd_same hr e2 r rfl
      have hst := rd_stops hr e2 r rfl (fun _ he => by cases he)
      have hd : (O.drop a).map Tk.q = c ++ r.take (m - b) := by
        have hLa : (L.map Tk.q).drop a = c ++ r := by rw [← List.map_drop, e1]
        rw [List.map_drop, hq, List.drop_take, hLa, List.take_append]
        have hc : c.length = b - a := by
          have := congrArg List.length e1
          rw [List.length_map, List.length_drop, List.length_append] at this
          omega
        rw [List.take_of_length_le (by omega), hc, show m - a - (b - a) = m - b by omega]
      have hst2 : Md.sum.stops (r.take (m - b)) := by
        cases r with
        | nil => rw [List.take_nil]; exact ⟨rfl, rfl, rfl⟩
        | cons t r0 =>
          cases hmb : m - b with
          | zero => exact ⟨rfl, rfl, rfl⟩
          | succ j => rw [List.take_succ_cons]; exact ⟨hst.1, hst.2.1, hst.2.2⟩
      unfold valueR
      rw [hd, readR_eq (k _ hst2)]
      simp only [Prod.mk.injEq, and_true, true_and, List.length_take]
      omega
/-- What Inst has read it reads of these tokens alone. -/
theorem inst_alone {L O : List Tk} {x : Ln} {n : Nat} (h : instP L = (x, n, 0)) (hq : O.map Tk.q = (L.map Tk.q).take n) : instP O = ({ x with line := (O[0]?.map Tk.line).getD 0, col := (O[0]?.map Tk.col).getD 0 }, n, 0) := by
  have hf := read_from L
  unfold instP at h
  split at h
  · rename_i a w hr
    have := hf.2.2 a w hr
    cases h
    omega
  · rename_i a y hr
    rw [hr] at hf
    cases h
    have h2 := read_al (alike_first hf.2.1 hq) hr (Nat.le_refl _)
    unfold instP
    rw [h2]
theorem alike_refl (m : Nat) (L : List Tk) : Alike m L L := ⟨fun _ _ => rfl, fun _ _ => rfl, fun _ _ _ h _ => h⟩
theorem read_pos {L : List Tk} {b : Nat} {y : Ln} (e : readP L = .ok b y) : 0 < b := by
  by_cases hif : nameR L 0 = [105, 102]
  · have hc : readP L = ((signP L [40] 1 lnZero).bind fun a x => if signR L a = [33] then askP L true (a + 1) x else askP L false a x).bind (actionP L) := by
      unfold readP condP
      rw [if_pos hif]
    rw [hc] at e
    exact (ar_bind (cond_ar (alike_refl b L) lnZero) (fun c z _ => (action_ar (alike_refl b L) c z).weak) b y e).1
  · have hc : readP L = actionP L 0 lnZero := by
      unfold readP condP
      rw [if_neg hif]
      rfl
    rw [hc] at e
    exact (action_ar (alike_refl b L) 0 lnZero b y e).1
theorem inst_some {L : List Tk} {x : Ln} {k : Nat} (h : instP L = (x, k, 0)) : 0 < k := by
  have hf := read_from L
  unfold instP at h
  split at h
  · rename_i a w hr
    have := hf.2.2 a w hr
    cases h
    omega
  · rename_i a y hr
    cases h
    exact read_pos hr
end Go.Proofs.YtnfmlmamgkpocaaGreatDoor
