/- The ways of writing an instruction, tried one after another: what has come farthest; ways that begin alike; plain data, no condition but those named. · Where the program's reading comes to: not ahead of where it began, nor behind the end; why it gives up; plain data. · Where the program's reading gives up at a token, nothing that stands behind that token counts; plain data; no condition but those named. -/
import Derived.Test.YtnfmlmamgkpocaaGreatDoorGParM
namespace Go.Proofs.YtnfmlmamgkpocaaGreatDoor
section

def altP : PR → PR → PR
  | .ok a x, _ => .ok a x
  | .bad _ _, .ok b y => .ok b y
  | .bad a w, .bad b v => if a < b then .bad b v else if b < a then .bad a w else .bad a (if v = 3 then 3 else w)
/-- Not ahead of a place, nor behind the end. -/
def From (n a : Nat) (r : PR) : Prop := a ≤ r.pos ∧ r.pos ≤ n ∧ ∀ b w, r = .bad b w → w = 3 ∨ w = 8
theorem from_bad {n a : Nat} (h : a ≤ n) : From n a (.bad a 8) := ⟨Nat.le_refl _, h, fun b w e => by cases e; exact .inr rfl⟩
theorem from_ok {n a b : Nat} {x : Ln} (h : a ≤ b) (h2 : b ≤ n) : From n a (.ok b x) := ⟨h, h2, fun b w e => by cases e⟩
theorem From.le {n a b : Nat} {r : PR} (h : From n b r) (hab : a ≤ b) : From n a r := ⟨Nat.le_trans hab h.1, h.2⟩
theorem from_bind {n a : Nat} {r : PR} {f : Nat → Ln → PR} (h : From n a r) (hf : ∀ b x, r = .ok b x → a ≤ b → b ≤ n → From n b (f b x)) : From n a (r.bind f) := by
  cases r with
  | ok b x => exact (hf b x rfl h.1 h.2.1).le h.1
  | bad b w => exact ⟨h.1, h.2.1, fun c v e => by cases e; exact h.2.2 b w rfl⟩
theorem alt_right {n a : Nat} {r : PR} (h : From n a r) : altP r (.bad a 8) = r := by
  cases r with
  | ok => rfl
  | bad b w =>
    have h1 := h.1
    simp only [PR.pos] at h1
    unfold altP
    simp only
    rw [if_neg (by omega)]
    split
    · rfl
    · simp
theorem alt_left {n a : Nat} {r : PR} (h : From n a r) : altP (.bad a 8) r = r := by
  cases r with
  | ok => rfl
  | bad b w =>
    have h1 := h.1
    have h2 := h.2.2 b w rfl
    simp only [PR.pos] at h1
    unfold altP
    simp only
    by_cases hlt : a < b
    · rw [if_pos hlt]
    · obtain rfl : a = b := by omega
      rw [if_neg (by omega), if_neg (by omega)]
      rcases h2 with rfl | rfl <;> simp
theorem alt_self (r : PR) : altP r r = r := by
  cases r with
  | ok => rfl
  | bad a w =>
    unfold altP
    simp
    exact fun h => h.symm
theorem alt_lt {a b : Nat} {w v : Int} (h : a < b) : altP (.bad a w) (.bad b v) = .bad b v := if_pos h
theorem alt_gt {a b : Nat} {w v : Int} (h : b < a) : altP (.bad a w) (.bad b v) = .bad a w := by
  show (if a < b then _ else if b < a then _ else _) = _
  rw [if_neg (by omega), if_pos h]
theorem alt_eq {a : Nat} {w v : Int} : altP (.bad a w) (.bad a v) = .bad a (if v = 3 then 3 else w) := by
  show (if a < a then _ else if a < a then _ else _) = _
  rw [if_neg (by omega), if_neg (by omega)]
theorem alt_assoc (f : Nat) (y : Int) (b : Nat) (w : Int) (r : PR) : altP (altP (.bad f y) (.bad b w)) r = altP (.bad f y) (altP (.bad b w) r) := by
  cases r with
  | ok c x =>
    rcases Nat.lt_trichotomy f b with h | rfl | h
    · rw [alt_lt h]; rfl
    · rw [alt_eq]; rfl
    · rw [alt_gt h]; rfl
  | bad c v =>
    rcases Nat.lt_trichotomy f b with h | rfl | h
    · rw [alt_lt h]
      rcases Nat.lt_trichotomy b c with h2 | rfl | h2
      · rw [alt_lt h2, alt_lt (Nat.lt_trans h h2)]
      · rw [alt_eq, alt_lt h]
      · rw [alt_gt h2, alt_lt h]
    · rw [alt_eq]
      rcases Nat.lt_trichotomy f c with h2 | rfl | h2
      · rw [alt_lt h2, alt_lt h2, alt_lt h2]
      · rw [alt_eq, alt_eq, alt_eq]
        by_cases h3 : v = 3
        · simp [h3]
        · simp [h3]
      · rw [alt_gt h2, alt_gt h2, alt_eq]
    · rw [alt_gt h]
      rcases Nat.lt_trichotomy b c with h2 | rfl | h2
      · rw [alt_lt h2]
      · rw [alt_eq, alt_gt h, alt_gt h]
      · rw [alt_gt h2, alt_gt h, alt_gt (Nat.lt_trans h2 h)]
theorem from_alt {n a : Nat} {r s : PR} (h : From n a r) (k : From n a s) : From n a (altP r s) := by
  cases r with
  | ok => exact h
  | bad b w => cases s with
    | ok => exact k
    | bad c v =>
      unfold altP
      simp only
      split
      · exact k
      · split
        · exact h
        · refine ⟨h.1, h.2.1, fun d u e => ?_⟩
          cases e
          split
          · exact .inl rfl
          · exact h.2.2 b w rfl
/-- A way: what it is, and what is left of it. -/
structure Wy where
  op : Int
  n : Int
  ps : List (List UInt8)
  deriving DecidableEq
noncomputable def stepP (L : List Tk) (p : List UInt8) (a : Nat) (x : Ln) : PR := if (partR L a p x).2.2 = 0 then .ok (partR L a p x).2.1 (partR L a p x).1 else .bad (partR L a p x).2.1 (partR L a p x).2.2
noncomputable def wayP (L : List Tk) : List (List UInt8) → Nat → Ln → PR
  | [], a, x => .ok a x
  | p :: ps, a, x => (stepP L p a x).bind (wayP L ps)
def finP (o n : Int) (a : Nat) (x : Ln) : PR := .ok a { x with op := o, n := n }
noncomputable def oneP (L : List Tk) (w : Wy) (a : Nat) (x : Ln) : PR := (wayP L w.ps a x).bind (finP w.op w.n)
noncomputable def allP (L : List Tk) : List Wy → Nat → Ln → PR
  | [], a, _ => .bad a 8
  | w :: ws, a, x => altP (oneP L w a x) (allP L ws a x)
/-! Places. -/
theorem nameR_lt {L : List Tk} {a : Nat} (h : nameR L a ≠ []) : a < L.length := by
  refine Nat.lt_of_not_le fun hn => h ?_
  unfold nameR
  rw [List.getElem?_eq_none hn]
theorem signR_lt {L : List Tk} {a : Nat} (h : signR L a ≠ []) : a < L.length := by
  refine Nat.lt_of_not_le fun hn => h ?_
  unfold signR
  rw [List.getElem?_eq_none hn]
theorem named_ne {c : UInt8} {b : Int} {s : List UInt8} (h : 0 ≤ namedR c b s) : s ≠ [] := by
  rintro rfl
  simp [namedR] at h
theorem bare_ne {s : List UInt8} (h : (bareR s).1 ≠ []) : s ≠ [] := by
  rintro rfl
  simp [bareR] at h
theorem value_from (L : List Tk) (a : Nat) (h : a ≤ L.length) : a ≤ (valueR L a).2.1 ∧ (valueR L a).2.1 ≤ L.length ∧ ((valueR L a).2.2 = 0 ∨ (valueR L a).2.2 = 3 ∨ (valueR L a).2.2 = 8) := by
  have hr := readR_rd ((L.drop a).map Tk.q)
  have hd : (L.drop a).map Tk.q = (L.map Tk.q).drop a := List.map_drop ..
  have hq : (L.map Tk.q).length = L.length := List.length_map ..
  unfold valueR
  generalize readR ((L.drop a).map Tk.q) = res at hr
  rw [hd] at hr
  obtain ⟨k, h1, h2, h3⟩ := rest_drop hr (by omega)
  have hl : res.rest.length = L.length - k := by rw [h3, List.length_drop, hq]
  cases res with
  | ok e r =>
    simp only [Rs.rest] at hl
    refine ⟨?_, ?_, .inl rfl⟩
    · show a ≤ L.length - r.length
      omega
    · show L.length - r.length ≤ L.length
      omega
  | bad r w =>
    simp only [Rs.rest] at hl
    refine ⟨?_, ?_, .inr (rd_why hr r w rfl)⟩
    · show a ≤ L.length - r.length
      omega
    · show L.length - r.length ≤ L.length
      omega
theorem expr_from (L : List Tk) (f : Ln → List Tm → Ln) (a : Nat) (x : Ln) (h : a ≤ L.length) : From L.length a (exprP L f a x) := by
  obtain ⟨h1, h2, h3⟩ := value_from L a h
  unfold exprP
  split
  · exact from_ok h1 h2
  · rename_i hne
    exact ⟨h1, h2, fun b w e => by cases e; exact h3.resolve_left hne⟩
theorem sign_from (L : List Tk) {s : List UInt8} (hs : s ≠ []) (a : Nat) (x : Ln) (h : a ≤ L.length) : From L.length a (signP L s a x) := by
  unfold signP
  split
  · rename_i h2
    have := signR_lt (by rw [h2]; exact hs)
    exact from_ok (by omega) (by omega)
  · exact from_bad h
theorem reg_from (L : List Tk) (f : Ln → Int → Ln) (a : Nat) (x : Ln) (h : a ≤ L.length) : From L.length a (regP L f a x) := by
  unfold regP
  split
  · rename_i h2
    have := nameR_lt (named_ne h2)
    exact from_ok (by omega) (by omega)
  · exact from_bad h
theorem pred_from (L : List Tk) (f : Ln → Int → Ln) (a : Nat) (x : Ln) (h : a ≤ L.length) : From L.length a (predP L f a x) := by
  unfold predP
  split
  · rename_i h2
    have := nameR_lt (named_ne h2)
    exact from_ok (by omega) (by omega)
  · exact from_bad h
/-! Each part of a way, as the program reads it. -/
def pSetD (x : Ln) (v : Int) : Ln := { x with d := v }
theorem st_R (L : List Tk) (a : Nat) (x : Ln) : stepP L [82] a x = regP L pSetD a x := by
  unfold stepP partR regP regZ
  by_cases h : namedR 114 32 (nameR L a) < 0
  · simp [h, show ¬ (0 ≤ namedR 114 32 (nameR L a)) by omega]
  · simp [h, show (0 ≤ namedR 114 32 (nameR L a)) by omega, pSetD]
theorem st_S (L : List Tk) (a : Nat) (x : Ln) : stepP L [83] a x = regP L pSetS a x := by
  unfold stepP partR regP regZ
  by_cases h : namedR 114 32 (nameR L a) < 0
  · simp [h, show ¬ (0 ≤ namedR 114 32 (nameR L a)) by omega]
  · simp [h, show (0 ≤ namedR 114 32 (nameR L a)) by omega, pSetS]
theorem st_T (L : List Tk) (a : Nat) (x : Ln) : stepP L [84] a x = regP L pSetT a x := by
  unfold stepP partR regP regZ
  by_cases h : namedR 114 32 (nameR L a) < 0
  · simp [h, show ¬ (0 ≤ namedR 114 32 (nameR L a)) by omega]
  · simp [h, show (0 ≤ namedR 114 32 (nameR L a)) by omega, pSetT]
theorem st_P (L : List Tk) (a : Nat) (x : Ln) : stepP L [80] a x = predP L pSetPd a x := by
  unfold stepP partR predP predZ
  by_cases h : namedR 112 4 (nameR L a) < 0
  · simp [h, show ¬ (0 ≤ namedR 112 4 (nameR L a)) by omega]
  · simp [h, show (0 ≤ namedR 112 4 (nameR L a)) by omega, pSetPd]
theorem st_Q (L : List Tk) (a : Nat) (x : Ln) : stepP L [81] a x = predP L pSetD a x := by
  unfold stepP partR predP predZ
  by_cases h : namedR 112 4 (nameR L a) < 0
  · simp [h, show ¬ (0 ≤ namedR 112 4 (nameR L a)) by omega]
  · simp [h, show (0 ≤ namedR 112 4 (nameR L a)) by omega, pSetD]
/-- A register with .new. -/
def freshP (L : List Tk) (a : Nat) (x : Ln) : PR := if 0 ≤ namedR 114 32 (bareR (nameR L a)).1 ∧ (bareR (nameR L a)).2 = true then .ok (a + 1) { x with t := namedR 114 32 (bareR (nameR L a)).1, new := true } else .bad a 8
theorem st_U (L : List Tk) (a : Nat) (x : Ln) : stepP L [85] a x = freshP L a x := by
  unfold stepP partR freshP
  by_cases h : namedR 114 32 (bareR (nameR L a)).1 < 0
  · simp [h, show ¬ (0 ≤ namedR 114 32 (bareR (nameR L a)).1) by omega]
  · have h2 : (0 ≤ namedR 114 32 (bareR (nameR L a)).1) := by omega
    cases hb : (bareR (nameR L a)).2 <;> simp [h, h2]
theorem st_I (L : List Tk) (a : Nat) (x : Ln) (hx : x.forced = false) : stepP L [73] a x = immP L a x := by
  unfold stepP partR immP exprP signP
  by_cases h : signR L a = [35, 35]
  · simp [h, pSetF, pSetV]
  · by_cases h2 : signR L a = [35]
    · simp [h2, pSetF, pSetV, PR.bind, hx]
    · simp [h, h2, PR.bind]
theorem st_H (L : List Tk) (a : Nat) (x : Ln) : stepP L [72] a x = (signP L [35] a x).bind (exprP L pSetV) := by
  unfold stepP partR signP
  by_cases h : signR L a = [35]
  · simp [h, PR.bind, exprP, pSetV]
  · simp [h, PR.bind]
theorem st_C (L : List Tk) (a : Nat) (x : Ln) : stepP L [67] a x = (signP L [35] a x).bind (exprP L pSetC) := by
  unfold stepP partR signP
  by_cases h : signR L a = [35]
  · simp [h, PR.bind, exprP, pSetC]
  · simp [h, PR.bind]
theorem st_G (L : List Tk) (a : Nat) (x : Ln) (hx : x.forced = false) : stepP L [71] a x = targetP L a x := by
  unfold stepP partR targetP exprP
  by_cases h : signR L a = [35, 35]
  · simp [h, pSetF, pSetV]
  · simp [h, pSetF, pSetV, hx]
def isMark (p : List UInt8) : Bool := decide (p = [82]) || decide (p = [83]) || decide (p = [84]) || decide (p = [85]) || decide (p = [80]) || decide (p = [81]) || decide (p = [73]) || decide (p = [72]) || decide (p = [67]) || decide (p = [71])
theorem st_lit (L : List Tk) (p : List UInt8) (hp : isMark p = false) (a : Nat) (x : Ln) : stepP L p a x = if (lowR p = true ∧ nameR L a = p) ∨ signR L a = p then .ok (a + 1) x else .bad a 8 := by
  simp only [isMark, Bool.or_eq_false_iff, decide_eq_false_iff_not] at hp
  unfold stepP partR
  simp only [hp, or_self, if_false]
  split <;> simp
/-- No sign is a word. -/
def PlainS (L : List Tk) : Prop := ∀ a, lowR (signR L a) = false
theorem st_word (L : List Tk) (hL : PlainS L) (p : List UInt8) (hp : isMark p = false) (hl : lowR p = true) (a : Nat) (x : Ln) : stepP L p a x = if nameR L a = p then .ok (a + 1) x else .bad a 8 := by
  rw [st_lit L p hp]
  have : ¬ signR L a = p := fun h => by have := hL a; rw [h, hl] at this; cases this
  simp [hl, this]
theorem st_sign (L : List Tk) (p : List UInt8) (hp : isMark p = false) (hl : lowR p = false) (a : Nat) (x : Ln) : stepP L p a x = signP L p a x := by
  rw [st_lit L p hp]
  unfold signP
  simp [hl]
theorem fresh_from (L : List Tk) (a : Nat) (x : Ln) (h : a ≤ L.length) : From L.length a (freshP L a x) := by
  unfold freshP
  split
  · rename_i h2
    have := nameR_lt (bare_ne (named_ne h2.1))
    exact from_ok (by omega) (by omega)
  · exact from_bad h
theorem step_from (L : List Tk) {p : List UInt8} (hp : p ≠ []) (a : Nat) (x : Ln) (h : a ≤ L.length) : From L.length a (stepP L p a x) := by
  by_cases h1 : p = [82]
  · rw [h1, st_R]; exact reg_from L _ a x h
  by_cases h2 : p = [83]
  · rw [h2, st_S]; exact reg_from L _ a x h
  by_cases h3 : p = [84]
  · rw [h3, st_T]; exact reg_from L _ a x h
  by_cases h4 : p = [85]
  · rw [h4, st_U]; exact fresh_from L a x h
  by_cases h5 : p = [80]
  · rw [h5, st_P]; exact pred_from L _ a x h
  by_cases h6 : p = [81]
  · rw [h6, st_Q]; exact pred_from L _ a x h
  by_cases h7 : p = [73]
  · subst h7
    have e := expr_from L pSetV (a + 1) x
    have e2 := value_from L (a + 1)
    unfold stepP partR
    by_cases k : signR L a = [35, 35]
    · have := signR_lt (L := L) (a := a) (by rw [k]; simp)
      obtain ⟨q1, q2, q3⟩ := e2 (by omega)
      simp only [k]
      simp
      split
      · exact from_ok (by omega) q2
      · rename_i hne
        exact ⟨by simp only [PR.pos]; omega, q2, fun b w e => by cases e; exact q3.resolve_left hne⟩
    · by_cases k2 : signR L a = [35]
      · have := signR_lt (L := L) (a := a) (by rw [k2]; simp)
        obtain ⟨q1, q2, q3⟩ := e2 (by omega)
        simp only [k2]
        simp
        split
        · exact from_ok (by omega) q2
        · rename_i hne
          exact ⟨by simp only [PR.pos]; omega, q2, fun b w e => by cases e; exact q3.resolve_left hne⟩
      · simp [k, k2]
        exact from_bad h
  by_cases h8 : p = [72]
  · rw [h8, st_H]; exact from_bind (sign_from L (by simp) a x h) fun b y _ _ hb => expr_from L _ b y hb
  by_cases h9 : p = [67]
  · rw [h9, st_C]; exact from_bind (sign_from L (by simp) a x h) fun b y _ _ hb => expr_from L _ b y hb
  by_cases h10 : p = [71]
  · subst h10
    have e1 := value_from L a h
    have e2 := value_from L (a + 1)
    unfold stepP partR
    by_cases k : signR L a = [35, 35]
    · have := signR_lt (L := L) (a := a) (by rw [k]; simp)
      obtain ⟨q1, q2, q3⟩ := e2 (by omega)
      simp only [k]
      simp
      split
      · exact from_ok (by omega) q2
      · rename_i hne
        exact ⟨by simp only [PR.pos]; omega, q2, fun b w e => by cases e; exact q3.resolve_left hne⟩
    · obtain ⟨q1, q2, q3⟩ := e1
      simp [k]
      split
      · exact from_ok (by omega) q2
      · rename_i hne
        exact ⟨by simp only [PR.pos]; omega, q2, fun b w e => by cases e; exact q3.resolve_left hne⟩
  rw [st_lit L p (by simp [isMark, h1, h2, h3, h4, h5, h6, h7, h8, h9, h10])]
  split
  · rename_i hk
    have hlt : a < L.length := by
      rcases hk with ⟨_, hk⟩ | hk
      · exact nameR_lt (by rw [hk]; exact hp)
      · exact signR_lt (by rw [hk]; exact hp)
    exact from_ok (by omega) (by omega)
  · exact from_bad h
theorem way_from (L : List Tk) : ∀ (ps : List (List UInt8)), (∀ p ∈ ps, p ≠ []) → ∀ (a : Nat) (x : Ln), a ≤ L.length → From L.length a (wayP L ps a x)
  | [], _, _, _, h => from_ok (Nat.le_refl _) h
  | p :: ps, hp, a, x, h => from_bind (step_from L (hp p (List.mem_cons_self ..)) a x h) fun b y _ _ hb => way_from L ps (fun q hq => hp q (List.mem_cons_of_mem _ hq)) b y hb
def goodW (w : Wy) : Bool := w.ps.all fun p => decide (p ≠ [])
theorem one_from (L : List Tk) {w : Wy} (hw : goodW w = true) (a : Nat) (x : Ln) (h : a ≤ L.length) : From L.length a (oneP L w a x) :=
  from_bind (way_from L w.ps (fun p hp => of_decide_eq_true (List.all_eq_true.1 hw p hp)) a x h) fun _ _ _ _ hb => from_ok (Nat.le_refl _) hb
theorem all_from (L : List Tk) : ∀ (ws : List Wy), ws.all goodW = true → ∀ (a : Nat) (x : Ln), a ≤ L.length → From L.length a (allP L ws a x)
  | [], _, a, _, h => from_bad h
  | w :: ws, hw, a, x, h => by
    simp only [List.all_cons, Bool.and_eq_true] at hw
    exact from_alt (one_from L hw.1 a x h) (all_from L ws hw.2 a x h)
/-- A way that ends at once tells nothing. -/
theorem all_drop (L : List Tk) {ws : List Wy} {w : Wy} {a : Nat} {x : Ln} (ha : a ≤ L.length) (hg : ws.all goodW = true) (h : oneP L w a x = .bad a 8) : allP L (w :: ws) a x = allP L ws a x := by
  show altP (oneP L w a x) _ = _
  rw [h, alt_left (all_from L ws hg a x ha)]
theorem all_one (L : List Tk) {w : Wy} {a : Nat} {x : Ln} (ha : a ≤ L.length) (hg : goodW w = true) : allP L [w] a x = oneP L w a x := alt_right (one_from L hg a x ha)
def Wy.more (p : List UInt8) (w : Wy) : Wy := ⟨w.op, w.n, p :: w.ps⟩
theorem one_more (L : List Tk) (p : List UInt8) (w : Wy) (a : Nat) (x : Ln) : oneP L (w.more p) a x = (stepP L p a x).bind (oneP L w) := by
  show ((stepP L p a x).bind (wayP L w.ps)).bind _ = _
  cases stepP L p a x <;> rfl
/-- Ways that begin alike. -/
theorem all_alike (L : List Tk) {p : List UInt8} (hp : p ≠ []) : ∀ (ws : List Wy), ws ≠ [] → ws.all goodW = true → ∀ (a : Nat) (x : Ln), a ≤ L.length → allP L (ws.map (Wy.more p)) a x = (stepP L p a x).bind (allP L ws)
  | [], h, _, _, _, _ => absurd rfl h
  | [w], _, hg, a, x, ha => by
    simp only [List.all_cons, List.all_nil, Bool.and_true] at hg
    have hs := step_from L hp a x ha
    show altP (oneP L (w.more p) a x) (.bad a 8) = _
    rw [one_more]
    cases he : stepP L p a x with
    | ok b y =>
      rw [he] at hs
      have h1 := one_from L hg b y hs.2.1
      show altP (oneP L w b y) (.bad a 8) = altP (oneP L w b y) (.bad b 8)
      rw [alt_right h1, alt_right (h1.le hs.1)]
    | bad b v =>
      rw [he] at hs
      exact alt_right hs
  | w :: w2 :: ws, _, hg, a, x, ha => by
    have ih := all_alike L hp (w2 :: ws) (by simp) (by simp only [List.all_cons, Bool.and_eq_true] at hg ⊢; exact hg.2) a x ha
    show altP (oneP L (w.more p) a x) (allP L ((w2 :: ws).map (Wy.more p)) a x) = _
    rw [one_more, ih]
    cases he : stepP L p a x with
    | ok b y => rfl
    | bad b v => exact alt_self _
/-! All ways in the document's order. -/
def outP : PR → Ln × Nat × Int
  | .ok a x => (x, a, 0)
  | .bad a w => (lnZero, a, w)
theorem wayR_eq (L : List Tk) : ∀ (ps : List (List UInt8)) (a : Nat) (x : Ln), (∃ b y, wayR L ps a x = (y, b, 0) ∧ wayP L ps a x = .ok b y) ∨ ∃ b y w, wayR L ps a x = (y, b, w) ∧ w ≠ 0 ∧ wayP L ps a x = .bad b w
  | [], a, x => .inl ⟨a, x, rfl, rfl⟩
  | p :: ps, a, x => by
    obtain ⟨⟨y, b, w⟩, hy⟩ : ∃ t, partR L a p x = t := ⟨_, rfl⟩
    have e1 : wayR L (p :: ps) a x = if w = 0 then wayR L ps b y else (y, b, w) := by
      show (match partR L a p x with | (y, b, bad) => if bad = 0 then wayR L ps b y else (y, b, bad)) = _
      rw [hy]
    have e2 : wayP L (p :: ps) a x = (if w = 0 then PR.ok b y else .bad b w).bind (wayP L ps) := by
      show (stepP L p a x).bind _ = _
      unfold stepP
      rw [hy]
    by_cases hw : w = 0
    · rw [e1, e2, if_pos hw, if_pos hw]
      exact wayR_eq L ps b y
    · rw [e1, e2, if_neg hw, if_neg hw]
      exact .inr ⟨b, y, w, rfl, hw, rfl⟩
def wyOf (w : List (List UInt8)) : Wy := ⟨numR (w[0]?.getD []), numR (w[1]?.getD []), w.drop 3⟩
def waysOf (cond : Bool) (W : List (List (List UInt8))) : List Wy := (W.filter fun w => !cond || decide (w[2]? = some [99])).map wyOf
theorem tryR_eq (L : List Tk) (cond : Bool) (fr : Nat) (x : Ln) : ∀ (W : List (List (List UInt8))) (far : Nat) (why : Int), fr ≤ far → tryR L cond fr x W far why = outP (altP (.bad far why) (allP L (waysOf cond W) fr x))
  | [], far, why, h => by
    show (lnZero, far, why) = outP (altP (.bad far why) (.bad fr 8))
    unfold altP
    simp only
    rw [if_neg (by omega)]
    split
    · rfl
    · simp [outP]
  | w :: W, far, why, h => by
    have ih := tryR_eq L cond fr x W
    unfold tryR
    by_cases hc : cond = true ∧ w[2]? ≠ some [99]
    · rw [if_pos hc, ih far why h]
      have : waysOf cond (w :: W) = waysOf cond W := by
        unfold waysOf
        rw [List.filter_cons_of_neg (by simp [hc.1, hc.2])]
      rw [this]
    · rw [if_neg hc]
      have : waysOf cond (w :: W) = wyOf w :: waysOf cond W := by
        unfold waysOf
        rw [List.filter_cons_of_pos, List.map_cons]
        cases cond with
        | false => rfl
        | true =>
          have : w[2]? = some [99] := by
            by_cases hw : w[2]? = some [99]
            · exact hw
            · exact absurd ⟨rfl, hw⟩ hc
          simp [this]
      rw [this]
      show _ = outP (altP (.bad far why) (altP (oneP L (wyOf w) fr x) (allP L (waysOf cond W) fr x)))
      rcases wayR_eq L (w.drop 3) fr x with ⟨b, y, e1, e2⟩ | ⟨b, y, v, e1, hv, e2⟩
      · rw [e1]
        have : oneP L (wyOf w) fr x = .ok b { y with op := (wyOf w).op, n := (wyOf w).n } := by
          show (wayP L (w.drop 3) fr x).bind _ = _
          rw [e2]
          rfl
        rw [this]
        rfl
      · rw [e1]
        have : oneP L (wyOf w) fr x = .bad b v := by
          show (wayP L (w.drop 3) fr x).bind _ = _
          rw [e2]
          rfl
        rw [this, ← alt_assoc]
        simp only [if_neg hv]
        have hst : altP (.bad far why) (.bad b v) = .bad (if far < b then b else far) (if (if far < b then b else far) = b ∧ v = 3 then v else if far < b then v else why) := by
          unfold altP
          simp only
          by_cases h1 : far < b
          · simp [h1]
          · by_cases h2 : b < far
            · simp [h1, h2, show far ≠ b by omega]
            · obtain rfl : far = b := by omega
              by_cases h3 : v = 3
              · simp [h3]
              · simp [h3]
        rw [hst]
        exact ih _ _ (by split <;> omega)
end
section

theorem choose_from {n a : Nat} (op : Int) (x : Ln) (h : a ≤ n) : From n a (chooseP op a x) := by
  unfold chooseP
  split
  · exact from_bad h
  · exact from_ok (Nat.le_refl _) h
theorem from_ite {n a : Nat} {c : Prop} [Decidable c] {r s : PR} (h1 : c → From n a r) (h2 : ¬ c → From n a s) : From n a (if c then r else s) := by
  split
  · rename_i h; exact h1 h
  · rename_i h; exact h2 h
theorem From.more {n a b : Nat} {r : PR} (h : From n b r) (hab : a ≤ b) : From n a r := h.le hab
section
variable (L : List Tk)
theorem imm_from (a : Nat) (x : Ln) (h : a ≤ L.length) : From L.length a (immP L a x) :=
  from_ite (fun hc => (expr_from L _ (a + 1) _ (by have := signR_lt (L := L) (a := a) (by rw [hc]; decide); omega)).le (Nat.le_succ a)) fun _ => from_bind (sign_from L (by decide) a _ h) fun b y _ _ hb => expr_from L _ b y hb
theorem target_from (a : Nat) (x : Ln) (h : a ≤ L.length) : From L.length a (targetP L a x) :=
  from_ite (fun hc => (expr_from L _ (a + 1) _ (by have := signR_lt (L := L) (a := a) (by rw [hc]; decide); omega)).le (Nat.le_succ a)) fun _ => expr_from L _ a _ h
theorem address_from (a : Nat) (x : Ln) (h : a ≤ L.length) : From L.length a (addressP L a x) :=
  from_bind (reg_from L _ a x h) fun b y _ _ hb => from_bind (sign_from L (by decide) b y hb) fun c z _ _ hc => imm_from L c z hc
theorem two_from (a : Nat) (x : Ln) (h : a ≤ L.length) : From L.length a (twoP L a x) :=
  from_bind (reg_from L _ a x h) fun b y _ _ hb => from_bind (sign_from L (by decide) b y hb) fun c z _ _ hc => from_ite (fun _ => from_bind (choose_from _ z hc) fun d u _ _ hd => imm_from L d u hd) fun _ => reg_from L _ c z hc
theorem shift_from (a : Nat) (x : Ln) (h : a ≤ L.length) : From L.length a (shiftP L a x) :=
  from_bind (reg_from L _ a x h) fun b y _ _ hb => from_bind (sign_from L (by decide) b y hb) fun c z _ _ hc => from_bind (sign_from L (by decide) c z hc) fun d u _ _ hd => expr_from L _ d u hd
theorem inside_from (a : Nat) (x : Ln) (h : a ≤ L.length) : From L.length a (insideP L a x) :=
  from_ite (fun _ => from_bind (pred_from L _ a x h) fun b y _ _ hb => from_bind (sign_from L (by decide) b y hb) fun c z _ _ hc => two_from L c z hc) fun _ => from_ite (fun _ => shift_from L a x h) fun _ => from_ite (fun _ => address_from L a x h) fun _ => two_from L a x h
theorem operands_from (a : Nat) (x : Ln) (h : a ≤ L.length) : From L.length a (operandsP L a x) :=
  from_bind (sign_from L (by decide) a x h) fun b y _ _ hb => from_bind (inside_from L b y hb) fun c z _ _ hc => sign_from L (by decide) c z hc
theorem new_from (a : Nat) (x : Ln) (h : a ≤ L.length) : From L.length a (newP L a x) :=
  from_ite (fun hc => from_ok (Nat.le_succ a) (nameR_lt (bare_ne (named_ne hc)))) fun _ => from_bad h
theorem store_from (a : Nat) (x : Ln) (h : a ≤ L.length) : From L.length a (storeP L a x) :=
  from_bind (sign_from L (by decide) a x h) fun b y _ _ hb => from_bind (address_from L b y hb) fun c z _ _ hc => from_bind (sign_from L (by decide) c z hc) fun d u _ _ hd => from_bind (sign_from L (by decide) d u hd) fun e v _ _ he => new_from L e v he
theorem count_from (a : Nat) (x : Ln) (h : a ≤ L.length) : From L.length a (countP L a x) :=
  from_ite (fun hc => (expr_from L _ (a + 1) _ (by have := signR_lt (L := L) (a := a) (by rw [hc]; decide); omega)).le (Nat.le_succ a)) fun _ => from_bind (choose_from _ x h) fun d u _ _ hd => reg_from L _ d u hd
theorem loop_from (a : Nat) (x : Ln) (h : a ≤ L.length) : From L.length a (loopP L a x) :=
  from_bind (sign_from L (by decide) a x h) fun b y _ _ hb => from_bind (target_from L b y hb) fun c z _ _ hc => from_bind (sign_from L (by decide) c z hc) fun d u _ _ hd => from_bind (count_from L d u hd) fun e v _ _ he => sign_from L (by decide) e v he
theorem nameR_lt' {a : Nat} {x y : Ln} {b : Nat} (f : List UInt8 → Int) (h0 : f [] = 0) (h : chooseP (f (nameR L a)) a x = .ok b y) : b = a ∧ a < L.length := by
  unfold chooseP at h
  split at h
  · cases h
  · rename_i hn
    cases h
    exact ⟨rfl, nameR_lt fun he => hn (.inl (by rw [he]; exact h0))⟩
theorem assign_from (a : Nat) (x : Ln) (h : a ≤ L.length) : From L.length a (assignP L a x) :=
  from_ite (fun hc => from_bind (choose_from _ x h) fun b y hb _ _ => by
    have hlt := nameR_lt (L := L) (a := a) (named_ne hc)
    have : b = a := by
      unfold chooseP at hb
      split at hb
      · cases hb
      · cases hb; rfl
    subst this
    exact from_ok (Nat.le_succ b) hlt) fun _ => from_ite (fun _ => from_bind (choose_from _ x h) fun d u _ _ hd => imm_from L d u hd) fun _ => from_bind (choose_from _ x h) fun b y hb _ _ => by
    obtain ⟨rfl, hlt⟩ := nameR_lt' L (fun s => (wdOf s).sets) (by decide) hb
    exact (operands_from L (b + 1) y hlt).le (Nat.le_succ b)
theorem compare_from (a : Nat) (x : Ln) (h : a ≤ L.length) : From L.length a (compareP L a x) :=
  from_bind (choose_from _ x h) fun b y hb _ _ => by
    obtain ⟨rfl, hlt⟩ := nameR_lt' L (fun s => (wdOf s).compares) (by decide) hb
    exact (operands_from L (b + 1) y hlt).le (Nat.le_succ b)
theorem body_from (n : Int) (a : Nat) (x : Ln) (h : a ≤ L.length) : From L.length a (bodyP L n a x) :=
  from_ite (fun _ => target_from L a x h) fun _ => from_ite (fun _ => reg_from L _ a x h) fun _ => from_ite (fun _ => loop_from L a _ h) fun _ => from_ite (fun _ => store_from L a x h) fun _ => from_ok (Nat.le_refl _) h
theorem named_from (a : Nat) (x : Ln) (h : a ≤ L.length) : From L.length a (namedP L a x) :=
  from_bind (choose_from _ x h) fun b y hb _ _ => by
    obtain ⟨rfl, hlt⟩ := nameR_lt' L (fun s => (wdOf s).begins) (by decide) hb
    exact (body_from L _ (b + 1) y hlt).le (Nat.le_succ b)
theorem action_from (a : Nat) (x : Ln) (h : a ≤ L.length) : From L.length a (actionP L a x) :=
  from_ite (fun hc => (from_bind (sign_from L (by decide) (a + 1) _ (nameR_lt (named_ne hc))) fun b y _ _ hb => assign_from L b y hb).le (Nat.le_succ a)) fun _ => from_ite (fun hc => from_bind (choose_from _ x h) fun b y hb _ _ => by
    have : b = a := by
      unfold chooseP at hb
      split at hb
      · cases hb
      · cases hb; rfl
    subst this
    exact (from_bind (sign_from L (by decide) (b + 1) _ (nameR_lt (named_ne hc))) fun c z _ _ hc => compare_from L c z hc).le (Nat.le_succ b)) fun _ => named_from L a x h
theorem ask_from (q : Bool) (a : Nat) (x : Ln) (h : a ≤ L.length) : From L.length a (askP L q a x) :=
  from_ite (fun hc => (sign_from L (by decide) (a + 1) _ (nameR_lt (bare_ne (named_ne hc)))).le (Nat.le_succ a)) fun _ => from_bad h
theorem cond_from (a : Nat) (x : Ln) (h : a ≤ L.length) : From L.length a (condP L a x) :=
  from_ite (fun hc => (from_bind (sign_from L (by decide) (a + 1) x (nameR_lt (by rw [hc]; decide))) fun b y _ _ hb => from_ite (fun hs => (ask_from L true (b + 1) y (signR_lt (by rw [hs]; decide))).le (Nat.le_succ b)) fun _ => ask_from L false b y hb).le (Nat.le_succ a)) fun _ => from_ok (Nat.le_refl _) h
theorem read_from : From L.length 0 (readP L) := from_bind (cond_from L 0 lnZero (Nat.zero_le _)) fun b y _ _ hb => action_from L b y hb
theorem read_why {k : Nat} {w : Int} (h : readP L = .bad k w) : w = 3 ∨ w = 8 := (read_from L).2.2 k w h
theorem read_some {k : Nat} {x : Ln} (h : readP L = .ok k x) : 0 < L.length := by
  refine Nat.pos_of_ne_zero fun hn => ?_
  obtain rfl := List.eq_nil_of_length_eq_zero hn
  have : readP [] = .bad 0 8 := by
    unfold readP condP actionP namedP
    rw [if_neg (by decide)]
    simp only [PR.bind]
    rw [if_neg (by decide), if_neg (by decide)]
    rfl
  rw [this] at h
  cases h
end
end
section

theorem rd_stops {m : Md} {d : Nat} {ts : List Tq} {res : Rs} (h : Rd m d ts res) : ∀ a r, res = .ok a r → (∀ e, m = .st e → isSg 42 ts = false) → m.stops r := by
  induction h with
  | prodOk hf hp ih1 ih2 => intro a r e _; exact ih2 a r e (fun _ he => by cases he)
  | starOk h hf hp ih1 ih2 => intro a r e _; exact ih2 a r e (fun _ he => by cases he)
  | starEnd h => intro a r e _; cases e; exact h
  | sumOk hf hp ih1 ih2 => intro a r e _; exact ih2 a r e (fun _ _ => rd_star hf _ _ rfl (.inl rfl))
  | plusOk h hf hp ih1 ih2 => intro a r e _; exact ih2 a r e (fun _ _ => rd_star hf _ _ rfl (.inl rfl))
  | subOk h hf hp ih1 ih2 => intro a r e _; exact ih2 a r e (fun _ _ => rd_star hf _ _ rfl (.inl rfl))
  | sumEnd h h2 => intro a r e hm; cases e; exact ⟨hm _ rfl, h, h2⟩
  | _ => intro a r e _; cases e <;> exact trivial
theorem sg_tail (c : UInt8) (x : List Tq) (t : Tq) (r r' : List Tq) : isSg c (x ++ t :: r) = isSg c (x ++ t :: r') := by cases x <;> rfl
theorem rd_bad {m : Md} {d : Nat} {ts : List Tq} {res : Rs} (h : Rd m d ts res) : ∀ t r0 w, res = .bad (t :: r0) w → ∃ c, ts = c ++ t :: r0 ∧ ∀ r1, Rd m d (c ++ t :: r1) (.bad (t :: r1) w) := by
  induction h with
  | deepP h hd => intro t r0 w e; cases e; exact ⟨[], rfl, fun r1 => .deepP h hd⟩
  | deepN h hd => intro t r0 w e; cases e; exact ⟨[], rfl, fun r1 => .deepN h hd⟩
  | @parOpen d t' r a r1 h hd hs hc ih =>
    intro t r0 w e
    cases e
    obtain ⟨c, e1, k⟩ := rd_same hs a (t :: r0) rfl
    have hst := rd_stops hs a (t :: r0) rfl (fun _ he => by cases he)
    exact ⟨t' :: c, by rw [e1]; rfl, fun r1 => .parOpen h hd (k (t :: r1) ⟨hst.1, hst.2.1, hst.2.2⟩) hc⟩
  | @parBad d t' r r1 w1 h hd hs ih =>
    intro t r0 w e
    cases e
    obtain ⟨c, e1, k⟩ := ih t r0 _ rfl
    exact ⟨t' :: c, by rw [e1]; rfl, fun r1 => .parBad h hd (k r1)⟩
  | @negBad d t' r r1 w1 h hd hs ih =>
    intro t r0 w e
    cases e
    obtain ⟨c, e1, k⟩ := ih t r0 _ rfl
    exact ⟨t' :: c, by rw [e1]; rfl, fun r1 => .negBad h hd (k r1)⟩
  | noneTok h0 h1 h2 h3 => intro t r0 w e; cases e; exact ⟨[], rfl, fun r1 => .noneTok h0 h1 h2 h3⟩
  | @prodOk d ts a0 r res hf hp ih1 ih2 =>
    intro t r0 w e
    obtain ⟨c2, e2, k2⟩ := ih2 t r0 w e
    obtain ⟨c1, e1, k1⟩ := rd_same hf a0 r rfl
    exact ⟨c1 ++ c2, by rw [e1, e2, List.append_assoc], fun r1 => by rw [List.append_assoc]; exact .prodOk (k1 _ trivial) (k2 r1)⟩
  | prodBad hf ih =>
    intro t r0 w e
    cases e
    obtain ⟨c, e1, k⟩ := ih t r0 _ rfl
    exact ⟨c, e1, fun r1 => .prodBad (k r1)⟩
  | @starOk d t' r a b r1 res h hf hp ih1 ih2 =>
    intro t r0 w e
    obtain ⟨c2, e2, k2⟩ := ih2 t r0 w e
    obtain ⟨c1, e1, k1⟩ := rd_same hf b r1 rfl
    exact ⟨t' :: (c1 ++ c2), by rw [e1, e2]; simp, fun r1 => by rw [List.cons_append, List.append_assoc]; exact .starOk h (k1 _ trivial) (k2 r1)⟩
  | @starBad d t' r a r1 w1 h hf ih =>
    intro t r0 w e
    cases e
    obtain ⟨c, e1, k⟩ := ih t r0 _ rfl
    exact ⟨t' :: c, by rw [e1]; rfl, fun r1 => .starBad h (k r1)⟩
  | @sumOk d ts a0 r res hf hp ih1 ih2 =>
    intro t r0 w e
    obtain ⟨c2, e2, k2⟩ := ih2 t r0 w e
    obtain ⟨c1, e1, k1⟩ := rd_same hf a0 r rfl
    have h42 := rd_star hf a0 r rfl (.inl rfl)
    rw [e2] at h42
    exact ⟨c1 ++ c2, by rw [e1, e2, List.append_assoc], fun r1 => by rw [List.append_assoc]; exact .sumOk (k1 _ ((sg_tail 42 c2 t r1 r0).trans h42)) (k2 r1)⟩
  | sumBad hf ih =>
    intro t r0 w e
    cases e
    obtain ⟨c, e1, k⟩ := ih t r0 _ rfl
    exact ⟨c, e1, fun r1 => .sumBad (k r1)⟩
  | @plusOk d t' r a b r1 res h hf hp ih1 ih2 =>
    intro t r0 w e
    obtain ⟨c2, e2, k2⟩ := ih2 t r0 w e
    obtain ⟨c1, e1, k1⟩ := rd_same hf b r1 rfl
    have h42 := rd_star hf b r1 rfl (.inl rfl)
    rw [e2] at h42
    exact ⟨t' :: (c1 ++ c2), by rw [e1, e2]; simp, fun r1 => by rw [List.cons_append, List.append_assoc]; exact .plusOk h (k1 _ ((sg_tail 42 c2 t r1 r0).trans h42)) (k2 r1)⟩
  | @plusBad d t' r a r1 w1 h hf ih =>
    intro t r0 w e
    cases e
    obtain ⟨c, e1, k⟩ := ih t r0 _ rfl
    exact ⟨t' :: c, by rw [e1]; rfl, fun r1 => .plusBad h (k r1)⟩
  | @subOk d t' r a b r1 res h hf hp ih1 ih2 =>
    intro t r0 w e
    obtain ⟨c2, e2, k2⟩ := ih2 t r0 w e
    obtain ⟨c1, e1, k1⟩ := rd_same hf b r1 rfl
    have h42 := rd_star hf b r1 rfl (.inl rfl)
    rw [e2] at h42
    exact ⟨t' :: (c1 ++ c2), by rw [e1, e2]; simp, fun r1 => by rw [List.cons_append, List.append_assoc]; exact .subOk h (k1 _ ((sg_tail 42 c2 t r1 r0).trans h42)) (k2 r1)⟩
  | @subBad d t' r a r1 w1 h hf ih =>
    intro t r0 w e
    cases e
    obtain ⟨c, e1, k⟩ := ih t r0 _ rfl
    exact ⟨t' :: c, by rw [e1]; rfl, fun r1 => .subBad h (k r1)⟩
  | _ => intro t r0 w e; cases e
/-- A list that ends as another one, cut where both still are the same. -/
theorem app_cut {A Y c r : List Tq} (h : A ++ Y = c ++ r) (hl : Y.length < r.length) : ∃ t r', A = c ++ t :: r' ∧ r = t :: (r' ++ Y) := by
  rcases List.append_eq_append_iff.1 h with ⟨a', e1, e2⟩ | ⟨c', e1, e2⟩
  · have := congrArg List.length e2
    rw [List.length_append] at this
    omega
  · cases c' with
    | nil =>
      rw [e2] at hl
      simp at hl
    | cons t r' => exact ⟨t, r', e1, e2⟩
theorem value_loc (M Y Z : List Tk) (a : Nat) (ha : a < M.length) (hb : (valueR (M ++ Y) a).2.1 < M.length) : valueR (M ++ Z) a = valueR (M ++ Y) a := by
  have hd (X : List Tk) : ((M ++ X).drop a).map Tk.q = (M.drop a).map Tk.q ++ X.map Tk.q := by rw [List.drop_append_of_le_length (by omega), List.map_append]
  have hr := readR_rd (((M ++ Y).drop a).map Tk.q)
  unfold valueR at hb ⊢
  generalize readR (((M ++ Y).drop a).map Tk.q) = res at hr hb ⊢
  rw [hd Y] at hr
  have hYq : (Y.map Tk.q).length = Y.length := List.length_map ..
  have hZq : (Z.map Tk.q).length = Z.length := List.length_map ..
  have hMq : ((M.drop a).map Tk.q).length = M.length - a := by rw [List.length_map, List.length_drop]
  cases res with
  | ok e r =>
    simp only [List.length_append] at hb
    obtain ⟨c, e1, k⟩ := rd_same hr e r rfl
    have hst := rd_stops hr e r rfl (fun _ he => by cases he)
    obtain ⟨t, r', e2, rfl⟩ := app_cut e1 (by omega)
    have k2 := k (t :: (r' ++ Z.map Tk.q)) ⟨hst.1, hst.2.1, hst.2.2⟩
    have e3 : (M.drop a).map Tk.q ++ Z.map Tk.q = c ++ t :: (r' ++ Z.map Tk.q) := by rw [e2]; simp
    rw [hd Z, e3, readR_eq k2]
    simp only [Prod.mk.injEq, true_and, and_true, List.length_append, List.length_cons, hYq, hZq]
    omega
  | bad r w =>
    simp only [List.length_append] at hb
    have hne : Y.length < r.length := by omega
    cases r with
    | nil => simp at hne
    | cons t r0 =>
      obtain ⟨c, e1, k⟩ := rd_bad hr t r0 w rfl
      obtain ⟨t', r', e2, e4⟩ := app_cut e1 (by omega)
      cases e4
      have k2 := k (r' ++ Z.map Tk.q)
      have e3 : (M.drop a).map Tk.q ++ Z.map Tk.q = c ++ t :: (r' ++ Z.map Tk.q) := by rw [e2]; simp
      rw [hd Z, e3, readR_eq k2]
      simp only [Prod.mk.injEq, true_and, and_true, List.length_append, List.length_cons, hYq, hZq]
      omega
/-! Two readings, the one of tokens that begin as the other's. -/
def Lo (m n a : Nat) (p q : PR) : Prop := From n a p ∧ (p.pos < m → q = p)
theorem Lo.le {m n a b : Nat} {p q : PR} (h : Lo m n b p q) (hab : a ≤ b) : Lo m n a p q := ⟨h.1.le hab, h.2⟩
theorem lo_bind {m n a : Nat} {p q : PR} {f g : Nat → Ln → PR} (h : Lo m n a p q) (hf : ∀ b x, p = .ok b x → a ≤ b → b ≤ n → Lo m n b (f b x) (g b x)) : Lo m n a (p.bind f) (q.bind g) := by
  refine ⟨from_bind h.1 fun b x e h1 h2 => (hf b x e h1 h2).1, fun hp => ?_⟩
  cases p with
  | ok b x =>
    have h3 := hf b x rfl h.1.1 h.1.2.1
    have hq := h.2 (Nat.lt_of_le_of_lt h3.1.1 hp)
    rw [hq]
    exact h3.2 hp
  | bad b w => rw [h.2 hp]; rfl
theorem lo_ite {m n a : Nat} {c c' : Prop} [Decidable c] [Decidable c'] {r s r' s' : PR} (hc : a < m → (c ↔ c')) (h1 : c → Lo m n a r r') (h2 : ¬ c → Lo m n a s s') : Lo m n a (if c then r else s) (if c' then r' else s') := by
  by_cases h : c
  · rw [if_pos h]
    refine ⟨(h1 h).1, fun hp => ?_⟩
    rw [if_pos ((hc (Nat.lt_of_le_of_lt (h1 h).1.1 hp)).1 h)]
    exact (h1 h).2 hp
  · rw [if_neg h]
    refine ⟨(h2 h).1, fun hp => ?_⟩
    rw [if_neg (fun h' => h ((hc (Nat.lt_of_le_of_lt (h2 h).1.1 hp)).2 h'))]
    exact (h2 h).2 hp
/-- What hangs on the token at hand alone. -/
theorem lo_at {m n a : Nat} {p q : PR} (h : From n a p) (he : a < m → q = p) : Lo m n a p q := ⟨h, fun hp => he (Nat.lt_of_le_of_lt h.1 hp)⟩
theorem lo_same {m n a : Nat} {p : PR} (h : From n a p) : Lo m n a p p := ⟨h, fun _ => rfl⟩
section
variable (M Y Z : List Tk)
theorem name_loc {a : Nat} (h : a < M.length) : nameR (M ++ Z) a = nameR (M ++ Y) a := by unfold nameR; rw [List.getElem?_append_left h, List.getElem?_append_left h]
theorem sign_loc {a : Nat} (h : a < M.length) : signR (M ++ Z) a = signR (M ++ Y) a := by unfold signR; rw [List.getElem?_append_left h, List.getElem?_append_left h]
theorem regz_loc {a : Nat} (h : a < M.length) : regZ (M ++ Z) a = regZ (M ++ Y) a := by unfold regZ; rw [name_loc M Y Z h]
theorem predz_loc {a : Nat} (h : a < M.length) : predZ (M ++ Z) a = predZ (M ++ Y) a := by unfold predZ; rw [name_loc M Y Z h]
theorem begv_loc {a : Nat} (h : a < M.length) : beginsV (M ++ Z) a = beginsV (M ++ Y) a := by unfold beginsV; rw [sign_loc M Y Z h]
abbrev Lz (a : Nat) (p q : PR) : Prop := Lo M.length (M ++ Y).length a p q
theorem expr_lo (f : Ln → List Tm → Ln) (a : Nat) (x : Ln) (h : a ≤ (M ++ Y).length) : Lz M Y a (exprP (M ++ Y) f a x) (exprP (M ++ Z) f a x) := by
  have h1 := expr_from (M ++ Y) f a x h
  refine ⟨h1, fun hp => ?_⟩
  have hpos : (exprP (M ++ Y) f a x).pos = (valueR (M ++ Y) a).2.1 := by unfold exprP; split <;> rfl
  have ha : a < M.length := Nat.lt_of_le_of_lt h1.1 hp
  unfold exprP
  rw [value_loc M Y Z a ha (by rw [← hpos]; exact hp)]
theorem sgn_lo {s : List UInt8} (hs : s ≠ []) (a : Nat) (x : Ln) (h : a ≤ (M ++ Y).length) : Lz M Y a (signP (M ++ Y) s a x) (signP (M ++ Z) s a x) :=
  lo_at (sign_from _ hs a x h) fun hm => by unfold signP; rw [sign_loc M Y Z hm]
theorem reg_lo (f : Ln → Int → Ln) (a : Nat) (x : Ln) (h : a ≤ (M ++ Y).length) : Lz M Y a (regP (M ++ Y) f a x) (regP (M ++ Z) f a x) :=
  lo_at (reg_from _ f a x h) fun hm => by unfold regP; rw [regz_loc M Y Z hm]
theorem pred_lo (f : Ln → Int → Ln) (a : Nat) (x : Ln) (h : a ≤ (M ++ Y).length) : Lz M Y a (predP (M ++ Y) f a x) (predP (M ++ Z) f a x) :=
  lo_at (pred_from _ f a x h) fun hm => by unfold predP; rw [predz_loc M Y Z hm]
theorem choose_lo (op : Int) (a : Nat) (x : Ln) (h : a ≤ (M ++ Y).length) : Lz M Y a (chooseP op a x) (chooseP op a x) := lo_same (choose_from op x h)
theorem choose_lo' (f : List UInt8 → Int) (a : Nat) (x : Ln) (h : a ≤ (M ++ Y).length) : Lz M Y a (chooseP (f (nameR (M ++ Y) a)) a x) (chooseP (f (nameR (M ++ Z) a)) a x) :=
  lo_at (choose_from _ x h) fun hm => by rw [name_loc M Y Z hm]
theorem imm_lo (a : Nat) (x : Ln) (h : a ≤ (M ++ Y).length) : Lz M Y a (immP (M ++ Y) a x) (immP (M ++ Z) a x) :=
  lo_ite (fun hm => by rw [sign_loc M Y Z hm]) (fun hc => (expr_lo M Y Z _ (a + 1) _ (by have := signR_lt (L := M ++ Y) (a := a) (by rw [hc]; decide); omega)).le (Nat.le_succ a)) fun _ => lo_bind (sgn_lo M Y Z (by decide) a _ h) fun b y _ _ hb => expr_lo M Y Z _ b y hb
theorem target_lo (a : Nat) (x : Ln) (h : a ≤ (M ++ Y).length) : Lz M Y a (targetP (M ++ Y) a x) (targetP (M ++ Z) a x) :=
  lo_ite (fun hm => by rw [sign_loc M Y Z hm]) (fun hc => (expr_lo M Y Z _ (a + 1) _ (by have := signR_lt (L := M ++ Y) (a := a) (by rw [hc]; decide); omega)).le (Nat.le_succ a)) fun _ => expr_lo M Y Z _ a _ h
theorem address_lo (a : Nat) (x : Ln) (h : a ≤ (M ++ Y).length) : Lz M Y a (addressP (M ++ Y) a x) (addressP (M ++ Z) a x) :=
  lo_bind (reg_lo M Y Z _ a x h) fun b y _ _ hb => lo_bind (sgn_lo M Y Z (by decide) b y hb) fun c z _ _ hc => imm_lo M Y Z c z hc
theorem two_lo (a : Nat) (x : Ln) (h : a ≤ (M ++ Y).length) : Lz M Y a (twoP (M ++ Y) a x) (twoP (M ++ Z) a x) :=
  lo_bind (reg_lo M Y Z _ a x h) fun b y _ _ hb => lo_bind (sgn_lo M Y Z (by decide) b y hb) fun c z _ _ hc => lo_ite (fun hm => by rw [begv_loc M Y Z hm]) (fun _ => lo_bind (choose_lo M Y _ c z hc) fun d u _ _ hd => imm_lo M Y Z d u hd) fun _ => reg_lo M Y Z _ c z hc
theorem shift_lo (a : Nat) (x : Ln) (h : a ≤ (M ++ Y).length) : Lz M Y a (shiftP (M ++ Y) a x) (shiftP (M ++ Z) a x) :=
  lo_bind (reg_lo M Y Z _ a x h) fun b y _ _ hb => lo_bind (sgn_lo M Y Z (by decide) b y hb) fun c z _ _ hc => lo_bind (sgn_lo M Y Z (by decide) c z hc) fun d u _ _ hd => expr_lo M Y Z _ d u hd
theorem inside_lo (a : Nat) (x : Ln) (h : a ≤ (M ++ Y).length) : Lz M Y a (insideP (M ++ Y) a x) (insideP (M ++ Z) a x) :=
  lo_ite (fun _ => Iff.rfl) (fun _ => lo_bind (pred_lo M Y Z _ a x h) fun b y _ _ hb => lo_bind (sgn_lo M Y Z (by decide) b y hb) fun c z _ _ hc => two_lo M Y Z c z hc) fun _ => lo_ite (fun _ => Iff.rfl) (fun _ => shift_lo M Y Z a x h) fun _ => lo_ite (fun _ => Iff.rfl) (fun _ => address_lo M Y Z a x h) fun _ => two_lo M Y Z a x h
theorem operands_lo (a : Nat) (x : Ln) (h : a ≤ (M ++ Y).length) : Lz M Y a (operandsP (M ++ Y) a x) (operandsP (M ++ Z) a x) :=
  lo_bind (sgn_lo M Y Z (by decide) a x h) fun b y _ _ hb => lo_bind (inside_lo M Y Z b y hb) fun c z _ _ hc => sgn_lo M Y Z (by decide) c z hc
theorem new_lo (a : Nat) (x : Ln) (h : a ≤ (M ++ Y).length) : Lz M Y a (newP (M ++ Y) a x) (newP (M ++ Z) a x) :=
  lo_at (new_from _ a x h) fun hm => by unfold newP; rw [name_loc M Y Z hm]
theorem store_lo (a : Nat) (x : Ln) (h : a ≤ (M ++ Y).length) : Lz M Y a (storeP (M ++ Y) a x) (storeP (M ++ Z) a x) :=
  lo_bind (sgn_lo M Y Z (by decide) a x h) fun b y _ _ hb => lo_bind (address_lo M Y Z b y hb) fun c z _ _ hc => lo_bind (sgn_lo M Y Z (by decide) c z hc) fun d u _ _ hd => lo_bind (sgn_lo M Y Z (by decide) d u hd) fun e v _ _ he => new_lo M Y Z e v he
theorem count_lo (a : Nat) (x : Ln) (h : a ≤ (M ++ Y).length) : Lz M Y a (countP (M ++ Y) a x) (countP (M ++ Z) a x) :=
  lo_ite (fun hm => by rw [sign_loc M Y Z hm]) (fun hc => (expr_lo M Y Z _ (a + 1) _ (by have := signR_lt (L := M ++ Y) (a := a) (by rw [hc]; decide); omega)).le (Nat.le_succ a)) fun _ => lo_bind (choose_lo M Y _ a x h) fun d u _ _ hd => reg_lo M Y Z _ d u hd
theorem loop_lo (a : Nat) (x : Ln) (h : a ≤ (M ++ Y).length) : Lz M Y a (loopP (M ++ Y) a x) (loopP (M ++ Z) a x) :=
  lo_bind (sgn_lo M Y Z (by decide) a x h) fun b y _ _ hb => lo_bind (target_lo M Y Z b y hb) fun c z _ _ hc => lo_bind (sgn_lo M Y Z (by decide) c z hc) fun d u _ _ hd => lo_bind (count_lo M Y Z d u hd) fun e v _ _ he => sgn_lo M Y Z (by decide) e v he
theorem choose_ok {op : Int} {a b : Nat} {x y : Ln} (h : chooseP op a x = .ok b y) : b = a := by
  unfold chooseP at h
  split at h
  · cases h
  · cases h; rfl
theorem assign_lo (a : Nat) (x : Ln) (h : a ≤ (M ++ Y).length) : Lz M Y a (assignP (M ++ Y) a x) (assignP (M ++ Z) a x) :=
  lo_ite (fun hm => by rw [regz_loc M Y Z hm]) (fun hc => lo_bind (choose_lo M Y _ a x h) fun b y hb _ _ => by
    have hlt := nameR_lt (L := M ++ Y) (a := a) (named_ne hc)
    obtain rfl := choose_ok hb
    exact lo_at (from_ok (Nat.le_succ b) hlt) fun hm => by rw [regz_loc M Y Z hm]) fun _ => lo_ite (fun hm => by rw [begv_loc M Y Z hm]) (fun _ => lo_bind (choose_lo M Y _ a x h) fun d u _ _ hd => imm_lo M Y Z d u hd) fun _ => lo_bind (choose_lo' M Y Z (fun s => (wdOf s).sets) a x h) fun b y hb _ _ => by
    obtain ⟨rfl, hlt⟩ := nameR_lt' (M ++ Y) (fun s => (wdOf s).sets) (by decide) hb
    exact (operands_lo M Y Z (b + 1) y hlt).le (Nat.le_succ b)
theorem compare_lo (a : Nat) (x : Ln) (h : a ≤ (M ++ Y).length) : Lz M Y a (compareP (M ++ Y) a x) (compareP (M ++ Z) a x) :=
  lo_bind (choose_lo' M Y Z (fun s => (wdOf s).compares) a x h) fun b y hb _ _ => by
    obtain ⟨rfl, hlt⟩ := nameR_lt' (M ++ Y) (fun s => (wdOf s).compares) (by decide) hb
    exact (operands_lo M Y Z (b + 1) y hlt).le (Nat.le_succ b)
theorem body_lo (n : Int) (a : Nat) (x : Ln) (h : a ≤ (M ++ Y).length) : Lz M Y a (bodyP (M ++ Y) n a x) (bodyP (M ++ Z) n a x) :=
  lo_ite (fun _ => Iff.rfl) (fun _ => target_lo M Y Z a x h) fun _ => lo_ite (fun _ => Iff.rfl) (fun _ => reg_lo M Y Z _ a x h) fun _ => lo_ite (fun _ => Iff.rfl) (fun _ => loop_lo M Y Z a _ h) fun _ => lo_ite (fun _ => Iff.rfl) (fun _ => store_lo M Y Z a x h) fun _ => lo_same (from_ok (Nat.le_refl _) h)
theorem named_lo (a : Nat) (x : Ln) (h : a ≤ (M ++ Y).length) : Lz M Y a (namedP (M ++ Y) a x) (namedP (M ++ Z) a x) := by
  refine ⟨named_from _ a x h, fun hp => ?_⟩
  have ha : a < M.length := Nat.lt_of_le_of_lt (named_from _ a x h).1 hp
  have hl : Lz M Y a (namedP (M ++ Y) a x) ((chooseP (wdOf (nameR (M ++ Y) a)).begins a x).bind fun b y => bodyP (M ++ Z) (wdOf (nameR (M ++ Y) a)).n (b + 1) y) := lo_bind (choose_lo M Y _ a x h) fun b y hb _ _ => by
    obtain ⟨rfl, hlt⟩ := nameR_lt' (M ++ Y) (fun s => (wdOf s).begins) (by decide) hb
    exact (body_lo M Y Z _ (b + 1) y hlt).le (Nat.le_succ b)
  rw [← hl.2 hp]
  unfold namedP
  rw [name_loc M Y Z ha]
theorem action_lo (a : Nat) (x : Ln) (h : a ≤ (M ++ Y).length) : Lz M Y a (actionP (M ++ Y) a x) (actionP (M ++ Z) a x) := by
  refine ⟨action_from _ a x h, fun hp => ?_⟩
  have ha : a < M.length := Nat.lt_of_le_of_lt (action_from _ a x h).1 hp
  have hl : Lz M Y a (actionP (M ++ Y) a x) (if 0 ≤ regZ (M ++ Y) a then (signP (M ++ Z) [61] (a + 1) { x with d := regZ (M ++ Y) a }).bind (assignP (M ++ Z)) else if 0 ≤ predZ (M ++ Y) a then (chooseP 10 a x).bind fun b y => (signP (M ++ Z) [61] (b + 1) { y with d := predZ (M ++ Y) a }).bind (compareP (M ++ Z)) else namedP (M ++ Z) a x) :=
    lo_ite (fun _ => Iff.rfl) (fun hc => (lo_bind (sgn_lo M Y Z (by decide) (a + 1) _ (nameR_lt (named_ne hc))) fun b y _ _ hb => assign_lo M Y Z b y hb).le (Nat.le_succ a)) fun _ => lo_ite (fun _ => Iff.rfl) (fun hc => lo_bind (choose_lo M Y _ a x h) fun b y hb _ _ => by
    obtain rfl := choose_ok hb
    exact (lo_bind (sgn_lo M Y Z (by decide) (b + 1) _ (nameR_lt (named_ne hc))) fun c z _ _ hc => compare_lo M Y Z c z hc).le (Nat.le_succ b)) fun _ => named_lo M Y Z a x h
  rw [← hl.2 hp]
  unfold actionP
  rw [regz_loc M Y Z ha, predz_loc M Y Z ha]
theorem ask_lo (q : Bool) (a : Nat) (x : Ln) (h : a ≤ (M ++ Y).length) : Lz M Y a (askP (M ++ Y) q a x) (askP (M ++ Z) q a x) := by
  refine ⟨ask_from _ q a x h, fun hp => ?_⟩
  have ha : a < M.length := Nat.lt_of_le_of_lt (ask_from _ q a x h).1 hp
  have hl : Lz M Y a (askP (M ++ Y) q a x) (if 0 ≤ namedR 112 4 (bareR (nameR (M ++ Y) a)).1 then signP (M ++ Z) [41] (a + 1) { x with pred := namedR 112 4 (bareR (nameR (M ++ Y) a)).1, mode := modeZ q (bareR (nameR (M ++ Y) a)).2 } else .bad a 8) :=
    lo_ite (fun _ => Iff.rfl) (fun hc => (sgn_lo M Y Z (by decide) (a + 1) _ (nameR_lt (bare_ne (named_ne hc)))).le (Nat.le_succ a)) fun _ => lo_same (from_bad h)
  rw [← hl.2 hp]
  unfold askP
  rw [name_loc M Y Z ha]
theorem cond_lo (a : Nat) (x : Ln) (h : a ≤ (M ++ Y).length) : Lz M Y a (condP (M ++ Y) a x) (condP (M ++ Z) a x) :=
  lo_ite (fun hm => by rw [name_loc M Y Z hm]) (fun hc => (lo_bind (sgn_lo M Y Z (by decide) (a + 1) x (nameR_lt (by rw [hc]; decide))) fun b y _ _ hb => lo_ite (fun hm => by rw [sign_loc M Y Z hm]) (fun hs => (ask_lo M Y Z true (b + 1) y (signR_lt (by rw [hs]; decide))).le (Nat.le_succ b)) fun _ => ask_lo M Y Z false b y hb).le (Nat.le_succ a)) fun _ => lo_same (from_ok (Nat.le_refl _) h)
theorem read_lo : Lz M Y 0 (readP (M ++ Y)) (readP (M ++ Z)) := lo_bind (cond_lo M Y Z 0 lnZero (Nat.zero_le _)) fun b y _ _ hb => action_lo M Y Z b y hb
end
/-- What gives up at a token gives up there whatever stands behind. -/
theorem inst_first {L : List Tk} {x : Ln} {n : Nat} {e : Int} (h : instP L = (x, n, e)) (he : e ≠ 0) (hn : n < L.length) (Z : List Tk) : instP (L.take (n + 1) ++ Z) = (lnZero, n, e) := by
  have hL : L.take (n + 1) ++ L.drop (n + 1) = L := List.take_append_drop ..
  have hr : readP L = .bad n e := by
    unfold instP at h
    split at h
    · rename_i a w hq
      cases h
      exact hq
    · cases h
      exact absurd rfl he
  have hlo := read_lo (L.take (n + 1)) (L.drop (n + 1)) Z
  rw [hL] at hlo
  have h2 := hlo.2 (by rw [hr, List.length_take]; show n < _; omega)
  unfold instP
  rw [h2, hr]
end
end Go.Proofs.YtnfmlmamgkpocaaGreatDoor
