/- The document's own reading of a word is the program's, and a target that is moved along with the address leaves the word; conditions are the Go types' bounds. -/
import Derived.Test.YtjeemiabddblhaaDoorEncMath5
import Derived.Test.YtjeemiabddblhaaDoorInstTurn
namespace Go.Proofs.YtjeemiabddblhaaDoor
open Go

/-- The value as the document reads it. -/
def lval (f : Fd) (v u : Int) (has : Bool) (pc : Int) : Int :=
  let x := if has then s32 (u * 256 + v % 256) else if f.sg && decide (2 ^ (f.bits - 1).toNat ≤ v) then (v - 2 ^ f.bits.toNat) * 2 ^ f.shift.toNat else v * 2 ^ f.shift.toNat
  if f.kind == 10 then (pc + x) % 4294967296 else x
def lreadFrom (p u : Int) (has : Bool) (pc : Int) : List Fd → Int → In → In
  | [], _, y => y
  | f :: r, low, y => lreadFrom p u has pc r (low - f.bits) (if isVal f then { y with imm := lval f (getZ p (low - f.bits) f.bits) u has pc } else setZ y f.kind (getZ p (low - f.bits) f.bits))
def lreadP (w u : Int) (has : Bool) (pc : Int) : In := lreadFrom (payZ w) u has pc (fieldsZ (codeZ w)) 24 (startIn (codeZ w) has)
def rinstB (w u : Int) (has : Bool) (pc : Int) : Bool := isOp (codeZ w) && sayB (lreadP w u has pc) pc && (upP (lreadP w u has pc) pc == u) && (wordP (lreadP w u has pc) pc == wordZ (codeZ w) (payZ w) 0)

theorem lval_join (f : Fd) (v u : Int) (has : Bool) (pc : Int) (hb1 : 1 ≤ f.bits) (hb2 : f.bits ≤ 24) (h0 : 0 ≤ v) (h1 : v < 2 ^ f.bits.toNat) (hu : has = true → 0 ≤ u ∧ u < 16777216) : lval f v u has pc = joinV f v u has pc := by
  have e : (if has then s32 (u * 256 + v % 256) else if f.sg && decide (2 ^ (f.bits - 1).toNat ≤ v) then (v - 2 ^ f.bits.toNat) * 2 ^ f.shift.toNat else v * 2 ^ f.shift.toNat) =
      (if has then joinZ u v else if f.sg then sextZ v f.bits * 2 ^ f.shift.toNat else v * 2 ^ f.shift.toNat) := by
    cases has with
    | true =>
      have := hu rfl
      rw [if_pos rfl, if_pos rfl]
      unfold joinZ
      rw [Int.emod_eq_of_lt this.1 this.2]
    | false =>
      simp only [Bool.false_eq_true, if_false]
      cases f.sg with
      | false => rfl
      | true =>
        simp only [Bool.true_and, if_true]
        rw [show sextZ v f.bits = (if 1 ≤ f.bits ∧ f.bits ≤ 32 then (if 2 ^ (f.bits.toNat - 1) ≤ v % 2 ^ f.bits.toNat then v % 2 ^ f.bits.toNat - 2 ^ f.bits.toNat else v % 2 ^ f.bits.toNat) else 0) from rfl]
        have hbb : 1 ≤ f.bits ∧ f.bits ≤ 32 := ⟨hb1, by omega⟩
        rw [if_pos hbb, Int.emod_eq_of_lt h0 h1, show (f.bits - 1).toNat = f.bits.toNat - 1 by omega]
        by_cases hc : 2 ^ (f.bits.toNat - 1) ≤ v
        · rw [decide_eq_true hc, if_pos rfl, if_pos hc]
        · rw [decide_eq_false hc, if_neg Bool.false_ne_true, if_neg hc]
  unfold lval joinV
  dsimp only
  rw [e]
  by_cases hk : f.kind = 10
  · rw [if_pos (by rw [hk]; rfl), if_pos hk]
    rfl
  · rw [if_neg (by simpa using hk), if_neg hk]
theorem lread_eq (p u : Int) (has : Bool) (pc op : Int) (hu : has = true → 0 ≤ u ∧ u < 16777216) (fs : List Fd) : ∀ (low : Int) (y x : In), (sumB fs : Int) ≤ low → low ≤ 24 → (∀ f ∈ fs, FdOk op f) → readFrom p u has pc fs low y = (x, true) → lreadFrom p u has pc fs low y = x := by
  induction fs with
  | nil => intro low y x _ _ _ h; exact congrArg Prod.fst h
  | cons f r ih =>
    intro low y x hl h24 hok h
    have hf := hok f List.mem_cons_self
    have hb := hf.b1
    have hl2 : f.bits + (sumB r : Int) ≤ low := by rw [sumB_cons] at hl; omega
    have hg := getZ_bounds p (low - f.bits) f.bits (by omega) (by omega) (by omega)
    have hj := lval_join f _ u has pc hf.b1 hf.b2 hg.1 hg.2 hu
    unfold readFrom at h
    unfold lreadFrom
    cases hv : isVal f with
    | true =>
      rw [hv, if_pos rfl] at h
      split at h
      · cases h
      · rw [if_pos rfl, hj]
        exact ih _ _ _ (by omega) (by omega) (fun g hg => hok g (List.mem_cons_of_mem _ hg)) h
    | false =>
      rw [hv, if_neg (by decide)] at h
      rw [if_neg (by decide)]
      exact ih _ _ _ (by omega) (by omega) (fun g hg => hok g (List.mem_cons_of_mem _ hg)) h
theorem lval_i (f : Fd) (v u : Int) (has : Bool) (pc : Int) (hb : 0 ≤ f.bits) (hb2 : f.bits ≤ 24) (hs0 : 0 ≤ f.shift) (hs1 : f.shift ≤ 2) (h0 : 0 ≤ v) (h1 : v < 4294967296) : isI (lval f v u has pc) := by
  have hsc := scale_cases hs0 hs1
  have hp := pow_le_of f.bits.toNat (by omega)
  have hs := s32_bounds (u * 256 + v % 256)
  unfold lval
  dsimp only
  split
  · exact ⟨by omega, by omega⟩
  · split
    · exact ⟨by omega, by omega⟩
    · split
      · rcases hsc with e | e | e <;> rw [e] <;> exact ⟨by omega, by omega⟩
      · rcases hsc with e | e | e <;> rw [e] <;> exact ⟨by omega, by omega⟩
theorem lread_small (p u : Int) (has : Bool) (pc : Int) (hp : isU32 p) (fs : List Fd) : ∀ (low : Int) (y : In), (∀ f ∈ fs, f.small) → y.small → (lreadFrom p u has pc fs low y).small ∧ (lreadFrom p u has pc fs low y).op = y.op ∧ (lreadFrom p u has pc fs low y).ext = y.ext := by
  induction fs with
  | nil => intro low y _ h; exact ⟨h, rfl, rfl⟩
  | cons f r ih =>
    intro low y hs h
    obtain ⟨_, _, b0, b1, s0, s1⟩ := hs f List.mem_cons_self
    have hg := getZ_lt p (low - f.bits) f.bits hp
    have hj := lval_i f _ u has pc b0 b1 s0 s1 hg.1 hg.2
    unfold lreadFrom
    split
    · exact ih _ _ (fun g hg => hs g (List.mem_cons_of_mem _ hg)) { h with imm0 := hj.1, imm1 := hj.2 }
    · obtain ⟨i1, i2, i3⟩ := ih (low - f.bits) _ (fun g hg => hs g (List.mem_cons_of_mem _ hg)) (setZ_small h f.kind (getZ p (low - f.bits) f.bits))
      have k := setZ_keeps y f.kind (getZ p (low - f.bits) f.bits)
      exact ⟨i1, i2.trans k.1, i3.trans k.2.1⟩
theorem lreadP_small (w u : Int) (has : Bool) (pc : Int) : (lreadP w u has pc).small ∧ (lreadP w u has pc).op = codeZ w ∧ (lreadP w u has pc).ext = has := by
  have hp := pay_u w
  have hc := code_u w
  exact lread_small _ _ _ _ ⟨hp.1, by omega⟩ _ _ _ (fields_small _) (start_small hc.1 hc.2 has)
/-- The document's reading is the program's. -/
theorem ref_inst (w u : Int) (has : Bool) (pc : Int) (hu : 0 ≤ u) (hn : has = false → u = 0) : rinstB w u has pc = instB w u has pc ∧ (instB w u has pc = true → lreadP w u has pc = instP w u has pc) := by
  have key : instB w u has pc = true → lreadP w u has pc = instP w u has pc := by
    intro hi
    have e : instP w u has pc = (readP w u has pc).1 := by unfold instP; rw [hi, if_pos rfl]
    rw [e]
    unfold instB at hi
    simp only [Bool.and_eq_true, Bool.not_eq_true', Bool.and_eq_false_iff, decide_eq_false_iff_not] at hi
    obtain ⟨⟨⟨ho, hu2⟩, hr2⟩, -⟩ := hi
    obtain ⟨l1, -, l3⟩ := list_ok (codeZ w) ho
    exact lread_eq (payZ w) u has pc (codeZ w) (fun he => ⟨hu, by
      rcases hu2 with h | h
      · rw [he] at h; cases h
      · omega⟩) _ 24 _ _ (by omega) (by decide) l3 (show readFrom _ _ _ _ _ _ _ = ((readP w u has pc).1, true) by rw [← hr2]; rfl)
  refine ⟨?_, key⟩
  rw [Bool.eq_iff_iff]
  constructor
  · intro h
    unfold rinstB at h
    simp only [Bool.and_eq_true, beq_iff_eq] at h
    obtain ⟨⟨⟨ho, hs⟩, h1⟩, h2⟩ := h
    obtain ⟨s1, s2, s3⟩ := lreadP_small w u has pc
    have := inst_of_word s1 hs
    rw [h1, h2, s3] at this
    have h3 := this.1
    have hp := pay_u w
    have hc := code_u w
    obtain ⟨c1, c2, c3, c4⟩ := code_word hc.1 hc.2 hp.1 hp.2
    unfold instB readP at h3 ⊢
    rw [c1, c2] at h3
    exact h3
  · intro h
    obtain ⟨a1, a2, a3, a4, a5, a6⟩ := word_of_inst h hu hn
    have ho : isOp (codeZ w) = true := by
      unfold instB at h
      simp only [Bool.and_eq_true] at h
      exact h.1.1.1
    unfold rinstB
    rw [key h, ho, a1, a2, a3]
    simp
/-- A word without its parse bits says what it says with them. -/
theorem inst_parts {w v : Int} (h1 : codeZ w = codeZ v) (h2 : payZ w = payZ v) (u : Int) (has : Bool) (pc : Int) : instB w u has pc = instB v u has pc ∧ instP w u has pc = instP v u has pc := by
  unfold instP instB readP
  rw [h1, h2]
  exact ⟨rfl, rfl⟩

/-! Moves. -/
def setImm (x : In) (i : Int) : In := { x with imm := i }
theorem pay_congr {x y : In} {pc pc' : Int} (h : ∀ f, heldZ f x pc = heldZ f y pc') (fs : List Fd) : ∀ p low, payFrom x pc fs p low = payFrom y pc' fs p low := by
  induction fs with
  | nil => intro p low; rfl
  | cons f r ih => intro p low; unfold payFrom; rw [h f, ih]
theorem held_congr {x y : In} {pc pc' : Int} (hv : valueP x pc = valueP y pc') (he : x.ext = y.ext) (hn : ∀ k, numZ x k = numZ y k) (f : Fd) : heldZ f x pc = heldZ f y pc' := by
  unfold heldZ splitZ
  rw [hv, he, hn]
theorem word_congr {x y : In} {pc pc' : Int} (hs : sayB x pc = sayB y pc') (ho : x.op = y.op) (hv : valueP x pc = valueP y pc') (he : x.ext = y.ext) (hn : ∀ k, numZ x k = numZ y k) : wordP x pc = wordP y pc' ∧ upP x pc = upP y pc' := by
  have hu : uppZ x pc = uppZ y pc' := by unfold uppZ; rw [hv, he]
  constructor
  · unfold wordP payP
    rw [hs, ho, pay_congr (held_congr hv he hn)]
  · unfold upP
    rw [hs, ho, upFrom_eq, upFrom_eq, hu]
theorem rel_op {x : In} (hr : rightB x = true) (hb : hasB (fieldsZ x.op) 10 = true) : x.op = 27 ∨ x.op = 29 ∨ x.op = 30 ∨ x.op = 31 := by
  have ho := right_op hr
  have h : ∀ n : Nat, n < 32 → hasB (fieldsZ n) 10 = true → n = 27 ∨ n = 29 ∨ n = 30 ∨ n = 31 := by decide +kernel
  obtain ⟨n, hn⟩ := Int.eq_ofNat_of_zero_le (show 0 ≤ x.op by omega)
  rw [hn] at hb ⊢
  have := h n (by omega) hb
  omega
theorem rel_field {op : Int} (h : op = 27 ∨ op = 29 ∨ op = 30 ∨ op = 31) : vB op = true ∧ (vF op).kind = 10 := by
  rcases h with h | h | h | h <;> rw [h] <;> exact ⟨by decide +kernel, by decide +kernel⟩
theorem imm_right {x : In} (h : x.small) (hr : rightB x = true) (ho : x.op = 27 ∨ x.op = 29 ∨ x.op = 30 ∨ x.op = 31) (i : Int) (h0 : 0 ≤ i) (h1 : i < 4294967296) (h4 : i % 4 = 0) : (setImm x i).small ∧ rightB (setImm x i) = true := by
  have hs : (setImm x i).small := { h with imm0 := (by omega : -9223372036854775808 ≤ i), imm1 := (by omega : i ≤ 9223372036854775807) }
  refine ⟨hs, ?_⟩
  rw [right_ref _ h] at hr
  rw [right_ref _ hs]
  obtain ⟨xo, xd, xs, xt, xn, xp, xm, xw, xe, xc, xi⟩ := x
  unfold setImm
  have ho2 : xo = 27 ∨ xo = 29 ∨ xo = 30 ∨ xo = 31 := ho
  have hi : i ≤ 4294967292 := by omega
  rcases ho2 with rfl | rfl | rfl | rfl
  all_goals
    simp [refB, kindZ, kindL, refK, okK, regsB, condB, aimB, isK, inZero] at hr ⊢
    cases xw <;> simp at hr ⊢ <;> omega
theorem rel_imm {x : In} (h : x.small) (hr : rightB x = true) (ho : x.op = 27 ∨ x.op = 29 ∨ x.op = 30 ∨ x.op = 31) : 0 ≤ x.imm ∧ x.imm < 4294967296 ∧ x.imm % 4 = 0 := by
  rw [← rr_right x h] at hr
  unfold rrP endB at hr
  rw [if_pos (rel_field ho).2] at hr
  simp only [Bool.and_eq_true, decide_eq_true_eq] at hr
  exact ⟨hr.2.1.1, hr.2.1.2, hr.2.2⟩
theorem s32_along (t p w : Int) : s32 ((t + w) % 4294967296 - (p + w) % 4294967296) = s32 (t - p) := by
  have e : ((t + w) % 4294967296 - (p + w) % 4294967296) % 4294967296 = (t - p) % 4294967296 := by omega
  unfold s32; rw [e]
/-- A target that is moved along with the address. -/
theorem moved_rel {x : In} (h : x.small) (hr : rightB x = true) (ho : x.op = 27 ∨ x.op = 29 ∨ x.op = 30 ∨ x.op = 31) (a b : Int) (hb4 : b % 4 = 0) :
    (setImm x ((x.imm + b) % 4294967296)).small ∧ sayB (setImm x ((x.imm + b) % 4294967296)) ((a + b) % 4294967296) = sayB x a ∧ wordP (setImm x ((x.imm + b) % 4294967296)) ((a + b) % 4294967296) = wordP x a ∧ upP (setImm x ((x.imm + b) % 4294967296)) ((a + b) % 4294967296) = upP x a := by
  obtain ⟨i0, i1, i4⟩ := rel_imm h hr ho
  obtain ⟨s1, s2⟩ := imm_right h hr ho ((x.imm + b) % 4294967296) (by omega) (by omega) (by omega)
  obtain ⟨v1, v2⟩ := rel_field ho
  have hz : valZ (vF x.op) (setImm x ((x.imm + b) % 4294967296)) ((a + b) % 4294967296) = valZ (vF x.op) x a := by
    unfold valZ
    rw [if_pos v2, if_pos v2]
    exact s32_along _ _ _
  have hv : valueP (setImm x ((x.imm + b) % 4294967296)) ((a + b) % 4294967296) = valueP x a := by
    unfold valueP
    rw [show (setImm x ((x.imm + b) % 4294967296)).op = x.op from rfl, hz]
  have hs : sayB (setImm x ((x.imm + b) % 4294967296)) ((a + b) % 4294967296) = sayB x a := by
    unfold sayB fitP fitZ
    rw [s2, hr, show (setImm x ((x.imm + b) % 4294967296)).op = x.op from rfl, hz]
    rfl
  exact ⟨s1, hs, word_congr hs rfl hv rfl (fun _ => rfl)⟩
/-- Of others the address does not matter. -/
theorem moved_other {x : In} (h : (rightB x && hasB (fieldsZ x.op) 10) = false) (a b : Int) : sayB x b = sayB x a ∧ wordP x b = wordP x a ∧ upP x b = upP x a := by
  cases hr : rightB x with
  | false =>
    have e : ∀ p, sayB x p = false := fun p => by unfold sayB; rw [hr]; rfl
    unfold wordP upP
    rw [e, e]
    exact ⟨rfl, rfl, rfl⟩
  | true =>
    rw [hr, Bool.true_and] at h
    have ho := right_op hr
    have hk : vB x.op = true → (vF x.op).kind ≠ 10 := by
      intro hb hk
      have ho2 : isOp x.op = true := by unfold isOp; simp; omega
      obtain ⟨m1, -⟩ := vF_mem ho2 hb
      have : hasB (fieldsZ x.op) 10 = true := List.any_eq_true.2 ⟨_, m1, by rw [hk]; rfl⟩
      rw [this] at h
      cases h
    have hz : vB x.op = true → valZ (vF x.op) x b = valZ (vF x.op) x a := fun hb => by
      unfold valZ
      rw [if_neg (hk hb), if_neg (hk hb)]
    have hv : valueP x b = valueP x a := by
      unfold valueP
      split
      · rename_i hb; exact hz hb
      · rfl
    have hs : sayB x b = sayB x a := by
      unfold sayB fitP fitZ
      cases hb : vB x.op with
      | false => rfl
      | true => rw [hz hb]
    exact ⟨hs, word_congr hs rfl hv rfl (fun _ => rfl)⟩
end Go.Proofs.YtjeemiabddblhaaDoor
