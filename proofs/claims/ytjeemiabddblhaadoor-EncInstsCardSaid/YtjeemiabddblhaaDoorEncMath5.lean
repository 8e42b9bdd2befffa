/- The word of an instruction says that instruction, what a word says has that word, the document's own reading is the program's, and a target that is moved along leaves the word; conditions are the Go types' bounds. · The document's own reading of a word is the program's, and a target that is moved along with the address leaves the word; conditions are the Go types' bounds. -/
import Derived.Test.YtjeemiabddblhaaDoorEncRight
namespace Go.Proofs.YtjeemiabddblhaaDoor
section
open Go

theorem opN_of {op : Int} (h : isOp op = true) : opN op = op := by unfold opN; rw [if_pos h]
theorem vF_mem {op : Int} (ho : isOp op = true) (hb : vB op = true) : vF op ∈ fieldsZ op ∧ isVal (vF op) = true := by
  unfold vB vfZ at hb
  rw [opN_of ho] at hb
  unfold vF vfZ
  rw [opN_of ho]
  cases h : vfIn (fieldsZ op) with
  | none => rw [h] at hb; cases hb
  | some f =>
    obtain ⟨h1, h2⟩ := vfIn_mem h
    refine ⟨h1, ?_⟩
    unfold isVal
    simp only [Bool.or_eq_true, beq_iff_eq]
    exact h2
structure RightOk (x : In) : Prop where
  op : isOp x.op = true
  plain : plainFrom x (fieldsZ x.op) (startIn x.op x.ext) = x
  nums : ∀ f ∈ fieldsZ x.op, isVal f = false → numZ x f.kind < 2 ^ f.bits.toNat
  may : x.ext = true → mayZ x.op = true
  val : ValOk (vF x.op) x
theorem right_ok {x : In} (h : x.small) (hr : rightB x = true) : RightOk x := by
  rw [← rr_right x h] at hr
  unfold rrP at hr
  simp only [Bool.and_eq_true] at hr
  obtain ⟨⟨⟨⟨⟨⟨h1, h2⟩, h3⟩, h4⟩, h5⟩, h6⟩, h7⟩ := hr
  have hm : x.ext = true → mayZ x.op = true := by
    intro he
    rw [he] at h2
    cases hm : mayZ x.op with
    | true => rfl
    | false => rw [hm] at h2; cases h2
  refine ⟨h1, of_decide_eq_true h4, fun f hf hv => ?_, hm, ⟨fun hk => ?_, fun hk he => ?_, fun he => ?_⟩⟩
  · unfold numsB at h3
    have := List.all_eq_true.1 h3 f hf
    rw [hv, Bool.false_or] at this
    exact of_decide_eq_true this
  · unfold endB at h7
    rw [if_pos hk] at h7
    simp only [Bool.and_eq_true, decide_eq_true_eq] at h7
    exact h7.1
  · unfold endB at h7
    rw [if_neg (by rw [hk]; decide), he, if_pos rfl] at h7
    simp only [Bool.and_eq_true, decide_eq_true_eq] at h7
    exact h7
  · have := hm he
    unfold mayZ at this
    simp only [Bool.and_eq_true] at this
    exact this.2
theorem numZ_nonneg {x : In} (h : x.small) (k : Int) : 0 ≤ numZ x k := by
  have key : ∀ (c : Prop) [Decidable c] (a b : Int), 0 ≤ a → 0 ≤ b → 0 ≤ (if c then a else b) := fun c _ a b ha hb => ite_of (fun z : Int => 0 ≤ z) ha hb
  unfold numZ
  exact key _ _ _ h.mode0 (key _ _ _ h.pred0 (key _ _ _ h.d0 (key _ _ _ h.d0 (key _ _ _ h.s0 (key _ _ _ h.t0 (key _ _ _ h.n0 (key _ _ _ (key _ _ _ (by decide) (by decide)) (key _ _ _ h.count0 (by decide)))))))))
theorem upFrom_eq (x : In) (pc : Int) (fs : List Fd) : ∀ u, upFrom x pc fs u = if fs.any isVal then uppZ x pc else u := by
  induction fs with
  | nil => intro u; rfl
  | cons f r ih =>
    intro u
    show upFrom x pc r (if isVal f then uppZ x pc else u) = _
    rw [ih, List.any_cons]
    cases isVal f <;> cases r.any isVal <;> rfl
theorem uppZ_bounds (x : In) (pc : Int) : 0 ≤ uppZ x pc ∧ uppZ x pc < 16777216 := by
  unfold uppZ upperZ
  split <;> omega
theorem upP_bounds (x : In) (pc : Int) : 0 ≤ upP x pc ∧ upP x pc < 16777216 := by
  have := uppZ_bounds x pc
  unfold upP
  rw [upFrom_eq]
  split
  · split
    · exact this
    · omega
  · omega
theorem any_val {fs : List Fd} {f : Fd} (hf : f ∈ fs) (hv : isVal f = true) : fs.any isVal = true := List.any_eq_true.2 ⟨f, hf, hv⟩
theorem readOk_of_agree (x : In) (pc p u op : Int) (fs : List Fd) : ∀ low : Int, (∀ f ∈ fs, FdOk op f) → agree x pc p fs low → (∀ f ∈ fs, isVal f = false → 0 ≤ numZ x f.kind ∧ numZ x f.kind < 2 ^ f.bits.toNat) →
    (∀ f ∈ fs, isVal f = true → ∀ g, g = splitZ f x pc % 2 ^ f.bits.toNat → (x.ext = true → g < 256) ∧ x.imm = joinV f g u x.ext pc) → getZ p 0 (low - sumB fs) = 0 → readOk x p u x.ext pc fs low := by
  induction fs with
  | nil => intro low _ _ _ _ h; rw [show low - ((sumB [] : Nat) : Int) = low by simp [sumB]] at h; exact h
  | cons f r ih =>
    intro low hok ha hn hv h0
    obtain ⟨a1, a2⟩ := ha
    have hb := (hok f List.mem_cons_self).b1
    have e : low - ((sumB (f :: r) : Nat) : Int) = low - f.bits - (sumB r : Nat) := by rw [sumB_cons]; omega
    rw [e] at h0
    refine ⟨?_, ih _ (fun g hg => hok g (List.mem_cons_of_mem _ hg)) a2 (fun g hg => hn g (List.mem_cons_of_mem _ hg)) (fun g hg => hv g (List.mem_cons_of_mem _ hg)) h0⟩
    cases hvf : isVal f with
    | true =>
      rw [if_pos rfl]
      refine hv f List.mem_cons_self hvf _ ?_
      rw [a1]
      unfold heldZ
      rw [hvf, if_pos rfl]
    | false =>
      rw [if_neg (by decide), a1]
      unfold heldZ
      rw [hvf, if_neg (by decide)]
      have := hn f List.mem_cons_self hvf
      exact (Int.emod_eq_of_lt this.1 this.2).symm
theorem code_word {c p : Int} (h0 : 0 ≤ c) (h1 : c < 64) (p0 : 0 ≤ p) (p1 : p < 16777216) : codeZ (wordZ c p 0) = c ∧ payZ (wordZ c p 0) = p ∧ parseZ (wordZ c p 0) = 0 ∧ isU32 (wordZ c p 0) := by
  have e : wordZ c p 0 = c * 67108864 + p / 16384 * 65536 + p % 16384 := by unfold wordZ; omega
  have ep : p = p / 16384 * 16384 + p % 16384 := by omega
  have d0 : 0 ≤ p / 16384 ∧ p / 16384 < 1024 := by omega
  have m0 : 0 ≤ p % 16384 ∧ p % 16384 < 16384 := by omega
  rw [e]
  generalize p / 16384 = d at *
  generalize p % 16384 = m at *
  subst ep
  obtain ⟨d1, d2⟩ := d0
  obtain ⟨m1, m2⟩ := m0
  have q1 : (c * 67108864 + d * 65536 + m) / 67108864 = c := by omega
  have q2 : (c * 67108864 + d * 65536 + m) / 65536 = c * 1024 + d := by omega
  have q3 : (c * 67108864 + d * 65536 + m) % 16384 = m := by omega
  have q4 : (c * 67108864 + d * 65536 + m) / 16384 % 4 = 0 := by omega
  refine ⟨?_, ?_, ?_, ?_, ?_⟩
  · unfold codeZ; rw [q1]; omega
  · unfold payZ; rw [q2, q3]; omega
  · unfold parseZ; exact q4
  · omega
  · omega
theorem pay_small (x : In) (pc : Int) (ho : isOp x.op = true) : 0 ≤ payP x pc ∧ payP x pc < 16777216 ∧ agree x pc (payP x pc) (fieldsZ x.op) 24 ∧ getZ (payP x pc) 0 (24 - sumB (fieldsZ x.op)) = 0 := by
  obtain ⟨l1, l2, l3⟩ := list_ok x.op ho
  obtain ⟨i1, i2, i3⟩ := pack_agree x pc (fieldsZ x.op) 24 0 l1 (Nat.le_refl _) (fun f hf => (l3 f hf).b1) (by decide)
  change payP x pc / 16777216 = 0 at i1
  refine ⟨by omega, by omega, i2, ?_⟩
  change payP x pc % 2 ^ (24 - sumB (fieldsZ x.op)) = 0 at i3
  have := getZ_pos (payP x pc) 0 (24 - sumB (fieldsZ x.op)) (by omega)
  rw [show (24 : Int) - (sumB (fieldsZ x.op) : Nat) = ((24 - sumB (fieldsZ x.op) : Nat) : Int) by omega]
  rw [show ((0 : Nat) : Int) = 0 from rfl] at this
  rw [this]
  rw [show payP x pc / 2 ^ 0 = payP x pc by simp]
  exact i3
/-- The word of an instruction says that instruction. -/
theorem inst_of_word {x : In} (h : x.small) {pc : Int} (hs : sayB x pc = true) :
    instB (wordP x pc) (upP x pc) x.ext pc = true ∧ instP (wordP x pc) (upP x pc) x.ext pc = x ∧ codeZ (wordP x pc) = x.op ∧ payZ (wordP x pc) = payP x pc ∧ parseZ (wordP x pc) = 0 ∧ isU32 (wordP x pc) := by
  have hs' := hs
  unfold sayB at hs'
  simp only [Bool.and_eq_true, Bool.or_eq_true] at hs'
  obtain ⟨hr, hfit⟩ := hs'
  have R := right_ok h hr
  have ho := R.op
  have ho2 : 1 ≤ x.op ∧ x.op ≤ 31 := by
    have := ho
    simp only [isOp, Bool.and_eq_true, decide_eq_true_eq] at this
    exact this
  obtain ⟨l1, l2, l3⟩ := list_ok x.op ho
  obtain ⟨p0, p1, ha, hz⟩ := pay_small x pc ho
  have ew : wordP x pc = wordZ x.op (payP x pc) 0 := by unfold wordP; rw [hs, if_pos rfl]
  have eu : upP x pc = upFrom x pc (fieldsZ x.op) 0 := by unfold upP; rw [hs, if_pos rfl]
  obtain ⟨c1, c2, c3, c4⟩ := code_word (c := x.op) (by omega) (by omega) p0 p1
  rw [ew]
  have hread : readP (wordZ x.op (payP x pc) 0) (upP x pc) x.ext pc = (x, true) := by
    unfold readP
    rw [c1, c2]
    rw [read_of x (payP x pc) (upP x pc) x.ext pc (fieldsZ x.op) 24 _ (readOk_of_agree x pc _ _ x.op _ 24 l3 ha (fun f hf hv => ⟨numZ_nonneg h _, R.nums f hf hv⟩) (fun f hf hv g hg => ?_) hz), R.plain]
    have hvf := (l3 f hf).vf hv
    refine split_join pc hvf ((l3 f hf).lit hv) ?_ (fun he => ?_) g (upP x pc) hg ?_
    · rw [hvf.1]; exact R.val
    · rcases hfit with hh | hh
      · rw [he] at hh; cases hh
      · exact hh
    · rw [eu, upFrom_eq, any_val hf hv, if_pos rfl]
  have hi : instB (wordZ x.op (payP x pc) 0) (upP x pc) x.ext pc = true := by
    have hu := (upP_bounds x pc).2
    have e : decide (16777216 ≤ upP x pc) = false := by simp; omega
    unfold instB
    rw [hread, c1, ho, e, hr]
    cases x.ext <;> rfl
  refine ⟨hi, ?_, c1, c2, c3, c4⟩
  unfold instP
  rw [hi, if_pos rfl, hread]

/-! What a word says has that word. -/
theorem setZ_small {y : In} (h : y.small) (k v : Int) : (setZ y k v).small := by
  have key : ∀ (c : Prop) [Decidable c] (a b : In), a.small → b.small → (if c then a else b).small := fun c _ a b ha hb => ite_of In.small ha hb
  have a0 : 0 ≤ v % 256 := by omega
  have a1 : v % 256 ≤ 255 := by omega
  have b0 : 0 ≤ v % 65536 := by omega
  have b1 : v % 65536 ≤ 65535 := by omega
  unfold setZ
  refine key _ _ _ { h with mode0 := a0, mode1 := a1 } ?_
  refine key _ _ _ { h with pred0 := a0, pred1 := a1 } ?_
  refine key _ _ _ { h with d0 := a0, d1 := a1 } ?_
  refine key _ _ _ { h with d0 := a0, d1 := a1 } ?_
  refine key _ _ _ { h with s0 := a0, s1 := a1 } ?_
  refine key _ _ _ { h with t0 := a0, t1 := a1 } ?_
  refine key _ _ _ { h with n0 := a0, n1 := a1 } ?_
  refine key _ _ _ { h with } ?_
  exact key _ _ _ { h with count0 := b0, count1 := b1 } h
theorem start_small {op : Int} (h0 : 0 ≤ op) (h1 : op < 64) (has : Bool) : (startIn op has).small := by
  have z : (0 : Int) ≤ 255 := by decide
  have e : (0 : Int) ≤ 0 := by decide
  have c1 : (0 : Int) ≤ 65535 := by decide
  have i0 : -9223372036854775808 ≤ (0 : Int) := by decide
  have i1 : (0 : Int) ≤ 9223372036854775807 := by decide
  exact ⟨h0, (by omega : op ≤ 255), e, z, e, z, e, z, e, z, e, z, e, z, e, c1, i0, i1⟩
theorem zero_small : inZero.small := by
  have z : (0 : Int) ≤ 255 := by decide
  have e : (0 : Int) ≤ 0 := by decide
  exact ⟨e, z, e, z, e, z, e, z, e, z, e, z, e, z, e, (by decide), (by decide), (by decide)⟩
/-- A scale of a field. -/
theorem scale_cases {s : Int} (h0 : 0 ≤ s) (h1 : s ≤ 2) : (2 : Int) ^ s.toNat = 1 ∨ (2 : Int) ^ s.toNat = 2 ∨ (2 : Int) ^ s.toNat = 4 := by
  have : s = 0 ∨ s = 1 ∨ s = 2 := by omega
  rcases this with rfl | rfl | rfl
  · exact .inl rfl
  · exact .inr (.inl rfl)
  · exact .inr (.inr rfl)
theorem sextZ_bounds (g b : Int) : -4294967296 ≤ sextZ g b ∧ sextZ g b < 4294967296 := by
  unfold sextZ
  split
  · rename_i hb
    have hp := pow_le_of b.toNat (by omega)
    have k0 := Int.emod_nonneg g (Int.ne_of_gt (show (0 : Int) < 2 ^ b.toNat by omega))
    have k1 := Int.emod_lt_of_pos g (show (0 : Int) < 2 ^ b.toNat by omega)
    split <;> omega
  · omega
theorem joinV_i (f : Fd) (g u : Int) (has : Bool) (pc : Int) (hs0 : 0 ≤ f.shift) (hs1 : f.shift ≤ 2) (hg0 : 0 ≤ g) (hg1 : g < 4294967296) : isI (joinV f g u has pc) := by
  have hb := sextZ_bounds g f.bits
  have hj := join_i u g
  have hsc := scale_cases hs0 hs1
  unfold joinV
  dsimp only
  by_cases hk : f.kind = 10
  · rw [if_pos hk]
    exact target_i _ _
  · rw [if_neg hk]
    cases has with
    | true => rw [if_pos rfl]; exact hj
    | false =>
      rw [if_neg (by decide)]
      cases f.sg with
      | true =>
        rw [if_pos rfl]
        rcases hsc with e | e | e <;> rw [e] <;> exact ⟨by omega, by omega⟩
      | false =>
        rw [if_neg (by decide)]
        rcases hsc with e | e | e <;> rw [e] <;> exact ⟨by omega, by omega⟩
theorem getZ_lt (p a b : Int) (hp : isU32 p) : 0 ≤ getZ p a b ∧ getZ p a b < 4294967296 := getZ_u32 p a b hp
theorem read_small (p u : Int) (has : Bool) (pc : Int) (hp : isU32 p) (fs : List Fd) : ∀ (low : Int) (y : In), (∀ f ∈ fs, 0 ≤ f.shift ∧ f.shift ≤ 2) → y.small → (readFrom p u has pc fs low y).1.small := by
  induction fs with
  | nil => intro low y _ h; exact h
  | cons f r ih =>
    intro low y hs h
    have hf := hs f List.mem_cons_self
    have hg := getZ_lt p (low - f.bits) f.bits hp
    have hj := joinV_i f _ u has pc hf.1 hf.2 hg.1 hg.2
    unfold readFrom
    split
    · split
      · exact zero_small
      · exact ih _ _ (fun g hg => hs g (List.mem_cons_of_mem _ hg)) { h with imm0 := hj.1, imm1 := hj.2 }
    · exact ih _ _ (fun g hg => hs g (List.mem_cons_of_mem _ hg)) (setZ_small h _ _)
theorem pay_u (w : Int) : 0 ≤ payZ w ∧ payZ w < 16777216 := by unfold payZ; omega
theorem code_u (w : Int) : 0 ≤ codeZ w ∧ codeZ w < 64 := by unfold codeZ; omega
theorem fields_shift (op : Int) : ∀ f ∈ fieldsZ op, 0 ≤ f.shift ∧ f.shift ≤ 2 := fun f hf => ⟨(fields_small op f hf).2.2.2.2.1, (fields_small op f hf).2.2.2.2.2⟩
theorem readP_small (w u : Int) (has : Bool) (pc : Int) : (readP w u has pc).1.small := by
  have hp := pay_u w
  have hc := code_u w
  exact read_small _ _ _ _ ⟨hp.1, by omega⟩ _ _ _ (fields_shift _) (start_small hc.1 hc.2 has)
theorem instP_small (w u : Int) (has : Bool) (pc : Int) : (instP w u has pc).small := by
  have h := readP_small w u has pc
  unfold instP
  split
  · exact h
  · exact zero_small
theorem agree_of_readOk (x : In) (pc p u : Int) (fs : List Fd) (hu : x.ext = true → 0 ≤ u ∧ u < 16777216) : ∀ low : Int, (sumB fs : Int) ≤ low → low ≤ 24 → (∀ f ∈ fs, FdOk x.op f) → readOk x p u x.ext pc fs low →
    agree x pc p fs low ∧ getZ p 0 (low - sumB fs) = 0 ∧ ∀ f ∈ fs, isVal f = true → (x.ext = true → uppZ x pc = u) ∧ (x.ext = false → fitP x pc = true) := by
  induction fs with
  | nil => intro low _ _ _ h; exact ⟨trivial, by rw [show low - ((sumB [] : Nat) : Int) = low by simp [sumB]]; exact h, fun f hf => by cases hf⟩
  | cons f r ih =>
    intro low hl h24 hok ⟨h1, h2⟩
    have hf := hok f List.mem_cons_self
    have hb := hf.b1
    have e : low - ((sumB (f :: r) : Nat) : Int) = low - f.bits - (sumB r : Nat) := by rw [sumB_cons]; omega
    have hl2 : f.bits + (sumB r : Int) ≤ low := by rw [sumB_cons] at hl; omega
    rw [e]
    obtain ⟨i1, i2, i3⟩ := ih _ (by omega) (by omega) (fun g hg => hok g (List.mem_cons_of_mem _ hg)) h2
    have hg := getZ_bounds p (low - f.bits) f.bits (by omega) (by omega) (by omega)
    cases hv : isVal f with
    | true =>
      rw [hv, if_pos rfl] at h1
      obtain ⟨j1, j2, j3⟩ := join_split pc (hf.vf hv) (hf.lit hv) _ u hg.1 hg.2 h1.2 (fun he => ⟨h1.1 he, hu he⟩)
      refine ⟨⟨?_, i1⟩, i2, fun g hgm hgv => ?_⟩
      · unfold heldZ
        rw [hv, if_pos rfl]
        exact j1.symm
      · exact ⟨j2, j3⟩
    | false =>
      rw [hv, if_neg (by decide)] at h1
      refine ⟨⟨?_, i1⟩, i2, fun g hgm hgv => ?_⟩
      · unfold heldZ
        rw [hv, if_neg (by decide), h1, Int.emod_eq_of_lt hg.1 hg.2]
      · rcases List.mem_cons.1 hgm with rfl | hgm
        · rw [hv] at hgv; cases hgv
        · exact i3 g hgm hgv
/-- What a word says has that word. -/
theorem word_of_inst {w u : Int} {has : Bool} {pc : Int} (hi : instB w u has pc = true) (hu : 0 ≤ u) (hn : has = false → u = 0) :
    sayB (instP w u has pc) pc = true ∧ wordP (instP w u has pc) pc = wordZ (codeZ w) (payZ w) 0 ∧ upP (instP w u has pc) pc = u ∧ (instP w u has pc).ext = has ∧ (instP w u has pc).op = codeZ w ∧ rightB (instP w u has pc) = true := by
  have hsm := instP_small w u has pc
  have e : instP w u has pc = (readP w u has pc).1 := by unfold instP; rw [hi, if_pos rfl]
  rw [e] at hsm ⊢
  clear e
  unfold instB at hi
  simp only [Bool.and_eq_true, Bool.not_eq_true', Bool.and_eq_false_iff, decide_eq_false_iff_not] at hi
  obtain ⟨⟨⟨ho, hu2⟩, hr2⟩, hr⟩ := hi
  obtain ⟨x, hx⟩ : ∃ x, (readP w u has pc).1 = x := ⟨_, rfl⟩
  have hrd : readP w u has pc = (x, true) := by rw [← hx, ← hr2]
  rw [hx] at hsm hr ⊢
  clear hx hr2
  obtain ⟨l1, l2, l3⟩ := list_ok (codeZ w) ho
  unfold readP at hrd
  obtain ⟨k1, k2, -, -⟩ := read_keeps _ _ _ _ _ _ _ _ hrd
  have k1 : x.op = codeZ w := k1
  have k2 : x.ext = has := k2
  have hro := read_ok _ _ _ _ (codeZ w) _ _ _ _ (by omega) (by decide) l2 l3 hrd
  rw [← k1] at hro l1 l3 ho
  rw [← k2] at hro hn hu2
  have hu3 : x.ext = true → 0 ≤ u ∧ u < 16777216 := fun he => ⟨hu, by
    rcases hu2 with h | h
    · rw [he] at h; cases h
    · omega⟩
  obtain ⟨a1, a2, a3⟩ := agree_of_readOk x pc _ u _ hu3 24 (by omega) (by decide) l3 hro
  have R := right_ok hsm hr
  have hp := pay_u w
  have hpay : payP x pc = payZ w := by
    have := pack_of x pc (payZ w) (fieldsZ x.op) 24 0 l1 (Nat.le_refl _) (fun f hf => (l3 f hf).b1) (by
      change (0 : Int) = payZ w / 16777216 * 16777216
      omega) a1
    have e2 := getZ_pos (payZ w) 0 (24 - sumB (fieldsZ x.op)) (by omega)
    rw [show (24 : Int) - (sumB (fieldsZ x.op) : Nat) = ((24 - sumB (fieldsZ x.op) : Nat) : Int) by omega] at a2
    rw [show ((0 : Nat) : Int) = 0 from rfl] at e2
    rw [e2] at a2
    rw [show payZ w / 2 ^ 0 = payZ w by simp] at a2
    have e3 := Int.mul_ediv_add_emod (payZ w) (2 ^ (24 - sumB (fieldsZ x.op)))
    rw [a2, Int.add_zero, Int.mul_comm] at e3
    exact this.trans e3
  have hsay : sayB x pc = true := by
    unfold sayB
    rw [hr, Bool.true_and]
    cases he : x.ext with
    | true => rfl
    | false =>
      rw [Bool.false_or]
      cases hb : vB x.op with
      | false => unfold fitP; rw [hb]; rfl
      | true =>
        obtain ⟨m1, m2⟩ := vF_mem ho hb
        exact (a3 _ m1 m2).2 he
  refine ⟨hsay, ?_, ?_, k2, k1, hr⟩
  · unfold wordP
    rw [hsay, if_pos rfl, hpay, k1]
  · unfold upP
    rw [hsay, if_pos rfl, upFrom_eq]
    cases he : x.ext with
    | true =>
      have hm := R.may he
      unfold mayZ at hm
      simp only [Bool.and_eq_true] at hm
      obtain ⟨m1, m2⟩ := vF_mem ho hm.1
      rw [any_val m1 m2, if_pos rfl]
      exact (a3 _ m1 m2).1 he
    | false =>
      have hz := hn he
      have : uppZ x pc = 0 := by unfold uppZ; rw [he]; rfl
      rw [this, hz]
      split <;> rfl
end
section
open Go

/-- The value as the document reads it. -/
def lval (f : Fd) (v u : Int) (has : Bool) (pc : Int) : Int :=
  let x := if has then s32 (u * 256 + v % 256) else if f.sg && decide (2 ^ (f.bits - 1).toNat ≤ v) then (v - 2 ^ f.bits.toNat) * 2 ^ f.shift.toNat else v * 2 ^ f.shift.toNat
  if f.kind == 10 then (pc + x) % 4294967296 else x
def lreadFrom (p u : Int) (has : Bool) (pc : Int) : List Fd → Int → In → In
  | [], _, y => y
  | f :: r, low, y => lreadFrom p u has pc r (low - f.bits) (if isVal f then { y with imm := lval f (getZ p (low - f.bits) f.bits) u has pc } else setZ y f.kind (getZ p (low - f.bits) f.bits))
def lreadP (w u : Int) (has : Bool) (pc : Int) : In := lreadFrom (payZ w) u has pc (fieldsZ (codeZ w)) 24 (startIn (codeZ w) has)
def rinstB (w u : Int) (has : Bool) (pc : Int) : Bool := isOp (codeZ w) && sayB (lreadP w u has pc) pc && (upP (lreadP w u has pc) pc == u) && (wordP (lreadP w u has pc) pc == wordZ (codeZ w) (payZ w) 0)

theorem lval_join (f : Fd) (v u : Int) (has : Bool) (pc : Int) (hb1 : 1 ≤ f.bits) (hb2 : f.bits ≤ 24) (h0 : 0 ≤ v) (h1 : v < 2 ^ f.bits.toNat) (hu : has = true → 0 ≤ u ∧ u < 16777216) : lval f v u has pc = joinV f v u has pc := by
  have e : (if has then s32 (u * 256 + v % 256) else if f.sg && decide (2 ^ (f.bits - 1).toNat ≤ v) then (v - 2 ^ f.bits.toNat) * 2 ^ f.shift.toNat else v * 2 ^ f.shift.toNat) =
      (if has then joinZ u v else if f.sg then sextZ v f.bits * 2 ^ f.shift.toNat else v * 2 ^ f.shift.toNat) := by
    cases has with
    | true =>
      have := hu rfl
      rw [if_pos rfl, if_pos rfl]
      unfold joinZ
      rw [Int.emod_eq_of_lt this.1 this.2]
    | false =>
      simp only [Bool.false_eq_true, if_false]
      cases f.sg with
      | false => rfl
      | true =>
        simp only [Bool.true_and, if_true]
        rw [show sextZ v f.bits = (if 1 ≤ f.bits ∧ f.bits ≤ 32 then (if 2 ^ (f.bits.toNat - 1) ≤ v % 2 ^ f.bits.toNat then v % 2 ^ f.bits.toNat - 2 ^ f.bits.toNat else v % 2 ^ f.bits.toNat) else 0) from rfl]
        have hbb : 1 ≤ f.bits ∧ f.bits ≤ 32 := ⟨hb1, by omega⟩
        rw [if_pos hbb, Int.emod_eq_of_lt h0 h1, show (f.bits - 1).toNat = f.bits.toNat - 1 by omega]
        by_cases hc : 2 ^ (f.bits.toNat - 1) ≤ v
        · rw [decide_eq_true hc, if_pos rfl, if_pos hc]
        · rw [decide_eq_false hc, if_neg Bool.false_ne_true, if_neg hc]
  unfold lval joinV
  dsimp only
  rw [e]
  by_cases hk : f.kind = 10
  · rw [if_pos (by rw [hk]; rfl), if_pos hk]
    rfl
  · rw [if_neg (by simpa using hk), if_neg hk]
theorem lread_eq (p u : Int) (has : Bool) (pc op : Int) (hu : has = true → 0 ≤ u ∧ u < 16777216) (fs : List Fd) : ∀ (low : Int) (y x : In), (sumB fs : Int) ≤ low → low ≤ 24 → (∀ f ∈ fs, FdOk op f) → readFrom p u has pc fs low y = (x, true) → lreadFrom p u has pc fs low y = x := by
  induction fs with
  | nil => intro low y x _ _ _ h; exact congrArg Prod.fst h
  | cons f r ih =>
    intro low y x hl h24 hok h
    have hf := hok f List.mem_cons_self
    have hb := hf.b1
    have hl2 : f.bits + (sumB r : Int) ≤ low := by rw [sumB_cons] at hl; omega
    have hg := getZ_bounds p (low - f.bits) f.bits (by omega) (by omega) (by omega)
    have hj := lval_join f _ u has pc hf.b1 hf.b2 hg.1 hg.2 hu
    unfold readFrom at h
    unfold lreadFrom
    cases hv : isVal f with
    | true =>
      rw [hv, if_pos rfl] at h
      split at h
      · cases h
      · rw [if_pos rfl, hj]
        exact ih _ _ _ (by omega) (by omega) (fun g hg => hok g (List.mem_cons_of_mem _ hg)) h
    | false =>
      rw [hv, if_neg (by decide)] at h
      rw [if_neg (by decide)]
      exact ih _ _ _ (by omega) (by omega) (fun g hg => hok g (List.mem_cons_of_mem _ hg)) h
theorem lval_i (f : Fd) (v u : Int) (has : Bool) (pc : Int) (hb : 0 ≤ f.bits) (hb2 : f.bits ≤ 24) (hs0 : 0 ≤ f.shift) (hs1 : f.shift ≤ 2) (h0 : 0 ≤ v) (h1 : v < 4294967296) : isI (lval f v u has pc) := by
  have hsc := scale_cases hs0 hs1
  have hp := pow_le_of f.bits.toNat (by omega)
  have hs := s32_bounds (u * 256 + v % 256)
  unfold lval
  dsimp only
  split
  · exact ⟨by omega, by omega⟩
  · split
    · exact ⟨by omega, by omega⟩
    · split
      · rcases hsc with e | e | e <;> rw [e] <;> exact ⟨by omega, by omega⟩
      · rcases hsc with e | e | e <;> rw [e] <;> exact ⟨by omega, by omega⟩
theorem lread_small (p u : Int) (has : Bool) (pc : Int) (hp : isU32 p) (fs : List Fd) : ∀ (low : Int) (y : In), (∀ f ∈ fs, f.small) → y.small → (lreadFrom p u has pc fs low y).small ∧ (lreadFrom p u has pc fs low y).op = y.op ∧ (lreadFrom p u has pc fs low y).ext = y.ext := by
  induction fs with
  | nil => intro low y _ h; exact ⟨h, rfl, rfl⟩
  | cons f r ih =>
    intro low y hs h
    obtain ⟨_, _, b0, b1, s0, s1⟩ := hs f List.mem_cons_self
    have hg := getZ_lt p (low - f.bits) f.bits hp
    have hj := lval_i f _ u has pc b0 b1 s0 s1 hg.1 hg.2
    unfold lreadFrom
    split
    · exact ih _ _ (fun g hg => hs g (List.mem_cons_of_mem _ hg)) { h with imm0 := hj.1, imm1 := hj.2 }
    · obtain ⟨i1, i2, i3⟩ := ih (low - f.bits) _ (fun g hg => hs g (List.mem_cons_of_mem _ hg)) (setZ_small h f.kind (getZ p (low - f.bits) f.bits))
      have k := setZ_keeps y f.kind (getZ p (low - f.bits) f.bits)
      exact ⟨i1, i2.trans k.1, i3.trans k.2.1⟩
theorem lreadP_small (w u : Int) (has : Bool) (pc : Int) : (lreadP w u has pc).small ∧ (lreadP w u has pc).op = codeZ w ∧ (lreadP w u has pc).ext = has := by
  have hp := pay_u w
  have hc := code_u w
  exact lread_small _ _ _ _ ⟨hp.1, by omega⟩ _ _ _ (fields_small _) (start_small hc.1 hc.2 has)
/-- The document's reading is the program's. -/
theorem ref_inst (w u : Int) (has : Bool) (pc : Int) (hu : 0 ≤ u) (hn : has = false → u = 0) : rinstB w u has pc = instB w u has pc ∧ (instB w u has pc = true → lreadP w u has pc = instP w u has pc) := by
  have key : instB w u has pc = true → lreadP w u has pc = instP w u has pc := by
    intro hi
    have e : instP w u has pc = (readP w u has pc).1 := by unfold instP; rw [hi, if_pos rfl]
    rw [e]
    unfold instB at hi
    simp only [Bool.and_eq_true, Bool.not_eq_true', Bool.and_eq_false_iff, decide_eq_false_iff_not] at hi
    obtain ⟨⟨⟨ho, hu2⟩, hr2⟩, -⟩ := hi
    obtain ⟨l1, -, l3⟩ := list_ok (codeZ w) ho
    exact lread_eq (payZ w) u has pc (codeZ w) (fun he => ⟨hu, by
      rcases hu2 with h | h
      · rw [he] at h; cases h
      · omega⟩) _ 24 _ _ (by omega) (by decide) l3 (show readFrom _ _ _ _ _ _ _ = ((readP w u has pc).1, true) by rw [← hr2]; rfl)
  refine ⟨?_, key⟩
  rw [Bool.eq_iff_iff]
  constructor
  · intro h
    unfold rinstB at h
    simp only [Bool.and_eq_true, beq_iff_eq] at h
    obtain ⟨⟨⟨ho, hs⟩, h1⟩, h2⟩ := h
    obtain ⟨s1, s2, s3⟩ := lreadP_small w u has pc
    have := inst_of_word s1 hs
    rw [h1, h2, s3] at this
    have h3 := this.1
    have hp := pay_u w
    have hc := code_u w
    obtain ⟨c1, c2, c3, c4⟩ := code_word hc.1 hc.2 hp.1 hp.2
    unfold instB readP at h3 ⊢
    rw [c1, c2] at h3
    exact h3
  · intro h
    obtain ⟨a1, a2, a3, a4, a5, a6⟩ := word_of_inst h hu hn
    have ho : isOp (codeZ w) = true := by
      unfold instB at h
      simp only [Bool.and_eq_true] at h
      exact h.1.1.1
    unfold rinstB
    rw [key h, ho, a1, a2, a3]
    simp
/-- A word without its parse bits says what it says with them. -/
theorem inst_parts {w v : Int} (h1 : codeZ w = codeZ v) (h2 : payZ w = payZ v) (u : Int) (has : Bool) (pc : Int) : instB w u has pc = instB v u has pc ∧ instP w u has pc = instP v u has pc := by
  unfold instP instB readP
  rw [h1, h2]
  exact ⟨rfl, rfl⟩

/-! Moves. -/
def setImm (x : In) (i : Int) : In := { x with imm := i }
theorem pay_congr {x y : In} {pc pc' : Int} (h : ∀ f, heldZ f x pc = heldZ f y pc') (fs : List Fd) : ∀ p low, payFrom x pc fs p low = payFrom y pc' fs p low := by
  induction fs with
  | nil => intro p low; rfl
  | cons f r ih => intro p low; unfold payFrom; rw [h f, ih]
theorem held_congr {x y : In} {pc pc' : Int} (hv : valueP x pc = valueP y pc') (he : x.ext = y.ext) (hn : ∀ k, numZ x k = numZ y k) (f : Fd) : heldZ f x pc = heldZ f y pc' := by
  unfold heldZ splitZ
  rw [hv, he, hn]
theorem word_congr {x y : In} {pc pc' : Int} (hs : sayB x pc = sayB y pc') (ho : x.op = y.op) (hv : valueP x pc = valueP y pc') (he : x.ext = y.ext) (hn : ∀ k, numZ x k = numZ y k) : wordP x pc = wordP y pc' ∧ upP x pc = upP y pc' := by
  have hu : uppZ x pc = uppZ y pc' := by unfold uppZ; rw [hv, he]
  constructor
  · unfold wordP payP
    rw [hs, ho, pay_congr (held_congr hv he hn)]
  · unfold upP
    rw [hs, ho, upFrom_eq, upFrom_eq, hu]
theorem right_range {x : In} (h : rightB x = true) : 1 ≤ x.op ∧ x.op ≤ 31 := by
  unfold rightB isOp at h
  simp only [Bool.and_eq_true, decide_eq_true_eq] at h
  exact h.1
theorem rel_op {x : In} (hr : rightB x = true) (hb : hasB (fieldsZ x.op) 10 = true) : x.op = 27 ∨ x.op = 29 ∨ x.op = 30 ∨ x.op = 31 := by
  have ho := right_range hr
  have h : ∀ n : Nat, n < 32 → hasB (fieldsZ n) 10 = true → n = 27 ∨ n = 29 ∨ n = 30 ∨ n = 31 := by decide +kernel
  obtain ⟨n, hn⟩ := Int.eq_ofNat_of_zero_le (show 0 ≤ x.op by omega)
  rw [hn] at hb ⊢
  have := h n (by omega) hb
  omega
theorem rel_field {op : Int} (h : op = 27 ∨ op = 29 ∨ op = 30 ∨ op = 31) : vB op = true ∧ (vF op).kind = 10 := by
  rcases h with h | h | h | h <;> rw [h] <;> exact ⟨by decide +kernel, by decide +kernel⟩
theorem imm_right {x : In} (h : x.small) (hr : rightB x = true) (ho : x.op = 27 ∨ x.op = 29 ∨ x.op = 30 ∨ x.op = 31) (i : Int) (h0 : 0 ≤ i) (h1 : i < 4294967296) (h4 : i % 4 = 0) : (setImm x i).small ∧ rightB (setImm x i) = true := by
  have hs : (setImm x i).small := { h with imm0 := (by omega : -9223372036854775808 ≤ i), imm1 := (by omega : i ≤ 9223372036854775807) }
  refine ⟨hs, ?_⟩
  rw [right_ref _ h] at hr
  rw [right_ref _ hs]
  obtain ⟨xo, xd, xs, xt, xn, xp, xm, xw, xe, xc, xi⟩ := x
  unfold setImm
  have ho2 : xo = 27 ∨ xo = 29 ∨ xo = 30 ∨ xo = 31 := ho
  have hi : i ≤ 4294967292 := by omega
  rcases ho2 with rfl | rfl | rfl | rfl
  all_goals
    simp [refB, kindZ, kindL, refK, okK, regsB, condB, aimB, isK, inZero] at hr ⊢
    cases xw <;> simp at hr ⊢ <;> omega
theorem rel_imm {x : In} (h : x.small) (hr : rightB x = true) (ho : x.op = 27 ∨ x.op = 29 ∨ x.op = 30 ∨ x.op = 31) : 0 ≤ x.imm ∧ x.imm < 4294967296 ∧ x.imm % 4 = 0 := by
  rw [← rr_right x h] at hr
  unfold rrP endB at hr
  rw [if_pos (rel_field ho).2] at hr
  simp only [Bool.and_eq_true, decide_eq_true_eq] at hr
  exact ⟨hr.2.1.1, hr.2.1.2, hr.2.2⟩
theorem s32_along (t p w : Int) : s32 ((t + w) % 4294967296 - (p + w) % 4294967296) = s32 (t - p) := by
  have e : ((t + w) % 4294967296 - (p + w) % 4294967296) % 4294967296 = (t - p) % 4294967296 := by omega
  unfold s32; rw [e]
/-- A target that is moved along with the address. -/
theorem moved_rel {x : In} (h : x.small) (hr : rightB x = true) (ho : x.op = 27 ∨ x.op = 29 ∨ x.op = 30 ∨ x.op = 31) (a b : Int) (hb4 : b % 4 = 0) :
    (setImm x ((x.imm + b) % 4294967296)).small ∧ sayB (setImm x ((x.imm + b) % 4294967296)) ((a + b) % 4294967296) = sayB x a ∧ wordP (setImm x ((x.imm + b) % 4294967296)) ((a + b) % 4294967296) = wordP x a ∧ upP (setImm x ((x.imm + b) % 4294967296)) ((a + b) % 4294967296) = upP x a := by
  obtain ⟨i0, i1, i4⟩ := rel_imm h hr ho
  obtain ⟨s1, s2⟩ := imm_right h hr ho ((x.imm + b) % 4294967296) (by omega) (by omega) (by omega)
  obtain ⟨v1, v2⟩ := rel_field ho
  have hz : valZ (vF x.op) (setImm x ((x.imm + b) % 4294967296)) ((a + b) % 4294967296) = valZ (vF x.op) x a := by
    unfold valZ
    rw [if_pos v2, if_pos v2]
    exact s32_along _ _ _
  have hv : valueP (setImm x ((x.imm + b) % 4294967296)) ((a + b) % 4294967296) = valueP x a := by
    unfold valueP
    rw [show (setImm x ((x.imm + b) % 4294967296)).op = x.op from rfl, hz]
  have hs : sayB (setImm x ((x.imm + b) % 4294967296)) ((a + b) % 4294967296) = sayB x a := by
    unfold sayB fitP fitZ
    rw [s2, hr, show (setImm x ((x.imm + b) % 4294967296)).op = x.op from rfl, hz]
    rfl
  exact ⟨s1, hs, word_congr hs rfl hv rfl (fun _ => rfl)⟩
/-- Of others the address does not matter. -/
theorem moved_other {x : In} (h : (rightB x && hasB (fieldsZ x.op) 10) = false) (a b : Int) : sayB x b = sayB x a ∧ wordP x b = wordP x a ∧ upP x b = upP x a := by
  cases hr : rightB x with
  | false =>
    have e : ∀ p, sayB x p = false := fun p => by unfold sayB; rw [hr]; rfl
    unfold wordP upP
    rw [e, e]
    exact ⟨rfl, rfl, rfl⟩
  | true =>
    rw [hr, Bool.true_and] at h
    have ho := right_range hr
    have hk : vB x.op = true → (vF x.op).kind ≠ 10 := by
      intro hb hk
      have ho2 : isOp x.op = true := by unfold isOp; simp; omega
      obtain ⟨m1, -⟩ := vF_mem ho2 hb
      have : hasB (fieldsZ x.op) 10 = true := List.any_eq_true.2 ⟨_, m1, by rw [hk]; rfl⟩
      rw [this] at h
      cases h
    have hz : vB x.op = true → valZ (vF x.op) x b = valZ (vF x.op) x a := fun hb => by
      unfold valZ
      rw [if_neg (hk hb), if_neg (hk hb)]
    have hv : valueP x b = valueP x a := by
      unfold valueP
      split
      · rename_i hb; exact hz hb
      · rfl
    have hs : sayB x b = sayB x a := by
      unfold sayB fitP fitZ
      cases hb : vB x.op with
      | false => rfl
      | true => rw [hz hb]
    exact ⟨hs, word_congr hs rfl hv rfl (fun _ => rfl)⟩
end
end Go.Proofs.YtjeemiabddblhaaDoor
