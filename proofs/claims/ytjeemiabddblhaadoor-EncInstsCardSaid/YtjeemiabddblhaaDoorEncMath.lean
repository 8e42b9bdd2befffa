/- The words that say instructions, and the instructions that words say, as plain data: what is packed is read again, and the other way round; conditions as each lemma names them. · What is packed is read again, and the other way round: lists of fields of at most 24 bits in all. · Values in their field: what is split is joined again, and the other way round; for the eight kinds of value fields. -/
import Derived.Test.YtjeemiabddblhaaDoorInstForm
import Derived.Test.YtjeemiabddblhaaDoorExtMath
namespace Go.Proofs.YtjeemiabddblhaaDoor
section
open Go

def isVal (f : Fd) : Bool := f.kind == 9 || f.kind == 10
/-- What a field other than the value field holds. -/
def numZ (x : In) (k : Int) : Int :=
  if k = 1 then x.mode else if k = 2 then x.pred else if k = 3 then x.d else if k = 4 then x.d else if k = 5 then x.s else if k = 6 then x.t else if k = 7 then x.n
  else if k = 8 then (if x.new then 1 else 0) else if k = 11 then x.count else 0
def setZ (x : In) (k v : Int) : In :=
  if k = 1 then { x with mode := v % 256 } else if k = 2 then { x with pred := v % 256 } else if k = 3 then { x with d := v % 256 } else if k = 4 then { x with d := v % 256 } else if k = 5 then { x with s := v % 256 }
  else if k = 6 then { x with t := v % 256 } else if k = 7 then { x with n := v % 256 } else if k = 8 then { x with new := v == 1 } else if k = 11 then { x with count := v % 65536 } else x
def uppZ (x : In) (pc : Int) : Int := if x.ext then upperZ (valueP x pc) else 0
/-- What the value field holds. -/
def splitZ (f : Fd) (x : In) (pc : Int) : Int := if x.ext then lowerZ (valueP x pc) else valueP x pc / 2 ^ f.shift.toNat % 4294967296
def heldZ (f : Fd) (x : In) (pc : Int) : Int := if isVal f then splitZ f x pc else numZ x f.kind
def payFrom (x : In) (pc : Int) : List Fd → Int → Int → Int
  | [], p, _ => p
  | f :: r, p, low => payFrom x pc r (putZ p (low - f.bits) f.bits (heldZ f x pc)) (low - f.bits)
def upFrom (x : In) (pc : Int) : List Fd → Int → Int
  | [], u => u
  | f :: r, u => upFrom x pc r (if isVal f then uppZ x pc else u)
def sayB (x : In) (pc : Int) : Bool := rightB x && (x.ext || fitP x pc)
def payP (x : In) (pc : Int) : Int := payFrom x pc (fieldsZ x.op) 0 24
def wordP (x : In) (pc : Int) : Int := if sayB x pc then wordZ x.op (payP x pc) 0 else 0
def upP (x : In) (pc : Int) : Int := if sayB x pc then upFrom x pc (fieldsZ x.op) 0 else 0
/-- The value that is joined. -/
def joinV (f : Fd) (h u : Int) (has : Bool) (pc : Int) : Int :=
  let v := if has then joinZ u h else if f.sg then sextZ h f.bits * 2 ^ f.shift.toNat else h * 2 ^ f.shift.toNat
  if f.kind = 10 then targetZ v pc else v
def readFrom (p u : Int) (has : Bool) (pc : Int) : List Fd → Int → In → In × Bool
  | [], low, y => (y, getZ p 0 low == 0)
  | f :: r, low, y =>
    if isVal f then
      if has && decide (256 ≤ getZ p (low - f.bits) f.bits) then (inZero, false)
      else readFrom p u has pc r (low - f.bits) { y with imm := joinV f (getZ p (low - f.bits) f.bits) u has pc }
    else readFrom p u has pc r (low - f.bits) (setZ y f.kind (getZ p (low - f.bits) f.bits))
def startIn (op : Int) (has : Bool) : In := { inZero with op := op, ext := has }
def readP (w u : Int) (has : Bool) (pc : Int) : In × Bool := readFrom (payZ w) u has pc (fieldsZ (codeZ w)) 24 (startIn (codeZ w) has)
def instB (w u : Int) (has : Bool) (pc : Int) : Bool := isOp (codeZ w) && !(has && decide (16777216 ≤ u)) && (readP w u has pc).2 && rightB (readP w u has pc).1
def instP (w u : Int) (has : Bool) (pc : Int) : In := if instB w u has pc then (readP w u has pc).1 else inZero

/-! Lists of fields. -/
def sumB : List Fd → Nat
  | [] => 0
  | f :: r => f.bits.toNat + sumB r
def memb (k : Int) : Int := if k = 4 then 3 else if k = 10 then 9 else k
def apartB : List Fd → Bool
  | [] => true
  | f :: r => r.all (fun g => memb g.kind != memb f.kind) && apartB r
def listOk (op : Nat) : Bool :=
  decide (sumB (fieldsZ op) ≤ 24) && apartB (fieldsZ op) && (fieldsZ op).all (fun f => decide (1 ≤ f.bits) && decide (f.bits ≤ 24) && decide (0 ≤ f.shift) && decide (f.shift ≤ 2) && decide (1 ≤ f.kind) && decide (f.kind ≤ 11) && (!isVal f || (f == vF op && vB op))
    && (isVal f || decide (f.bits ≤ 8) || f.kind == 11) && (!(f.kind == 8) || f.bits == 1) && decide (f.bits ≤ 16 || isVal f) && (!isVal f || ([fI14, fI122, fI121, fI12, fU5, fR19, fR24, fR12].contains f)))
theorem lists_ok : (List.range 32).all listOk = true := by decide +kernel
structure FdOk (op : Int) (f : Fd) : Prop where
  b1 : 1 ≤ f.bits
  b2 : f.bits ≤ 24
  s0 : 0 ≤ f.shift
  s1 : f.shift ≤ 2
  k1 : 1 ≤ f.kind
  k2 : f.kind ≤ 11
  vf : isVal f = true → f = vF op ∧ vB op = true
  nb : isVal f = false → f.kind ≠ 11 → f.bits ≤ 8
  n8 : f.kind = 8 → f.bits = 1
  nc : isVal f = false → f.bits ≤ 16
  lit : isVal f = true → f = fI14 ∨ f = fI122 ∨ f = fI121 ∨ f = fI12 ∨ f = fU5 ∨ f = fR19 ∨ f = fR24 ∨ f = fR12
theorem list_ok (op : Int) (h : isOp op = true) : sumB (fieldsZ op) ≤ 24 ∧ apartB (fieldsZ op) = true ∧ ∀ f ∈ fieldsZ op, FdOk op f := by
  simp only [isOp, Bool.and_eq_true, decide_eq_true_eq] at h
  obtain ⟨n, rfl⟩ := Int.eq_ofNat_of_zero_le (show 0 ≤ op by omega)
  have := List.all_eq_true.1 lists_ok n (List.mem_range.2 (by omega))
  unfold listOk at this
  simp only [Bool.and_eq_true, decide_eq_true_eq, List.all_eq_true, Bool.or_eq_true, Bool.not_eq_true', beq_iff_eq, List.contains_iff_mem, List.mem_cons, List.not_mem_nil, or_false] at this
  refine ⟨this.1.1, this.1.2, fun f hf => ?_⟩
  obtain ⟨⟨⟨⟨⟨⟨⟨⟨⟨⟨a1, a2⟩, a3⟩, a4⟩, a5⟩, a6⟩, a7⟩, a8⟩, a9⟩, a10⟩, a11⟩ := this.2 f hf
  refine ⟨a1, a2, a3, a4, a5, a6, fun hv => ?_, fun hv hk => ?_, fun hk => ?_, fun hv => ?_, fun hv => ?_⟩
  · rcases a7 with h | h
    · rw [hv] at h; cases h
    · exact h
  · rcases a8 with (h | h) | h
    · rw [hv] at h; cases h
    · exact h
    · exact absurd h hk
  · rcases a9 with h | h
    · exact absurd hk (by simpa using h)
    · exact h
  · rcases a10 with h | h
    · exact h
    · rw [hv] at h; cases h
  · rcases a11 with h | h
    · rw [hv] at h; cases h
    · exact h
end
section
open Go

theorem getZ_pos (p : Int) (a b : Nat) (h : a + b ≤ 32) : getZ p a b = p / 2 ^ a % 2 ^ b := by
  have : fieldB (a : Int) (b : Int) = true := fieldB_iff.2 ⟨by omega, by omega, by omega⟩
  simp [getZ, this]
theorem putZ_pos (p v : Int) (a b : Nat) (h : a + b ≤ 32) : putZ p a b v = p / 2 ^ (a + b) * 2 ^ (a + b) + v % 2 ^ b * 2 ^ a + p % 2 ^ a := by
  have : fieldB (a : Int) (b : Int) = true := fieldB_iff.2 ⟨by omega, by omega, by omega⟩
  simp [putZ, this]
/-- Each field of the payload holds what the instruction holds. -/
def agree (x : In) (pc p : Int) : List Fd → Int → Prop
  | [], _ => True
  | f :: r, low => getZ p (low - f.bits) f.bits = heldZ f x pc % 2 ^ f.bits.toNat ∧ agree x pc p r (low - f.bits)
theorem sumB_cons (f : Fd) (r : List Fd) : sumB (f :: r) = f.bits.toNat + sumB r := rfl
theorem ipow_pos (n : Nat) : (0 : Int) < 2 ^ n := Int.pow_pos (by decide)
theorem put_zeros (p v : Int) (l b : Nat) (hl : l + b ≤ 24) (h0 : p % 2 ^ (b + l) = 0) : putZ p l b v = (p / 2 ^ (b + l) * 2 ^ b + v % 2 ^ b) * 2 ^ l := by
  rw [putZ_pos p v l b (by omega), Nat.add_comm l b]
  have e : p % 2 ^ l = 0 := emod_le' p l (b + l) (by omega) h0
  rw [e, Int.add_zero, Int.add_mul, Int.mul_assoc, ← Int.pow_add]
where
  emod_le' (v : Int) (i j : Nat) (hij : i ≤ j) (h : v % 2 ^ j = 0) : v % 2 ^ i = 0 := by
    obtain ⟨d, rfl⟩ : ∃ d, j = i + d := ⟨j - i, by omega⟩
    exact Int.emod_eq_zero_of_dvd (Int.dvd_trans ⟨2 ^ d, by rw [Int.pow_add]⟩ (Int.dvd_of_emod_eq_zero h))
theorem div_split (q : Int) (l b : Nat) : q / 2 ^ (b + l) = q / 2 ^ l / 2 ^ b := by
  rw [Nat.add_comm, Int.pow_add, ← Int.ediv_ediv_of_nonneg (Int.le_of_lt (ipow_pos l))]
theorem pack_agree (x : In) (pc : Int) (fs : List Fd) : ∀ (low : Nat) (p : Int), sumB fs ≤ low → low ≤ 24 → (∀ f ∈ fs, 1 ≤ f.bits) → p % 2 ^ low = 0 →
    payFrom x pc fs p low / 2 ^ low = p / 2 ^ low ∧ agree x pc (payFrom x pc fs p low) fs low ∧ payFrom x pc fs p low % 2 ^ (low - sumB fs) = 0 := by
  induction fs with
  | nil => intro low p _ _ _ h; exact ⟨rfl, trivial, h⟩
  | cons f r ih =>
    intro low p hs h24 hb h0
    obtain ⟨b, hbb⟩ := Int.eq_ofNat_of_zero_le (show 0 ≤ f.bits by have := hb f (List.mem_cons_self); omega)
    have hbn : f.bits.toNat = b := by rw [hbb]; rfl
    have hs2 : b + sumB r ≤ low := by rw [sumB_cons, hbn] at hs; exact hs
    obtain ⟨l, rfl⟩ : ∃ l, low = b + l := ⟨low - b, by omega⟩
    have el : ((b + l : Nat) : Int) - f.bits = (l : Int) := by rw [hbb]; simp; omega
    have ep : payFrom x pc (f :: r) p ((b + l : Nat) : Int) = payFrom x pc r (putZ p l b (heldZ f x pc)) l := by
      show payFrom x pc r (putZ p (((b + l : Nat) : Int) - f.bits) f.bits (heldZ f x pc)) (((b + l : Nat) : Int) - f.bits) = _
      rw [el, hbb]
    have ea : agree x pc (payFrom x pc r (putZ p l b (heldZ f x pc)) l) (f :: r) ((b + l : Nat) : Int) = (getZ (payFrom x pc r (putZ p l b (heldZ f x pc)) l) l b = heldZ f x pc % 2 ^ b ∧ agree x pc (payFrom x pc r (putZ p l b (heldZ f x pc)) l) r l) := by
      show (getZ _ (((b + l : Nat) : Int) - f.bits) f.bits = heldZ f x pc % 2 ^ f.bits.toNat ∧ agree x pc _ r (((b + l : Nat) : Int) - f.bits)) = _
      rw [el, hbn, hbb]
    have es : b + l - sumB (f :: r) = l - sumB r := by rw [sumB_cons, hbn]; omega
    have e1 := put_zeros p (heldZ f x pc) l b (by omega) h0
    generalize putZ p l b (heldZ f x pc) = p1 at *
    have d1 : p1 / 2 ^ l = p / 2 ^ (b + l) * 2 ^ b + heldZ f x pc % 2 ^ b := by rw [e1, Int.mul_ediv_cancel _ (Int.ne_of_gt (ipow_pos l))]
    have m1 : p1 % 2 ^ l = 0 := by rw [e1, Int.mul_emod_left]
    have hh0 := Int.emod_nonneg (heldZ f x pc) (Int.ne_of_gt (ipow_pos b))
    have hh1 := Int.emod_lt_of_pos (heldZ f x pc) (ipow_pos b)
    obtain ⟨i1, i2, i3⟩ := ih l p1 (by omega) (by omega) (fun g hg => hb g (List.mem_cons_of_mem _ hg)) m1
    rw [ep, ea, es]
    refine ⟨?_, ⟨?_, i2⟩, i3⟩
    · rw [div_split, i1, d1, Int.add_comm, Int.add_mul_ediv_right _ _ (Int.ne_of_gt (ipow_pos b)), Int.ediv_eq_zero_of_lt hh0 hh1, Int.zero_add]
    · rw [getZ_pos _ l b (by omega), i1, d1, Int.add_comm, Int.add_mul_emod_self_right, Int.emod_eq_of_lt hh0 hh1]
theorem pack_of (x : In) (pc q : Int) (fs : List Fd) : ∀ (low : Nat) (p : Int), sumB fs ≤ low → low ≤ 24 → (∀ f ∈ fs, 1 ≤ f.bits) → p = q / 2 ^ low * 2 ^ low → agree x pc q fs low →
    payFrom x pc fs p low = q / 2 ^ (low - sumB fs) * 2 ^ (low - sumB fs) := by
  induction fs with
  | nil => intro low p _ _ _ h _; exact h
  | cons f r ih =>
    intro low p hs h24 hb hp ha
    obtain ⟨b, hbb⟩ := Int.eq_ofNat_of_zero_le (show 0 ≤ f.bits by have := hb f (List.mem_cons_self); omega)
    have hbn : f.bits.toNat = b := by rw [hbb]; rfl
    have hs2 : b + sumB r ≤ low := by rw [sumB_cons, hbn] at hs; exact hs
    obtain ⟨l, rfl⟩ : ∃ l, low = b + l := ⟨low - b, by omega⟩
    have el : ((b + l : Nat) : Int) - f.bits = (l : Int) := by rw [hbb]; simp; omega
    have ep : payFrom x pc (f :: r) p ((b + l : Nat) : Int) = payFrom x pc r (putZ p l b (heldZ f x pc)) l := by
      show payFrom x pc r (putZ p (((b + l : Nat) : Int) - f.bits) f.bits (heldZ f x pc)) (((b + l : Nat) : Int) - f.bits) = _
      rw [el, hbb]
    have ha2 : getZ q l b = heldZ f x pc % 2 ^ b ∧ agree x pc q r l := by
      have : getZ q (((b + l : Nat) : Int) - f.bits) f.bits = heldZ f x pc % 2 ^ f.bits.toNat ∧ agree x pc q r (((b + l : Nat) : Int) - f.bits) := ha
      rw [el, hbn, hbb] at this
      exact this
    have es : b + l - sumB (f :: r) = l - sumB r := by rw [sumB_cons, hbn]; omega
    have h0 : p % 2 ^ (b + l) = 0 := by rw [hp, Int.mul_emod_left]
    have e1 := put_zeros p (heldZ f x pc) l b (by omega) h0
    have hd : p / 2 ^ (b + l) = q / 2 ^ (b + l) := by rw [hp, Int.mul_ediv_cancel _ (Int.ne_of_gt (ipow_pos _))]
    rw [ep, es]
    refine ih l _ (by omega) (by omega) (fun g hg => hb g (List.mem_cons_of_mem _ hg)) ?_ ha2.2
    rw [e1, hd, ← ha2.1, getZ_pos q l b (by omega), div_split]
    congr 1
    have := Int.mul_ediv_add_emod (q / 2 ^ l) (2 ^ b)
    rw [Int.mul_comm] at this
    exact this

/-! Reading. -/
theorem memb_ne (k : Int) : memb k = if k = 4 then 3 else if k = 10 then 9 else k := rfl
theorem numZ_setZ_ne (y : In) (k k' v : Int) (h : memb k' ≠ memb k) : numZ (setZ y k' v) k = numZ y k := by
  have hc : k' = 1 ∨ k' = 2 ∨ k' = 3 ∨ k' = 4 ∨ k' = 5 ∨ k' = 6 ∨ k' = 7 ∨ k' = 8 ∨ k' = 11 ∨ (k' ≠ 1 ∧ k' ≠ 2 ∧ k' ≠ 3 ∧ k' ≠ 4 ∧ k' ≠ 5 ∧ k' ≠ 6 ∧ k' ≠ 7 ∧ k' ≠ 8 ∧ k' ≠ 11) := by omega
  rcases hc with rfl | rfl | rfl | rfl | rfl | rfl | rfl | rfl | rfl | ⟨h1, h2, h3, h4, h5, h6, h7, h8, h9⟩
  · have hk : k ≠ 1 := by rintro rfl; exact h rfl
    show numZ { y with mode := _ } k = _
    unfold numZ; rw [if_neg hk, if_neg hk]
  · have hk : k ≠ 2 := by rintro rfl; exact h rfl
    show numZ { y with pred := _ } k = _
    unfold numZ; rw [if_neg hk, if_neg hk]
  · have hk : k ≠ 3 := by rintro rfl; exact h rfl
    have hk' : k ≠ 4 := by rintro rfl; exact h rfl
    show numZ { y with d := _ } k = _
    unfold numZ; rw [if_neg hk, if_neg hk', if_neg hk, if_neg hk']
  · have hk : k ≠ 3 := by rintro rfl; exact h rfl
    have hk' : k ≠ 4 := by rintro rfl; exact h rfl
    show numZ { y with d := _ } k = _
    unfold numZ; rw [if_neg hk, if_neg hk', if_neg hk, if_neg hk']
  · have hk : k ≠ 5 := by rintro rfl; exact h rfl
    show numZ { y with s := _ } k = _
    unfold numZ; rw [if_neg hk, if_neg hk]
  · have hk : k ≠ 6 := by rintro rfl; exact h rfl
    show numZ { y with t := _ } k = _
    unfold numZ; rw [if_neg hk, if_neg hk]
  · have hk : k ≠ 7 := by rintro rfl; exact h rfl
    show numZ { y with n := _ } k = _
    unfold numZ; rw [if_neg hk, if_neg hk]
  · have hk : k ≠ 8 := by rintro rfl; exact h rfl
    show numZ { y with new := _ } k = _
    unfold numZ; rw [if_neg hk, if_neg hk]
  · have hk : k ≠ 11 := by rintro rfl; exact h rfl
    show numZ { y with count := _ } k = _
    unfold numZ; rw [if_neg hk, if_neg hk]
  · have e : setZ y k' v = y := by unfold setZ; rw [if_neg h1, if_neg h2, if_neg h3, if_neg h4, if_neg h5, if_neg h6, if_neg h7, if_neg h8, if_neg h9]
    rw [e]
theorem setZ_keeps (y : In) (k v : Int) : (setZ y k v).op = y.op ∧ (setZ y k v).ext = y.ext ∧ (setZ y k v).imm = y.imm := by
  have key : ∀ (c : Prop) [Decidable c] (a b : In), (a.op = y.op ∧ a.ext = y.ext ∧ a.imm = y.imm) → (b.op = y.op ∧ b.ext = y.ext ∧ b.imm = y.imm) → ((if c then a else b).op = y.op ∧ (if c then a else b).ext = y.ext ∧ (if c then a else b).imm = y.imm) :=
    fun c _ a b ha hb => ite_of (fun z : In => z.op = y.op ∧ z.ext = y.ext ∧ z.imm = y.imm) ha hb
  unfold setZ
  exact key _ _ _ ⟨rfl, rfl, rfl⟩ (key _ _ _ ⟨rfl, rfl, rfl⟩ (key _ _ _ ⟨rfl, rfl, rfl⟩ (key _ _ _ ⟨rfl, rfl, rfl⟩ (key _ _ _ ⟨rfl, rfl, rfl⟩ (key _ _ _ ⟨rfl, rfl, rfl⟩ (key _ _ _ ⟨rfl, rfl, rfl⟩ (key _ _ _ ⟨rfl, rfl, rfl⟩ (key _ _ _ ⟨rfl, rfl, rfl⟩ ⟨rfl, rfl, rfl⟩))))))))
theorem numZ_imm (y : In) (v k : Int) : numZ { y with imm := v } k = numZ y k := rfl
theorem numZ_setZ (y : In) (f : Fd) (v : Int) (op : Int) (hf : FdOk op f) (hv : isVal f = false) (h0 : 0 ≤ v) (h1 : v < 2 ^ f.bits.toNat) : numZ (setZ y f.kind v) f.kind = v := by
  have hk1 := hf.k1
  have hk2 := hf.k2
  have hb1 := hf.b1
  have h8 := hf.nb hv
  have h16 := hf.nc hv
  have hn := hf.n8
  have hne : f.kind ≠ 9 ∧ f.kind ≠ 10 := by
    unfold isVal at hv
    simp only [Bool.or_eq_false_iff, beq_eq_false_iff_ne] at hv
    exact hv
  have p8 : f.bits ≤ 8 → v < 256 := fun h => Int.lt_of_lt_of_le h1 (by
    have : ∀ n : Nat, n ≤ 8 → (2 : Int) ^ n ≤ 256 := by decide
    exact this _ (by omega))
  have p16 : v < 65536 := Int.lt_of_lt_of_le h1 (by
    have : ∀ n : Nat, n ≤ 16 → (2 : Int) ^ n ≤ 65536 := by decide
    exact this _ (by omega))
  have p1 : f.bits = 1 → v < 2 := fun h => by rw [h] at h1; exact h1
  generalize f.kind = k at *
  have hc : k = 1 ∨ k = 2 ∨ k = 3 ∨ k = 4 ∨ k = 5 ∨ k = 6 ∨ k = 7 ∨ k = 8 ∨ k = 11 := by omega
  rcases hc with rfl | rfl | rfl | rfl | rfl | rfl | rfl | rfl | rfl
  case inr.inr.inr.inr.inr.inr.inr.inl =>
    have h2 := p1 (hn rfl)
    show (if (v == 1) then (1 : Int) else 0) = v
    have : v = 0 ∨ v = 1 := by omega
    rcases this with rfl | rfl <;> rfl
  case inr.inr.inr.inr.inr.inr.inr.inr =>
    show v % 65536 = v
    omega
  all_goals
    have := p8 (h8 (by decide))
    show v % 256 = v
    omega
/-- What a reading that is told has told. -/
def readOk (x : In) (p u : Int) (has : Bool) (pc : Int) : List Fd → Int → Prop
  | [], low => getZ p 0 low = 0
  | f :: r, low => (if isVal f then ((has = true → getZ p (low - f.bits) f.bits < 256) ∧ x.imm = joinV f (getZ p (low - f.bits) f.bits) u has pc) else numZ x f.kind = getZ p (low - f.bits) f.bits) ∧ readOk x p u has pc r (low - f.bits)
def plainFrom (x : In) : List Fd → In → In
  | [], y => y
  | f :: r, y => plainFrom x r (if isVal f then { y with imm := x.imm } else setZ y f.kind (numZ x f.kind))
theorem read_of (x : In) (p u : Int) (has : Bool) (pc : Int) (fs : List Fd) : ∀ (low : Int) (y : In), readOk x p u has pc fs low → readFrom p u has pc fs low y = (plainFrom x fs y, true) := by
  induction fs with
  | nil => intro low y h; show (y, getZ p 0 low == 0) = _; rw [show getZ p 0 low = 0 from h]; rfl
  | cons f r ih =>
    intro low y ⟨h1, h2⟩
    unfold readFrom plainFrom
    cases hv : isVal f with
    | true =>
      rw [hv, if_pos rfl] at h1
      rw [if_pos rfl, if_pos rfl, if_neg, ih _ _ h2, ← h1.2]
      intro hh
      simp only [Bool.and_eq_true, decide_eq_true_eq] at hh
      have := h1.1 hh.1
      omega
    | false =>
      rw [hv, if_neg (by decide)] at h1
      rw [if_neg (by decide), if_neg (by decide), ih _ _ h2, h1]
theorem read_keeps (p u : Int) (has : Bool) (pc : Int) (fs : List Fd) : ∀ (low : Int) (y x : In), readFrom p u has pc fs low y = (x, true) → x.op = y.op ∧ x.ext = y.ext ∧
    (∀ k, fs.all (fun g => memb g.kind != memb k) = true → numZ x k = numZ y k) ∧ (fs.all (fun g => memb g.kind != 9) = true → x.imm = y.imm) := by
  induction fs with
  | nil =>
    intro low y x h
    obtain rfl : y = x := congrArg Prod.fst h
    exact ⟨rfl, rfl, fun _ _ => rfl, fun _ => rfl⟩
  | cons f r ih =>
    intro low y x h
    unfold readFrom at h
    cases hv : isVal f with
    | true =>
      rw [hv, if_pos rfl] at h
      split at h
      · cases h
      · obtain ⟨i1, i2, i3, i4⟩ := ih _ _ _ h
        refine ⟨i1, i2, fun k hk => ?_, fun hk => ?_⟩
        · simp only [List.all_cons, Bool.and_eq_true] at hk
          exact i3 k hk.2
        · simp only [List.all_cons, Bool.and_eq_true, bne_iff_ne] at hk
          refine absurd ?_ hk.1
          unfold isVal at hv
          simp only [Bool.or_eq_true, beq_iff_eq] at hv
          rcases hv with e | e <;> rw [e] <;> rfl
    | false =>
      rw [hv, if_neg (by decide)] at h
      obtain ⟨i1, i2, i3, i4⟩ := ih _ _ _ h
      obtain ⟨j1, j2, j3⟩ := setZ_keeps y f.kind (getZ p (low - f.bits) f.bits)
      refine ⟨i1.trans j1, i2.trans j2, fun k hk => ?_, fun hk => ?_⟩
      · simp only [List.all_cons, Bool.and_eq_true, bne_iff_ne] at hk
        rw [i3 k hk.2, numZ_setZ_ne _ _ _ _ hk.1]
      · simp only [List.all_cons, Bool.and_eq_true] at hk
        rw [i4 hk.2, j3]
theorem getZ_bounds (p a b : Int) (h0 : 0 ≤ a) (h1 : 0 ≤ b) (h2 : a + b ≤ 32) : 0 ≤ getZ p a b ∧ getZ p a b < 2 ^ b.toNat := by
  obtain ⟨A, rfl⟩ := Int.eq_ofNat_of_zero_le h0
  obtain ⟨B, rfl⟩ := Int.eq_ofNat_of_zero_le h1
  rw [getZ_pos p A B (by omega)]
  exact ⟨Int.emod_nonneg _ (Int.ne_of_gt (ipow_pos B)), Int.emod_lt_of_pos _ (ipow_pos B)⟩
theorem read_ok (p u : Int) (has : Bool) (pc op : Int) (fs : List Fd) : ∀ (low : Int) (y x : In), sumB fs ≤ low → low ≤ 24 → apartB fs = true → (∀ f ∈ fs, FdOk op f) → readFrom p u has pc fs low y = (x, true) → readOk x p u has pc fs low := by
  induction fs with
  | nil =>
    intro low y x _ _ _ _ h
    have := congrArg Prod.snd h
    exact beq_iff_eq.1 this
  | cons f r ih =>
    intro low y x hs h24 hap hok h
    have hf := hok f List.mem_cons_self
    have hb1 := hf.b1
    have hs2 : f.bits + (sumB r : Int) ≤ low := by
      rw [sumB_cons] at hs
      omega
    have hg := getZ_bounds p (low - f.bits) f.bits (by omega) (by omega) (by omega)
    unfold apartB at hap
    simp only [Bool.and_eq_true] at hap
    have hok2 : ∀ g ∈ r, FdOk op g := fun g hg => hok g (List.mem_cons_of_mem _ hg)
    unfold readFrom at h
    unfold readOk
    cases hv : isVal f with
    | true =>
      rw [hv, if_pos rfl] at h
      rw [if_pos rfl]
      split at h
      · cases h
      · rename_i hn
        have hk := read_keeps p u has pc r _ _ _ h
        refine ⟨⟨fun hh => ?_, ?_⟩, ih _ _ _ (by omega) (by omega) hap.2 hok2 h⟩
        · simp only [hh, Bool.true_and, decide_eq_true_eq] at hn
          omega
        · have hm : memb f.kind = 9 := by
            unfold isVal at hv
            simp only [Bool.or_eq_true, beq_iff_eq] at hv
            rcases hv with e | e <;> rw [e] <;> rfl
          have := hap.1
          rw [hm] at this
          exact hk.2.2.2 this
    | false =>
      rw [hv, if_neg (by decide)] at h
      rw [if_neg (by decide)]
      have hk := read_keeps p u has pc r _ _ _ h
      exact ⟨(hk.2.2.1 f.kind hap.1).trans (numZ_setZ y f _ op hf hv hg.1 hg.2), ih _ _ _ (by omega) (by omega) hap.2 hok2 h⟩
end
section
open Go

theorem value_at {x : In} {f : Fd} (h : f = vF x.op ∧ vB x.op = true) (pc : Int) : valueP x pc = valZ f x pc ∧ fitP x pc = fitZ f x pc := by
  obtain ⟨rfl, hb⟩ := h
  unfold valueP fitP
  rw [hb]
  exact ⟨rfl, rfl⟩
/-- What is so of the value of a right instruction. -/
structure ValOk (f : Fd) (x : In) : Prop where
  rel : f.kind = 10 → 0 ≤ x.imm ∧ x.imm < 4294967296
  big : f.kind = 9 → x.ext = true → -2147483648 ≤ x.imm ∧ x.imm < 2147483648
  may : x.ext = true → f.ext = true
/-- Split, then joined. -/
theorem split_join {x : In} {f : Fd} (pc : Int) (hf : f = vF x.op ∧ vB x.op = true) (hl : f = fI14 ∨ f = fI122 ∨ f = fI121 ∨ f = fI12 ∨ f = fU5 ∨ f = fR19 ∨ f = fR24 ∨ f = fR12) (hx : ValOk f x) (hs : x.ext = false → fitP x pc = true) (g u : Int)
    (hg : g = splitZ f x pc % 2 ^ f.bits.toNat) (hu : u = uppZ x pc) : (x.ext = true → g < 256) ∧ x.imm = joinV f g u x.ext pc := by
  obtain ⟨hv, hfit⟩ := value_at hf pc
  have h1 := hx.rel
  have h2 := hx.big
  have h3 := hx.may
  rw [hfit] at hs
  unfold splitZ at hg
  unfold uppZ at hu
  rw [hv] at hg hu
  clear hx hv hfit hf
  cases he : x.ext with
  | true =>
    rw [he] at hg hu
    rw [if_pos rfl] at hg hu
    have h3' := h3 he
    have hb : g = lowerZ (valZ f x pc) := by
      have k : 0 ≤ lowerZ (valZ f x pc) ∧ lowerZ (valZ f x pc) < 256 := by unfold lowerZ; omega
      rw [hg]
      rcases hl with rfl | rfl | rfl | rfl | rfl | rfl | rfl | rfl
      case inr.inr.inr.inr.inl => cases h3'
      all_goals
        generalize lowerZ _ = l at *
        refine Int.emod_eq_of_lt k.1 (Int.lt_of_lt_of_le k.2 (by decide))
    refine ⟨fun _ => by rw [hb]; unfold lowerZ; omega, ?_⟩
    have hj : joinZ u g = s32 (valZ f x pc) := by
      rw [hu, hb]
      unfold joinZ upperZ lowerZ
      rw [show valZ f x pc / 256 % 16777216 % 16777216 * 256 + valZ f x pc % 256 % 256 = valZ f x pc % 4294967296 by omega, s32_mod]
    unfold joinV
    simp only [if_true]
    rw [hj]
    unfold valZ
    by_cases hk : f.kind = 10
    · rw [if_pos hk, if_pos hk]
      obtain ⟨r1, r2⟩ := h1 hk
      unfold targetZ s32
      omega
    · rw [if_neg hk, if_neg hk]
      have hk9 : f.kind = 9 := by
        rcases hl with rfl | rfl | rfl | rfl | rfl | rfl | rfl | rfl
        all_goals first | rfl | exact absurd rfl hk
      obtain ⟨r1, r2⟩ := h2 hk9 he
      unfold s32
      omega
  | false =>
    rw [he] at hg
    rw [if_neg (by decide)] at hg
    have hfit := hs he
    unfold fitZ at hfit
    refine ⟨fun h => (by cases h), ?_⟩
    have hs32 : valZ f x pc = if f.kind = 10 then s32 (x.imm - pc) else x.imm := rfl
    generalize valZ f x pc = v at *
    have hg2 := hg
    clear hg hu h2 h3 he
    have hl2 : f = ⟨9, 14, 0, true, true⟩ ∨ f = ⟨9, 12, 2, true, true⟩ ∨ f = ⟨9, 12, 1, true, true⟩ ∨ f = ⟨9, 12, 0, true, true⟩ ∨ f = ⟨9, 5, 0, false, false⟩ ∨ f = ⟨10, 19, 2, true, true⟩ ∨ f = ⟨10, 24, 2, true, true⟩ ∨ f = ⟨10, 12, 2, true, true⟩ := hl
    rcases hl2 with rfl | rfl | rfl | rfl | rfl | rfl | rfl | rfl
    all_goals
      unfold fitsB at hfit
      unfold joinV sextZ
      dsimp only at hfit hg2 h1 hs32 ⊢
      simp at hfit hg2 h1 hs32 ⊢
      first
        | omega
        | (unfold targetZ; unfold s32 at hs32; omega)
/-- Joined, then split. -/
theorem join_split {x : In} {f : Fd} (pc : Int) (hf : f = vF x.op ∧ vB x.op = true) (hl : f = fI14 ∨ f = fI122 ∨ f = fI121 ∨ f = fI12 ∨ f = fU5 ∨ f = fR19 ∨ f = fR24 ∨ f = fR12) (g u : Int) (hg0 : 0 ≤ g) (hg1 : g < 2 ^ f.bits.toNat)
    (hx : x.imm = joinV f g u x.ext pc) (hh : x.ext = true → g < 256 ∧ 0 ≤ u ∧ u < 16777216) :
    splitZ f x pc % 2 ^ f.bits.toNat = g ∧ (x.ext = true → uppZ x pc = u) ∧ (x.ext = false → fitP x pc = true) := by
  obtain ⟨hv, hfit⟩ := value_at hf pc
  rw [hfit]
  unfold splitZ uppZ
  rw [hv]
  clear hv hfit hf
  cases he : x.ext with
  | true =>
    rw [he] at hx
    obtain ⟨k1, k2, k3⟩ := hh he
    have hV : valZ f x pc = s32 (u * 256 + g) := by
      unfold valZ
      unfold joinV at hx
      simp only [if_true] at hx
      unfold joinZ at hx
      rw [show u % 16777216 * 256 + g % 256 = u * 256 + g by omega] at hx
      by_cases hk : f.kind = 10
      · rw [if_pos hk] at hx ⊢
        rw [hx]
        unfold targetZ s32
        omega
      · rw [if_neg hk] at hx ⊢
        exact hx
    rw [hV, if_pos rfl, if_pos rfl]
    refine ⟨?_, fun _ => ?_, fun h => by cases h⟩
    · have e : lowerZ (s32 (u * 256 + g)) = g := by unfold lowerZ s32; omega
      rw [e]
      exact Int.emod_eq_of_lt hg0 hg1
    · unfold upperZ s32
      omega
  | false =>
    rw [he] at hx
    rw [if_neg (by decide)]
    unfold fitZ
    have hs32 : valZ f x pc = if f.kind = 10 then s32 (x.imm - pc) else x.imm := rfl
    generalize valZ f x pc = v at *
    clear hh he
    have hl2 : f = ⟨9, 14, 0, true, true⟩ ∨ f = ⟨9, 12, 2, true, true⟩ ∨ f = ⟨9, 12, 1, true, true⟩ ∨ f = ⟨9, 12, 0, true, true⟩ ∨ f = ⟨9, 5, 0, false, false⟩ ∨ f = ⟨10, 19, 2, true, true⟩ ∨ f = ⟨10, 24, 2, true, true⟩ ∨ f = ⟨10, 12, 2, true, true⟩ := hl
    rcases hl2 with rfl | rfl | rfl | rfl | rfl | rfl | rfl | rfl
    all_goals
      unfold fitsB
      unfold joinV sextZ at hx
      dsimp only at hx hg1 hs32 ⊢
      simp at hx hg1 hs32 ⊢
      first
        | omega
        | (unfold targetZ at hx; unfold s32 at hs32; omega)
end
end Go.Proofs.YtjeemiabddblhaaDoor
