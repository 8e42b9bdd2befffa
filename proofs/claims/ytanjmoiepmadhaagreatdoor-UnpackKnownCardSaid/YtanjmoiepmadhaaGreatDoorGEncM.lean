/- The words that say instructions, and the instructions that words say, as plain data: what is packed is read again, and the other way round; conditions as each lemma names them. · What is packed is read again, and the other way round: lists of fields of at most 24 bits in all. · Values in their field: what is split is joined again, and the other way round; for the eight kinds of value fields. · The document's form of a right instruction, op by op, is the table's; no condition but that each part lies in its Go type. Written by wip/tools/gen_encright.py. · The word of an instruction says that instruction, what a word says has that word, the document's own reading is the program's, and a target that is moved along leaves the word; conditions are the Go types' bounds. · The document's own reading of a word is the program's, and a target that is moved along with the address leaves the word; conditions are the Go types' bounds. -/
import Derived.Test.YtanjmoiepmadhaaGreatDoorGForm
import Derived.Test.YtanjmoiepmadhaaGreatDoorGExt
namespace Go.Proofs.YtanjmoiepmadhaaGreatDoor
section
set_option maxRecDepth 100000
section
open Go

def isVal (f : Fd) : Bool := f.kind == 9 || f.kind == 10
/-- What a field other than the value field holds. -/
def numZ (x : In) (k : Int) : Int :=
  if k = 1 then x.mode else if k = 2 then x.pred else if k = 3 then x.d else if k = 4 then x.d else if k = 5 then x.s else if k = 6 then x.t else if k = 7 then x.n
  else if k = 8 then (if x.new then 1 else 0) else if k = 11 then x.count else 0
def setZ (x : In) (k v : Int) : In :=
  if k = 1 then { x with mode := v % 256 } else if k = 2 then { x with pred := v % 256 } else if k = 3 then { x with d := v % 256 } else if k = 4 then { x with d := v % 256 } else if k = 5 then { x with s := v % 256 }
  else if k = 6 then { x with t := v % 256 } else if k = 7 then { x with n := v % 256 } else if k = 8 then { x with new := v == 1 } else if k = 11 then { x with count := v % 65536 } else x
def uppZ (x : In) (pc : Int) : Int := if x.ext then upperZ (valueP x pc) else 0
/-- What the value field holds. -/
def splitZ (f : Fd) (x : In) (pc : Int) : Int := if x.ext then lowerZ (valueP x pc) else valueP x pc / 2 ^ f.shift.toNat % 4294967296
def heldZ (f : Fd) (x : In) (pc : Int) : Int := if isVal f then splitZ f x pc else numZ x f.kind
def payFrom (x : In) (pc : Int) : List Fd → Int → Int → Int
  | [], p, _ => p
  | f :: r, p, low => payFrom x pc r (putZ p (low - f.bits) f.bits (heldZ f x pc)) (low - f.bits)
def upFrom (x : In) (pc : Int) : List Fd → Int → Int
  | [], u => u
  | f :: r, u => upFrom x pc r (if isVal f then uppZ x pc else u)
def sayB (x : In) (pc : Int) : Bool := rightB x && (x.ext || fitP x pc)
def payP (x : In) (pc : Int) : Int := payFrom x pc (fieldsZ x.op) 0 24
def wordP (x : In) (pc : Int) : Int := if sayB x pc then wordZ x.op (payP x pc) 0 else 0
def upP (x : In) (pc : Int) : Int := if sayB x pc then upFrom x pc (fieldsZ x.op) 0 else 0
/-- The value that is joined. -/
def joinV (f : Fd) (h u : Int) (has : Bool) (pc : Int) : Int :=
  let v := if has then joinZ u h else if f.sg then sextZ h f.bits * 2 ^ f.shift.toNat else h * 2 ^ f.shift.toNat
  if f.kind = 10 then targetZ v pc else v
def readFrom (p u : Int) (has : Bool) (pc : Int) : List Fd → Int → In → In × Bool
  | [], low, y => (y, getZ p 0 low == 0)
  | f :: r, low, y =>
    if isVal f then
      if has && decide (256 ≤ getZ p (low - f.bits) f.bits) then (inZero, false)
      else readFrom p u has pc r (low - f.bits) { y with imm := joinV f (getZ p (low - f.bits) f.bits) u has pc }
    else readFrom p u has pc r (low - f.bits) (setZ y f.kind (getZ p (low - f.bits) f.bits))
def startIn (op : Int) (has : Bool) : In := { inZero with op := op, ext := has }
def readP (w u : Int) (has : Bool) (pc : Int) : In × Bool := readFrom (payZ w) u has pc (fieldsZ (codeZ w)) 24 (startIn (codeZ w) has)
def instB (w u : Int) (has : Bool) (pc : Int) : Bool := isOp (codeZ w) && !(has && decide (16777216 ≤ u)) && (readP w u has pc).2 && rightB (readP w u has pc).1
def instP (w u : Int) (has : Bool) (pc : Int) : In := if instB w u has pc then (readP w u has pc).1 else inZero

/-! Lists of fields. -/
def sumB : List Fd → Nat
  | [] => 0
  | f :: r => f.bits.toNat + sumB r
def memb (k : Int) : Int := if k = 4 then 3 else if k = 10 then 9 else k
def apartB : List Fd → Bool
  | [] => true
  | f :: r => r.all (fun g => memb g.kind != memb f.kind) && apartB r
def listOk (op : Nat) : Bool :=
  decide (sumB (fieldsZ op) ≤ 24) && apartB (fieldsZ op) && (fieldsZ op).all (fun f => decide (1 ≤ f.bits) && decide (f.bits ≤ 24) && decide (0 ≤ f.shift) && decide (f.shift ≤ 2) && decide (1 ≤ f.kind) && decide (f.kind ≤ 11) && (!isVal f || (f == vF op && vB op))
    && (isVal f || decide (f.bits ≤ 8) || f.kind == 11) && (!(f.kind == 8) || f.bits == 1) && decide (f.bits ≤ 16 || isVal f) && (!isVal f || ([fI14, fI122, fI121, fI12, fU5, fR19, fR24, fR12].contains f)))
theorem lists_ok : (List.range 32).all listOk = true := by decide +kernel
structure FdOk (op : Int) (f : Fd) : Prop where
  b1 : 1 ≤ f.bits
  b2 : f.bits ≤ 24
  s0 : 0 ≤ f.shift
  s1 : f.shift ≤ 2
  k1 : 1 ≤ f.kind
  k2 : f.kind ≤ 11
  vf : isVal f = true → f = vF op ∧ vB op = true
  nb : isVal f = false → f.kind ≠ 11 → f.bits ≤ 8
  n8 : f.kind = 8 → f.bits = 1
  nc : isVal f = false → f.bits ≤ 16
  lit : isVal f = true → f = fI14 ∨ f = fI122 ∨ f = fI121 ∨ f = fI12 ∨ f = fU5 ∨ f = fR19 ∨ f = fR24 ∨ f = fR12
theorem list_ok (op : Int) (h : isOp op = true) : sumB (fieldsZ op) ≤ 24 ∧ apartB (fieldsZ op) = true ∧ ∀ f ∈ fieldsZ op, FdOk op f := by
  simp only [isOp, Bool.and_eq_true, decide_eq_true_eq] at h
  obtain ⟨n, rfl⟩ := Int.eq_ofNat_of_zero_le (show 0 ≤ op by omega)
  have := List.all_eq_true.1 lists_ok n (List.mem_range.2 (by omega))
  unfold listOk at this
  simp only [Bool.and_eq_true, decide_eq_true_eq, List.all_eq_true, Bool.or_eq_true, Bool.not_eq_true', beq_iff_eq, List.contains_iff_mem, List.mem_cons, List.not_mem_nil, or_false] at this
  refine ⟨this.1.1, this.1.2, fun f hf => ?_⟩
  obtain ⟨⟨⟨⟨⟨⟨⟨⟨⟨⟨a1, a2⟩, a3⟩, a4⟩, a5⟩, a6⟩, a7⟩, a8⟩, a9⟩, a10⟩, a11⟩ := this.2 f hf
  refine ⟨a1, a2, a3, a4, a5, a6, fun hv => ?_, fun hv hk => ?_, fun hk => ?_, fun hv => ?_, fun hv => ?_⟩
  · rcases a7 with h | h
    · rw [hv] at h; cases h
    · exact h
  · rcases a8 with (h | h) | h
    · rw [hv] at h; cases h
    · exact h
    · exact absurd h hk
  · rcases a9 with h | h
    · exact absurd hk (by simpa using h)
    · exact h
  · rcases a10 with h | h
    · exact h
    · rw [hv] at h; cases h
  · rcases a11 with h | h
    · rw [hv] at h; cases h
    · exact h
end
section
open Go

theorem getZ_pos (p : Int) (a b : Nat) (h : a + b ≤ 32) : getZ p a b = p / 2 ^ a % 2 ^ b := by
  have : fieldB (a : Int) (b : Int) = true := fieldB_iff.2 ⟨by omega, by omega, by omega⟩
  simp [getZ, this]
theorem putZ_pos (p v : Int) (a b : Nat) (h : a + b ≤ 32) : putZ p a b v = p / 2 ^ (a + b) * 2 ^ (a + b) + v % 2 ^ b * 2 ^ a + p % 2 ^ a := by
  have : fieldB (a : Int) (b : Int) = true := fieldB_iff.2 ⟨by omega, by omega, by omega⟩
  simp [putZ, this]
/-- Each field of the payload holds what the instruction holds. -/
def agree (x : In) (pc p : Int) : List Fd → Int → Prop
  | [], _ => True
  | f :: r, low => getZ p (low - f.bits) f.bits = heldZ f x pc % 2 ^ f.bits.toNat ∧ agree x pc p r (low - f.bits)
theorem sumB_cons (f : Fd) (r : List Fd) : sumB (f :: r) = f.bits.toNat + sumB r := rfl
theorem ipow_pos (n : Nat) : (0 : Int) < 2 ^ n := Int.pow_pos (by decide)
theorem put_zeros (p v : Int) (l b : Nat) (hl : l + b ≤ 24) (h0 : p % 2 ^ (b + l) = 0) : putZ p l b v = (p / 2 ^ (b + l) * 2 ^ b + v % 2 ^ b) * 2 ^ l := by
  rw [putZ_pos p v l b (by omega), Nat.add_comm l b]
  have e : p % 2 ^ l = 0 := emod_le' p l (b + l) (by omega) h0
  rw [e, Int.add_zero, Int.add_mul, Int.mul_assoc, ← Int.pow_add]
where
  emod_le' (v : Int) (i j : Nat) (hij : i ≤ j) (h : v % 2 ^ j = 0) : v % 2 ^ i = 0 := by
    obtain ⟨d, rfl⟩ : ∃ d, j = i + d := ⟨j - i, by omega⟩
    exact Int.emod_eq_zero_of_dvd (Int.dvd_trans ⟨2 ^ d, by rw [Int.pow_add]⟩ (Int.dvd_of_emod_eq_zero h))
theorem div_split (q : Int) (l b : Nat) : q / 2 ^ (b + l) = q / 2 ^ l / 2 ^ b := by
  rw [Nat.add_comm, Int.pow_add, ← Int.ediv_ediv_of_nonneg (Int.le_of_lt (ipow_pos l))]
theorem pack_agree (x : In) (pc : Int) (fs : List Fd) : ∀ (low : Nat) (p : Int), sumB fs ≤ low → low ≤ 24 → (∀ f ∈ fs, 1 ≤ f.bits) → p % 2 ^ low = 0 →
    payFrom x pc fs p low / 2 ^ low = p / 2 ^ low ∧ agree x pc (payFrom x pc fs p low) fs low ∧ payFrom x pc fs p low % 2 ^ (low - sumB fs) = 0 := by
  induction fs with
  | nil => intro low p _ _ _ h; exact ⟨rfl, trivial, h⟩
  | cons f r ih =>
    intro low p hs h24 hb h0
    obtain ⟨b, hbb⟩ := Int.eq_ofNat_of_zero_le (show 0 ≤ f.bits by have := hb f (List.mem_cons_self); omega)
    have hbn : f.bits.toNat = b := by rw [hbb]; rfl
    have hs2 : b + sumB r ≤ low := by rw [sumB_cons, hbn] at hs; exact hs
    obtain ⟨l, rfl⟩ : ∃ l, low = b + l := ⟨low - b, by omega⟩
    have el : ((b + l : Nat) : Int) - f.bits = (l : Int) := by rw [hbb]; simp; omega
    have ep : payFrom x pc (f :: r) p ((b + l : Nat) : Int) = payFrom x pc r (putZ p l b (heldZ f x pc)) l := by
      show payFrom x pc r (putZ p (((b + l : Nat) : Int) - f.bits) f.bits (heldZ f x pc)) (((b + l : Nat) : Int) - f.bits) = _
      rw [el, hbb]
    have ea : agree x pc (payFrom x pc r (putZ p l b (heldZ f x pc)) l) (f :: r) ((b + l : Nat) : Int) = (getZ (payFrom x pc r (putZ p l b (heldZ f x pc)) l) l b = heldZ f x pc % 2 ^ b ∧ agree x pc (payFrom x pc r (putZ p l b (heldZ f x pc)) l) r l) := by
      show (getZ _ (((b + l : Nat) : Int) - f.bits) f.bits = heldZ f x pc % 2 ^ f.bits.toNat ∧ agree x pc _ r (((b + l : Nat) : Int) - f.bits)) = _
      rw [el, hbn, hbb]
    have es : b + l - sumB (f :: r) = l - sumB r := by rw [sumB_cons, hbn]; omega
    have e1 := put_zeros p (heldZ f x pc) l b (by omega) h0
    generalize putZ p l b (heldZ f x pc) = p1 at *
    have d1 : p1 / 2 ^ l = p / 2 ^ (b + l) * 2 ^ b + heldZ f x pc % 2 ^ b := by rw [e1, Int.mul_ediv_cancel _ (Int.ne_of_gt (ipow_pos l))]
    have m1 : p1 % 2 ^ l = 0 := by rw [e1, Int.mul_emod_left]
    have hh0 := Int.emod_nonneg (heldZ f x pc) (Int.ne_of_gt (ipow_pos b))
    have hh1 := Int.emod_lt_of_pos (heldZ f x pc) (ipow_pos b)
    obtain ⟨i1, i2, i3⟩ := ih l p1 (by omega) (by omega) (fun g hg => hb g (List.mem_cons_of_mem _ hg)) m1
    rw [ep, ea, es]
    refine ⟨?_, ⟨?_, i2⟩, i3⟩
    · rw [div_split, i1, d1, Int.add_comm, Int.add_mul_ediv_right _ _ (Int.ne_of_gt (ipow_pos b)), Int.ediv_eq_zero_of_lt hh0 hh1, Int.zero_add]
    · rw [getZ_pos _ l b (by omega), i1, d1, Int.add_comm, Int.add_mul_emod_self_right, Int.emod_eq_of_lt hh0 hh1]
theorem pack_of (x : In) (pc q : Int) (fs : List Fd) : ∀ (low : Nat) (p : Int), sumB fs ≤ low → low ≤ 24 → (∀ f ∈ fs, 1 ≤ f.bits) → p = q / 2 ^ low * 2 ^ low → agree x pc q fs low →
    payFrom x pc fs p low = q / 2 ^ (low - sumB fs) * 2 ^ (low - sumB fs) := by
  induction fs with
  | nil => intro low p _ _ _ h _; exact h
  | cons f r ih =>
    intro low p hs h24 hb hp ha
    obtain ⟨b, hbb⟩ := Int.eq_ofNat_of_zero_le (show 0 ≤ f.bits by have := hb f (List.mem_cons_self); omega)
    have hbn : f.bits.toNat = b := by rw [hbb]; rfl
    have hs2 : b + sumB r ≤ low := by rw [sumB_cons, hbn] at hs; exact hs
    obtain ⟨l, rfl⟩ : ∃ l, low = b + l := ⟨low - b, by omega⟩
    have el : ((b + l : Nat) : Int) - f.bits = (l : Int) := by rw [hbb]; simp; omega
    have ep : payFrom x pc (f :: r) p ((b + l : Nat) : Int) = payFrom x pc r (putZ p l b (heldZ f x pc)) l := by
      show payFrom x pc r (putZ p (((b + l : Nat) : Int) - f.bits) f.bits (heldZ f x pc)) (((b + l : Nat) : Int) - f.bits) = _
      rw [el, hbb]
    have ha2 : getZ q l b = heldZ f x pc % 2 ^ b ∧ agree x pc q r l := by
      have : getZ q (((b + l : Nat) : Int) - f.bits) f.bits = heldZ f x pc % 2 ^ f.bits.toNat ∧ agree x pc q r (((b + l : Nat) : Int) - f.bits) := ha
      rw [el, hbn, hbb] at this
      exact this
    have es : b + l - sumB (f :: r) = l - sumB r := by rw [sumB_cons, hbn]; omega
    have h0 : p % 2 ^ (b + l) = 0 := by rw [hp, Int.mul_emod_left]
    have e1 := put_zeros p (heldZ f x pc) l b (by omega) h0
    have hd : p / 2 ^ (b + l) = q / 2 ^ (b + l) := by rw [hp, Int.mul_ediv_cancel _ (Int.ne_of_gt (ipow_pos _))]
    rw [ep, es]
    refine ih l _ (by omega) (by omega) (fun g hg => hb g (List.mem_cons_of_mem _ hg)) ?_ ha2.2
    rw [e1, hd, ← ha2.1, getZ_pos q l b (by omega), div_split]
    congr 1
    have := Int.mul_ediv_add_emod (q / 2 ^ l) (2 ^ b)
    rw [Int.mul_comm] at this
    exact this

/-! Reading. -/
theorem numZ_setZ_ne (y : In) (k k' v : Int) (h : memb k' ≠ memb k) : numZ (setZ y k' v) k = numZ y k := by
  have hc : k' = 1 ∨ k' = 2 ∨ k' = 3 ∨ k' = 4 ∨ k' = 5 ∨ k' = 6 ∨ k' = 7 ∨ k' = 8 ∨ k' = 11 ∨ (k' ≠ 1 ∧ k' ≠ 2 ∧ k' ≠ 3 ∧ k' ≠ 4 ∧ k' ≠ 5 ∧ k' ≠ 6 ∧ k' ≠ 7 ∧ k' ≠ 8 ∧ k' ≠ 11) := by omega
  rcases hc with rfl | rfl | rfl | rfl | rfl | rfl | rfl | rfl | rfl | ⟨h1, h2, h3, h4, h5, h6, h7, h8, h9⟩
  · have hk : k ≠ 1 := by rintro rfl; exact h rfl
    show numZ { y with mode := _ } k = _
    unfold numZ; rw [if_neg hk, if_neg hk]
  · have hk : k ≠ 2 := by rintro rfl; exact h rfl
    show numZ { y with pred := _ } k = _
    unfold numZ; rw [if_neg hk, if_neg hk]
  · have hk : k ≠ 3 := by rintro rfl; exact h rfl
    have hk' : k ≠ 4 := by rintro rfl; exact h rfl
    show numZ { y with d := _ } k = _
    unfold numZ; rw [if_neg hk, if_neg hk', if_neg hk, if_neg hk']
  · have hk : k ≠ 3 := by rintro rfl; exact h rfl
    have hk' : k ≠ 4 := by rintro rfl; exact h rfl
    show numZ { y with d := _ } k = _
    unfold numZ; rw [if_neg hk, if_neg hk', if_neg hk, if_neg hk']
  · have hk : k ≠ 5 := by rintro rfl; exact h rfl
    show numZ { y with s := _ } k = _
    unfold numZ; rw [if_neg hk, if_neg hk]
  · have hk : k ≠ 6 := by rintro rfl; exact h rfl
    show numZ { y with t := _ } k = _
    unfold numZ; rw [if_neg hk, if_neg hk]
  · have hk : k ≠ 7 := by rintro rfl; exact h rfl
    show numZ { y with n := _ } k = _
    unfold numZ; rw [if_neg hk, if_neg hk]
  · have hk : k ≠ 8 := by rintro rfl; exact h rfl
    show numZ { y with new := _ } k = _
    unfold numZ; rw [if_neg hk, if_neg hk]
  · have hk : k ≠ 11 := by rintro rfl; exact h rfl
    show numZ { y with count := _ } k = _
    unfold numZ; rw [if_neg hk, if_neg hk]
  · have e : setZ y k' v = y := by unfold setZ; rw [if_neg h1, if_neg h2, if_neg h3, if_neg h4, if_neg h5, if_neg h6, if_neg h7, if_neg h8, if_neg h9]
    rw [e]
theorem setZ_keeps (y : In) (k v : Int) : (setZ y k v).op = y.op ∧ (setZ y k v).ext = y.ext ∧ (setZ y k v).imm = y.imm := by
  have key : ∀ (c : Prop) [Decidable c] (a b : In), (a.op = y.op ∧ a.ext = y.ext ∧ a.imm = y.imm) → (b.op = y.op ∧ b.ext = y.ext ∧ b.imm = y.imm) → ((if c then a else b).op = y.op ∧ (if c then a else b).ext = y.ext ∧ (if c then a else b).imm = y.imm) :=
    fun c _ a b ha hb => ite_of (fun z : In => z.op = y.op ∧ z.ext = y.ext ∧ z.imm = y.imm) ha hb
  unfold setZ
  exact key _ _ _ ⟨rfl, rfl, rfl⟩ (key _ _ _ ⟨rfl, rfl, rfl⟩ (key _ _ _ ⟨rfl, rfl, rfl⟩ (key _ _ _ ⟨rfl, rfl, rfl⟩ (key _ _ _ ⟨rfl, rfl, rfl⟩ (key _ _ _ ⟨rfl, rfl, rfl⟩ (key _ _ _ ⟨rfl, rfl, rfl⟩ (key _ _ _ ⟨rfl, rfl, rfl⟩ (key _ _ _ ⟨rfl, rfl, rfl⟩ ⟨rfl, rfl, rfl⟩))))))))
theorem numZ_setZ (y : In) (f : Fd) (v : Int) (op : Int) (hf : FdOk op f) (hv : isVal f = false) (h0 : 0 ≤ v) (h1 : v < 2 ^ f.bits.toNat) : numZ (setZ y f.kind v) f.kind = v := by
  have hk1 := hf.k1
  have hk2 := hf.k2
  have hb1 := hf.b1
  have h8 := hf.nb hv
  have h16 := hf.nc hv
  have hn := hf.n8
  have hne : f.kind ≠ 9 ∧ f.kind ≠ 10 := by
    unfold isVal at hv
    simp only [Bool.or_eq_false_iff, beq_eq_false_iff_ne] at hv
    exact hv
  have p8 : f.bits ≤ 8 → v < 256 := fun h => Int.lt_of_lt_of_le h1 (by
    have : ∀ n : Nat, n ≤ 8 → (2 : Int) ^ n ≤ 256 := by decide
    exact this _ (by omega))
  have p16 : v < 65536 := Int.lt_of_lt_of_le h1 (by
    have : ∀ n : Nat, n ≤ 16 → (2 : Int) ^ n ≤ 65536 := by decide
    exact this _ (by omega))
  have p1 : f.bits = 1 → v < 2 := fun h => by rw [h] at h1; exact h1
  generalize f.kind = k at *
  have hc : k = 1 ∨ k = 2 ∨ k = 3 ∨ k = 4 ∨ k = 5 ∨ k = 6 ∨ k = 7 ∨ k = 8 ∨ k = 11 := by omega
  rcases hc with rfl | rfl | rfl | rfl | rfl | rfl | rfl | rfl | rfl
  case inr.inr.inr.inr.inr.inr.inr.inl =>
    have h2 := p1 (hn rfl)
    show (if (v == 1) then (1 : Int) else 0) = v
    have : v = 0 ∨ v = 1 := by omega
    rcases this with rfl | rfl <;> rfl
  case inr.inr.inr.inr.inr.inr.inr.inr =>
    show v % 65536 = v
    omega
  all_goals
    have := p8 (h8 (by decide))
    show v % 256 = v
    omega
/-- What a reading that is told has told. -/
def readOk (x : In) (p u : Int) (has : Bool) (pc : Int) : List Fd → Int → Prop
  | [], low => getZ p 0 low = 0
  | f :: r, low => (if isVal f then ((has = true → getZ p (low - f.bits) f.bits < 256) ∧ x.imm = joinV f (getZ p (low - f.bits) f.bits) u has pc) else numZ x f.kind = getZ p (low - f.bits) f.bits) ∧ readOk x p u has pc r (low - f.bits)
def plainFrom (x : In) : List Fd → In → In
  | [], y => y
  | f :: r, y => plainFrom x r (if isVal f then { y with imm := x.imm } else setZ y f.kind (numZ x f.kind))
theorem read_of (x : In) (p u : Int) (has : Bool) (pc : Int) (fs : List Fd) : ∀ (low : Int) (y : In), readOk x p u has pc fs low → readFrom p u has pc fs low y = (plainFrom x fs y, true) := by
  induction fs with
  | nil => intro low y h; show (y, getZ p 0 low == 0) = _; rw [show getZ p 0 low = 0 from h]; rfl
  | cons f r ih =>
    intro low y ⟨h1, h2⟩
    unfold readFrom plainFrom
    cases hv : isVal f with
    | true =>
      rw [hv, if_pos rfl] at h1
      rw [if_pos rfl, if_pos rfl, if_neg, ih _ _ h2, ← h1.2]
      intro hh
      simp only [Bool.and_eq_true, decide_eq_true_eq] at hh
      have := h1.1 hh.1
      omega
    | false =>
      rw [hv, if_neg (by decide)] at h1
      rw [if_neg (by decide), if_neg (by decide), ih _ _ h2, h1]
theorem read_keeps (p u : Int) (has : Bool) (pc : Int) (fs : List Fd) : ∀ (low : Int) (y x : In), readFrom p u has pc fs low y = (x, true) → x.op = y.op ∧ x.ext = y.ext ∧
    (∀ k, fs.all (fun g => memb g.kind != memb k) = true → numZ x k = numZ y k) ∧ (fs.all (fun g => memb g.kind != 9) = true → x.imm = y.imm) := by
  induction fs with
  | nil =>
    intro low y x h
    obtain rfl : y = x := congrArg Prod.fst h
    exact ⟨rfl, rfl, fun _ _ => rfl, fun _ => rfl⟩
  | cons f r ih =>
    intro low y x h
    unfold readFrom at h
    cases hv : isVal f with
    | true =>
      rw [hv, if_pos rfl] at h
      split at h
      · cases h
      · obtain ⟨i1, i2, i3, i4⟩ := ih _ _ _ h
        refine ⟨i1, i2, fun k hk => ?_, fun hk => ?_⟩
        · simp only [List.all_cons, Bool.and_eq_true] at hk
          exact i3 k hk.2
        · simp only [List.all_cons, Bool.and_eq_true, bne_iff_ne] at hk
          refine absurd ?_ hk.1
          unfold isVal at hv
          simp only [Bool.or_eq_true, beq_iff_eq] at hv
          rcases hv with e | e <;> rw [e] <;> rfl
    | false =>
      rw [hv, if_neg (by decide)] at h
      obtain ⟨i1, i2, i3, i4⟩ := ih _ _ _ h
      obtain ⟨j1, j2, j3⟩ := setZ_keeps y f.kind (getZ p (low - f.bits) f.bits)
      refine ⟨i1.trans j1, i2.trans j2, fun k hk => ?_, fun hk => ?_⟩
      · simp only [List.all_cons, Bool.and_eq_true, bne_iff_ne] at hk
        rw [i3 k hk.2, numZ_setZ_ne _ _ _ _ hk.1]
      · simp only [List.all_cons, Bool.and_eq_true] at hk
        rw [i4 hk.2, j3]
theorem getZ_bounds (p a b : Int) (h0 : 0 ≤ a) (h1 : 0 ≤ b) (h2 : a + b ≤ 32) : 0 ≤ getZ p a b ∧ getZ p a b < 2 ^ b.toNat := by
  obtain ⟨A, rfl⟩ := Int.eq_ofNat_of_zero_le h0
  obtain ⟨B, rfl⟩ := Int.eq_ofNat_of_zero_le h1
  rw [getZ_pos p A B (by omega)]
  exact ⟨Int.emod_nonneg _ (Int.ne_of_gt (ipow_pos B)), Int.emod_lt_of_pos _ (ipow_pos B)⟩
theorem read_ok (p u : Int) (has : Bool) (pc op : Int) (fs : List Fd) : ∀ (low : Int) (y x : In), sumB fs ≤ low → low ≤ 24 → apartB fs = true → (∀ f ∈ fs, FdOk op f) → readFrom p u has pc fs low y = (x, true) → readOk x p u has pc fs low := by
  induction fs with
  | nil =>
    intro low y x _ _ _ _ h
    have := congrArg Prod.snd h
    exact beq_iff_eq.1 this
  | cons f r ih =>
    intro low y x hs h24 hap hok h
    have hf := hok f List.mem_cons_self
    have hb1 := hf.b1
    have hs2 : f.bits + (sumB r : Int) ≤ low := by
      rw [sumB_cons] at hs
      omega
    have hg := getZ_bounds p (low - f.bits) f.bits (by omega) (by omega) (by omega)
    unfold apartB at hap
    simp only [Bool.and_eq_true] at hap
    have hok2 : ∀ g ∈ r, FdOk op g := fun g hg => hok g (List.mem_cons_of_mem _ hg)
    unfold readFrom at h
    unfold readOk
    cases hv : isVal f with
    | true =>
      rw [hv, if_pos rfl] at h
      rw [if_pos rfl]
      split at h
      · cases h
      · rename_i hn
        have hk := read_keeps p u has pc r _ _ _ h
        refine ⟨⟨fun hh => ?_, ?_⟩, ih _ _ _ (by omega) (by omega) hap.2 hok2 h⟩
        · simp only [hh, Bool.true_and, decide_eq_true_eq] at hn
          omega
        · have hm : memb f.kind = 9 := by
            unfold isVal at hv
            simp only [Bool.or_eq_true, beq_iff_eq] at hv
            rcases hv with e | e <;> rw [e] <;> rfl
          have := hap.1
          rw [hm] at this
          exact hk.2.2.2 this
    | false =>
      rw [hv, if_neg (by decide)] at h
      rw [if_neg (by decide)]
      have hk := read_keeps p u has pc r _ _ _ h
      exact ⟨(hk.2.2.1 f.kind hap.1).trans (numZ_setZ y f _ op hf hv hg.1 hg.2), ih _ _ _ (by omega) (by omega) hap.2 hok2 h⟩
end
section
open Go

theorem value_at {x : In} {f : Fd} (h : f = vF x.op ∧ vB x.op = true) (pc : Int) : valueP x pc = valZ f x pc ∧ fitP x pc = fitZ f x pc := by
  obtain ⟨rfl, hb⟩ := h
  unfold valueP fitP
  rw [hb]
  exact ⟨rfl, rfl⟩
/-- What is so of the value of a right instruction. -/
structure ValOk (f : Fd) (x : In) : Prop where
  rel : f.kind = 10 → 0 ≤ x.imm ∧ x.imm < 4294967296
  big : f.kind = 9 → x.ext = true → -2147483648 ≤ x.imm ∧ x.imm < 2147483648
  may : x.ext = true → f.ext = true
/-- Split, then joined. -/
theorem split_join {x : In} {f : Fd} (pc : Int) (hf : f = vF x.op ∧ vB x.op = true) (hl : f = fI14 ∨ f = fI122 ∨ f = fI121 ∨ f = fI12 ∨ f = fU5 ∨ f = fR19 ∨ f = fR24 ∨ f = fR12) (hx : ValOk f x) (hs : x.ext = false → fitP x pc = true) (g u : Int)
    (hg : g = splitZ f x pc % 2 ^ f.bits.toNat) (hu : u = uppZ x pc) : (x.ext = true → g < 256) ∧ x.imm = joinV f g u x.ext pc := by
  obtain ⟨hv, hfit⟩ := value_at hf pc
  have h1 := hx.rel
  have h2 := hx.big
  have h3 := hx.may
  rw [hfit] at hs
  unfold splitZ at hg
  unfold uppZ at hu
  rw [hv] at hg hu
  clear hx hv hfit hf
  cases he : x.ext with
  | true =>
    rw [he] at hg hu
    rw [if_pos rfl] at hg hu
    have h3' := h3 he
    have hb : g = lowerZ (valZ f x pc) := by
      have k : 0 ≤ lowerZ (valZ f x pc) ∧ lowerZ (valZ f x pc) < 256 := by unfold lowerZ; omega
      rw [hg]
      rcases hl with rfl | rfl | rfl | rfl | rfl | rfl | rfl | rfl
      case inr.inr.inr.inr.inl => cases h3'
      all_goals
        generalize lowerZ _ = l at *
        refine Int.emod_eq_of_lt k.1 (Int.lt_of_lt_of_le k.2 (by decide))
    refine ⟨fun _ => by rw [hb]; unfold lowerZ; omega, ?_⟩
    have hj : joinZ u g = s32 (valZ f x pc) := by
      rw [hu, hb]
      unfold joinZ upperZ lowerZ
      rw [show valZ f x pc / 256 % 16777216 % 16777216 * 256 + valZ f x pc % 256 % 256 = valZ f x pc % 4294967296 by omega, s32_mod]
    unfold joinV
    simp only [if_true]
    rw [hj]
    unfold valZ
    by_cases hk : f.kind = 10
    · rw [if_pos hk, if_pos hk]
      obtain ⟨r1, r2⟩ := h1 hk
      unfold targetZ s32
      omega
    · rw [if_neg hk, if_neg hk]
      have hk9 : f.kind = 9 := by
        rcases hl with rfl | rfl | rfl | rfl | rfl | rfl | rfl | rfl
        all_goals first | rfl | exact absurd rfl hk
      obtain ⟨r1, r2⟩ := h2 hk9 he
      unfold s32
      omega
  | false =>
    rw [he] at hg
    rw [if_neg (by decide)] at hg
    have hfit := hs he
    unfold fitZ at hfit
    refine ⟨fun h => (by cases h), ?_⟩
    have hs32 : valZ f x pc = if f.kind = 10 then s32 (x.imm - pc) else x.imm := rfl
    generalize valZ f x pc = v at *
    have hg2 := hg
    clear hg hu h2 h3 he
    have hl2 : f = ⟨9, 14, 0, true, true⟩ ∨ f = ⟨9, 12, 2, true, true⟩ ∨ f = ⟨9, 12, 1, true, true⟩ ∨ f = ⟨9, 12, 0, true, true⟩ ∨ f = ⟨9, 5, 0, false, false⟩ ∨ f = ⟨10, 19, 2, true, true⟩ ∨ f = ⟨10, 24, 2, true, true⟩ ∨ f = ⟨10, 12, 2, true, true⟩ := hl
    rcases hl2 with rfl | rfl | rfl | rfl | rfl | rfl | rfl | rfl
    all_goals
      unfold fitsB at hfit
      unfold joinV sextZ
      dsimp only at hfit hg2 h1 hs32 ⊢
      simp at hfit hg2 h1 hs32 ⊢
      first
        | omega
        | (unfold targetZ; unfold s32 at hs32; omega)
/-- Joined, then split. -/
theorem join_split {x : In} {f : Fd} (pc : Int) (hf : f = vF x.op ∧ vB x.op = true) (hl : f = fI14 ∨ f = fI122 ∨ f = fI121 ∨ f = fI12 ∨ f = fU5 ∨ f = fR19 ∨ f = fR24 ∨ f = fR12) (g u : Int) (hg0 : 0 ≤ g) (hg1 : g < 2 ^ f.bits.toNat)
    (hx : x.imm = joinV f g u x.ext pc) (hh : x.ext = true → g < 256 ∧ 0 ≤ u ∧ u < 16777216) :
    splitZ f x pc % 2 ^ f.bits.toNat = g ∧ (x.ext = true → uppZ x pc = u) ∧ (x.ext = false → fitP x pc = true) := by
  obtain ⟨hv, hfit⟩ := value_at hf pc
  rw [hfit]
  unfold splitZ uppZ
  rw [hv]
  clear hv hfit hf
  cases he : x.ext with
  | true =>
    rw [he] at hx
    obtain ⟨k1, k2, k3⟩ := hh he
    have hV : valZ f x pc = s32 (u * 256 + g) := by
      unfold valZ
      unfold joinV at hx
      simp only [if_true] at hx
      unfold joinZ at hx
      rw [show u % 16777216 * 256 + g % 256 = u * 256 + g by omega] at hx
      by_cases hk : f.kind = 10
      · rw [if_pos hk] at hx ⊢
        rw [hx]
        unfold targetZ s32
        omega
      · rw [if_neg hk] at hx ⊢
        exact hx
    rw [hV, if_pos rfl, if_pos rfl]
    refine ⟨?_, fun _ => ?_, fun h => by cases h⟩
    · have e : lowerZ (s32 (u * 256 + g)) = g := by unfold lowerZ s32; omega
      rw [e]
      exact Int.emod_eq_of_lt hg0 hg1
    · unfold upperZ s32
      omega
  | false =>
    rw [he] at hx
    rw [if_neg (by decide)]
    unfold fitZ
    have hs32 : valZ f x pc = if f.kind = 10 then s32 (x.imm - pc) else x.imm := rfl
    generalize valZ f x pc = v at *
    clear hh he
    have hl2 : f = ⟨9, 14, 0, true, true⟩ ∨ f = ⟨9, 12, 2, true, true⟩ ∨ f = ⟨9, 12, 1, true, true⟩ ∨ f = ⟨9, 12, 0, true, true⟩ ∨ f = ⟨9, 5, 0, false, false⟩ ∨ f = ⟨10, 19, 2, true, true⟩ ∨ f = ⟨10, 24, 2, true, true⟩ ∨ f = ⟨10, 12, 2, true, true⟩ := hl
    rcases hl2 with rfl | rfl | rfl | rfl | rfl | rfl | rfl | rfl
    all_goals
      unfold fitsB
      unfold joinV sextZ at hx
      dsimp only at hx hg1 hs32 ⊢
      simp at hx hg1 hs32 ⊢
      first
        | omega
        | (unfold targetZ at hx; unfold s32 at hs32; omega)
end
end
section
set_option maxRecDepth 100000
open Go

def numsB (x : In) (fs : List Fd) : Bool := fs.all fun f => isVal f || decide (numZ x f.kind < 2 ^ f.bits.toNat)
def endB (x : In) : Bool := if (vF x.op).kind = 10 then decide (0 ≤ x.imm) && decide (x.imm < 4294967296) && decide (x.imm % 4 = 0) else if x.ext then decide (-2147483648 ≤ x.imm) && decide (x.imm < 2147483648) else fitP x 0
def rrP (x : In) : Bool := isOp x.op && !(x.ext && !mayZ x.op) && numsB x (fieldsZ x.op) && decide (plainFrom x (fieldsZ x.op) (startIn x.op x.ext) = x) && decide (x.mode ≤ 4) && !(x.mode == 0 && x.pred != 0 && x.op != 14) && endB x
set_option maxHeartbeats 2000000 in
theorem rr_1 (x : In) (h : x.small) (ho : x.op = 1) : rrP x = refB x := by
  have h1 := h.mode0; have h2 := h.pred0; have h3 := h.d0; have h4 := h.s0; have h5 := h.t0; have h6 := h.n0; have h7 := h.count0
  have h11 := h.mode1; have h12 := h.pred1; have h13 := h.d1; have h14 := h.s1; have h15 := h.t1; have h16 := h.n1; have h17 := h.count1
  have e1 : vF 1 = fZero := by decide +kernel
  have e2 : vB 1 = false := by decide +kernel
  have e3 : mayZ 1 = false := by decide +kernel
  obtain ⟨xo, xd, xs, xt, xn, xp, xm, xw, xe, xc, xi⟩ := x
  obtain rfl : xo = 1 := ho
  dsimp only at h1 h2 h3 h4 h5 h6 h7 h11 h12 h13 h14 h15 h16 h17
  rw [Bool.eq_iff_iff]
  unfold rrP refB endB fitP fitZ valZ
  dsimp only
  rw [e1, e2, e3, show fieldsZ 1 = [] from rfl, show (kindZ 1).toNat = 17 from rfl, show decide (kindZ 1 ≠ 0) = true from rfl, show isOp 1 = true from rfl]
  clear e1 e2 e3 h
  cases xw <;> cases xe <;> simp [numsB, plainFrom, startIn, numZ, isVal, fitsB, inZero, refK, okK, regsB, isK, fZero] <;> omega
set_option maxHeartbeats 2000000 in
theorem rr_2 (x : In) (h : x.small) (ho : x.op = 2) : rrP x = refB x := by
  have h1 := h.mode0; have h2 := h.pred0; have h3 := h.d0; have h4 := h.s0; have h5 := h.t0; have h6 := h.n0; have h7 := h.count0
  have h11 := h.mode1; have h12 := h.pred1; have h13 := h.d1; have h14 := h.s1; have h15 := h.t1; have h16 := h.n1; have h17 := h.count1
  have e1 : vF 2 = fZero := by decide +kernel
  have e2 : vB 2 = false := by decide +kernel
  have e3 : mayZ 2 = false := by decide +kernel
  obtain ⟨xo, xd, xs, xt, xn, xp, xm, xw, xe, xc, xi⟩ := x
  obtain rfl : xo = 2 := ho
  dsimp only at h1 h2 h3 h4 h5 h6 h7 h11 h12 h13 h14 h15 h16 h17
  rw [Bool.eq_iff_iff]
  unfold rrP refB endB fitP fitZ valZ
  dsimp only
  rw [e1, e2, e3, show fieldsZ 2 = [fMode, fPred, fD, fS, fT] from rfl, show (kindZ 2).toNat = 1 from rfl, show decide (kindZ 2 ≠ 0) = true from rfl, show isOp 2 = true from rfl]
  clear e1 e2 e3 h
  cases xw <;> cases xe <;> simp [numsB, plainFrom, startIn, setZ, numZ, isVal, fitsB, inZero, refK, okK, regsB, condB, isK, fMode, fPred, fD, fS, fT, fZero] <;> omega
set_option maxHeartbeats 2000000 in
theorem rr_3 (x : In) (h : x.small) (ho : x.op = 3) : rrP x = refB x := by
  have h1 := h.mode0; have h2 := h.pred0; have h3 := h.d0; have h4 := h.s0; have h5 := h.t0; have h6 := h.n0; have h7 := h.count0
  have h11 := h.mode1; have h12 := h.pred1; have h13 := h.d1; have h14 := h.s1; have h15 := h.t1; have h16 := h.n1; have h17 := h.count1
  have e1 : vF 3 = fZero := by decide +kernel
  have e2 : vB 3 = false := by decide +kernel
  have e3 : mayZ 3 = false := by decide +kernel
  obtain ⟨xo, xd, xs, xt, xn, xp, xm, xw, xe, xc, xi⟩ := x
  obtain rfl : xo = 3 := ho
  dsimp only at h1 h2 h3 h4 h5 h6 h7 h11 h12 h13 h14 h15 h16 h17
  rw [Bool.eq_iff_iff]
  unfold rrP refB endB fitP fitZ valZ
  dsimp only
  rw [e1, e2, e3, show fieldsZ 3 = [fMode, fPred, fD, fS, fT] from rfl, show (kindZ 3).toNat = 1 from rfl, show decide (kindZ 3 ≠ 0) = true from rfl, show isOp 3 = true from rfl]
  clear e1 e2 e3 h
  cases xw <;> cases xe <;> simp [numsB, plainFrom, startIn, setZ, numZ, isVal, fitsB, inZero, refK, okK, regsB, condB, isK, fMode, fPred, fD, fS, fT, fZero] <;> omega
set_option maxHeartbeats 2000000 in
theorem rr_4 (x : In) (h : x.small) (ho : x.op = 4) : rrP x = refB x := by
  have h1 := h.mode0; have h2 := h.pred0; have h3 := h.d0; have h4 := h.s0; have h5 := h.t0; have h6 := h.n0; have h7 := h.count0
  have h11 := h.mode1; have h12 := h.pred1; have h13 := h.d1; have h14 := h.s1; have h15 := h.t1; have h16 := h.n1; have h17 := h.count1
  have e1 : vF 4 = fZero := by decide +kernel
  have e2 : vB 4 = false := by decide +kernel
  have e3 : mayZ 4 = false := by decide +kernel
  obtain ⟨xo, xd, xs, xt, xn, xp, xm, xw, xe, xc, xi⟩ := x
  obtain rfl : xo = 4 := ho
  dsimp only at h1 h2 h3 h4 h5 h6 h7 h11 h12 h13 h14 h15 h16 h17
  rw [Bool.eq_iff_iff]
  unfold rrP refB endB fitP fitZ valZ
  dsimp only
  rw [e1, e2, e3, show fieldsZ 4 = [fMode, fPred, fD, fS, fT] from rfl, show (kindZ 4).toNat = 1 from rfl, show decide (kindZ 4 ≠ 0) = true from rfl, show isOp 4 = true from rfl]
  clear e1 e2 e3 h
  cases xw <;> cases xe <;> simp [numsB, plainFrom, startIn, setZ, numZ, isVal, fitsB, inZero, refK, okK, regsB, condB, isK, fMode, fPred, fD, fS, fT, fZero] <;> omega
set_option maxHeartbeats 2000000 in
theorem rr_5 (x : In) (h : x.small) (ho : x.op = 5) : rrP x = refB x := by
  have h1 := h.mode0; have h2 := h.pred0; have h3 := h.d0; have h4 := h.s0; have h5 := h.t0; have h6 := h.n0; have h7 := h.count0
  have h11 := h.mode1; have h12 := h.pred1; have h13 := h.d1; have h14 := h.s1; have h15 := h.t1; have h16 := h.n1; have h17 := h.count1
  have e1 : vF 5 = fZero := by decide +kernel
  have e2 : vB 5 = false := by decide +kernel
  have e3 : mayZ 5 = false := by decide +kernel
  obtain ⟨xo, xd, xs, xt, xn, xp, xm, xw, xe, xc, xi⟩ := x
  obtain rfl : xo = 5 := ho
  dsimp only at h1 h2 h3 h4 h5 h6 h7 h11 h12 h13 h14 h15 h16 h17
  rw [Bool.eq_iff_iff]
  unfold rrP refB endB fitP fitZ valZ
  dsimp only
  rw [e1, e2, e3, show fieldsZ 5 = [fMode, fPred, fD, fS, fT] from rfl, show (kindZ 5).toNat = 1 from rfl, show decide (kindZ 5 ≠ 0) = true from rfl, show isOp 5 = true from rfl]
  clear e1 e2 e3 h
  cases xw <;> cases xe <;> simp [numsB, plainFrom, startIn, setZ, numZ, isVal, fitsB, inZero, refK, okK, regsB, condB, isK, fMode, fPred, fD, fS, fT, fZero] <;> omega
set_option maxHeartbeats 2000000 in
theorem rr_6 (x : In) (h : x.small) (ho : x.op = 6) : rrP x = refB x := by
  have h1 := h.mode0; have h2 := h.pred0; have h3 := h.d0; have h4 := h.s0; have h5 := h.t0; have h6 := h.n0; have h7 := h.count0
  have h11 := h.mode1; have h12 := h.pred1; have h13 := h.d1; have h14 := h.s1; have h15 := h.t1; have h16 := h.n1; have h17 := h.count1
  have e1 : vF 6 = fZero := by decide +kernel
  have e2 : vB 6 = false := by decide +kernel
  have e3 : mayZ 6 = false := by decide +kernel
  obtain ⟨xo, xd, xs, xt, xn, xp, xm, xw, xe, xc, xi⟩ := x
  obtain rfl : xo = 6 := ho
  dsimp only at h1 h2 h3 h4 h5 h6 h7 h11 h12 h13 h14 h15 h16 h17
  rw [Bool.eq_iff_iff]
  unfold rrP refB endB fitP fitZ valZ
  dsimp only
  rw [e1, e2, e3, show fieldsZ 6 = [fMode, fPred, fD, fS, fT] from rfl, show (kindZ 6).toNat = 1 from rfl, show decide (kindZ 6 ≠ 0) = true from rfl, show isOp 6 = true from rfl]
  clear e1 e2 e3 h
  cases xw <;> cases xe <;> simp [numsB, plainFrom, startIn, setZ, numZ, isVal, fitsB, inZero, refK, okK, regsB, condB, isK, fMode, fPred, fD, fS, fT, fZero] <;> omega
set_option maxHeartbeats 2000000 in
theorem rr_7 (x : In) (h : x.small) (ho : x.op = 7) : rrP x = refB x := by
  have h1 := h.mode0; have h2 := h.pred0; have h3 := h.d0; have h4 := h.s0; have h5 := h.t0; have h6 := h.n0; have h7 := h.count0
  have h11 := h.mode1; have h12 := h.pred1; have h13 := h.d1; have h14 := h.s1; have h15 := h.t1; have h16 := h.n1; have h17 := h.count1
  have e1 : vF 7 = fI14 := by decide +kernel
  have e2 : vB 7 = true := by decide +kernel
  have e3 : mayZ 7 = true := by decide +kernel
  obtain ⟨xo, xd, xs, xt, xn, xp, xm, xw, xe, xc, xi⟩ := x
  obtain rfl : xo = 7 := ho
  dsimp only at h1 h2 h3 h4 h5 h6 h7 h11 h12 h13 h14 h15 h16 h17
  rw [Bool.eq_iff_iff]
  unfold rrP refB endB fitP fitZ valZ
  dsimp only
  rw [e1, e2, e3, show fieldsZ 7 = [fD, fS, fI14] from rfl, show (kindZ 7).toNat = 2 from rfl, show decide (kindZ 7 ≠ 0) = true from rfl, show isOp 7 = true from rfl]
  clear e1 e2 e3 h
  cases xw <;> cases xe <;> simp [numsB, plainFrom, startIn, setZ, numZ, isVal, fitsB, inZero, refK, okK, regsB, withinB, isK, fD, fS, fI14] <;> omega
set_option maxHeartbeats 2000000 in
theorem rr_8 (x : In) (h : x.small) (ho : x.op = 8) : rrP x = refB x := by
  have h1 := h.mode0; have h2 := h.pred0; have h3 := h.d0; have h4 := h.s0; have h5 := h.t0; have h6 := h.n0; have h7 := h.count0
  have h11 := h.mode1; have h12 := h.pred1; have h13 := h.d1; have h14 := h.s1; have h15 := h.t1; have h16 := h.n1; have h17 := h.count1
  have e1 : vF 8 = fI14 := by decide +kernel
  have e2 : vB 8 = true := by decide +kernel
  have e3 : mayZ 8 = true := by decide +kernel
  obtain ⟨xo, xd, xs, xt, xn, xp, xm, xw, xe, xc, xi⟩ := x
  obtain rfl : xo = 8 := ho
  dsimp only at h1 h2 h3 h4 h5 h6 h7 h11 h12 h13 h14 h15 h16 h17
  rw [Bool.eq_iff_iff]
  unfold rrP refB endB fitP fitZ valZ
  dsimp only
  rw [e1, e2, e3, show fieldsZ 8 = [fMode, fPred, fD, fI14] from rfl, show (kindZ 8).toNat = 3 from rfl, show decide (kindZ 8 ≠ 0) = true from rfl, show isOp 8 = true from rfl]
  clear e1 e2 e3 h
  cases xw <;> cases xe <;> simp [numsB, plainFrom, startIn, setZ, numZ, isVal, fitsB, inZero, refK, okK, regsB, condB, withinB, isK, fMode, fPred, fD, fI14] <;> omega
set_option maxHeartbeats 2000000 in
theorem rr_9 (x : In) (h : x.small) (ho : x.op = 9) : rrP x = refB x := by
  have h1 := h.mode0; have h2 := h.pred0; have h3 := h.d0; have h4 := h.s0; have h5 := h.t0; have h6 := h.n0; have h7 := h.count0
  have h11 := h.mode1; have h12 := h.pred1; have h13 := h.d1; have h14 := h.s1; have h15 := h.t1; have h16 := h.n1; have h17 := h.count1
  have e1 : vF 9 = fZero := by decide +kernel
  have e2 : vB 9 = false := by decide +kernel
  have e3 : mayZ 9 = false := by decide +kernel
  obtain ⟨xo, xd, xs, xt, xn, xp, xm, xw, xe, xc, xi⟩ := x
  obtain rfl : xo = 9 := ho
  dsimp only at h1 h2 h3 h4 h5 h6 h7 h11 h12 h13 h14 h15 h16 h17
  rw [Bool.eq_iff_iff]
  unfold rrP refB endB fitP fitZ valZ
  dsimp only
  rw [e1, e2, e3, show fieldsZ 9 = [fMode, fPred, fD, fS] from rfl, show (kindZ 9).toNat = 4 from rfl, show decide (kindZ 9 ≠ 0) = true from rfl, show isOp 9 = true from rfl]
  clear e1 e2 e3 h
  cases xw <;> cases xe <;> simp [numsB, plainFrom, startIn, setZ, numZ, isVal, fitsB, inZero, refK, okK, regsB, condB, isK, fMode, fPred, fD, fS, fZero] <;> omega
set_option maxHeartbeats 2000000 in
theorem rr_10 (x : In) (h : x.small) (ho : x.op = 10) : rrP x = refB x := by
  have h1 := h.mode0; have h2 := h.pred0; have h3 := h.d0; have h4 := h.s0; have h5 := h.t0; have h6 := h.n0; have h7 := h.count0
  have h11 := h.mode1; have h12 := h.pred1; have h13 := h.d1; have h14 := h.s1; have h15 := h.t1; have h16 := h.n1; have h17 := h.count1
  have e1 : vF 10 = fZero := by decide +kernel
  have e2 : vB 10 = false := by decide +kernel
  have e3 : mayZ 10 = false := by decide +kernel
  obtain ⟨xo, xd, xs, xt, xn, xp, xm, xw, xe, xc, xi⟩ := x
  obtain rfl : xo = 10 := ho
  dsimp only at h1 h2 h3 h4 h5 h6 h7 h11 h12 h13 h14 h15 h16 h17
  rw [Bool.eq_iff_iff]
  unfold rrP refB endB fitP fitZ valZ
  dsimp only
  rw [e1, e2, e3, show fieldsZ 10 = [fDP, fS, fT] from rfl, show (kindZ 10).toNat = 5 from rfl, show decide (kindZ 10 ≠ 0) = true from rfl, show isOp 10 = true from rfl]
  clear e1 e2 e3 h
  cases xw <;> cases xe <;> simp [numsB, plainFrom, startIn, setZ, numZ, isVal, fitsB, inZero, refK, okK, regsB, isK, fDP, fS, fT, fZero] <;> omega
set_option maxHeartbeats 2000000 in
theorem rr_11 (x : In) (h : x.small) (ho : x.op = 11) : rrP x = refB x := by
  have h1 := h.mode0; have h2 := h.pred0; have h3 := h.d0; have h4 := h.s0; have h5 := h.t0; have h6 := h.n0; have h7 := h.count0
  have h11 := h.mode1; have h12 := h.pred1; have h13 := h.d1; have h14 := h.s1; have h15 := h.t1; have h16 := h.n1; have h17 := h.count1
  have e1 : vF 11 = fZero := by decide +kernel
  have e2 : vB 11 = false := by decide +kernel
  have e3 : mayZ 11 = false := by decide +kernel
  obtain ⟨xo, xd, xs, xt, xn, xp, xm, xw, xe, xc, xi⟩ := x
  obtain rfl : xo = 11 := ho
  dsimp only at h1 h2 h3 h4 h5 h6 h7 h11 h12 h13 h14 h15 h16 h17
  rw [Bool.eq_iff_iff]
  unfold rrP refB endB fitP fitZ valZ
  dsimp only
  rw [e1, e2, e3, show fieldsZ 11 = [fDP, fS, fT] from rfl, show (kindZ 11).toNat = 5 from rfl, show decide (kindZ 11 ≠ 0) = true from rfl, show isOp 11 = true from rfl]
  clear e1 e2 e3 h
  cases xw <;> cases xe <;> simp [numsB, plainFrom, startIn, setZ, numZ, isVal, fitsB, inZero, refK, okK, regsB, isK, fDP, fS, fT, fZero] <;> omega
set_option maxHeartbeats 2000000 in
theorem rr_12 (x : In) (h : x.small) (ho : x.op = 12) : rrP x = refB x := by
  have h1 := h.mode0; have h2 := h.pred0; have h3 := h.d0; have h4 := h.s0; have h5 := h.t0; have h6 := h.n0; have h7 := h.count0
  have h11 := h.mode1; have h12 := h.pred1; have h13 := h.d1; have h14 := h.s1; have h15 := h.t1; have h16 := h.n1; have h17 := h.count1
  have e1 : vF 12 = fZero := by decide +kernel
  have e2 : vB 12 = false := by decide +kernel
  have e3 : mayZ 12 = false := by decide +kernel
  obtain ⟨xo, xd, xs, xt, xn, xp, xm, xw, xe, xc, xi⟩ := x
  obtain rfl : xo = 12 := ho
  dsimp only at h1 h2 h3 h4 h5 h6 h7 h11 h12 h13 h14 h15 h16 h17
  rw [Bool.eq_iff_iff]
  unfold rrP refB endB fitP fitZ valZ
  dsimp only
  rw [e1, e2, e3, show fieldsZ 12 = [fDP, fS, fT] from rfl, show (kindZ 12).toNat = 5 from rfl, show decide (kindZ 12 ≠ 0) = true from rfl, show isOp 12 = true from rfl]
  clear e1 e2 e3 h
  cases xw <;> cases xe <;> simp [numsB, plainFrom, startIn, setZ, numZ, isVal, fitsB, inZero, refK, okK, regsB, isK, fDP, fS, fT, fZero] <;> omega
set_option maxHeartbeats 2000000 in
theorem rr_13 (x : In) (h : x.small) (ho : x.op = 13) : rrP x = refB x := by
  have h1 := h.mode0; have h2 := h.pred0; have h3 := h.d0; have h4 := h.s0; have h5 := h.t0; have h6 := h.n0; have h7 := h.count0
  have h11 := h.mode1; have h12 := h.pred1; have h13 := h.d1; have h14 := h.s1; have h15 := h.t1; have h16 := h.n1; have h17 := h.count1
  have e1 : vF 13 = fI14 := by decide +kernel
  have e2 : vB 13 = true := by decide +kernel
  have e3 : mayZ 13 = true := by decide +kernel
  obtain ⟨xo, xd, xs, xt, xn, xp, xm, xw, xe, xc, xi⟩ := x
  obtain rfl : xo = 13 := ho
  dsimp only at h1 h2 h3 h4 h5 h6 h7 h11 h12 h13 h14 h15 h16 h17
  rw [Bool.eq_iff_iff]
  unfold rrP refB endB fitP fitZ valZ
  dsimp only
  rw [e1, e2, e3, show fieldsZ 13 = [fDP, fS, fI14] from rfl, show (kindZ 13).toNat = 6 from rfl, show decide (kindZ 13 ≠ 0) = true from rfl, show isOp 13 = true from rfl]
  clear e1 e2 e3 h
  cases xw <;> cases xe <;> simp [numsB, plainFrom, startIn, setZ, numZ, isVal, fitsB, inZero, refK, okK, regsB, withinB, isK, fDP, fS, fI14] <;> omega
set_option maxHeartbeats 2000000 in
theorem rr_14 (x : In) (h : x.small) (ho : x.op = 14) : rrP x = refB x := by
  have h1 := h.mode0; have h2 := h.pred0; have h3 := h.d0; have h4 := h.s0; have h5 := h.t0; have h6 := h.n0; have h7 := h.count0
  have h11 := h.mode1; have h12 := h.pred1; have h13 := h.d1; have h14 := h.s1; have h15 := h.t1; have h16 := h.n1; have h17 := h.count1
  have e1 : vF 14 = fZero := by decide +kernel
  have e2 : vB 14 = false := by decide +kernel
  have e3 : mayZ 14 = false := by decide +kernel
  obtain ⟨xo, xd, xs, xt, xn, xp, xm, xw, xe, xc, xi⟩ := x
  obtain rfl : xo = 14 := ho
  dsimp only at h1 h2 h3 h4 h5 h6 h7 h11 h12 h13 h14 h15 h16 h17
  rw [Bool.eq_iff_iff]
  unfold rrP refB endB fitP fitZ valZ
  dsimp only
  rw [e1, e2, e3, show fieldsZ 14 = [fD, fPred, fS, fT] from rfl, show (kindZ 14).toNat = 7 from rfl, show decide (kindZ 14 ≠ 0) = true from rfl, show isOp 14 = true from rfl]
  clear e1 e2 e3 h
  cases xw <;> cases xe <;> simp [numsB, plainFrom, startIn, setZ, numZ, isVal, fitsB, inZero, refK, okK, regsB, isK, fD, fPred, fS, fT, fZero] <;> omega
set_option maxHeartbeats 2000000 in
theorem rr_15 (x : In) (h : x.small) (ho : x.op = 15) : rrP x = refB x := by
  have h1 := h.mode0; have h2 := h.pred0; have h3 := h.d0; have h4 := h.s0; have h5 := h.t0; have h6 := h.n0; have h7 := h.count0
  have h11 := h.mode1; have h12 := h.pred1; have h13 := h.d1; have h14 := h.s1; have h15 := h.t1; have h16 := h.n1; have h17 := h.count1
  have e1 : vF 15 = fU5 := by decide +kernel
  have e2 : vB 15 = true := by decide +kernel
  have e3 : mayZ 15 = false := by decide +kernel
  obtain ⟨xo, xd, xs, xt, xn, xp, xm, xw, xe, xc, xi⟩ := x
  obtain rfl : xo = 15 := ho
  dsimp only at h1 h2 h3 h4 h5 h6 h7 h11 h12 h13 h14 h15 h16 h17
  rw [Bool.eq_iff_iff]
  unfold rrP refB endB fitP fitZ valZ
  dsimp only
  rw [e1, e2, e3, show fieldsZ 15 = [fD, fS, fU5] from rfl, show (kindZ 15).toNat = 8 from rfl, show decide (kindZ 15 ≠ 0) = true from rfl, show isOp 15 = true from rfl]
  clear e1 e2 e3 h
  cases xw <;> cases xe <;> simp [numsB, plainFrom, startIn, setZ, numZ, isVal, fitsB, inZero, refK, okK, regsB, isK, fD, fS, fU5] <;> omega
set_option maxHeartbeats 2000000 in
theorem rr_16 (x : In) (h : x.small) (ho : x.op = 16) : rrP x = refB x := by
  have h1 := h.mode0; have h2 := h.pred0; have h3 := h.d0; have h4 := h.s0; have h5 := h.t0; have h6 := h.n0; have h7 := h.count0
  have h11 := h.mode1; have h12 := h.pred1; have h13 := h.d1; have h14 := h.s1; have h15 := h.t1; have h16 := h.n1; have h17 := h.count1
  have e1 : vF 16 = fU5 := by decide +kernel
  have e2 : vB 16 = true := by decide +kernel
  have e3 : mayZ 16 = false := by decide +kernel
  obtain ⟨xo, xd, xs, xt, xn, xp, xm, xw, xe, xc, xi⟩ := x
  obtain rfl : xo = 16 := ho
  dsimp only at h1 h2 h3 h4 h5 h6 h7 h11 h12 h13 h14 h15 h16 h17
  rw [Bool.eq_iff_iff]
  unfold rrP refB endB fitP fitZ valZ
  dsimp only
  rw [e1, e2, e3, show fieldsZ 16 = [fD, fS, fU5] from rfl, show (kindZ 16).toNat = 8 from rfl, show decide (kindZ 16 ≠ 0) = true from rfl, show isOp 16 = true from rfl]
  clear e1 e2 e3 h
  cases xw <;> cases xe <;> simp [numsB, plainFrom, startIn, setZ, numZ, isVal, fitsB, inZero, refK, okK, regsB, isK, fD, fS, fU5] <;> omega
set_option maxHeartbeats 2000000 in
theorem rr_17 (x : In) (h : x.small) (ho : x.op = 17) : rrP x = refB x := by
  have h1 := h.mode0; have h2 := h.pred0; have h3 := h.d0; have h4 := h.s0; have h5 := h.t0; have h6 := h.n0; have h7 := h.count0
  have h11 := h.mode1; have h12 := h.pred1; have h13 := h.d1; have h14 := h.s1; have h15 := h.t1; have h16 := h.n1; have h17 := h.count1
  have e1 : vF 17 = fU5 := by decide +kernel
  have e2 : vB 17 = true := by decide +kernel
  have e3 : mayZ 17 = false := by decide +kernel
  obtain ⟨xo, xd, xs, xt, xn, xp, xm, xw, xe, xc, xi⟩ := x
  obtain rfl : xo = 17 := ho
  dsimp only at h1 h2 h3 h4 h5 h6 h7 h11 h12 h13 h14 h15 h16 h17
  rw [Bool.eq_iff_iff]
  unfold rrP refB endB fitP fitZ valZ
  dsimp only
  rw [e1, e2, e3, show fieldsZ 17 = [fD, fS, fU5] from rfl, show (kindZ 17).toNat = 8 from rfl, show decide (kindZ 17 ≠ 0) = true from rfl, show isOp 17 = true from rfl]
  clear e1 e2 e3 h
  cases xw <;> cases xe <;> simp [numsB, plainFrom, startIn, setZ, numZ, isVal, fitsB, inZero, refK, okK, regsB, isK, fD, fS, fU5] <;> omega
set_option maxHeartbeats 2000000 in
theorem rr_18 (x : In) (h : x.small) (ho : x.op = 18) : rrP x = refB x := by
  have h1 := h.mode0; have h2 := h.pred0; have h3 := h.d0; have h4 := h.s0; have h5 := h.t0; have h6 := h.n0; have h7 := h.count0
  have h11 := h.mode1; have h12 := h.pred1; have h13 := h.d1; have h14 := h.s1; have h15 := h.t1; have h16 := h.n1; have h17 := h.count1
  have e1 : vF 18 = fZero := by decide +kernel
  have e2 : vB 18 = false := by decide +kernel
  have e3 : mayZ 18 = false := by decide +kernel
  obtain ⟨xo, xd, xs, xt, xn, xp, xm, xw, xe, xc, xi⟩ := x
  obtain rfl : xo = 18 := ho
  dsimp only at h1 h2 h3 h4 h5 h6 h7 h11 h12 h13 h14 h15 h16 h17
  rw [Bool.eq_iff_iff]
  unfold rrP refB endB fitP fitZ valZ
  dsimp only
  rw [e1, e2, e3, show fieldsZ 18 = [fD, fS, fT] from rfl, show (kindZ 18).toNat = 9 from rfl, show decide (kindZ 18 ≠ 0) = true from rfl, show isOp 18 = true from rfl]
  clear e1 e2 e3 h
  cases xw <;> cases xe <;> simp [numsB, plainFrom, startIn, setZ, numZ, isVal, fitsB, inZero, refK, okK, regsB, isK, fD, fS, fT, fZero] <;> omega
set_option maxHeartbeats 2000000 in
theorem rr_19 (x : In) (h : x.small) (ho : x.op = 19) : rrP x = refB x := by
  have h1 := h.mode0; have h2 := h.pred0; have h3 := h.d0; have h4 := h.s0; have h5 := h.t0; have h6 := h.n0; have h7 := h.count0
  have h11 := h.mode1; have h12 := h.pred1; have h13 := h.d1; have h14 := h.s1; have h15 := h.t1; have h16 := h.n1; have h17 := h.count1
  have e1 : vF 19 = fZero := by decide +kernel
  have e2 : vB 19 = false := by decide +kernel
  have e3 : mayZ 19 = false := by decide +kernel
  obtain ⟨xo, xd, xs, xt, xn, xp, xm, xw, xe, xc, xi⟩ := x
  obtain rfl : xo = 19 := ho
  dsimp only at h1 h2 h3 h4 h5 h6 h7 h11 h12 h13 h14 h15 h16 h17
  rw [Bool.eq_iff_iff]
  unfold rrP refB endB fitP fitZ valZ
  dsimp only
  rw [e1, e2, e3, show fieldsZ 19 = [fD, fS, fT] from rfl, show (kindZ 19).toNat = 9 from rfl, show decide (kindZ 19 ≠ 0) = true from rfl, show isOp 19 = true from rfl]
  clear e1 e2 e3 h
  cases xw <;> cases xe <;> simp [numsB, plainFrom, startIn, setZ, numZ, isVal, fitsB, inZero, refK, okK, regsB, isK, fD, fS, fT, fZero] <;> omega
set_option maxHeartbeats 2000000 in
theorem rr_20 (x : In) (h : x.small) (ho : x.op = 20) : rrP x = refB x := by
  have h1 := h.mode0; have h2 := h.pred0; have h3 := h.d0; have h4 := h.s0; have h5 := h.t0; have h6 := h.n0; have h7 := h.count0
  have h11 := h.mode1; have h12 := h.pred1; have h13 := h.d1; have h14 := h.s1; have h15 := h.t1; have h16 := h.n1; have h17 := h.count1
  have e1 : vF 20 = fZero := by decide +kernel
  have e2 : vB 20 = false := by decide +kernel
  have e3 : mayZ 20 = false := by decide +kernel
  obtain ⟨xo, xd, xs, xt, xn, xp, xm, xw, xe, xc, xi⟩ := x
  obtain rfl : xo = 20 := ho
  dsimp only at h1 h2 h3 h4 h5 h6 h7 h11 h12 h13 h14 h15 h16 h17
  rw [Bool.eq_iff_iff]
  unfold rrP refB endB fitP fitZ valZ
  dsimp only
  rw [e1, e2, e3, show fieldsZ 20 = [fD, fS, fT] from rfl, show (kindZ 20).toNat = 9 from rfl, show decide (kindZ 20 ≠ 0) = true from rfl, show isOp 20 = true from rfl]
  clear e1 e2 e3 h
  cases xw <;> cases xe <;> simp [numsB, plainFrom, startIn, setZ, numZ, isVal, fitsB, inZero, refK, okK, regsB, isK, fD, fS, fT, fZero] <;> omega
set_option maxHeartbeats 2000000 in
theorem rr_21 (x : In) (h : x.small) (ho : x.op = 21) : rrP x = refB x := by
  have h1 := h.mode0; have h2 := h.pred0; have h3 := h.d0; have h4 := h.s0; have h5 := h.t0; have h6 := h.n0; have h7 := h.count0
  have h11 := h.mode1; have h12 := h.pred1; have h13 := h.d1; have h14 := h.s1; have h15 := h.t1; have h16 := h.n1; have h17 := h.count1
  have e1 : vF 21 = fI122 := by decide +kernel
  have e2 : vB 21 = true := by decide +kernel
  have e3 : mayZ 21 = true := by decide +kernel
  obtain ⟨xo, xd, xs, xt, xn, xp, xm, xw, xe, xc, xi⟩ := x
  obtain rfl : xo = 21 := ho
  dsimp only at h1 h2 h3 h4 h5 h6 h7 h11 h12 h13 h14 h15 h16 h17
  rw [Bool.eq_iff_iff]
  unfold rrP refB endB fitP fitZ valZ
  dsimp only
  rw [e1, e2, e3, show fieldsZ 21 = [fD, fS, fI122] from rfl, show (kindZ 21).toNat = 10 from rfl, show decide (kindZ 21 ≠ 0) = true from rfl, show isOp 21 = true from rfl]
  clear e1 e2 e3 h
  cases xw <;> cases xe <;> simp [numsB, plainFrom, startIn, setZ, numZ, isVal, fitsB, inZero, refK, okK, regsB, withinB, scaleZ, isK, fD, fS, fI122] <;> omega
set_option maxHeartbeats 2000000 in
theorem rr_22 (x : In) (h : x.small) (ho : x.op = 22) : rrP x = refB x := by
  have h1 := h.mode0; have h2 := h.pred0; have h3 := h.d0; have h4 := h.s0; have h5 := h.t0; have h6 := h.n0; have h7 := h.count0
  have h11 := h.mode1; have h12 := h.pred1; have h13 := h.d1; have h14 := h.s1; have h15 := h.t1; have h16 := h.n1; have h17 := h.count1
  have e1 : vF 22 = fI121 := by decide +kernel
  have e2 : vB 22 = true := by decide +kernel
  have e3 : mayZ 22 = true := by decide +kernel
  obtain ⟨xo, xd, xs, xt, xn, xp, xm, xw, xe, xc, xi⟩ := x
  obtain rfl : xo = 22 := ho
  dsimp only at h1 h2 h3 h4 h5 h6 h7 h11 h12 h13 h14 h15 h16 h17
  rw [Bool.eq_iff_iff]
  unfold rrP refB endB fitP fitZ valZ
  dsimp only
  rw [e1, e2, e3, show fieldsZ 22 = [fD, fS, fI121] from rfl, show (kindZ 22).toNat = 10 from rfl, show decide (kindZ 22 ≠ 0) = true from rfl, show isOp 22 = true from rfl]
  clear e1 e2 e3 h
  cases xw <;> cases xe <;> simp [numsB, plainFrom, startIn, setZ, numZ, isVal, fitsB, inZero, refK, okK, regsB, withinB, scaleZ, isK, fD, fS, fI121] <;> omega
set_option maxHeartbeats 2000000 in
theorem rr_23 (x : In) (h : x.small) (ho : x.op = 23) : rrP x = refB x := by
  have h1 := h.mode0; have h2 := h.pred0; have h3 := h.d0; have h4 := h.s0; have h5 := h.t0; have h6 := h.n0; have h7 := h.count0
  have h11 := h.mode1; have h12 := h.pred1; have h13 := h.d1; have h14 := h.s1; have h15 := h.t1; have h16 := h.n1; have h17 := h.count1
  have e1 : vF 23 = fI12 := by decide +kernel
  have e2 : vB 23 = true := by decide +kernel
  have e3 : mayZ 23 = true := by decide +kernel
  obtain ⟨xo, xd, xs, xt, xn, xp, xm, xw, xe, xc, xi⟩ := x
  obtain rfl : xo = 23 := ho
  dsimp only at h1 h2 h3 h4 h5 h6 h7 h11 h12 h13 h14 h15 h16 h17
  rw [Bool.eq_iff_iff]
  unfold rrP refB endB fitP fitZ valZ
  dsimp only
  rw [e1, e2, e3, show fieldsZ 23 = [fD, fS, fI12] from rfl, show (kindZ 23).toNat = 10 from rfl, show decide (kindZ 23 ≠ 0) = true from rfl, show isOp 23 = true from rfl]
  clear e1 e2 e3 h
  cases xw <;> cases xe <;> simp [numsB, plainFrom, startIn, setZ, numZ, isVal, fitsB, inZero, refK, okK, regsB, withinB, scaleZ, isK, fD, fS, fI12] <;> omega
set_option maxHeartbeats 2000000 in
theorem rr_24 (x : In) (h : x.small) (ho : x.op = 24) : rrP x = refB x := by
  have h1 := h.mode0; have h2 := h.pred0; have h3 := h.d0; have h4 := h.s0; have h5 := h.t0; have h6 := h.n0; have h7 := h.count0
  have h11 := h.mode1; have h12 := h.pred1; have h13 := h.d1; have h14 := h.s1; have h15 := h.t1; have h16 := h.n1; have h17 := h.count1
  have e1 : vF 24 = fI122 := by decide +kernel
  have e2 : vB 24 = true := by decide +kernel
  have e3 : mayZ 24 = true := by decide +kernel
  obtain ⟨xo, xd, xs, xt, xn, xp, xm, xw, xe, xc, xi⟩ := x
  obtain rfl : xo = 24 := ho
  dsimp only at h1 h2 h3 h4 h5 h6 h7 h11 h12 h13 h14 h15 h16 h17
  rw [Bool.eq_iff_iff]
  unfold rrP refB endB fitP fitZ valZ
  dsimp only
  rw [e1, e2, e3, show fieldsZ 24 = [fS, fNew, fT, fI122] from rfl, show (kindZ 24).toNat = 11 from rfl, show decide (kindZ 24 ≠ 0) = true from rfl, show isOp 24 = true from rfl]
  clear e1 e2 e3 h
  cases xw <;> cases xe <;> simp [numsB, plainFrom, startIn, setZ, numZ, isVal, fitsB, inZero, refK, okK, regsB, withinB, scaleZ, isK, fS, fNew, fT, fI122] <;> omega
set_option maxHeartbeats 2000000 in
theorem rr_25 (x : In) (h : x.small) (ho : x.op = 25) : rrP x = refB x := by
  have h1 := h.mode0; have h2 := h.pred0; have h3 := h.d0; have h4 := h.s0; have h5 := h.t0; have h6 := h.n0; have h7 := h.count0
  have h11 := h.mode1; have h12 := h.pred1; have h13 := h.d1; have h14 := h.s1; have h15 := h.t1; have h16 := h.n1; have h17 := h.count1
  have e1 : vF 25 = fI121 := by decide +kernel
  have e2 : vB 25 = true := by decide +kernel
  have e3 : mayZ 25 = true := by decide +kernel
  obtain ⟨xo, xd, xs, xt, xn, xp, xm, xw, xe, xc, xi⟩ := x
  obtain rfl : xo = 25 := ho
  dsimp only at h1 h2 h3 h4 h5 h6 h7 h11 h12 h13 h14 h15 h16 h17
  rw [Bool.eq_iff_iff]
  unfold rrP refB endB fitP fitZ valZ
  dsimp only
  rw [e1, e2, e3, show fieldsZ 25 = [fS, fNew, fT, fI121] from rfl, show (kindZ 25).toNat = 11 from rfl, show decide (kindZ 25 ≠ 0) = true from rfl, show isOp 25 = true from rfl]
  clear e1 e2 e3 h
  cases xw <;> cases xe <;> simp [numsB, plainFrom, startIn, setZ, numZ, isVal, fitsB, inZero, refK, okK, regsB, withinB, scaleZ, isK, fS, fNew, fT, fI121] <;> omega
set_option maxHeartbeats 2000000 in
theorem rr_26 (x : In) (h : x.small) (ho : x.op = 26) : rrP x = refB x := by
  have h1 := h.mode0; have h2 := h.pred0; have h3 := h.d0; have h4 := h.s0; have h5 := h.t0; have h6 := h.n0; have h7 := h.count0
  have h11 := h.mode1; have h12 := h.pred1; have h13 := h.d1; have h14 := h.s1; have h15 := h.t1; have h16 := h.n1; have h17 := h.count1
  have e1 : vF 26 = fI12 := by decide +kernel
  have e2 : vB 26 = true := by decide +kernel
  have e3 : mayZ 26 = true := by decide +kernel
  obtain ⟨xo, xd, xs, xt, xn, xp, xm, xw, xe, xc, xi⟩ := x
  obtain rfl : xo = 26 := ho
  dsimp only at h1 h2 h3 h4 h5 h6 h7 h11 h12 h13 h14 h15 h16 h17
  rw [Bool.eq_iff_iff]
  unfold rrP refB endB fitP fitZ valZ
  dsimp only
  rw [e1, e2, e3, show fieldsZ 26 = [fS, fNew, fT, fI12] from rfl, show (kindZ 26).toNat = 11 from rfl, show decide (kindZ 26 ≠ 0) = true from rfl, show isOp 26 = true from rfl]
  clear e1 e2 e3 h
  cases xw <;> cases xe <;> simp [numsB, plainFrom, startIn, setZ, numZ, isVal, fitsB, inZero, refK, okK, regsB, withinB, scaleZ, isK, fS, fNew, fT, fI12] <;> omega
set_option maxHeartbeats 2000000 in
theorem rr_27 (x : In) (h : x.small) (ho : x.op = 27) : rrP x = refB x := by
  have h1 := h.mode0; have h2 := h.pred0; have h3 := h.d0; have h4 := h.s0; have h5 := h.t0; have h6 := h.n0; have h7 := h.count0
  have h11 := h.mode1; have h12 := h.pred1; have h13 := h.d1; have h14 := h.s1; have h15 := h.t1; have h16 := h.n1; have h17 := h.count1
  have e1 : vF 27 = fR19 := by decide +kernel
  have e2 : vB 27 = true := by decide +kernel
  have e3 : mayZ 27 = true := by decide +kernel
  obtain ⟨xo, xd, xs, xt, xn, xp, xm, xw, xe, xc, xi⟩ := x
  obtain rfl : xo = 27 := ho
  dsimp only at h1 h2 h3 h4 h5 h6 h7 h11 h12 h13 h14 h15 h16 h17
  rw [Bool.eq_iff_iff]
  unfold rrP refB endB fitP fitZ valZ
  dsimp only
  rw [e1, e2, e3, show fieldsZ 27 = [fMode, fPred, fR19] from rfl, show (kindZ 27).toNat = 12 from rfl, show decide (kindZ 27 ≠ 0) = true from rfl, show isOp 27 = true from rfl]
  clear e1 e2 e3 h
  cases xw <;> cases xe <;> simp [numsB, plainFrom, startIn, setZ, numZ, isVal, inZero, refK, okK, regsB, condB, aimB, isK, fMode, fPred, fR19] <;> omega
set_option maxHeartbeats 2000000 in
theorem rr_28 (x : In) (h : x.small) (ho : x.op = 28) : rrP x = refB x := by
  have h1 := h.mode0; have h2 := h.pred0; have h3 := h.d0; have h4 := h.s0; have h5 := h.t0; have h6 := h.n0; have h7 := h.count0
  have h11 := h.mode1; have h12 := h.pred1; have h13 := h.d1; have h14 := h.s1; have h15 := h.t1; have h16 := h.n1; have h17 := h.count1
  have e1 : vF 28 = fZero := by decide +kernel
  have e2 : vB 28 = false := by decide +kernel
  have e3 : mayZ 28 = false := by decide +kernel
  obtain ⟨xo, xd, xs, xt, xn, xp, xm, xw, xe, xc, xi⟩ := x
  obtain rfl : xo = 28 := ho
  dsimp only at h1 h2 h3 h4 h5 h6 h7 h11 h12 h13 h14 h15 h16 h17
  rw [Bool.eq_iff_iff]
  unfold rrP refB endB fitP fitZ valZ
  dsimp only
  rw [e1, e2, e3, show fieldsZ 28 = [fMode, fPred, fS] from rfl, show (kindZ 28).toNat = 13 from rfl, show decide (kindZ 28 ≠ 0) = true from rfl, show isOp 28 = true from rfl]
  clear e1 e2 e3 h
  cases xw <;> cases xe <;> simp [numsB, plainFrom, startIn, setZ, numZ, isVal, fitsB, inZero, refK, okK, regsB, condB, isK, fMode, fPred, fS, fZero] <;> omega
set_option maxHeartbeats 2000000 in
theorem rr_29 (x : In) (h : x.small) (ho : x.op = 29) : rrP x = refB x := by
  have h1 := h.mode0; have h2 := h.pred0; have h3 := h.d0; have h4 := h.s0; have h5 := h.t0; have h6 := h.n0; have h7 := h.count0
  have h11 := h.mode1; have h12 := h.pred1; have h13 := h.d1; have h14 := h.s1; have h15 := h.t1; have h16 := h.n1; have h17 := h.count1
  have e1 : vF 29 = fR24 := by decide +kernel
  have e2 : vB 29 = true := by decide +kernel
  have e3 : mayZ 29 = true := by decide +kernel
  obtain ⟨xo, xd, xs, xt, xn, xp, xm, xw, xe, xc, xi⟩ := x
  obtain rfl : xo = 29 := ho
  dsimp only at h1 h2 h3 h4 h5 h6 h7 h11 h12 h13 h14 h15 h16 h17
  rw [Bool.eq_iff_iff]
  unfold rrP refB endB fitP fitZ valZ
  dsimp only
  rw [e1, e2, e3, show fieldsZ 29 = [fR24] from rfl, show (kindZ 29).toNat = 14 from rfl, show decide (kindZ 29 ≠ 0) = true from rfl, show isOp 29 = true from rfl]
  clear e1 e2 e3 h
  cases xw <;> cases xe <;> simp [numsB, plainFrom, startIn, numZ, isVal, inZero, refK, okK, regsB, aimB, isK, fR24] <;> omega
set_option maxHeartbeats 2000000 in
theorem rr_30 (x : In) (h : x.small) (ho : x.op = 30) : rrP x = refB x := by
  have h1 := h.mode0; have h2 := h.pred0; have h3 := h.d0; have h4 := h.s0; have h5 := h.t0; have h6 := h.n0; have h7 := h.count0
  have h11 := h.mode1; have h12 := h.pred1; have h13 := h.d1; have h14 := h.s1; have h15 := h.t1; have h16 := h.n1; have h17 := h.count1
  have e1 : vF 30 = fR12 := by decide +kernel
  have e2 : vB 30 = true := by decide +kernel
  have e3 : mayZ 30 = true := by decide +kernel
  obtain ⟨xo, xd, xs, xt, xn, xp, xm, xw, xe, xc, xi⟩ := x
  obtain rfl : xo = 30 := ho
  dsimp only at h1 h2 h3 h4 h5 h6 h7 h11 h12 h13 h14 h15 h16 h17
  rw [Bool.eq_iff_iff]
  unfold rrP refB endB fitP fitZ valZ
  dsimp only
  rw [e1, e2, e3, show fieldsZ 30 = [fN, fR12, fCount] from rfl, show (kindZ 30).toNat = 15 from rfl, show decide (kindZ 30 ≠ 0) = true from rfl, show isOp 30 = true from rfl]
  clear e1 e2 e3 h
  cases xw <;> cases xe <;> simp [numsB, plainFrom, startIn, setZ, numZ, isVal, inZero, refK, okK, regsB, aimB, isK, fN, fR12, fCount] <;> omega
set_option maxHeartbeats 2000000 in
theorem rr_31 (x : In) (h : x.small) (ho : x.op = 31) : rrP x = refB x := by
  have h1 := h.mode0; have h2 := h.pred0; have h3 := h.d0; have h4 := h.s0; have h5 := h.t0; have h6 := h.n0; have h7 := h.count0
  have h11 := h.mode1; have h12 := h.pred1; have h13 := h.d1; have h14 := h.s1; have h15 := h.t1; have h16 := h.n1; have h17 := h.count1
  have e1 : vF 31 = fR12 := by decide +kernel
  have e2 : vB 31 = true := by decide +kernel
  have e3 : mayZ 31 = true := by decide +kernel
  obtain ⟨xo, xd, xs, xt, xn, xp, xm, xw, xe, xc, xi⟩ := x
  obtain rfl : xo = 31 := ho
  dsimp only at h1 h2 h3 h4 h5 h6 h7 h11 h12 h13 h14 h15 h16 h17
  rw [Bool.eq_iff_iff]
  unfold rrP refB endB fitP fitZ valZ
  dsimp only
  rw [e1, e2, e3, show fieldsZ 31 = [fN, fR12, fS] from rfl, show (kindZ 31).toNat = 16 from rfl, show decide (kindZ 31 ≠ 0) = true from rfl, show isOp 31 = true from rfl]
  clear e1 e2 e3 h
  cases xw <;> cases xe <;> simp [numsB, plainFrom, startIn, setZ, numZ, isVal, inZero, refK, okK, regsB, aimB, isK, fN, fR12, fS] <;> omega
theorem rr_right (x : In) (h : x.small) : rrP x = rightB x := by
  rw [right_ref x h]
  by_cases hc : x.op < 1 ∨ 31 < x.op
  · have e : isOp x.op = false := by unfold isOp; simp; omega
    have k : kindZ x.op = 0 := by
      unfold kindZ
      rw [List.getD_eq_getElem?_getD]
      rcases hc with hc | hc
      · rw [show x.op.toNat = 0 by omega]; rfl
      · rw [List.getElem?_eq_none (by show 32 ≤ _; omega)]; rfl
    unfold rrP refB
    rw [e, k]
    rfl
  · have hc2 : x.op = 1 ∨ x.op = 2 ∨ x.op = 3 ∨ x.op = 4 ∨ x.op = 5 ∨ x.op = 6 ∨ x.op = 7 ∨ x.op = 8 ∨ x.op = 9 ∨ x.op = 10 ∨ x.op = 11 ∨ x.op = 12 ∨ x.op = 13 ∨ x.op = 14 ∨ x.op = 15 ∨ x.op = 16 ∨ x.op = 17 ∨ x.op = 18 ∨ x.op = 19 ∨ x.op = 20 ∨ x.op = 21 ∨ x.op = 22 ∨ x.op = 23 ∨ x.op = 24 ∨ x.op = 25 ∨ x.op = 26 ∨ x.op = 27 ∨ x.op = 28 ∨ x.op = 29 ∨ x.op = 30 ∨ x.op = 31 := by omega
    rcases hc2 with h' | h' | h' | h' | h' | h' | h' | h' | h' | h' | h' | h' | h' | h' | h' | h' | h' | h' | h' | h' | h' | h' | h' | h' | h' | h' | h' | h' | h' | h' | h'
    · exact rr_1 x h h'
    · exact rr_2 x h h'
    · exact rr_3 x h h'
    · exact rr_4 x h h'
    · exact rr_5 x h h'
    · exact rr_6 x h h'
    · exact rr_7 x h h'
    · exact rr_8 x h h'
    · exact rr_9 x h h'
    · exact rr_10 x h h'
    · exact rr_11 x h h'
    · exact rr_12 x h h'
    · exact rr_13 x h h'
    · exact rr_14 x h h'
    · exact rr_15 x h h'
    · exact rr_16 x h h'
    · exact rr_17 x h h'
    · exact rr_18 x h h'
    · exact rr_19 x h h'
    · exact rr_20 x h h'
    · exact rr_21 x h h'
    · exact rr_22 x h h'
    · exact rr_23 x h h'
    · exact rr_24 x h h'
    · exact rr_25 x h h'
    · exact rr_26 x h h'
    · exact rr_27 x h h'
    · exact rr_28 x h h'
    · exact rr_29 x h h'
    · exact rr_30 x h h'
    · exact rr_31 x h h'
end
section
set_option maxRecDepth 100000
section
open Go

theorem opN_of {op : Int} (h : isOp op = true) : opN op = op := by unfold opN; rw [if_pos h]
theorem vF_mem {op : Int} (ho : isOp op = true) (hb : vB op = true) : vF op ∈ fieldsZ op ∧ isVal (vF op) = true := by
  unfold vB vfZ at hb
  rw [opN_of ho] at hb
  unfold vF vfZ
  rw [opN_of ho]
  cases h : vfIn (fieldsZ op) with
  | none => rw [h] at hb; cases hb
  | some f =>
    obtain ⟨h1, h2⟩ := vfIn_mem h
    refine ⟨h1, ?_⟩
    unfold isVal
    simp only [Bool.or_eq_true, beq_iff_eq]
    exact h2
structure RightOk (x : In) : Prop where
  op : isOp x.op = true
  plain : plainFrom x (fieldsZ x.op) (startIn x.op x.ext) = x
  nums : ∀ f ∈ fieldsZ x.op, isVal f = false → numZ x f.kind < 2 ^ f.bits.toNat
  may : x.ext = true → mayZ x.op = true
  val : ValOk (vF x.op) x
theorem right_ok {x : In} (h : x.small) (hr : rightB x = true) : RightOk x := by
  rw [← rr_right x h] at hr
  unfold rrP at hr
  simp only [Bool.and_eq_true] at hr
  obtain ⟨⟨⟨⟨⟨⟨h1, h2⟩, h3⟩, h4⟩, h5⟩, h6⟩, h7⟩ := hr
  have hm : x.ext = true → mayZ x.op = true := by
    intro he
    rw [he] at h2
    cases hm : mayZ x.op with
    | true => rfl
    | false => rw [hm] at h2; cases h2
  refine ⟨h1, of_decide_eq_true h4, fun f hf hv => ?_, hm, ⟨fun hk => ?_, fun hk he => ?_, fun he => ?_⟩⟩
  · unfold numsB at h3
    have := List.all_eq_true.1 h3 f hf
    rw [hv, Bool.false_or] at this
    exact of_decide_eq_true this
  · unfold endB at h7
    rw [if_pos hk] at h7
    simp only [Bool.and_eq_true, decide_eq_true_eq] at h7
    exact h7.1
  · unfold endB at h7
    rw [if_neg (by rw [hk]; decide), he, if_pos rfl] at h7
    simp only [Bool.and_eq_true, decide_eq_true_eq] at h7
    exact h7
  · have := hm he
    unfold mayZ at this
    simp only [Bool.and_eq_true] at this
    exact this.2
theorem numZ_nonneg {x : In} (h : x.small) (k : Int) : 0 ≤ numZ x k := by
  have key : ∀ (c : Prop) [Decidable c] (a b : Int), 0 ≤ a → 0 ≤ b → 0 ≤ (if c then a else b) := fun c _ a b ha hb => ite_of (fun z : Int => 0 ≤ z) ha hb
  unfold numZ
  exact key _ _ _ h.mode0 (key _ _ _ h.pred0 (key _ _ _ h.d0 (key _ _ _ h.d0 (key _ _ _ h.s0 (key _ _ _ h.t0 (key _ _ _ h.n0 (key _ _ _ (key _ _ _ (by decide) (by decide)) (key _ _ _ h.count0 (by decide)))))))))
theorem upFrom_eq (x : In) (pc : Int) (fs : List Fd) : ∀ u, upFrom x pc fs u = if fs.any isVal then uppZ x pc else u := by
  induction fs with
  | nil => intro u; rfl
  | cons f r ih =>
    intro u
    show upFrom x pc r (if isVal f then uppZ x pc else u) = _
    rw [ih, List.any_cons]
    cases isVal f <;> cases r.any isVal <;> rfl
theorem uppZ_bounds (x : In) (pc : Int) : 0 ≤ uppZ x pc ∧ uppZ x pc < 16777216 := by
  unfold uppZ upperZ
  split <;> omega
theorem upP_bounds (x : In) (pc : Int) : 0 ≤ upP x pc ∧ upP x pc < 16777216 := by
  have := uppZ_bounds x pc
  unfold upP
  rw [upFrom_eq]
  split
  · split
    · exact this
    · omega
  · omega
theorem any_val {fs : List Fd} {f : Fd} (hf : f ∈ fs) (hv : isVal f = true) : fs.any isVal = true := List.any_eq_true.2 ⟨f, hf, hv⟩
theorem readOk_of_agree (x : In) (pc p u op : Int) (fs : List Fd) : ∀ low : Int, (∀ f ∈ fs, FdOk op f) → agree x pc p fs low → (∀ f ∈ fs, isVal f = false → 0 ≤ numZ x f.kind ∧ numZ x f.kind < 2 ^ f.bits.toNat) →
    (∀ f ∈ fs, isVal f = true → ∀ g, g = splitZ f x pc % 2 ^ f.bits.toNat → (x.ext = true → g < 256) ∧ x.imm = joinV f g u x.ext pc) → getZ p 0 (low - sumB fs) = 0 → readOk x p u x.ext pc fs low := by
  induction fs with
  | nil => intro low _ _ _ _ h; rw [show low - ((sumB [] : Nat) : Int) = low by simp [sumB]] at h; exact h
  | cons f r ih =>
    intro low hok ha hn hv h0
    obtain ⟨a1, a2⟩ := ha
    have hb := (hok f List.mem_cons_self).b1
    have e : low - ((sumB (f :: r) : Nat) : Int) = low - f.bits - (sumB r : Nat) := by rw [sumB_cons]; omega
    rw [e] at h0
    refine ⟨?_, ih _ (fun g hg => hok g (List.mem_cons_of_mem _ hg)) a2 (fun g hg => hn g (List.mem_cons_of_mem _ hg)) (fun g hg => hv g (List.mem_cons_of_mem _ hg)) h0⟩
    cases hvf : isVal f with
    | true =>
      rw [if_pos rfl]
      refine hv f List.mem_cons_self hvf _ ?_
      rw [a1]
      unfold heldZ
      rw [hvf, if_pos rfl]
    | false =>
      rw [if_neg (by decide), a1]
      unfold heldZ
      rw [hvf, if_neg (by decide)]
      have := hn f List.mem_cons_self hvf
      exact (Int.emod_eq_of_lt this.1 this.2).symm
theorem code_word {c p : Int} (h0 : 0 ≤ c) (h1 : c < 64) (p0 : 0 ≤ p) (p1 : p < 16777216) : codeZ (wordZ c p 0) = c ∧ payZ (wordZ c p 0) = p ∧ parseZ (wordZ c p 0) = 0 ∧ isU32 (wordZ c p 0) := by
  have e : wordZ c p 0 = c * 67108864 + p / 16384 * 65536 + p % 16384 := by unfold wordZ; omega
  have ep : p = p / 16384 * 16384 + p % 16384 := by omega
  have d0 : 0 ≤ p / 16384 ∧ p / 16384 < 1024 := by omega
  have m0 : 0 ≤ p % 16384 ∧ p % 16384 < 16384 := by omega
  rw [e]
  generalize p / 16384 = d at *
  generalize p % 16384 = m at *
  subst ep
  obtain ⟨d1, d2⟩ := d0
  obtain ⟨m1, m2⟩ := m0
  have q1 : (c * 67108864 + d * 65536 + m) / 67108864 = c := by omega
  have q2 : (c * 67108864 + d * 65536 + m) / 65536 = c * 1024 + d := by omega
  have q3 : (c * 67108864 + d * 65536 + m) % 16384 = m := by omega
  have q4 : (c * 67108864 + d * 65536 + m) / 16384 % 4 = 0 := by omega
  refine ⟨?_, ?_, ?_, ?_, ?_⟩
  · unfold codeZ; rw [q1]; omega
  · unfold payZ; rw [q2, q3]; omega
  · unfold parseZ; exact q4
  · omega
  · omega
theorem pay_small (x : In) (pc : Int) (ho : isOp x.op = true) : 0 ≤ payP x pc ∧ payP x pc < 16777216 ∧ agree x pc (payP x pc) (fieldsZ x.op) 24 ∧ getZ (payP x pc) 0 (24 - sumB (fieldsZ x.op)) = 0 := by
  obtain ⟨l1, l2, l3⟩ := list_ok x.op ho
  obtain ⟨i1, i2, i3⟩ := pack_agree x pc (fieldsZ x.op) 24 0 l1 (Nat.le_refl _) (fun f hf => (l3 f hf).b1) (by decide)
  change payP x pc / 16777216 = 0 at i1
  refine ⟨by omega, by omega, i2, ?_⟩
  change payP x pc % 2 ^ (24 - sumB (fieldsZ x.op)) = 0 at i3
  have := getZ_pos (payP x pc) 0 (24 - sumB (fieldsZ x.op)) (by omega)
  rw [show (24 : Int) - (sumB (fieldsZ x.op) : Nat) = ((24 - sumB (fieldsZ x.op) : Nat) : Int) by omega]
  rw [show ((0 : Nat) : Int) = 0 from rfl] at this
  rw [this]
  rw [show payP x pc / 2 ^ 0 = payP x pc by simp]
  exact i3
/-- The word of an instruction says that instruction. -/
theorem inst_of_word {x : In} (h : x.small) {pc : Int} (hs : sayB x pc = true) :
    instB (wordP x pc) (upP x pc) x.ext pc = true ∧ instP (wordP x pc) (upP x pc) x.ext pc = x ∧ codeZ (wordP x pc) = x.op ∧ payZ (wordP x pc) = payP x pc ∧ parseZ (wordP x pc) = 0 ∧ isU32 (wordP x pc) := by
  have hs' := hs
  unfold sayB at hs'
  simp only [Bool.and_eq_true, Bool.or_eq_true] at hs'
  obtain ⟨hr, hfit⟩ := hs'
  have R := right_ok h hr
  have ho := R.op
  have ho2 : 1 ≤ x.op ∧ x.op ≤ 31 := by
    have := ho
    simp only [isOp, Bool.and_eq_true, decide_eq_true_eq] at this
    exact this
  obtain ⟨l1, l2, l3⟩ := list_ok x.op ho
  obtain ⟨p0, p1, ha, hz⟩ := pay_small x pc ho
  have ew : wordP x pc = wordZ x.op (payP x pc) 0 := by unfold wordP; rw [hs, if_pos rfl]
  have eu : upP x pc = upFrom x pc (fieldsZ x.op) 0 := by unfold upP; rw [hs, if_pos rfl]
  obtain ⟨c1, c2, c3, c4⟩ := code_word (c := x.op) (by omega) (by omega) p0 p1
  rw [ew]
  have hread : readP (wordZ x.op (payP x pc) 0) (upP x pc) x.ext pc = (x, true) := by
    unfold readP
    rw [c1, c2]
    rw [read_of x (payP x pc) (upP x pc) x.ext pc (fieldsZ x.op) 24 _ (readOk_of_agree x pc _ _ x.op _ 24 l3 ha (fun f hf hv => ⟨numZ_nonneg h _, R.nums f hf hv⟩) (fun f hf hv g hg => ?_) hz), R.plain]
    have hvf := (l3 f hf).vf hv
    refine split_join pc hvf ((l3 f hf).lit hv) ?_ (fun he => ?_) g (upP x pc) hg ?_
    · rw [hvf.1]; exact R.val
    · rcases hfit with hh | hh
      · rw [he] at hh; cases hh
      · exact hh
    · rw [eu, upFrom_eq, any_val hf hv, if_pos rfl]
  have hi : instB (wordZ x.op (payP x pc) 0) (upP x pc) x.ext pc = true := by
    have hu := (upP_bounds x pc).2
    have e : decide (16777216 ≤ upP x pc) = false := by simp; omega
    unfold instB
    rw [hread, c1, ho, e, hr]
    cases x.ext <;> rfl
  refine ⟨hi, ?_, c1, c2, c3, c4⟩
  unfold instP
  rw [hi, if_pos rfl, hread]

/-! What a word says has that word. -/
theorem setZ_small {y : In} (h : y.small) (k v : Int) : (setZ y k v).small := by
  have key : ∀ (c : Prop) [Decidable c] (a b : In), a.small → b.small → (if c then a else b).small := fun c _ a b ha hb => ite_of In.small ha hb
  have a0 : 0 ≤ v % 256 := by omega
  have a1 : v % 256 ≤ 255 := by omega
  have b0 : 0 ≤ v % 65536 := by omega
  have b1 : v % 65536 ≤ 65535 := by omega
  unfold setZ
  refine key _ _ _ { h with mode0 := a0, mode1 := a1 } ?_
  refine key _ _ _ { h with pred0 := a0, pred1 := a1 } ?_
  refine key _ _ _ { h with d0 := a0, d1 := a1 } ?_
  refine key _ _ _ { h with d0 := a0, d1 := a1 } ?_
  refine key _ _ _ { h with s0 := a0, s1 := a1 } ?_
  refine key _ _ _ { h with t0 := a0, t1 := a1 } ?_
  refine key _ _ _ { h with n0 := a0, n1 := a1 } ?_
  refine key _ _ _ { h with } ?_
  exact key _ _ _ { h with count0 := b0, count1 := b1 } h
theorem start_small {op : Int} (h0 : 0 ≤ op) (h1 : op < 64) (has : Bool) : (startIn op has).small := by
  have z : (0 : Int) ≤ 255 := by decide
  have e : (0 : Int) ≤ 0 := by decide
  have c1 : (0 : Int) ≤ 65535 := by decide
  have i0 : -9223372036854775808 ≤ (0 : Int) := by decide
  have i1 : (0 : Int) ≤ 9223372036854775807 := by decide
  exact ⟨h0, (by omega : op ≤ 255), e, z, e, z, e, z, e, z, e, z, e, z, e, c1, i0, i1⟩
theorem zero_small : inZero.small := by
  have z : (0 : Int) ≤ 255 := by decide
  have e : (0 : Int) ≤ 0 := by decide
  exact ⟨e, z, e, z, e, z, e, z, e, z, e, z, e, z, e, (by decide), (by decide), (by decide)⟩
/-- A scale of a field. -/
theorem scale_cases {s : Int} (h0 : 0 ≤ s) (h1 : s ≤ 2) : (2 : Int) ^ s.toNat = 1 ∨ (2 : Int) ^ s.toNat = 2 ∨ (2 : Int) ^ s.toNat = 4 := by
  have : s = 0 ∨ s = 1 ∨ s = 2 := by omega
  rcases this with rfl | rfl | rfl
  · exact .inl rfl
  · exact .inr (.inl rfl)
  · exact .inr (.inr rfl)
theorem sextZ_bounds (g b : Int) : -4294967296 ≤ sextZ g b ∧ sextZ g b < 4294967296 := by
  unfold sextZ
  split
  · rename_i hb
    have hp := pow_le_of b.toNat (by omega)
    have k0 := Int.emod_nonneg g (Int.ne_of_gt (show (0 : Int) < 2 ^ b.toNat by omega))
    have k1 := Int.emod_lt_of_pos g (show (0 : Int) < 2 ^ b.toNat by omega)
    split <;> omega
  · omega
theorem joinV_i (f : Fd) (g u : Int) (has : Bool) (pc : Int) (hs0 : 0 ≤ f.shift) (hs1 : f.shift ≤ 2) (hg0 : 0 ≤ g) (hg1 : g < 4294967296) : isI (joinV f g u has pc) := by
  have hb := sextZ_bounds g f.bits
  have hj := join_i u g
  have hsc := scale_cases hs0 hs1
  unfold joinV
  dsimp only
  by_cases hk : f.kind = 10
  · rw [if_pos hk]
    exact target_i _ _
  · rw [if_neg hk]
    cases has with
    | true => rw [if_pos rfl]; exact hj
    | false =>
      rw [if_neg (by decide)]
      cases f.sg with
      | true =>
        rw [if_pos rfl]
        rcases hsc with e | e | e <;> rw [e] <;> exact ⟨by omega, by omega⟩
      | false =>
        rw [if_neg (by decide)]
        rcases hsc with e | e | e <;> rw [e] <;> exact ⟨by omega, by omega⟩
theorem getZ_lt (p a b : Int) (hp : isU32 p) : 0 ≤ getZ p a b ∧ getZ p a b < 4294967296 := getZ_u32 p a b hp
theorem read_small (p u : Int) (has : Bool) (pc : Int) (hp : isU32 p) (fs : List Fd) : ∀ (low : Int) (y : In), (∀ f ∈ fs, 0 ≤ f.shift ∧ f.shift ≤ 2) → y.small → (readFrom p u has pc fs low y).1.small := by
  induction fs with
  | nil => intro low y _ h; exact h
  | cons f r ih =>
    intro low y hs h
    have hf := hs f List.mem_cons_self
    have hg := getZ_lt p (low - f.bits) f.bits hp
    have hj := joinV_i f _ u has pc hf.1 hf.2 hg.1 hg.2
    unfold readFrom
    split
    · split
      · exact zero_small
      · exact ih _ _ (fun g hg => hs g (List.mem_cons_of_mem _ hg)) { h with imm0 := hj.1, imm1 := hj.2 }
    · exact ih _ _ (fun g hg => hs g (List.mem_cons_of_mem _ hg)) (setZ_small h _ _)
theorem pay_u (w : Int) : 0 ≤ payZ w ∧ payZ w < 16777216 := by unfold payZ; omega
theorem code_u (w : Int) : 0 ≤ codeZ w ∧ codeZ w < 64 := by unfold codeZ; omega
theorem fields_shift (op : Int) : ∀ f ∈ fieldsZ op, 0 ≤ f.shift ∧ f.shift ≤ 2 := fun f hf => ⟨(fields_small op f hf).2.2.2.2.1, (fields_small op f hf).2.2.2.2.2⟩
theorem readP_small (w u : Int) (has : Bool) (pc : Int) : (readP w u has pc).1.small := by
  have hp := pay_u w
  have hc := code_u w
  exact read_small _ _ _ _ ⟨hp.1, by omega⟩ _ _ _ (fields_shift _) (start_small hc.1 hc.2 has)
theorem instP_small (w u : Int) (has : Bool) (pc : Int) : (instP w u has pc).small := by
  have h := readP_small w u has pc
  unfold instP
  split
  · exact h
  · exact zero_small
theorem agree_of_readOk (x : In) (pc p u : Int) (fs : List Fd) (hu : x.ext = true → 0 ≤ u ∧ u < 16777216) : ∀ low : Int, (sumB fs : Int) ≤ low → low ≤ 24 → (∀ f ∈ fs, FdOk x.op f) → readOk x p u x.ext pc fs low →
    agree x pc p fs low ∧ getZ p 0 (low - sumB fs) = 0 ∧ ∀ f ∈ fs, isVal f = true → (x.ext = true → uppZ x pc = u) ∧ (x.ext = false → fitP x pc = true) := by
  induction fs with
  | nil => intro low _ _ _ h; exact ⟨trivial, by rw [show low - ((sumB [] : Nat) : Int) = low by simp [sumB]]; exact h, fun f hf => by cases hf⟩
  | cons f r ih =>
    intro low hl h24 hok ⟨h1, h2⟩
    have hf := hok f List.mem_cons_self
    have hb := hf.b1
    have e : low - ((sumB (f :: r) : Nat) : Int) = low - f.bits - (sumB r : Nat) := by rw [sumB_cons]; omega
    have hl2 : f.bits + (sumB r : Int) ≤ low := by rw [sumB_cons] at hl; omega
    rw [e]
    obtain ⟨i1, i2, i3⟩ := ih _ (by omega) (by omega) (fun g hg => hok g (List.mem_cons_of_mem _ hg)) h2
    have hg := getZ_bounds p (low - f.bits) f.bits (by omega) (by omega) (by omega)
    cases hv : isVal f with
    | true =>
      rw [hv, if_pos rfl] at h1
      obtain ⟨j1, j2, j3⟩ := join_split pc (hf.vf hv) (hf.lit hv) _ u hg.1 hg.2 h1.2 (fun he => ⟨h1.1 he, hu he⟩)
      refine ⟨⟨?_, i1⟩, i2, fun g hgm hgv => ?_⟩
      · unfold heldZ
        rw [hv, if_pos rfl]
        exact j1.symm
      · exact ⟨j2, j3⟩
    | false =>
      rw [hv, if_neg (by decide)] at h1
      refine ⟨⟨?_, i1⟩, i2, fun g hgm hgv => ?_⟩
      · unfold heldZ
        rw [hv, if_neg (by decide), h1, Int.emod_eq_of_lt hg.1 hg.2]
      · rcases List.mem_cons.1 hgm with rfl | hgm
        · rw [hv] at hgv; cases hgv
        · exact i3 g hgm hgv
/-- What a word says has that word. -/
theorem word_of_inst {w u : Int} {has : Bool} {pc : Int} (hi : instB w u has pc = true) (hu : 0 ≤ u) (hn : has = false → u = 0) :
    sayB (instP w u has pc) pc = true ∧ wordP (instP w u has pc) pc = wordZ (codeZ w) (payZ w) 0 ∧ upP (instP w u has pc) pc = u ∧ (instP w u has pc).ext = has ∧ (instP w u has pc).op = codeZ w ∧ rightB (instP w u has pc) = true := by
  have hsm := instP_small w u has pc
  have e : instP w u has pc = (readP w u has pc).1 := by unfold instP; rw [hi, if_pos rfl]
  rw [e] at hsm ⊢
  clear e
  unfold instB at hi
  simp only [Bool.and_eq_true, Bool.not_eq_true', Bool.and_eq_false_iff, decide_eq_false_iff_not] at hi
  obtain ⟨⟨⟨ho, hu2⟩, hr2⟩, hr⟩ := hi
  obtain ⟨x, hx⟩ : ∃ x, (readP w u has pc).1 = x := ⟨_, rfl⟩
  have hrd : readP w u has pc = (x, true) := by rw [← hx, ← hr2]
  rw [hx] at hsm hr ⊢
  clear hx hr2
  obtain ⟨l1, l2, l3⟩ := list_ok (codeZ w) ho
  unfold readP at hrd
  obtain ⟨k1, k2, -, -⟩ := read_keeps _ _ _ _ _ _ _ _ hrd
  have k1 : x.op = codeZ w := k1
  have k2 : x.ext = has := k2
  have hro := read_ok _ _ _ _ (codeZ w) _ _ _ _ (by omega) (by decide) l2 l3 hrd
  rw [← k1] at hro l1 l3 ho
  rw [← k2] at hro hn hu2
  have hu3 : x.ext = true → 0 ≤ u ∧ u < 16777216 := fun he => ⟨hu, by
    rcases hu2 with h | h
    · rw [he] at h; cases h
    · omega⟩
  obtain ⟨a1, a2, a3⟩ := agree_of_readOk x pc _ u _ hu3 24 (by omega) (by decide) l3 hro
  have R := right_ok hsm hr
  have hp := pay_u w
  have hpay : payP x pc = payZ w := by
    have := pack_of x pc (payZ w) (fieldsZ x.op) 24 0 l1 (Nat.le_refl _) (fun f hf => (l3 f hf).b1) (by
      change (0 : Int) = payZ w / 16777216 * 16777216
      omega) a1
    have e2 := getZ_pos (payZ w) 0 (24 - sumB (fieldsZ x.op)) (by omega)
    rw [show (24 : Int) - (sumB (fieldsZ x.op) : Nat) = ((24 - sumB (fieldsZ x.op) : Nat) : Int) by omega] at a2
    rw [show ((0 : Nat) : Int) = 0 from rfl] at e2
    rw [e2] at a2
    rw [show payZ w / 2 ^ 0 = payZ w by simp] at a2
    have e3 := Int.mul_ediv_add_emod (payZ w) (2 ^ (24 - sumB (fieldsZ x.op)))
    rw [a2, Int.add_zero, Int.mul_comm] at e3
    exact this.trans e3
  have hsay : sayB x pc = true := by
    unfold sayB
    rw [hr, Bool.true_and]
    cases he : x.ext with
    | true => rfl
    | false =>
      rw [Bool.false_or]
      cases hb : vB x.op with
      | false => unfold fitP; rw [hb]; rfl
      | true =>
        obtain ⟨m1, m2⟩ := vF_mem ho hb
        exact (a3 _ m1 m2).2 he
  refine ⟨hsay, ?_, ?_, k2, k1, hr⟩
  · unfold wordP
    rw [hsay, if_pos rfl, hpay, k1]
  · unfold upP
    rw [hsay, if_pos rfl, upFrom_eq]
    cases he : x.ext with
    | true =>
      have hm := R.may he
      unfold mayZ at hm
      simp only [Bool.and_eq_true] at hm
      obtain ⟨m1, m2⟩ := vF_mem ho hm.1
      rw [any_val m1 m2, if_pos rfl]
      exact (a3 _ m1 m2).1 he
    | false =>
      have hz := hn he
      have : uppZ x pc = 0 := by unfold uppZ; rw [he]; rfl
      rw [this, hz]
      split <;> rfl
end
section
open Go

/-- The value as the document reads it. -/
def lval (f : Fd) (v u : Int) (has : Bool) (pc : Int) : Int :=
  let x := if has then s32 (u * 256 + v % 256) else if f.sg && decide (2 ^ (f.bits - 1).toNat ≤ v) then (v - 2 ^ f.bits.toNat) * 2 ^ f.shift.toNat else v * 2 ^ f.shift.toNat
  if f.kind == 10 then (pc + x) % 4294967296 else x
def lreadFrom (p u : Int) (has : Bool) (pc : Int) : List Fd → Int → In → In
  | [], _, y => y
  | f :: r, low, y => lreadFrom p u has pc r (low - f.bits) (if isVal f then { y with imm := lval f (getZ p (low - f.bits) f.bits) u has pc } else setZ y f.kind (getZ p (low - f.bits) f.bits))
def lreadP (w u : Int) (has : Bool) (pc : Int) : In := lreadFrom (payZ w) u has pc (fieldsZ (codeZ w)) 24 (startIn (codeZ w) has)
def rinstB (w u : Int) (has : Bool) (pc : Int) : Bool := isOp (codeZ w) && sayB (lreadP w u has pc) pc && (upP (lreadP w u has pc) pc == u) && (wordP (lreadP w u has pc) pc == wordZ (codeZ w) (payZ w) 0)

theorem lval_join (f : Fd) (v u : Int) (has : Bool) (pc : Int) (hb1 : 1 ≤ f.bits) (hb2 : f.bits ≤ 24) (h0 : 0 ≤ v) (h1 : v < 2 ^ f.bits.toNat) (hu : has = true → 0 ≤ u ∧ u < 16777216) : lval f v u has pc = joinV f v u has pc := by
  have e : (if has then s32 (u * 256 + v % 256) else if f.sg && decide (2 ^ (f.bits - 1).toNat ≤ v) then (v - 2 ^ f.bits.toNat) * 2 ^ f.shift.toNat else v * 2 ^ f.shift.toNat) =
      (if has then joinZ u v else if f.sg then sextZ v f.bits * 2 ^ f.shift.toNat else v * 2 ^ f.shift.toNat) := by
    cases has with
    | true =>
      have := hu rfl
      rw [if_pos rfl, if_pos rfl]
      unfold joinZ
      rw [Int.emod_eq_of_lt this.1 this.2]
    | false =>
      simp only [Bool.false_eq_true, if_false]
      cases f.sg with
      | false => rfl
      | true =>
        simp only [Bool.true_and, if_true]
        rw [show sextZ v f.bits = (if 1 ≤ f.bits ∧ f.bits ≤ 32 then (if 2 ^ (f.bits.toNat - 1) ≤ v % 2 ^ f.bits.toNat then v % 2 ^ f.bits.toNat - 2 ^ f.bits.toNat else v % 2 ^ f.bits.toNat) else 0) from rfl]
        have hbb : 1 ≤ f.bits ∧ f.bits ≤ 32 := ⟨hb1, by omega⟩
        rw [if_pos hbb, Int.emod_eq_of_lt h0 h1, show (f.bits - 1).toNat = f.bits.toNat - 1 by omega]
        by_cases hc : 2 ^ (f.bits.toNat - 1) ≤ v
        · rw [decide_eq_true hc, if_pos rfl, if_pos hc]
        · rw [decide_eq_false hc, if_neg Bool.false_ne_true, if_neg hc]
  unfold lval joinV
  dsimp only
  rw [e]
  by_cases hk : f.kind = 10
  · rw [if_pos (by rw [hk]; rfl), if_pos hk]
    rfl
  · rw [if_neg (by simpa using hk), if_neg hk]
theorem lread_eq (p u : Int) (has : Bool) (pc op : Int) (hu : has = true → 0 ≤ u ∧ u < 16777216) (fs : List Fd) : ∀ (low : Int) (y x : In), (sumB fs : Int) ≤ low → low ≤ 24 → (∀ f ∈ fs, FdOk op f) → readFrom p u has pc fs low y = (x, true) → lreadFrom p u has pc fs low y = x := by
  induction fs with
  | nil => intro low y x _ _ _ h; exact congrArg Prod.fst h
  | cons f r ih =>
    intro low y x hl h24 hok h
    have hf := hok f List.mem_cons_self
    have hb := hf.b1
    have hl2 : f.bits + (sumB r : Int) ≤ low := by rw [sumB_cons] at hl; omega
    have hg := getZ_bounds p (low - f.bits) f.bits (by omega) (by omega) (by omega)
    have hj := lval_join f _ u has pc hf.b1 hf.b2 hg.1 hg.2 hu
    unfold readFrom at h
    unfold lreadFrom
    cases hv : isVal f with
    | true =>
      rw [hv, if_pos rfl] at h
      split at h
      · cases h
      · rw [if_pos rfl, hj]
        exact ih _ _ _ (by omega) (by omega) (fun g hg => hok g (List.mem_cons_of_mem _ hg)) h
    | false =>
      rw [hv, if_neg (by decide)] at h
      rw [if_neg (by decide)]
      exact ih _ _ _ (by omega) (by omega) (fun g hg => hok g (List.mem_cons_of_mem _ hg)) h
theorem lval_i (f : Fd) (v u : Int) (has : Bool) (pc : Int) (hb : 0 ≤ f.bits) (hb2 : f.bits ≤ 24) (hs0 : 0 ≤ f.shift) (hs1 : f.shift ≤ 2) (h0 : 0 ≤ v) (h1 : v < 4294967296) : isI (lval f v u has pc) := by
  have hsc := scale_cases hs0 hs1
  have hp := pow_le_of f.bits.toNat (by omega)
  have hs := s32_bounds (u * 256 + v % 256)
  unfold lval
  dsimp only
  split
  · exact ⟨by omega, by omega⟩
  · split
    · exact ⟨by omega, by omega⟩
    · split
      · rcases hsc with e | e | e <;> rw [e] <;> exact ⟨by omega, by omega⟩
      · rcases hsc with e | e | e <;> rw [e] <;> exact ⟨by omega, by omega⟩
theorem lread_small (p u : Int) (has : Bool) (pc : Int) (hp : isU32 p) (fs : List Fd) : ∀ (low : Int) (y : In), (∀ f ∈ fs, f.small) → y.small → (lreadFrom p u has pc fs low y).small ∧ (lreadFrom p u has pc fs low y).op = y.op ∧ (lreadFrom p u has pc fs low y).ext = y.ext := by
  induction fs with
  | nil => intro low y _ h; exact ⟨h, rfl, rfl⟩
  | cons f r ih =>
    intro low y hs h
    obtain ⟨_, _, b0, b1, s0, s1⟩ := hs f List.mem_cons_self
    have hg := getZ_lt p (low - f.bits) f.bits hp
    have hj := lval_i f _ u has pc b0 b1 s0 s1 hg.1 hg.2
    unfold lreadFrom
    split
    · exact ih _ _ (fun g hg => hs g (List.mem_cons_of_mem _ hg)) { h with imm0 := hj.1, imm1 := hj.2 }
    · obtain ⟨i1, i2, i3⟩ := ih (low - f.bits) _ (fun g hg => hs g (List.mem_cons_of_mem _ hg)) (setZ_small h f.kind (getZ p (low - f.bits) f.bits))
      have k := setZ_keeps y f.kind (getZ p (low - f.bits) f.bits)
      exact ⟨i1, i2.trans k.1, i3.trans k.2.1⟩
theorem lreadP_small (w u : Int) (has : Bool) (pc : Int) : (lreadP w u has pc).small ∧ (lreadP w u has pc).op = codeZ w ∧ (lreadP w u has pc).ext = has := by
  have hp := pay_u w
  have hc := code_u w
  exact lread_small _ _ _ _ ⟨hp.1, by omega⟩ _ _ _ (fields_small _) (start_small hc.1 hc.2 has)
/-- The document's reading is the program's. -/
theorem ref_inst (w u : Int) (has : Bool) (pc : Int) (hu : 0 ≤ u) (hn : has = false → u = 0) : rinstB w u has pc = instB w u has pc ∧ (instB w u has pc = true → lreadP w u has pc = instP w u has pc) := by
  have key : instB w u has pc = true → lreadP w u has pc = instP w u has pc := by
    intro hi
    have e : instP w u has pc = (readP w u has pc).1 := by unfold instP; rw [hi, if_pos rfl]
    rw [e]
    unfold instB at hi
    simp only [Bool.and_eq_true, Bool.not_eq_true', Bool.and_eq_false_iff, decide_eq_false_iff_not] at hi
    obtain ⟨⟨⟨ho, hu2⟩, hr2⟩, -⟩ := hi
    obtain ⟨l1, -, l3⟩ := list_ok (codeZ w) ho
    exact lread_eq (payZ w) u has pc (codeZ w) (fun he => ⟨hu, by
      rcases hu2 with h | h
      · rw [he] at h; cases h
      · omega⟩) _ 24 _ _ (by omega) (by decide) l3 (show readFrom _ _ _ _ _ _ _ = ((readP w u has pc).1, true) by rw [← hr2]; rfl)
  refine ⟨?_, key⟩
  rw [Bool.eq_iff_iff]
  constructor
  · intro h
    unfold rinstB at h
    simp only [Bool.and_eq_true, beq_iff_eq] at h
    obtain ⟨⟨⟨ho, hs⟩, h1⟩, h2⟩ := h
    obtain ⟨s1, s2, s3⟩ := lreadP_small w u has pc
    have := inst_of_word s1 hs
    rw [h1, h2, s3] at this
    have h3 := this.1
    have hp := pay_u w
    have hc := code_u w
    obtain ⟨c1, c2, c3, c4⟩ := code_word hc.1 hc.2 hp.1 hp.2
    unfold instB readP at h3 ⊢
    rw [c1, c2] at h3
    exact h3
  · intro h
    obtain ⟨a1, a2, a3, a4, a5, a6⟩ := word_of_inst h hu hn
    have ho : isOp (codeZ w) = true := by
      unfold instB at h
      simp only [Bool.and_eq_true] at h
      exact h.1.1.1
    unfold rinstB
    rw [key h, ho, a1, a2, a3]
    simp
/-! Moves. -/
theorem right_range {x : In} (h : rightB x = true) : 1 ≤ x.op ∧ x.op ≤ 31 := by
  unfold rightB isOp at h
  simp only [Bool.and_eq_true, decide_eq_true_eq] at h
  exact h.1
end
end
end Go.Proofs.YtanjmoiepmadhaaGreatDoor
