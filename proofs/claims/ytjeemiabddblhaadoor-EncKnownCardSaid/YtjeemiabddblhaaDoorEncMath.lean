/- The words that say instructions, and the instructions that words say, as plain data: what is packed is read again, and the other way round; conditions as each lemma names them. -/
import Derived.Test.YtjeemiabddblhaaDoorInstForm
import Derived.Test.YtjeemiabddblhaaDoorExtMath
namespace Go.Proofs.YtjeemiabddblhaaDoor
open Go

def isVal (f : Fd) : Bool := f.kind == 9 || f.kind == 10
/-- What a field other than the value field holds. -/
def numZ (x : In) (k : Int) : Int :=
  if k = 1 then x.mode else if k = 2 then x.pred else if k = 3 then x.d else if k = 4 then x.d else if k = 5 then x.s else if k = 6 then x.t else if k = 7 then x.n
  else if k = 8 then (if x.new then 1 else 0) else if k = 11 then x.count else 0
def setZ (x : In) (k v : Int) : In :=
  if k = 1 then { x with mode := v % 256 } else if k = 2 then { x with pred := v % 256 } else if k = 3 then { x with d := v % 256 } else if k = 4 then { x with d := v % 256 } else if k = 5 then { x with s := v % 256 }
  else if k = 6 then { x with t := v % 256 } else if k = 7 then { x with n := v % 256 } else if k = 8 then { x with new := v == 1 } else if k = 11 then { x with count := v % 65536 } else x
def uppZ (x : In) (pc : Int) : Int := if x.ext then upperZ (valueP x pc) else 0
/-- What the value field holds. -/
def splitZ (f : Fd) (x : In) (pc : Int) : Int := if x.ext then lowerZ (valueP x pc) else valueP x pc / 2 ^ f.shift.toNat % 4294967296
def heldZ (f : Fd) (x : In) (pc : Int) : Int := if isVal f then splitZ f x pc else numZ x f.kind
def payFrom (x : In) (pc : Int) : List Fd → Int → Int → Int
  | [], p, _ => p
  | f :: r, p, low => payFrom x pc r (putZ p (low - f.bits) f.bits (heldZ f x pc)) (low - f.bits)
def upFrom (x : In) (pc : Int) : List Fd → Int → Int
  | [], u => u
  | f :: r, u => upFrom x pc r (if isVal f then uppZ x pc else u)
def sayB (x : In) (pc : Int) : Bool := rightB x && (x.ext || fitP x pc)
def payP (x : In) (pc : Int) : Int := payFrom x pc (fieldsZ x.op) 0 24
def wordP (x : In) (pc : Int) : Int := if sayB x pc then wordZ x.op (payP x pc) 0 else 0
def upP (x : In) (pc : Int) : Int := if sayB x pc then upFrom x pc (fieldsZ x.op) 0 else 0
/-- The value that is joined. -/
def joinV (f : Fd) (h u : Int) (has : Bool) (pc : Int) : Int :=
  let v := if has then joinZ u h else if f.sg then sextZ h f.bits * 2 ^ f.shift.toNat else h * 2 ^ f.shift.toNat
  if f.kind = 10 then targetZ v pc else v
def readFrom (p u : Int) (has : Bool) (pc : Int) : List Fd → Int → In → In × Bool
  | [], low, y => (y, getZ p 0 low == 0)
  | f :: r, low, y =>
    if isVal f then
      if has && decide (256 ≤ getZ p (low - f.bits) f.bits) then (inZero, false)
      else readFrom p u has pc r (low - f.bits) { y with imm := joinV f (getZ p (low - f.bits) f.bits) u has pc }
    else readFrom p u has pc r (low - f.bits) (setZ y f.kind (getZ p (low - f.bits) f.bits))
def startIn (op : Int) (has : Bool) : In := { inZero with op := op, ext := has }
def readP (w u : Int) (has : Bool) (pc : Int) : In × Bool := readFrom (payZ w) u has pc (fieldsZ (codeZ w)) 24 (startIn (codeZ w) has)
def instB (w u : Int) (has : Bool) (pc : Int) : Bool := isOp (codeZ w) && !(has && decide (16777216 ≤ u)) && (readP w u has pc).2 && rightB (readP w u has pc).1
def instP (w u : Int) (has : Bool) (pc : Int) : In := if instB w u has pc then (readP w u has pc).1 else inZero

/-! Lists of fields. -/
def sumB : List Fd → Nat
  | [] => 0
  | f :: r => f.bits.toNat + sumB r
def memb (k : Int) : Int := if k = 4 then 3 else if k = 10 then 9 else k
def apartB : List Fd → Bool
  | [] => true
  | f :: r => r.all (fun g => memb g.kind != memb f.kind) && apartB r
def listOk (op : Nat) : Bool :=
  decide (sumB (fieldsZ op) ≤ 24) && apartB (fieldsZ op) && (fieldsZ op).all (fun f => decide (1 ≤ f.bits) && decide (f.bits ≤ 24) && decide (0 ≤ f.shift) && decide (f.shift ≤ 2) && decide (1 ≤ f.kind) && decide (f.kind ≤ 11) && (!isVal f || (f == vF op && vB op))
    && (isVal f || decide (f.bits ≤ 8) || f.kind == 11) && (!(f.kind == 8) || f.bits == 1) && decide (f.bits ≤ 16 || isVal f) && (!isVal f || ([fI14, fI122, fI121, fI12, fU5, fR19, fR24, fR12].contains f)))
theorem lists_ok : (List.range 32).all listOk = true := by decide +kernel
structure FdOk (op : Int) (f : Fd) : Prop where
  b1 : 1 ≤ f.bits
  b2 : f.bits ≤ 24
  s0 : 0 ≤ f.shift
  s1 : f.shift ≤ 2
  k1 : 1 ≤ f.kind
  k2 : f.kind ≤ 11
  vf : isVal f = true → f = vF op ∧ vB op = true
  nb : isVal f = false → f.kind ≠ 11 → f.bits ≤ 8
  n8 : f.kind = 8 → f.bits = 1
  nc : isVal f = false → f.bits ≤ 16
  lit : isVal f = true → f = fI14 ∨ f = fI122 ∨ f = fI121 ∨ f = fI12 ∨ f = fU5 ∨ f = fR19 ∨ f = fR24 ∨ f = fR12
theorem list_ok (op : Int) (h : isOp op = true) : sumB (fieldsZ op) ≤ 24 ∧ apartB (fieldsZ op) = true ∧ ∀ f ∈ fieldsZ op, FdOk op f := by
  simp only [isOp, Bool.and_eq_true, decide_eq_true_eq] at h
  obtain ⟨n, rfl⟩ := Int.eq_ofNat_of_zero_le (show 0 ≤ op by omega)
  have := List.all_eq_true.1 lists_ok n (List.mem_range.2 (by omega))
  unfold listOk at this
  simp only [Bool.and_eq_true, decide_eq_true_eq, List.all_eq_true, Bool.or_eq_true, Bool.not_eq_true', beq_iff_eq, List.contains_iff_mem, List.mem_cons, List.not_mem_nil, or_false] at this
  refine ⟨this.1.1, this.1.2, fun f hf => ?_⟩
  obtain ⟨⟨⟨⟨⟨⟨⟨⟨⟨⟨a1, a2⟩, a3⟩, a4⟩, a5⟩, a6⟩, a7⟩, a8⟩, a9⟩, a10⟩, a11⟩ := this.2 f hf
  refine ⟨a1, a2, a3, a4, a5, a6, fun hv => ?_, fun hv hk => ?_, fun hk => ?_, fun hv => ?_, fun hv => ?_⟩
  · rcases a7 with h | h
    · rw [hv] at h; cases h
    · exact h
  · rcases a8 with (h | h) | h
    · rw [hv] at h; cases h
    · exact h
    · exact absurd h hk
  · rcases a9 with h | h
    · exact absurd hk (by simpa using h)
    · exact h
  · rcases a10 with h | h
    · exact h
    · rw [hv] at h; cases h
  · rcases a11 with h | h
    · rw [hv] at h; cases h
    · exact h
end Go.Proofs.YtjeemiabddblhaaDoor
