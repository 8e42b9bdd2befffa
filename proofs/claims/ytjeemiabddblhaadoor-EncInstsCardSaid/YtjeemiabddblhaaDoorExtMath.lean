/- Values, extenders and their parts as plain data, for every op, instruction and address; no condition but the Go types' bounds. -/
import Derived.Test.YtjeemiabddblhaaDoorInstIn
namespace Go.Proofs.YtjeemiabddblhaaDoor
open Go

/-- The field that holds a value or a target. -/
def vfIn : List Fd → Option Fd
  | [] => none
  | f :: r => if f.kind = 9 ∨ f.kind = 10 then some f else vfIn r
def vfZ (op : Int) : Option Fd := vfIn (fieldsZ (opN op))
def vF (op : Int) : Fd := (vfZ op).getD fZero
def vB (op : Int) : Bool := (vfZ op).isSome
theorem vfIn_drop (l : List Fd) (k : Nat) (h : k < l.length) : vfIn (l.drop k) = if l[k].kind = 9 ∨ l[k].kind = 10 then some l[k] else vfIn (l.drop (k + 1)) := by
  rw [List.drop_eq_getElem_cons h]; rfl
/-- A number modulo 2^32, as a signed one. -/
def s32 (v : Int) : Int := if 2147483648 ≤ v % 4294967296 then v % 4294967296 - 4294967296 else v % 4294967296
theorem s32_bounds (v : Int) : -2147483648 ≤ s32 v ∧ s32 v ≤ 2147483647 := by
  unfold s32; split <;> constructor <;> omega
theorem sext_s32 (v : Int) : sextZ v 32 = s32 v := by
  unfold sextZ s32
  rw [if_pos ⟨by decide, by decide⟩]
  rfl
theorem s32_mod (v : Int) : s32 (v % 4294967296) = s32 v := by unfold s32; rw [Int.emod_emod]
theorem s32_sub (a b : Int) : s32 (a % 4294967296 - b) = s32 (a - b) := by
  have e : (a % 4294967296 - b) % 4294967296 = (a - b) % 4294967296 := by omega
  unfold s32; rw [e]
/-- An instruction's value, if the field is its value field. -/
def valZ (f : Fd) (x : In) (pc : Int) : Int := if f.kind = 10 then s32 (x.imm - pc) else x.imm
theorem valZ_bounds (f : Fd) (x : In) (pc : Int) (hx : x.small) : isI (valZ f x pc) := by
  have := s32_bounds (x.imm - pc)
  unfold valZ; split
  · exact ⟨by omega, by omega⟩
  · exact ⟨hx.imm0, hx.imm1⟩
def fitZ (f : Fd) (x : In) (pc : Int) : Bool := fitsB (valZ f x pc) f.bits f.shift f.sg
def valueP (x : In) (pc : Int) : Int := if vB x.op then valZ (vF x.op) x pc else 0
def fitP (x : In) (pc : Int) : Bool := !vB x.op || fitZ (vF x.op) x pc
def mayZ (op : Int) : Bool := vB op && (vF op).ext
def needP (x : In) (pc : Int) : Bool := vB x.op && (vF x.op).ext && !fitZ (vF x.op) x pc
def upperZ (v : Int) : Int := v / 256 % 16777216
def lowerZ (v : Int) : Int := v % 256
def joinZ (u l : Int) : Int := s32 (u % 16777216 * 256 + l % 256)
def targetZ (rel pc : Int) : Int := (pc + rel) % 4294967296
theorem get_upper (v : Int) : getZ (v % 4294967296) 8 24 = upperZ v := by
  unfold getZ upperZ
  rw [if_pos (by decide)]
  show v % 4294967296 / 256 % 16777216 = _
  omega
theorem get_lower (v : Int) : getZ (v % 4294967296) 0 8 = lowerZ v := by
  unfold getZ lowerZ
  rw [if_pos (by decide)]
  show v % 4294967296 / 1 % 256 = _
  omega
theorem put_upper (u : Int) : putZ 0 8 24 u = u % 16777216 * 256 := by
  unfold putZ
  rw [if_pos (by decide)]
  show 0 / 4294967296 * 4294967296 + u % 16777216 * 256 + 0 % 256 = _
  omega
theorem put_lower (w l : Int) : putZ w 0 8 l = w / 256 * 256 + l % 256 := by
  unfold putZ
  rw [if_pos (by decide)]
  show w / 256 * 256 + l % 256 * 1 + w % 1 = _
  omega
theorem join_put (u l : Int) : sextZ (putZ (putZ 0 8 24 u) 0 8 l) 32 = joinZ u l := by
  rw [put_upper, put_lower, sext_s32]
  unfold joinZ
  rw [show u % 16777216 * 256 / 256 * 256 + l % 256 = u % 16777216 * 256 + l % 256 by omega]
theorem upper_u32 (v : Int) : isU32 (upperZ v) := by unfold upperZ; exact ⟨by omega, by omega⟩
theorem lower_u32 (v : Int) : isU32 (lowerZ v) := by unfold lowerZ; exact ⟨by omega, by omega⟩
theorem join_i (u l : Int) : isI (joinZ u l) := by
  have := s32_bounds (u % 16777216 * 256 + l % 256)
  unfold joinZ; exact ⟨by omega, by omega⟩
theorem target_i (r p : Int) : isI (targetZ r p) := by unfold targetZ; exact ⟨by omega, by omega⟩
theorem value_i (x : In) (pc : Int) (hx : x.small) : isI (valueP x pc) := by
  have := valZ_bounds (vF x.op) x pc hx
  unfold valueP; split
  · exact this
  · exact ⟨by decide, by decide⟩
theorem vfIn_mem {l : List Fd} {f : Fd} (h : vfIn l = some f) : f ∈ l ∧ (f.kind = 9 ∨ f.kind = 10) := by
  induction l with
  | nil => cases h
  | cons g r ih =>
    unfold vfIn at h
    by_cases hg : g.kind = 9 ∨ g.kind = 10
    · rw [if_pos hg] at h; cases h; exact ⟨List.mem_cons_self, hg⟩
    · rw [if_neg hg] at h; exact ⟨List.mem_cons_of_mem _ (ih h).1, (ih h).2⟩
theorem vF_small (op : Int) : (vF op).small := by
  unfold vF
  cases h : vfZ op with
  | none => exact ⟨by decide, by decide, by decide, by decide, by decide, by decide⟩
  | some f => exact fields_small _ f (vfIn_mem h).1
end Go.Proofs.YtjeemiabddblhaaDoor
