/- Values in their field: what is split is joined again, and the other way round; for the eight kinds of value fields. -/
import Derived.Test.YtjeemiabddblhaaDoorEncMath2
namespace Go.Proofs.YtjeemiabddblhaaDoor
open Go

theorem value_at {x : In} {f : Fd} (h : f = vF x.op ∧ vB x.op = true) (pc : Int) : valueP x pc = valZ f x pc ∧ fitP x pc = fitZ f x pc := by
  obtain ⟨rfl, hb⟩ := h
  unfold valueP fitP
  rw [hb]
  exact ⟨rfl, rfl⟩
/-- What is so of the value of a right instruction. -/
structure ValOk (f : Fd) (x : In) : Prop where
  rel : f.kind = 10 → 0 ≤ x.imm ∧ x.imm < 4294967296
  big : f.kind = 9 → x.ext = true → -2147483648 ≤ x.imm ∧ x.imm < 2147483648
  may : x.ext = true → f.ext = true
/-- Split, then joined. -/
theorem split_join {x : In} {f : Fd} (pc : Int) (hf : f = vF x.op ∧ vB x.op = true) (hl : f = fI14 ∨ f = fI122 ∨ f = fI121 ∨ f = fI12 ∨ f = fU5 ∨ f = fR19 ∨ f = fR24 ∨ f = fR12) (hx : ValOk f x) (hs : x.ext = false → fitP x pc = true) (g u : Int)
    (hg : g = splitZ f x pc % 2 ^ f.bits.toNat) (hu : u = uppZ x pc) : (x.ext = true → g < 256) ∧ x.imm = joinV f g u x.ext pc := by
  obtain ⟨hv, hfit⟩ := value_at hf pc
  have h1 := hx.rel
  have h2 := hx.big
  have h3 := hx.may
  rw [hfit] at hs
  unfold splitZ at hg
  unfold uppZ at hu
  rw [hv] at hg hu
  clear hx hv hfit hf
  cases he : x.ext with
  | true =>
    rw [he] at hg hu
    rw [if_pos rfl] at hg hu
    have h3' := h3 he
    have hb : g = lowerZ (valZ f x pc) := by
      have k : 0 ≤ lowerZ (valZ f x pc) ∧ lowerZ (valZ f x pc) < 256 := by unfold lowerZ; omega
      rw [hg]
      rcases hl with rfl | rfl | rfl | rfl | rfl | rfl | rfl | rfl
      case inr.inr.inr.inr.inl => cases h3'
      all_goals
        generalize lowerZ _ = l at *
        refine Int.emod_eq_of_lt k.1 (Int.lt_of_lt_of_le k.2 (by decide))
    refine ⟨fun _ => by rw [hb]; unfold lowerZ; omega, ?_⟩
    have hj : joinZ u g = s32 (valZ f x pc) := by
      rw [hu, hb]
      unfold joinZ upperZ lowerZ
      rw [show valZ f x pc / 256 % 16777216 % 16777216 * 256 + valZ f x pc % 256 % 256 = valZ f x pc % 4294967296 by omega, s32_mod]
    unfold joinV
    simp only [if_true]
    rw [hj]
    unfold valZ
    by_cases hk : f.kind = 10
    · rw [if_pos hk, if_pos hk]
      obtain ⟨r1, r2⟩ := h1 hk
      unfold targetZ s32
      omega
    · rw [if_neg hk, if_neg hk]
      have hk9 : f.kind = 9 := by
        rcases hl with rfl | rfl | rfl | rfl | rfl | rfl | rfl | rfl
        all_goals first | rfl | exact absurd rfl hk
      obtain ⟨r1, r2⟩ := h2 hk9 he
      unfold s32
      omega
  | false =>
    rw [he] at hg
    rw [if_neg (by decide)] at hg
    have hfit := hs he
    unfold fitZ at hfit
    refine ⟨fun h => (by cases h), ?_⟩
    have hs32 : valZ f x pc = if f.kind = 10 then s32 (x.imm - pc) else x.imm := rfl
    generalize valZ f x pc = v at *
    have hg2 := hg
    clear hg hu h2 h3 he
    have hl2 : f = ⟨9, 14, 0, true, true⟩ ∨ f = ⟨9, 12, 2, true, true⟩ ∨ f = ⟨9, 12, 1, true, true⟩ ∨ f = ⟨9, 12, 0, true, true⟩ ∨ f = ⟨9, 5, 0, false, false⟩ ∨ f = ⟨10, 19, 2, true, true⟩ ∨ f = ⟨10, 24, 2, true, true⟩ ∨ f = ⟨10, 12, 2, true, true⟩ := hl
    rcases hl2 with rfl | rfl | rfl | rfl | rfl | rfl | rfl | rfl
    all_goals
      unfold fitsB at hfit
      unfold joinV sextZ
      dsimp only at hfit hg2 h1 hs32 ⊢
      simp at hfit hg2 h1 hs32 ⊢
      first
        | omega
        | (unfold targetZ; unfold s32 at hs32; omega)
/-- Joined, then split. -/
theorem join_split {x : In} {f : Fd} (pc : Int) (hf : f = vF x.op ∧ vB x.op = true) (hl : f = fI14 ∨ f = fI122 ∨ f = fI121 ∨ f = fI12 ∨ f = fU5 ∨ f = fR19 ∨ f = fR24 ∨ f = fR12) (g u : Int) (hg0 : 0 ≤ g) (hg1 : g < 2 ^ f.bits.toNat)
    (hx : x.imm = joinV f g u x.ext pc) (hh : x.ext = true → g < 256 ∧ 0 ≤ u ∧ u < 16777216) :
    splitZ f x pc % 2 ^ f.bits.toNat = g ∧ (x.ext = true → uppZ x pc = u) ∧ (x.ext = false → fitP x pc = true) := by
  obtain ⟨hv, hfit⟩ := value_at hf pc
  rw [hfit]
  unfold splitZ uppZ
  rw [hv]
  clear hv hfit hf
  cases he : x.ext with
  | true =>
    rw [he] at hx
    obtain ⟨k1, k2, k3⟩ := hh he
    have hV : valZ f x pc = s32 (u * 256 + g) := by
      unfold valZ
      unfold joinV at hx
      simp only [if_true] at hx
      unfold joinZ at hx
      rw [show u % 16777216 * 256 + g % 256 = u * 256 + g by omega] at hx
      by_cases hk : f.kind = 10
      · rw [if_pos hk] at hx ⊢
        rw [hx]
        unfold targetZ s32
        omega
      · rw [if_neg hk] at hx ⊢
        exact hx
    rw [hV, if_pos rfl, if_pos rfl]
    refine ⟨?_, fun _ => ?_, fun h => by cases h⟩
    · have e : lowerZ (s32 (u * 256 + g)) = g := by unfold lowerZ s32; omega
      rw [e]
      exact Int.emod_eq_of_lt hg0 hg1
    · unfold upperZ s32
      omega
  | false =>
    rw [he] at hx
    rw [if_neg (by decide)]
    unfold fitZ
    have hs32 : valZ f x pc = if f.kind = 10 then s32 (x.imm - pc) else x.imm := rfl
    generalize valZ f x pc = v at *
    clear hh he
    have hl2 : f = ⟨9, 14, 0, true, true⟩ ∨ f = ⟨9, 12, 2, true, true⟩ ∨ f = ⟨9, 12, 1, true, true⟩ ∨ f = ⟨9, 12, 0, true, true⟩ ∨ f = ⟨9, 5, 0, false, false⟩ ∨ f = ⟨10, 19, 2, true, true⟩ ∨ f = ⟨10, 24, 2, true, true⟩ ∨ f = ⟨10, 12, 2, true, true⟩ := hl
    rcases hl2 with rfl | rfl | rfl | rfl | rfl | rfl | rfl | rfl
    all_goals
      unfold fitsB
      unfold joinV sextZ at hx
      dsimp only at hx hg1 hs32 ⊢
      simp at hx hg1 hs32 ⊢
      first
        | omega
        | (unfold targetZ at hx; unfold s32 at hs32; omega)
end Go.Proofs.YtjeemiabddblhaaDoor
