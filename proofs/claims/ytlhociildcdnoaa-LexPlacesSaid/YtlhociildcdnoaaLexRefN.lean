/- What number of the document's answer for lex returns; no condition but those named. -/
import Derived.Test.YtlhociildcdnoaaLexRefV
namespace Go.Proofs.Ytlhociildcdnoaa
open Go.ChangeShapes Go.WideShapes Go.ChangeAt Go.RowKit Go.Sort BigFrame

section
attribute [local irreducible] World.cell?
theorem str_tail {S : ByteArray} {a b : UInt8} {r : List UInt8} (h : IsStr S (a :: b :: r)) : IsStr (S.extract 2 S.size) r := by
  have h2 := str_part h 2 S.size
  have hs := str_size h
  rw [hs] at h2 ⊢
  have e : (List.drop 2 (a :: b :: r)).take ((a :: b :: r).length - 2) = r := by
    show r.take (r.length + 1 + 1 - 2) = r
    rw [List.take_of_length_le (by omega)]
  rw [e] at h2
  exact h2
set_option maxRecDepth 100000 in
set_option maxHeartbeats 8000000 in
theorem rnumber_any (S : ByteArray) (l : List UInt8) (h : IsStr S l) (hl : l.length ≤ 100000) : Still Try.prog 31 #[.string S] (.int .i64 (lxNum l)) := by
  intro w
  have hz := str_size h
  have H := Lib.hid h
  have hsz : S.size ≤ 100000 := by omega
  have H10 := Lib.hid (show Calls Try.prog 37 #[.string S, .int .i64 10] w fun e w' => e = .returned (.int .i64 (lxWord 10 l)) ∧ w = w' from rvalue_any S l h hl 10 (.inl rfl) w)
  have hways : (S.size ≤ 1 ∧ lxNum l = lxWord 10 l) ∨ (∃ a x r, l = a :: x :: r ∧ (a.toNat ≠ 48 ∨ (a.toNat = 48 ∧ x.toNat ≠ 120 ∧ x.toNat ≠ 88)) ∧ lxNum l = lxWord 10 l) ∨ (∃ a x r, l = a :: x :: r ∧ a.toNat = 48 ∧ (x.toNat = 120 ∨ (x.toNat ≠ 120 ∧ x.toNat = 88)) ∧ lxNum l = lxWord 16 r) := by
    match l, hz with
    | [], hz => exact .inl ⟨by rw [hz]; exact Nat.zero_le _, rfl⟩
    | [a], hz => exact .inl ⟨by rw [hz]; exact Nat.le_refl _, rfl⟩
    | a :: x :: r, hz =>
      by_cases h1 : a.toNat = 48 ∧ (x.toNat = 120 ∨ x.toNat = 88)
      · exact .inr (.inr ⟨a, x, r, rfl, h1.1, by omega, num_hex h1.1 h1.2⟩)
      · exact .inr (.inl ⟨a, x, r, rfl, by omega, num_dec fun a' x' r' e hc => h1 (by obtain ⟨rfl, e2⟩ := List.cons.inj e; obtain ⟨rfl, -⟩ := List.cons.inj e2; exact hc)⟩)
  have HZ := Lib.hid hz
  clear h hz
  rcases hways with ⟨hs, he⟩ | ⟨a, x, r, hlr, hax, he⟩ | ⟨a, x, r, hlr, ha, hx, he⟩
  · have HE := Lib.hid he
    have hs2 : (S.size : Int) ≤ 1 := by omega
    clear he
    go_enter Try.func31, Try.ntmps31
    go_wp2_with (fail)
    refine H10.out.mono ?_
    rintro e w' ⟨rfl, rfl⟩
    go_wp2
    go_ret
    exact ⟨ret_int HE.out.symm, rfl⟩
  · have HE := Lib.hid he
    have hs2 : (1 : Int) < (S.size : Int) := by rw [HZ.out, hlr]; simp; omega
    have hi0 : (Instr.index 9 (.string S) (.int .i64 0)).run Try.prog w = .ok (.int .u8 a.toNat) w := str_at (w := w) H.out (k := 0) (by rw [hlr]; simp) a (by subst hlr; rfl)
    have hi1 : (Instr.index 9 (.string S) (.int .i64 1)).run Try.prog w = .ok (.int .u8 x.toNat) w := str_at (w := w) H.out (k := 1) (by rw [hlr]; simp) x (by subst hlr; rfl)
    clear he hlr
    have hax2 : ((a.toNat : Int) == 48) = false ∨ (((a.toNat : Int) == 48) = true ∧ ((x.toNat : Int) == 120) = false ∧ ((x.toNat : Int) == 88) = false) := by
      rcases hax with h | ⟨h1, h2, h3⟩
      · exact .inl (beq_eq_false_iff_ne.2 (by omega))
      · exact .inr ⟨beq_iff_eq.2 (by omega), beq_eq_false_iff_ne.2 (by omega), beq_eq_false_iff_ne.2 (by omega)⟩
    clear hax
    rcases hax2 with g0 | ⟨g0, g1, g2⟩
    all_goals
      go_enter Try.func31, Try.ntmps31
      go_wp2_with (fail)
      refine H10.out.mono ?_
      rintro e w' ⟨rfl, rfl⟩
      go_wp2
      go_ret
      exact ⟨ret_int HE.out.symm, rfl⟩
  · have HE := Lib.hid he
    have hs2 : (1 : Int) < (S.size : Int) := by rw [HZ.out, hlr]; simp; omega
    have hi0 : (Instr.index 9 (.string S) (.int .i64 0)).run Try.prog w = .ok (.int .u8 a.toNat) w := str_at (w := w) H.out (k := 0) (by rw [hlr]; simp) a (by subst hlr; rfl)
    have hi1 : (Instr.index 9 (.string S) (.int .i64 1)).run Try.prog w = .ok (.int .u8 x.toNat) w := str_at (w := w) H.out (k := 1) (by rw [hlr]; simp) x (by subst hlr; rfl)
    have H16 := Lib.hid (show Calls Try.prog 37 #[.string (S.extract 2 S.size), .int .i64 16] w fun e w' => e = .returned (.int .i64 (lxWord 16 r)) ∧ w = w' from rvalue_any _ r (by subst hlr; exact str_tail H.out) (by subst hlr; simp at hl; omega) 16 (.inr rfl) w)
    have hsl := run_slice_string_l (P := Try.prog) w 9 S (by kernel_rfl) .i64 2 (by omega) (by omega)
    have g0 : ((a.toNat : Int) == 48) = true := beq_iff_eq.2 (by omega)
    clear he hlr ha H10
    have hx2 : ((x.toNat : Int) == 120) = true ∨ (((x.toNat : Int) == 120) = false ∧ ((x.toNat : Int) == 88) = true) := by
      rcases hx with h | ⟨h1, h2⟩
      · exact .inl (beq_iff_eq.2 (by omega))
      · exact .inr ⟨beq_eq_false_iff_ne.2 (by omega), beq_iff_eq.2 (by omega)⟩
    clear hx
    rcases hx2 with g1 | ⟨g1, g2⟩
    all_goals
      go_enter Try.func31, Try.ntmps31
      go_wp2_with (fail)
      refine H16.out.mono ?_
      rintro e w' ⟨rfl, rfl⟩
      go_wp2
      go_ret
      exact ⟨ret_int HE.out.symm, rfl⟩
end
end Go.Proofs.Ytlhociildcdnoaa
