/- What digitsOf and valueOf of package lex, and the library's HasPrefix that they call, return; no condition but that on the length. -/
import Derived.Test.YtebpimjbjjmpaaaLexFns2
import Derived.Test.YtebpimjbjjmpaaaLexRefN
namespace Go.Proofs.Ytebpimjbjjmpaaa
open Go.ChangeShapes Go.WideShapes Go.ChangeAt Go.RowKit Go.Sort BigFrame

/-- The first two bytes. -/
theorem two_eq {S : ByteArray} {a x : UInt8} {r : List UInt8} (h : IsStr S (a :: x :: r)) (c : UInt8) : ((S.extract 0 2).toList == [48, c]) = decide (a.toNat = 48 ∧ x = c) := by
  have h2 := str_part h 0 2
  have e : (List.drop 0 (a :: x :: r)).take (2 - 0) = [a, x] := rfl
  rw [e] at h2
  have h3 : (S.extract 0 2).data.toList = [a, x] := h2
  rw [ByteArray.toList_eq, h3]
  have h4 : ([a, x] = [48, c]) ↔ (a.toNat = 48 ∧ x = c) := by
    constructor
    · intro h
      obtain ⟨rfl, h5⟩ := List.cons.inj h
      obtain ⟨rfl, -⟩ := List.cons.inj h5
      exact ⟨rfl, rfl⟩
    · rintro ⟨h5, rfl⟩
      obtain rfl : a = 48 := UInt8.toNat_inj.1 h5
      rfl
  rw [Bool.eq_iff_iff, beq_iff_eq, decide_eq_true_iff]
  exact h4
/-- The empty one. -/
theorem none_eq {S : ByteArray} {l : List UInt8} (h : IsStr S l) : (S.toList == []) = decide (l = []) := by
  rw [ByteArray.toList_eq, h, Bool.eq_iff_iff, beq_iff_eq, decide_eq_true_iff]
/-- A number's digits and their base. -/
def lxBase (l : List UInt8) : Int := match l with
  | a :: x :: _ => if a.toNat = 48 ∧ (x.toNat = 120 ∨ x.toNat = 88) then 16 else 10
  | _ => 10
def lxDigs (l : List UInt8) : List UInt8 := match l with
  | a :: x :: r => if a.toNat = 48 ∧ (x.toNat = 120 ∨ x.toNat = 88) then r else a :: x :: r
  | _ => l
theorem base_or (l : List UInt8) : lxBase l = 10 ∨ lxBase l = 16 := by
  unfold lxBase
  split
  · split
    · exact .inr rfl
    · exact .inl rfl
  · exact .inl rfl
theorem num_digs (l : List UInt8) : lxNum l = lxWord (lxBase l) (lxDigs l) := by
  match l with
  | [] => rfl
  | [a] => rfl
  | a :: x :: r =>
    show (if a.toNat = 48 ∧ (x.toNat = 120 ∨ x.toNat = 88) then lxWord 16 r else lxWord 10 (a :: x :: r)) = lxWord (if a.toNat = 48 ∧ (x.toNat = 120 ∨ x.toNat = 88) then 16 else 10) (if a.toNat = 48 ∧ (x.toNat = 120 ∨ x.toNat = 88) then r else a :: x :: r)
    by_cases h : a.toNat = 48 ∧ (x.toNat = 120 ∨ x.toNat = 88)
    · rw [if_pos h, if_pos h, if_pos h]
    · rw [if_neg h, if_neg h, if_neg h]
theorem digs_len (l : List UInt8) : (lxDigs l).length ≤ l.length := by
  match l with
  | [] => exact Nat.le_refl _
  | [a] => exact Nat.le_refl _
  | a :: x :: r =>
    show (if a.toNat = 48 ∧ (x.toNat = 120 ∨ x.toNat = 88) then r else a :: x :: r).length ≤ _
    split
    · simp only [List.length_cons]; omega
    · exact Nat.le_refl _
section
attribute [local irreducible] World.cell?
set_option maxRecDepth 100000 in
set_option maxHeartbeats 4000000 in
theorem prefix_short (S : ByteArray) (hs : S.size ≤ 1) (c : UInt8) : Still Try.prog 88 #[.string S, .string ⟨#[48, c]⟩] (.bool false) := by
  intro w
  have hz : (⟨#[48, c]⟩ : ByteArray).size = 2 := rfl
  have h2 : ¬ (2 : Int) ≤ (S.size : Int) := by omega
  go_enter Try.func88, Try.ntmps88
  go_wp2
  go_ret
  exact ⟨rfl, rfl⟩
set_option maxRecDepth 100000 in
set_option maxHeartbeats 4000000 in
theorem prefix_any (S : ByteArray) (a x : UInt8) (r : List UInt8) (h : IsStr S (a :: x :: r)) (c : UInt8) : Still Try.prog 88 #[.string S, .string ⟨#[48, c]⟩] (.bool (decide (a.toNat = 48 ∧ x = c))) := by
  intro w
  have hz : (⟨#[48, c]⟩ : ByteArray).size = 2 := rfl
  have h2 : (2 : Int) ≤ (S.size : Int) := by have := str_size h; simp at this; omega
  have he := two_eq h c
  have hsl : ∀ u : World, (Instr.slice 9 (.string S) none (some (.int .i64 2)) none).run Try.prog u = .ok (.string (S.extract 0 2)) u := fun u => run_slice_string_h (P := Try.prog) u 9 S (by kernel_rfl) .i64 2 (by omega) h2
  generalize decide (a.toNat = 48 ∧ x = c) = d at *
  generalize S.extract 0 2 = E at *
  go_enter Try.func88, Try.ntmps88
  go_wp2
  go_ret
  exact ⟨rfl, rfl⟩
set_option maxRecDepth 100000 in
set_option maxHeartbeats 4000000 in
theorem digitsOf_any (S : ByteArray) (l : List UInt8) (h : IsStr S l) (w : World) : Calls Try.prog 84 #[.string S] w fun e w' => e = .returned (.tuple #[.string (strOf (lxDigs l)), .int .i64 (lxBase l)]) ∧ w = w' := by
  rcases l with _ | ⟨a, _ | ⟨x, r⟩⟩
  · have hS := str_of h
    have hs1 : S.size ≤ 1 := by rw [str_size h]; exact Nat.zero_le _
    have H1 := Lib.hid (prefix_short S hs1 120)
    have H2 := Lib.hid (prefix_short S hs1 88)
    have HR := Lib.hid (show S = strOf (lxDigs []) from hS)
    clear h hS hs1
    go_enter Try.func84, Try.ntmps84
    go_wp2_with (fail)
    refine (H1.out _).mono ?_
    rintro e w' ⟨rfl, rfl⟩
    go_wp2_with (fail)
    refine (H2.out _).mono ?_
    rintro e w' ⟨rfl, rfl⟩
    go_wp2
    refine bodyPost_ret (v := .tuple #[.string S, .int .i64 10]) (by simp [results, Try.results84, go_sem]) rfl ?_
    exact ⟨by rw [← HR.out]; rfl, rfl⟩
  · have hS := str_of h
    have hs1 : S.size ≤ 1 := by rw [str_size h]; exact Nat.le_refl _
    have H1 := Lib.hid (prefix_short S hs1 120)
    have H2 := Lib.hid (prefix_short S hs1 88)
    have HR := Lib.hid (show S = strOf (lxDigs [a]) from hS)
    clear h hS hs1
    go_enter Try.func84, Try.ntmps84
    go_wp2_with (fail)
    refine (H1.out _).mono ?_
    rintro e w' ⟨rfl, rfl⟩
    go_wp2_with (fail)
    refine (H2.out _).mono ?_
    rintro e w' ⟨rfl, rfl⟩
    go_wp2
    refine bodyPost_ret (v := .tuple #[.string S, .int .i64 10]) (by simp [results, Try.results84, go_sem]) rfl ?_
    exact ⟨by rw [← HR.out]; rfl, rfl⟩
  · have hS := str_of h
    have H1 := Lib.hid (prefix_any S a x r h 120)
    have H2 := Lib.hid (prefix_any S a x r h 88)
    have hsz : (2 : Int) ≤ (S.size : Int) := by have := str_size h; simp at this; omega
    have hsl : ∀ u : World, (Instr.slice 9 (.string S) (some (.int .i64 2)) none none).run Try.prog u = .ok (.string (S.extract 2 S.size)) u := fun u => run_slice_string_l (P := Try.prog) u 9 S (by kernel_rfl) .i64 2 (by omega) hsz
    have HT := Lib.hid (str_of (str_tail h))
    have hx : ∀ c : UInt8, (x = c) ↔ x.toNat = c.toNat := fun c => UInt8.toNat_inj.symm
    by_cases h1 : a.toNat = 48 ∧ x = 120
    · have hw : a.toNat = 48 ∧ (x.toNat = 120 ∨ x.toNat = 88) := ⟨h1.1, .inl ((hx 120).1 h1.2)⟩
      have HD := Lib.hid (show lxDigs (a :: x :: r) = r from if_pos hw)
      have HB := Lib.hid (show lxBase (a :: x :: r) = 16 from if_pos hw)
      have hc := decide_eq_true h1
      have HC := Lib.hid hc
      clear h hS h1 hw hx hc
      go_enter Try.func84, Try.ntmps84
      go_wp2_with (fail)
      refine (H1.out _).mono ?_
      rintro e w' ⟨rfl, rfl⟩
      rewrite [HC.out]
      go_wp2
      refine bodyPost_ret (v := .tuple #[.string (S.extract 2 S.size), .int .i64 16]) (by simp [results, Try.results84, go_sem]) rfl ?_
      exact ⟨by rw [HD.out, HB.out, HT.out], rfl⟩
    have hc1 := decide_eq_false h1
    by_cases h2 : a.toNat = 48 ∧ x = 88
    · have hw : a.toNat = 48 ∧ (x.toNat = 120 ∨ x.toNat = 88) := ⟨h2.1, .inr ((hx 88).1 h2.2)⟩
      have HD := Lib.hid (show lxDigs (a :: x :: r) = r from if_pos hw)
      have HB := Lib.hid (show lxBase (a :: x :: r) = 16 from if_pos hw)
      have hc := decide_eq_true h2
      have HC1 := Lib.hid hc1
      have HC := Lib.hid hc
      clear h hS h1 h2 hw hx hc hc1
      go_enter Try.func84, Try.ntmps84
      go_wp2_with (fail)
      refine (H1.out _).mono ?_
      rintro e w' ⟨rfl, rfl⟩
      rewrite [HC1.out]
      go_wp2_with (fail)
      refine (H2.out _).mono ?_
      rintro e w' ⟨rfl, rfl⟩
      rewrite [HC.out]
      go_wp2
      refine bodyPost_ret (v := .tuple #[.string (S.extract 2 S.size), .int .i64 16]) (by simp [results, Try.results84, go_sem]) rfl ?_
      exact ⟨by rw [HD.out, HB.out, HT.out], rfl⟩
    · have hw : ¬ (a.toNat = 48 ∧ (x.toNat = 120 ∨ x.toNat = 88)) := fun h => by
        rcases h with ⟨h3, h4 | h4⟩
        · exact h1 ⟨h3, (hx 120).2 h4⟩
        · exact h2 ⟨h3, (hx 88).2 h4⟩
      have HD := Lib.hid (show lxDigs (a :: x :: r) = a :: x :: r from if_neg hw)
      have HB := Lib.hid (show lxBase (a :: x :: r) = 10 from if_neg hw)
      have hc := decide_eq_false h2
      have HC1 := Lib.hid hc1
      have HC := Lib.hid hc
      have HS := Lib.hid hS
      clear h hS h1 h2 hw hx hc hc1
      go_enter Try.func84, Try.ntmps84
      go_wp2_with (fail)
      refine (H1.out _).mono ?_
      rintro e w' ⟨rfl, rfl⟩
      rewrite [HC1.out]
      go_wp2_with (fail)
      refine (H2.out _).mono ?_
      rintro e w' ⟨rfl, rfl⟩
      rewrite [HC.out]
      go_wp2
      refine bodyPost_ret (v := .tuple #[.string S, .int .i64 10]) (by simp [results, Try.results84, go_sem]) rfl ?_
      exact ⟨by rw [HD.out, HB.out, ← HS.out], rfl⟩
end
end Go.Proofs.Ytebpimjbjjmpaaa
