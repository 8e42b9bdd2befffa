/- Strings put together, as lists of bytes; no condition but those named. -/
import Derived.Test.YtebpimjbjjmpaaaLexRef
import Derived.Laws.Concat
namespace Go.Proofs.Ytebpimjbjjmpaaa
open Go.ChangeShapes Go.WideShapes Go.ChangeAt Go.RowKit Go.Sort BigFrame

theorem str_add (S T : ByteArray) (h : S.size + T.size ≤ 1000000) (w : World) : (binOp .add 9 (.string S) (.string T)).run Try.prog w = .ok (.string (S ++ T)) w := by
  have h2 := run_string_add_sum (P := Try.prog) w S T (by omega)
  simp only [binOp]
  exact h2
theorem str_cat {S T : ByteArray} {a b : List UInt8} (h : IsStr S a) (k : IsStr T b) : IsStr (S ++ T) (a ++ b) := by
  subst h k
  show (S ++ T).data.toList = _
  rw [ByteArray.data_append, Array.toList_append]
theorem strOf_is (l : List UInt8) : IsStr (strOf l) l := rfl
/-- How long the text is that is written out of a text's tokens. -/
theorem back_few : ∀ (n : Nat) (l : List UInt8), l.length ≤ n → ∀ line col : Int, (backL (lxRun line col l).1).length ≤ 2 * l.length + 1
  | _, [], _, line, col => by
    rw [lxRun_nil]
    exact Nat.zero_le _
  | 0, b :: r, h, _, _ => by simp at h
  | n + 1, b :: r, h, line, col => by
    rw [List.length_cons] at h
    by_cases hb : b.toNat = 10
    · rw [lxRun_lf _ _ hb]
      have hne := run_ne r.length r (Nat.le_refl _) (line + 1) 1
      have ih := back_few n r (by omega) (line + 1) 1
      simp only []
      rw [back_cons _ hne, List.length_append, List.length_cons]
      have : (oneB (lxEnd line col)).length = 1 := rfl
      omega
    · rw [lxRun_cut _ _ hb]
      have hle := cut_le b r
      have hne := run_ne (r.drop (lxCut b r).more).length (r.drop (lxCut b r).more) (Nat.le_refl _) line (col + ((lxCut b r).more : Nat) + 1)
      have ih := back_few n (r.drop (lxCut b r).more) (by rw [List.length_drop]; omega) line (col + ((lxCut b r).more : Nat) + 1)
      rw [List.length_drop] at ih
      simp only []
      generalize (lxRun line (col + ((lxCut b r).more : Nat) + 1) (r.drop (lxCut b r).more)).1 = T at *
      rw [List.length_cons]
      unfold lxTok
      split
      · rw [List.singleton_append, back_cons _ hne, List.length_append]
        have h1 : (oneB ⟨(lxCut b r).kind, (b :: r).take ((lxCut b r).more + 1), (lxCut b r).v, line, col⟩).length ≤ (lxCut b r).more + 2 := by
          unfold oneB
          split
          · simp
          · rw [List.length_append, List.length_take, List.length_cons, List.length_singleton]
            omega
        omega
      · rw [List.nil_append]
        omega
theorem back_len (l : List UInt8) : (backL (lexT l)).length ≤ 2 * l.length + 1 := back_few l.length l (Nat.le_refl _) 1 1
/-- What is written of one token. -/
theorem back_drop {T : List Tk} {k : Nat} (h : k < T.length) (x : Tk) (hx : T[k] = x) : backL (T.drop k) = (if x.kind = 4 then (if k + 1 < T.length then [10] else []) else x.text ++ [32]) ++ backL (T.drop (k + 1)) := by
  rw [List.drop_eq_getElem_cons h, hx]
  by_cases hk : k + 1 < T.length
  · rw [back_cons _ (by intro e; have := List.drop_eq_nil_iff.1 e; omega), if_pos hk]
    rfl
  · have e : T.drop (k + 1) = [] := List.drop_eq_nil_of_le (by omega)
    rw [e, if_neg hk]
    show (if x.kind = 4 then [] else x.text ++ [32]) = (if x.kind = 4 then [] else x.text ++ [32]) ++ []
    rw [List.append_nil]
end Go.Proofs.Ytebpimjbjjmpaaa
