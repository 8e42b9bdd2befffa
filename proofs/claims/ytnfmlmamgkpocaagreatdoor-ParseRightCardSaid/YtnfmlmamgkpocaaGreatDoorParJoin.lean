/- Tokens that were cut out of a text, written out with a blank behind each, are cut into the same tokens; plain data; no condition. -/
import Derived.Test.YtnfmlmamgkpocaaGreatDoorGLexM
import Derived.Test.YtnfmlmamgkpocaaGreatDoorGExprM
namespace Go.Proofs.YtnfmlmamgkpocaaGreatDoor

/-- A token as it is cut out of a text. -/
def Cut1 (t : Tk) : Prop := ∃ b r, b.toNat ≠ 10 ∧ (lxCut b r).e = 0 ∧ (lxCut b r).kind ≠ 0 ∧ t.kind = (lxCut b r).kind ∧ t.text = (b :: r).take ((lxCut b r).more + 1) ∧ t.v = (lxCut b r).v
theorem run_cut1 : ∀ (n : Nat) (l : List UInt8), l.length ≤ n → ∀ line col : Int, ∀ t ∈ (lxRun line col l).1, t.kind = 4 ∨ Cut1 t
  | _, [], _, line, col => by
    rw [lxRun_nil]
    intro t ht
    rw [List.mem_singleton.1 ht]
    exact .inl rfl
  | 0, b :: r, h, _, _ => by simp at h
  | n + 1, b :: r, h, line, col => by
    rw [List.length_cons] at h
    by_cases hb : b.toNat = 10
    · rw [lxRun_lf _ _ hb]
      intro t ht
      rcases List.mem_cons.1 ht with rfl | ht
      · exact .inl rfl
      · exact run_cut1 n r (by omega) (line + 1) 1 t ht
    · rw [lxRun_cut _ _ hb]
      intro t ht
      rcases List.mem_append.1 ht with ht | ht
      · unfold lxTok at ht
        split at ht
        · rename_i hk
          rw [List.mem_singleton.1 ht]
          exact .inr ⟨b, r, hb, hk.1, hk.2, rfl, rfl, rfl⟩
        · cases ht
      · exact run_cut1 n (r.drop (lxCut b r).more) (by rw [List.length_drop]; omega) line _ t ht
/-- The text that is written. -/
def joinB (T : List Tk) : List UInt8 := T.flatMap fun t => t.text ++ [32]
def offN (L : List Tk) : List Tk := L.filter fun t => decide (t.kind ≠ 4)
theorem join_run : ∀ (T : List Tk) (line col : Int), (∀ t ∈ T, Cut1 t) → (offN (lxRun line col (joinB T)).1).map Tk.q = T.map Tk.q ∧ ∀ u, (offN (lxRun line col (joinB T)).1).head? = some u → u.line = line ∧ u.col = col
  | [], line, col, _ => by
    show (offN (lxRun line col []).1).map Tk.q = [] ∧ _
    rw [lxRun_nil]
    exact ⟨rfl, fun u h => by cases h⟩
  | t :: R, line, col, hT => by
    obtain ⟨b, r, hb, he, hk, e1, e2, e3⟩ := hT t (List.mem_cons_self ..)
    have ih := join_run R line (col + ((lxCut b r).more : Nat) + 1 + ((0 : Nat) : Int) + 1) (fun x hx => hT x (List.mem_cons_of_mem _ hx))
    have hle := cut_le b r
    have hk4 : (lxCut b r).kind ≠ 4 := by
      have := cut_kind b r
      omega
    have eo : joinB (t :: R) = b :: (r.take (lxCut b r).more ++ 32 :: joinB R) := by
      unfold joinB
      rw [List.flatMap_cons, e2, List.take_succ_cons]
      simp
    rw [eo, lxRun_cut _ _ hb, cut_again he hk (x := 32) rfl]
    have t1 : lxTok b (r.take (lxCut b r).more ++ 32 :: joinB R) line col = [⟨(lxCut b r).kind, (b :: r).take ((lxCut b r).more + 1), (lxCut b r).v, line, col⟩] := by
      unfold lxTok
      rw [cut_again he hk (x := 32) rfl, if_pos ⟨he, hk⟩, List.take_succ_cons, List.take_succ_cons, List.take_append_of_le_length (by rw [List.length_take]; omega), List.take_take, Nat.min_self]
    have t3 : (r.take (lxCut b r).more ++ 32 :: joinB R).drop (lxCut b r).more = 32 :: joinB R := by
      rw [List.drop_append_of_le_length (by rw [List.length_take]; omega), List.drop_eq_nil_of_le (by rw [List.length_take]; omega)]
      rfl
    rw [t1, t3, lxRun_cut _ _ (b := 32) (by decide)]
    have d2 : lxTok 32 (joinB R) line (col + ((lxCut b r).more : Nat) + 1) = [] := rfl
    have d5 : (lxCut 32 (joinB R)).more = 0 := rfl
    simp only [d2, d5, List.nil_append, List.drop_zero]
    have hf : ∀ X : List Tk, offN ([⟨(lxCut b r).kind, (b :: r).take ((lxCut b r).more + 1), (lxCut b r).v, line, col⟩] ++ X) = ⟨(lxCut b r).kind, (b :: r).take ((lxCut b r).more + 1), (lxCut b r).v, line, col⟩ :: offN X := fun X => by
      unfold offN
      rw [List.singleton_append, List.filter_cons_of_pos (by simpa using hk4)]
    rw [hf]
    refine ⟨?_, fun u hu => by cases hu; exact ⟨rfl, rfl⟩⟩
    rw [List.map_cons, List.map_cons, ih.1]
    congr 1
    unfold Tk.q
    rw [e1, e2, e3]
end Go.Proofs.YtnfmlmamgkpocaaGreatDoor
