/- What endLine, endName and endNumber of package lex return; no condition but those named. -/
import Derived.Test.YtebpimjbjjmpaaaLexLx2
import Derived.Test.YtebpimjbjjmpaaaLexFns4
import Derived.Test.YtebpimjbjjmpaaaLexAt
namespace Go.Proofs.Ytebpimjbjjmpaaa
open Go.ChangeShapes Go.WideShapes Go.ChangeAt Go.RowKit Go.Sort BigFrame

def EndSays (W : World) (b : Nat) (S : ByteArray) (f t ln lb : Int) (l1 : List Tk) (l2 : List Wr) (ki va er : Int) (tx : List UInt8) (e : Ending) (w' : World) : Prop :=
  ∃ u1 u2, e = .returned (.tuple #[]) ∧ LxP W b S f t ln lb u1 u2 u1 u2 (l1 ++ cutK ki va er tx ln (f - lb + 1)) ((l2 ++ cutW er ln (f - lb + 1)).take 100) w'
section
variable {W : World} {b : Nat} {S : ByteArray} {v1 v2 : Value} {l1 : List Tk} {l2 : List Wr}
theorem end_add {f t ln lb : Int} {ki va er va' : Int} {tx : List UInt8} {e : Ending} {w' : World} (hl2 : l2.length ≤ 100) (h0 : er = 0) (hk : ki ≠ 0) (hv : va' = va) (h : AddSays W b S f t ln lb v2 l1 l2 ⟨ki, tx, va', ln, f - lb + 1⟩ e w') : EndSays W b S f t ln lb l1 l2 ki va er tx e w' := by
  obtain ⟨u1, he, hL⟩ := h
  subst hv
  refine ⟨u1, v2, he, ?_⟩
  unfold cutK cutW
  rw [if_pos ⟨h0, hk⟩, if_pos h0, List.append_nil, List.take_of_length_le hl2]
  exact hL
theorem end_rej {f t ln lb : Int} {ki va er : Int} {tx : List UInt8} {e : Ending} {w' : World} (h0 : er ≠ 0) (h : RejSays W b S f t ln lb v1 l1 l2 ⟨ln, f - lb + 1, er⟩ e w') : EndSays W b S f t ln lb l1 l2 ki va er tx e w' := by
  obtain ⟨u2, he, hL⟩ := h
  refine ⟨v1, u2, he, ?_⟩
  unfold cutK cutW
  rw [if_neg (fun h => h0 h.1), if_neg h0, List.append_nil]
  exact hL
end
section
attribute [local irreducible] World.cell?
variable {W : World} {b : Nat} {S : ByteArray} {v1 v2 : Value} {l1 : List Tk} {l2 : List Wr}
set_option maxRecDepth 100000 in
set_option maxHeartbeats 4000000 in
theorem endLine_any (f t ln lb : Int) (hf0 : 0 ≤ lb) (hf1 : lb ≤ f) (hf2 : f ≤ 100000) (hl1 : l1.length ≤ 100000) (hn0 : 0 ≤ ln) (hn1 : ln ≤ 1000000) (w : World) (hw : LxP W b S f t ln lb v1 v2 v1 v2 l1 l2 w) :
    Calls Try.prog 47 #[lxPtr b] w (fun e w' => e = .returned (.tuple #[]) ∧ ∃ u1, LxP W b S f t (ln + 1) t u1 v2 u1 v2 (l1 ++ [lxEnd ln (f - lb + 1)]) l2 w') := by
  have HA := Lib.hid (add_any f t ln lb hf0 hf1 hf2 hl1 ⟨#[]⟩ [] rfl (Nat.zero_le _) 4 0 w hw)
  clear hw
  go_enter Try.func47, Try.ntmps47
  go_wp2_with (fail)
  refine HA.out.mono ?_
  rintro e w1 ⟨u1, rfl, hL⟩
  have K1 := Lib.hid hL
  obtain ⟨a0, a1, a2, a3, a4, a5, a6⟩ := lx_cells hL
  have ft := free_of_lit hL.blk
  have lt := heap_lt hL.blk
  clear hL
  have K2 := Lib.hid ((K1.out.set 3 (.int .i64 (ln + 1)) (S' := S) (f' := f) (t' := t) (ln' := ln + 1) (lb' := lb) (c1' := u1) (c2' := v2) rfl).set 4 (.int .i64 t) (S' := S) (f' := f) (t' := t) (ln' := ln + 1) (lb' := t) (c1' := u1) (c2' := v2) rfl)
  go_wp2
  refine bodyPost_end (v := .tuple #[]) (by simp [results, Try.results47, go_sem]) rfl ?_
  exact ⟨rfl, u1, K2.out⟩
set_option maxRecDepth 100000 in
set_option maxHeartbeats 4000000 in
theorem endName_any (l : List UInt8) (hS : IsStr S l) (i j : Nat) (ln lb : Int) (hij : i ≤ j) (hj : j ≤ l.length) (hl : l.length ≤ 100000) (hf0 : 0 ≤ lb) (hf1 : lb ≤ i) (hl1 : l1.length ≤ 100000) (hl2 : l2.length ≤ 100) (w : World) (hw : LxP W b S i j ln lb v1 v2 v1 v2 l1 l2 w) :
    Calls Try.prog 56 #[lxPtr b] w (EndSays W b S i j ln lb l1 l2 1 0 (if 32 < j - i then 3 else 0) ((l.drop i).take (j - i))) := by
  have hz := str_size hS
  obtain ⟨E, hE⟩ : ∃ E, S.extract i j = E := ⟨_, rfl⟩
  have hET : IsStr E ((l.drop i).take (j - i)) := by rw [← hE]; exact str_part hS i j
  have hEs : E.size = j - i := by rw [str_size hET, List.length_take, List.length_drop]; omega
  have HR := Lib.hid (read_any (c1 := v1) (c2 := v2) i j ln lb hij (by omega) w hw)
  rewrite [hE] at HR
  generalize (l.drop i).take (j - i) = tx at *
  have HA := Lib.hid (fun u hu => add_any (S := S) i j ln lb hf0 hf1 (by omega) hl1 E tx hET (by omega) 1 0 u (hw.next hu))
  have HJ := Lib.hid (fun u hu => reject_any (S := S) i j ln lb hf0 hf1 (by omega) hl2 3 u (hw.next hu))
  have hij0 : (E.size : Int) = (j : Int) - (i : Int) := by omega
  have HZ := Lib.hid hij0
  have hlim : E.size ≤ 100000 := by omega
  clear hw hS hz hE hET hij0
  by_cases h32 : 32 < j - i
  · rewrite [if_pos h32]
    have hgt : (32 : Int) < (E.size : Int) := by omega
    clear h32 hEs
    go_enter Try.func56, Try.ntmps56
    go_wp2_with (fail)
    refine (HR.out _ (Made.refl _)).mono ?_
    rintro e w1 ⟨rfl, hm⟩
    go_wp2_with (fail)
    refine (HJ.out _ hm).mono ?_
    intro e w2 hr
    have K := Lib.hid hr
    obtain ⟨-, rfl, -⟩ := hr
    go_wp2
    refine bodyPost_ret (v := .tuple #[]) (by simp [results, Try.results56, go_sem]) rfl ?_
    exact end_rej (by decide) K.out
  · rewrite [if_neg h32]
    have hgt : (E.size : Int) ≤ 32 := by omega
    clear h32 hEs
    go_enter Try.func56, Try.ntmps56
    go_wp2_with (fail)
    refine (HR.out _ (Made.refl _)).mono ?_
    rintro e w1 ⟨rfl, hm⟩
    go_wp2_with (fail)
    refine (HA.out _ hm).mono ?_
    intro e w2 hr
    have K := Lib.hid hr
    obtain ⟨-, rfl, -⟩ := hr
    go_wp2
    refine bodyPost_end (v := .tuple #[]) (by simp [results, Try.results56, go_sem]) rfl ?_
    exact end_add hl2 rfl (by decide) rfl K.out
set_option maxRecDepth 100000 in
set_option maxHeartbeats 4000000 in
theorem endNumber_any (l : List UInt8) (hS : IsStr S l) (i j : Nat) (ln lb : Int) (hij : i ≤ j) (hj : j ≤ l.length) (hl : l.length ≤ 100000) (hf0 : 0 ≤ lb) (hf1 : lb ≤ i) (hl1 : l1.length ≤ 100000) (hl2 : l2.length ≤ 100) (w : World) (hw : LxP W b S i j ln lb v1 v2 v1 v2 l1 l2 w) (z : Int) (hzn : lxNum ((l.drop i).take (j - i)) = z) :
    Calls Try.prog 58 #[lxPtr b] w (EndSays W b S i j ln lb l1 l2 2 z (vE z) ((l.drop i).take (j - i))) := by
  have hz := str_size hS
  obtain ⟨E, hE⟩ : ∃ E, S.extract i j = E := ⟨_, rfl⟩
  have hET : IsStr E ((l.drop i).take (j - i)) := by rw [← hE]; exact str_part hS i j
  have hEs : E.size ≤ 100000 := by rw [str_size hET, List.length_take, List.length_drop]; omega
  have htl : ((l.drop i).take (j - i)).length ≤ 100000 := by rw [← str_size hET]; exact hEs
  have HR := Lib.hid (read_any (c1 := v1) (c2 := v2) i j ln lb hij (by omega) w hw)
  rewrite [hE] at HR
  generalize (l.drop i).take (j - i) = tx at *
  have HV := Lib.hid (valueOf_any E tx hET htl)
  rewrite [hzn] at HV
  have HA := Lib.hid (fun va u hu => add_any (S := S) i j ln lb hf0 hf1 (by omega) hl1 E tx hET hEs 2 va u (hw.next hu))
  have HJ := Lib.hid (fun er u hu => reject_any (S := S) i j ln lb hf0 hf1 (by omega) hl2 er u (hw.next hu))
  have hvv : vE z = 0 → vV z = z := by
    unfold vE vV
    intro h
    split at h
    · omega
    · rename_i h1
      rw [if_neg h1]
      split at h
      · omega
      · rename_i h2
        rw [if_neg h2]
  have HVV := Lib.hid hvv
  clear hw hS hz hE hET hzn hvv
  generalize vE z = er at *
  generalize vV z = va at *
  by_cases h0 : er = 0
  · have hg : (er != 0) = false := by rw [h0]; rfl
    have H0 := Lib.hid h0
    clear h0
    go_enter Try.func58, Try.ntmps58
    go_wp2_with (fail)
    refine (HR.out _ (Made.refl _)).mono ?_
    rintro e w1 ⟨rfl, hm⟩
    go_wp2_with (fail)
    refine (HV.out _).mono ?_
    rintro e w' ⟨rfl, rfl⟩
    go_wp2_with (fail)
    refine (HA.out va _ hm).mono ?_
    intro e w2 hr
    have K := Lib.hid hr
    obtain ⟨-, rfl, -⟩ := hr
    go_wp2
    refine bodyPost_end (v := .tuple #[]) (by simp [results, Try.results58, go_sem]) rfl ?_
    exact end_add hl2 H0.out (by decide) (HVV.out H0.out) K.out
  · have hg : (er != 0) = true := bne_iff_ne.2 h0
    have H0 := Lib.hid h0
    clear h0
    go_enter Try.func58, Try.ntmps58
    go_wp2_with (fail)
    refine (HR.out _ (Made.refl _)).mono ?_
    rintro e w1 ⟨rfl, hm⟩
    go_wp2_with (fail)
    refine (HV.out _).mono ?_
    rintro e w' ⟨rfl, rfl⟩
    go_wp2_with (fail)
    refine (HJ.out er _ hm).mono ?_
    intro e w2 hr
    have K := Lib.hid hr
    obtain ⟨-, rfl, -⟩ := hr
    go_wp2
    refine bodyPost_ret (v := .tuple #[]) (by simp [results, Try.results58, go_sem]) rfl ?_
    exact end_rej H0.out K.out
end
end Go.Proofs.Ytebpimjbjjmpaaa
