/- Where a scanner of package lex stands in a text, as plain data: what has been told, what is to come; no condition but those named. · What endLine, endName and endNumber of package lex return; no condition but those named. · What split of package lex leaves: the tokens of the text and what is wrong; no condition but that on the length. · What Split of package lex returns; no condition but that on the length. -/
import Derived.Test.YtnfmlmamgkpocaaGreatDoorGLexF
import Derived.Test.YtnfmlmamgkpocaaGreatDoorGLexM
import Derived.Test.YtnfmlmamgkpocaaGreatDoorLexLx2
import Derived.WalkMore
namespace Go.Proofs.YtnfmlmamgkpocaaGreatDoor
section

/-- What one cut leaves: a token, or what is wrong. -/
def cutK (ki va er : Int) (tx : List UInt8) (ln col : Int) : List Tk := if er = 0 ∧ ki ≠ 0 then [⟨ki, tx, va, ln, col⟩] else []
def cutW (er : Int) (ln col : Int) : List Wr := if er = 0 then [] else [⟨ln, col, er⟩]
/-- The scanner stands at byte k: line ln, which begins at byte lb; l1 and l2 have been told. -/
structure At (l : List UInt8) (k : Nat) (ln lb : Int) (l1 : List Tk) (l2 : List Wr) : Prop where
  le : k ≤ l.length
  lb0 : 0 ≤ lb
  lb1 : lb ≤ k
  ln0 : 1 ≤ ln
  ln1 : ln ≤ k + 1
  run : ∃ m2, l2 = m2.take 100 ∧ lxRun 1 1 l = (l1 ++ (lxRun ln (k - lb + 1) (l.drop k)).1, m2 ++ (lxRun ln (k - lb + 1) (l.drop k)).2)
theorem at_start (l : List UInt8) : At l 0 1 0 [] [] := ⟨Nat.zero_le _, Int.le_refl _, Int.le_refl _, Int.le_refl _, by omega, [], rfl, rfl⟩
section
variable {l : List UInt8} {k : Nat} {ln lb : Int} {l1 : List Tk} {l2 : List Wr}
theorem At.few (h : At l k ln lb l1 l2) : l1.length ≤ l.length + 1 ∧ l2.length ≤ 100 := by
  obtain ⟨m2, e, hr⟩ := h.run
  have h1 := (run_few l.length l (Nat.le_refl _) 1 1).1
  rw [hr, List.length_append] at h1
  refine ⟨by omega, ?_⟩
  rw [e, List.length_take]
  omega
theorem At.done (h : At l l.length ln lb l1 l2) : lexT l = l1 ++ [lxEnd ln (l.length - lb + 1)] ∧ lexW l = l2 := by
  obtain ⟨m2, e, hr⟩ := h.run
  rw [List.drop_length, lxRun_nil] at hr
  unfold lexT lexW
  rw [hr, e]
  exact ⟨rfl, by rw [List.append_nil]⟩
theorem At.lf (h : At l k ln lb l1 l2) (hk : k < l.length) (hb : l[k].toNat = 10) : At l (k + 1) (ln + 1) ((k : Int) + 1) (l1 ++ [lxEnd ln (k - lb + 1)]) l2 := by
  obtain ⟨m2, e, hr⟩ := h.run
  have h0 := h.ln0
  have h1 := h.ln1
  refine ⟨hk, by omega, by omega, by omega, by omega, m2, e, ?_⟩
  rw [hr, List.drop_eq_getElem_cons hk, lxRun_lf _ _ hb, show ((k + 1 : Nat) : Int) - ((k : Int) + 1) + 1 = 1 by omega]
  simp only [List.append_assoc, List.cons_append, List.nil_append]
theorem take_app {α : Type} (m x : List α) (n : Nat) : (m.take n ++ x).take n = (m ++ x).take n := by
  rcases Nat.lt_or_ge m.length n with h | h
  · rw [List.take_of_length_le (Nat.le_of_lt h)]
  · rw [List.take_append_of_le_length (by rw [List.length_take]; omega), List.take_append_of_le_length h, List.take_take, Nat.min_self]
theorem At.cut (h : At l k ln lb l1 l2) (hk : k < l.length) (hb : l[k].toNat ≠ 10) {j mo : Nat} {ki va er : Int} (hj : j = k + 1 + mo) (hc : lxCut l[k] (l.drop (k + 1)) = ⟨mo, ki, va, er⟩) :
    At l j ln lb (l1 ++ cutK ki va er ((l.drop k).take (j - k)) ln (k - lb + 1)) ((l2 ++ cutW er ln (k - lb + 1)).take 100) := by
  obtain ⟨m2, e, hr⟩ := h.run
  have h1 := h.ln1
  have h2 := h.lb1
  have hle := cut_le l[k] (l.drop (k + 1))
  rw [hc, List.length_drop] at hle
  have hle2 : mo ≤ l.length - (k + 1) := hle
  refine ⟨by omega, h.lb0, by omega, h.ln0, by omega, m2 ++ cutW er ln (k - lb + 1), ?_, ?_⟩
  · rw [e, take_app]
  · have hd : l.drop k = l[k] :: l.drop (k + 1) := List.drop_eq_getElem_cons hk
    have e1 : lxTok l[k] (l.drop (k + 1)) ln (k - lb + 1) = cutK ki va er ((l.drop k).take (j - k)) ln (k - lb + 1) := by
      unfold lxTok cutK
      rw [hc, hd, show j - k = mo + 1 by omega]
    have e2 : lxBad l[k] (l.drop (k + 1)) ln (k - lb + 1) = cutW er ln (k - lb + 1) := by
      unfold lxBad cutW
      rw [hc]
    rw [hr]
    rw [hd, lxRun_cut _ _ hb, hc, e1, e2, hd]
    rw [List.drop_drop, show k + 1 + mo = j by omega, show ((k : Int) - lb + 1) + (mo : Nat) + 1 = (j : Int) - lb + 1 by omega]
    simp only [List.append_assoc]
theorem At.skip (h : At l k ln lb l1 l2) (hk : k < l.length) (hb : l[k].toNat ≠ 10) {j mo : Nat} {va : Int} (hj : j = k + 1 + mo) (hc : lxCut l[k] (l.drop (k + 1)) = ⟨mo, 0, va, 0⟩) : At l j ln lb l1 l2 := by
  have h1 := h.cut hk hb hj hc
  have h2 := h.few.2
  unfold cutK cutW at h1
  rw [if_neg (fun h => h.2 rfl), if_pos rfl, List.append_nil, List.append_nil, List.take_of_length_le h2] at h1
  exact h1
end
/-! What one byte begins. -/
theorem byte_excl (b : UInt8) : (isBeg b = true → isBlk b = false ∧ b.toNat ≠ 10) ∧ (isDig b = true → isBlk b = false ∧ isBeg b = false ∧ b.toNat ≠ 10) ∧ (isSin b = true → isBlk b = false ∧ isBeg b = false ∧ isDig b = false ∧ b.toNat ≠ 47 ∧ b.toNat ≠ 35 ∧ b.toNat ≠ 10) ∧
    (b.toNat = 35 → isBlk b = false ∧ isBeg b = false ∧ isDig b = false) ∧ (b.toNat = 47 → isBlk b = false ∧ isBeg b = false ∧ isDig b = false ∧ isSin b = false) ∧ (isBlk b = true → b.toNat ≠ 10) := by
  have := all_bytes (p := fun b => decide ((isBeg b = true → isBlk b = false ∧ b.toNat ≠ 10) ∧ (isDig b = true → isBlk b = false ∧ isBeg b = false ∧ b.toNat ≠ 10) ∧ (isSin b = true → isBlk b = false ∧ isBeg b = false ∧ isDig b = false ∧ b.toNat ≠ 47 ∧ b.toNat ≠ 35 ∧ b.toNat ≠ 10) ∧
    (b.toNat = 35 → isBlk b = false ∧ isBeg b = false ∧ isDig b = false) ∧ (b.toNat = 47 → isBlk b = false ∧ isBeg b = false ∧ isDig b = false ∧ isSin b = false) ∧ (isBlk b = true → b.toNat ≠ 10))) (by decide +kernel) b
  exact of_decide_eq_true this
section
variable (b : UInt8) (r : List UInt8)
theorem cut_def : lxCut b r = if isBlk b then ⟨0, 0, 0, 0⟩
  else if isBeg b then ⟨(r.takeWhile isNam).length, 1, 0, if 32 < (r.takeWhile isNam).length + 1 then 3 else 0⟩
  else if isDig b then ⟨(r.takeWhile isWrd).length, 2, lxNum (b :: r.takeWhile isWrd), if lxNum (b :: r.takeWhile isWrd) = -1 then 8 else if lxNum (b :: r.takeWhile isWrd) = -2 then 6 else 0⟩
  else if b.toNat = 47 ∧ (r.head?.map UInt8.toNat) = some 47 then ⟨(r.takeWhile notLf).length, 0, 0, 0⟩
  else if b.toNat = 35 ∧ (r.head?.map UInt8.toNat) = some 35 then ⟨1, 3, 0, 0⟩
  else if isSgn b then ⟨0, 3, 0, 0⟩
  else ⟨0, 0, 0, 8⟩ := rfl
theorem cut_blk (h : isBlk b = true) : lxCut b r = ⟨0, 0, 0, 0⟩ := by rw [cut_def, if_pos h]
theorem cut_beg (h : isBeg b = true) : lxCut b r = ⟨(r.takeWhile isNam).length, 1, 0, if 32 < (r.takeWhile isNam).length + 1 then 3 else 0⟩ := by
  have h1 := (byte_excl b).1 h
  rw [cut_def, if_neg (by rw [h1.1]; simp), if_pos h]
theorem cut_dig (h : isDig b = true) : lxCut b r = ⟨(r.takeWhile isWrd).length, 2, lxNum (b :: r.takeWhile isWrd), if lxNum (b :: r.takeWhile isWrd) = -1 then 8 else if lxNum (b :: r.takeWhile isWrd) = -2 then 6 else 0⟩ := by
  have h1 := (byte_excl b).2.1 h
  rw [cut_def, if_neg (by rw [h1.1]; simp), if_neg (by rw [h1.2.1]; simp), if_pos h]
theorem cut_sin (h : isSin b = true) : lxCut b r = ⟨0, 3, 0, 0⟩ := by
  have h1 := (byte_excl b).2.2.1 h
  rw [cut_def, if_neg (by rw [h1.1]; simp), if_neg (by rw [h1.2.1]; simp), if_neg (by rw [h1.2.2.1]; simp), if_neg (fun h => h1.2.2.2.1 h.1), if_neg (fun h => h1.2.2.2.2.1 h.1), if_pos (by rw [sgn_sin, h]; rfl)]
theorem cut_hash (h : b.toNat = 35) : lxCut b r = if (r.head?.map UInt8.toNat) = some 35 then ⟨1, 3, 0, 0⟩ else ⟨0, 3, 0, 0⟩ := by
  have h1 := (byte_excl b).2.2.2.1 h
  rw [cut_def, if_neg (by rw [h1.1]; simp), if_neg (by rw [h1.2.1]; simp), if_neg (by rw [h1.2.2]; simp), if_neg (fun h2 => by have := h2.1; omega)]
  by_cases h3 : (r.head?.map UInt8.toNat) = some 35
  · rw [if_pos ⟨h, h3⟩, if_pos h3]
  · rw [if_neg (fun h2 => h3 h2.2), if_neg h3, if_pos (by rw [sgn_sin, decide_eq_true h, Bool.or_true])]
theorem cut_slash (h : b.toNat = 47) : lxCut b r = if (r.head?.map UInt8.toNat) = some 47 then ⟨(r.takeWhile notLf).length, 0, 0, 0⟩ else ⟨0, 0, 0, 8⟩ := by
  have h1 := (byte_excl b).2.2.2.2.1 h
  rw [cut_def, if_neg (by rw [h1.1]; simp), if_neg (by rw [h1.2.1]; simp), if_neg (by rw [h1.2.2.1]; simp)]
  by_cases h3 : (r.head?.map UInt8.toNat) = some 47
  · rw [if_pos ⟨h, h3⟩, if_pos h3]
  · rw [if_neg (fun h2 => h3 h2.2), if_neg h3, if_neg (fun h2 => by have := h2.1; omega), if_neg (by rw [sgn_sin, h1.2.2.2, decide_eq_false (by omega)]; simp)]
theorem cut_wrong (h1 : isBlk b = false) (h2 : isBeg b = false) (h3 : isDig b = false) (h4 : isSin b = false) (h5 : b.toNat ≠ 35) (h6 : b.toNat ≠ 47) : lxCut b r = ⟨0, 0, 0, 8⟩ := by
  rw [cut_def, if_neg (by rw [h1]; simp), if_neg (by rw [h2]; simp), if_neg (by rw [h3]; simp), if_neg (fun h => h6 h.1), if_neg (fun h => h5 h.1), if_neg (by rw [sgn_sin, h4, decide_eq_false h5]; simp)]
end
/-! A word as far as it has been read. -/
/-- From byte k on, which began it, the bytes up to j are p's. -/
structure Scan (p : UInt8 → Bool) (l : List UInt8) (k j : Nat) : Prop where
  lt : k < j
  le : j ≤ l.length
  all : ∀ i (h : i < l.length), k < i → i < j → p l[i] = true
section
variable {p : UInt8 → Bool} {l : List UInt8} {k j : Nat}
theorem scan_one (h : k < l.length) : Scan p l k (k + 1) := ⟨Nat.lt_succ_self k, h, fun i _ h1 h2 => by omega⟩
theorem Scan.next (h : Scan p l k j) (hj : j < l.length) (hp : p l[j] = true) : Scan p l k (j + 1) := ⟨Nat.lt_succ_of_lt h.lt, hj, fun i hi h1 h2 => by
  rcases Nat.lt_or_ge i j with h3 | h3
  · exact h.all i hi h1 h3
  · obtain rfl : i = j := by omega
    exact hp⟩
theorem Scan.stop (h : Scan p l k j) (hs : ∀ h : j < l.length, p l[j] = false) : ((l.drop (k + 1)).takeWhile p).length = j - k - 1 := by
  have h1 := h.lt
  have h2 := h.le
  refine take_found p (l.drop (k + 1)) (j - k - 1) (fun i hi hij => ?_) (by rw [List.length_drop]; omega) (fun hi => ?_)
  · rw [List.length_drop] at hi
    rw [List.getElem_drop]
    exact h.all (k + 1 + i) (by omega) (by omega) (by omega)
  · rw [List.length_drop] at hi
    rw [List.getElem_drop]
    have e : k + 1 + (j - k - 1) = j := by omega
    have := hs (by omega)
    simpa only [e] using this
theorem Scan.text (h : Scan p l k j) (hs : ∀ h : j < l.length, p l[j] = false) (hk : k < l.length) : (l.drop k).take (j - k) = l[k] :: (l.drop (k + 1)).takeWhile p := by
  have h1 := h.stop hs
  have h2 := h.lt
  rw [List.drop_eq_getElem_cons hk, show j - k = ((l.drop (k + 1)).takeWhile p).length + 1 by omega, List.take_succ_cons, take_pre]
theorem head_at (h : k < l.length) (n : Nat) : ((l.drop k).head?.map UInt8.toNat) = some n ↔ l[k].toNat = n := by
  rw [List.drop_eq_getElem_cons h, List.head?_cons, Option.map_some]
  exact ⟨Option.some.inj, fun h => by rw [h]⟩
theorem head_none (h : l.length ≤ k) (n : Nat) : ((l.drop k).head?.map UInt8.toNat) ≠ some n := by
  rw [List.drop_eq_nil_of_le h]
  simp
end
end
section
open Go.ChangeShapes Go.WideShapes Go.ChangeAt Go.RowKit Go.Sort BigFrame

def EndSays (W : World) (b : Nat) (S : ByteArray) (f t ln lb : Int) (l1 : List Tk) (l2 : List Wr) (ki va er : Int) (tx : List UInt8) (e : Ending) (w' : World) : Prop :=
  ∃ u1 u2, e = .returned (.tuple #[]) ∧ LxP W b S f t ln lb u1 u2 u1 u2 (l1 ++ cutK ki va er tx ln (f - lb + 1)) ((l2 ++ cutW er ln (f - lb + 1)).take 100) w'
section
variable {W : World} {b : Nat} {S : ByteArray} {v1 v2 : Value} {l1 : List Tk} {l2 : List Wr}
theorem end_add {f t ln lb : Int} {ki va er va' : Int} {tx : List UInt8} {e : Ending} {w' : World} (hl2 : l2.length ≤ 100) (h0 : er = 0) (hk : ki ≠ 0) (hv : va' = va) (h : AddSays W b S f t ln lb v2 l1 l2 ⟨ki, tx, va', ln, f - lb + 1⟩ e w') : EndSays W b S f t ln lb l1 l2 ki va er tx e w' := by
  obtain ⟨u1, he, hL⟩ := h
  subst hv
  refine ⟨u1, v2, he, ?_⟩
  unfold cutK cutW
  rw [if_pos ⟨h0, hk⟩, if_pos h0, List.append_nil, List.take_of_length_le hl2]
  exact hL
theorem end_rej {f t ln lb : Int} {ki va er : Int} {tx : List UInt8} {e : Ending} {w' : World} (h0 : er ≠ 0) (h : RejSays W b S f t ln lb v1 l1 l2 ⟨ln, f - lb + 1, er⟩ e w') : EndSays W b S f t ln lb l1 l2 ki va er tx e w' := by
  obtain ⟨u2, he, hL⟩ := h
  refine ⟨v1, u2, he, ?_⟩
  unfold cutK cutW
  rw [if_neg (fun h => h0 h.1), if_neg h0, List.append_nil]
  exact hL
end
section
attribute [local irreducible] World.cell?
variable {W : World} {b : Nat} {S : ByteArray} {v1 v2 : Value} {l1 : List Tk} {l2 : List Wr}
set_option maxRecDepth 100000 in
set_option maxHeartbeats 4000000 in
theorem endLine_any (f t ln lb : Int) (hf0 : 0 ≤ lb) (hf1 : lb ≤ f) (hf2 : f ≤ 100000) (hl1 : l1.length ≤ 100000) (hn0 : 0 ≤ ln) (hn1 : ln ≤ 1000000) (w : World) (hw : LxP W b S f t ln lb v1 v2 v1 v2 l1 l2 w) :
    Calls Tryz.prog 100 #[lxPtr b] w (fun e w' => e = .returned (.tuple #[]) ∧ ∃ u1, LxP W b S f t (ln + 1) t u1 v2 u1 v2 (l1 ++ [lxEnd ln (f - lb + 1)]) l2 w') := by
  have HA := Lib.hid (add_any f t ln lb hf0 hf1 hf2 hl1 ⟨#[]⟩ [] rfl (Nat.zero_le _) 4 0 w hw)
  clear hw
  go_enter Tryz.func100, Tryz.ntmps100
  go_wp2_with (fail)
  refine HA.out.mono ?_
  rintro e w1 ⟨u1, rfl, hL⟩
  have K1 := Lib.hid hL
  obtain ⟨a0, a1, a2, a3, a4, a5, a6⟩ := lx_cells hL
  have ft := free_of_lit hL.blk
  have lt := heap_lt hL.blk
  clear hL
  have K2 := Lib.hid ((K1.out.set 3 (.int .i64 (ln + 1)) (S' := S) (f' := f) (t' := t) (ln' := ln + 1) (lb' := lb) (c1' := u1) (c2' := v2) rfl).set 4 (.int .i64 t) (S' := S) (f' := f) (t' := t) (ln' := ln + 1) (lb' := t) (c1' := u1) (c2' := v2) rfl)
  go_wp2
  refine bodyPost_end (v := .tuple #[]) (by simp [results, Tryz.results100, go_sem]) rfl ?_
  exact ⟨rfl, u1, K2.out⟩
set_option maxRecDepth 100000 in
set_option maxHeartbeats 4000000 in
theorem endName_any (l : List UInt8) (hS : IsStr S l) (i j : Nat) (ln lb : Int) (hij : i ≤ j) (hj : j ≤ l.length) (hl : l.length ≤ 100000) (hf0 : 0 ≤ lb) (hf1 : lb ≤ i) (hl1 : l1.length ≤ 100000) (hl2 : l2.length ≤ 100) (w : World) (hw : LxP W b S i j ln lb v1 v2 v1 v2 l1 l2 w) :
    Calls Tryz.prog 109 #[lxPtr b] w (EndSays W b S i j ln lb l1 l2 1 0 (if 32 < j - i then 3 else 0) ((l.drop i).take (j - i))) := by
  have hz := str_size hS
  obtain ⟨E, hE⟩ : ∃ E, S.extract i j = E := ⟨_, rfl⟩
  have hET : IsStr E ((l.drop i).take (j - i)) := by rw [← hE]; exact str_part hS i j
  have hEs : E.size = j - i := by rw [str_size hET, List.length_take, List.length_drop]; omega
  have HR := Lib.hid (read_any (c1 := v1) (c2 := v2) i j ln lb hij (by omega) w hw)
  rewrite [hE] at HR
  generalize (l.drop i).take (j - i) = tx at *
  have HA := Lib.hid (fun u hu => add_any (S := S) i j ln lb hf0 hf1 (by omega) hl1 E tx hET (by omega) 1 0 u (hw.next hu))
  have HJ := Lib.hid (fun u hu => reject_any (S := S) i j ln lb hf0 hf1 (by omega) hl2 3 u (hw.next hu))
  have hij0 : (E.size : Int) = (j : Int) - (i : Int) := by omega
  have HZ := Lib.hid hij0
  have hlim : E.size ≤ 100000 := by omega
  clear hw hS hz hE hET hij0
  by_cases h32 : 32 < j - i
  · rewrite [if_pos h32]
    have hgt : (32 : Int) < (E.size : Int) := by omega
    clear h32 hEs
    go_enter Tryz.func109, Tryz.ntmps109
    go_wp2_with (fail)
    refine (HR.out _ (Made.refl _)).mono ?_
    rintro e w1 ⟨rfl, hm⟩
    go_wp2_with (fail)
    refine (HJ.out _ hm).mono ?_
    intro e w2 hr
    have K := Lib.hid hr
    obtain ⟨-, rfl, -⟩ := hr
    go_wp2
    refine bodyPost_ret (v := .tuple #[]) (by simp [results, Tryz.results109, go_sem]) rfl ?_
    exact end_rej (by decide) K.out
  · rewrite [if_neg h32]
    have hgt : (E.size : Int) ≤ 32 := by omega
    clear h32 hEs
    go_enter Tryz.func109, Tryz.ntmps109
    go_wp2_with (fail)
    refine (HR.out _ (Made.refl _)).mono ?_
    rintro e w1 ⟨rfl, hm⟩
    go_wp2_with (fail)
    refine (HA.out _ hm).mono ?_
    intro e w2 hr
    have K := Lib.hid hr
    obtain ⟨-, rfl, -⟩ := hr
    go_wp2
    refine bodyPost_end (v := .tuple #[]) (by simp [results, Tryz.results109, go_sem]) rfl ?_
    exact end_add hl2 rfl (by decide) rfl K.out
set_option maxRecDepth 100000 in
set_option maxHeartbeats 4000000 in
theorem endNumber_any (l : List UInt8) (hS : IsStr S l) (i j : Nat) (ln lb : Int) (hij : i ≤ j) (hj : j ≤ l.length) (hl : l.length ≤ 100000) (hf0 : 0 ≤ lb) (hf1 : lb ≤ i) (hl1 : l1.length ≤ 100000) (hl2 : l2.length ≤ 100) (w : World) (hw : LxP W b S i j ln lb v1 v2 v1 v2 l1 l2 w) (z : Int) (hzn : lxNum ((l.drop i).take (j - i)) = z) :
    Calls Tryz.prog 111 #[lxPtr b] w (EndSays W b S i j ln lb l1 l2 2 z (vE z) ((l.drop i).take (j - i))) := by
  have hz := str_size hS
  obtain ⟨E, hE⟩ : ∃ E, S.extract i j = E := ⟨_, rfl⟩
  have hET : IsStr E ((l.drop i).take (j - i)) := by rw [← hE]; exact str_part hS i j
  have hEs : E.size ≤ 100000 := by rw [str_size hET, List.length_take, List.length_drop]; omega
  have htl : ((l.drop i).take (j - i)).length ≤ 100000 := by rw [← str_size hET]; exact hEs
  have HR := Lib.hid (read_any (c1 := v1) (c2 := v2) i j ln lb hij (by omega) w hw)
  rewrite [hE] at HR
  generalize (l.drop i).take (j - i) = tx at *
  have HV := Lib.hid (valueOf_any E tx hET htl)
  rewrite [hzn] at HV
  have HA := Lib.hid (fun va u hu => add_any (S := S) i j ln lb hf0 hf1 (by omega) hl1 E tx hET hEs 2 va u (hw.next hu))
  have HJ := Lib.hid (fun er u hu => reject_any (S := S) i j ln lb hf0 hf1 (by omega) hl2 er u (hw.next hu))
  have hvv : vE z = 0 → vV z = z := by
    unfold vE vV
    intro h
    split at h
    · omega
    · rename_i h1
      rw [if_neg h1]
      split at h
      · omega
      · rename_i h2
        rw [if_neg h2]
  have HVV := Lib.hid hvv
  clear hw hS hz hE hET hzn hvv
  generalize vE z = er at *
  generalize vV z = va at *
  by_cases h0 : er = 0
  · have hg : (er != 0) = false := by rw [h0]; rfl
    have H0 := Lib.hid h0
    clear h0
    go_enter Tryz.func111, Tryz.ntmps111
    go_wp2_with (fail)
    refine (HR.out _ (Made.refl _)).mono ?_
    rintro e w1 ⟨rfl, hm⟩
    go_wp2_with (fail)
    refine (HV.out _).mono ?_
    rintro e w' ⟨rfl, rfl⟩
    go_wp2_with (fail)
    refine (HA.out va _ hm).mono ?_
    intro e w2 hr
    have K := Lib.hid hr
    obtain ⟨-, rfl, -⟩ := hr
    go_wp2
    refine bodyPost_end (v := .tuple #[]) (by simp [results, Tryz.results111, go_sem]) rfl ?_
    exact end_add hl2 H0.out (by decide) (HVV.out H0.out) K.out
  · have hg : (er != 0) = true := bne_iff_ne.2 h0
    have H0 := Lib.hid h0
    clear h0
    go_enter Tryz.func111, Tryz.ntmps111
    go_wp2_with (fail)
    refine (HR.out _ (Made.refl _)).mono ?_
    rintro e w1 ⟨rfl, hm⟩
    go_wp2_with (fail)
    refine (HV.out _).mono ?_
    rintro e w' ⟨rfl, rfl⟩
    go_wp2_with (fail)
    refine (HJ.out er _ hm).mono ?_
    intro e w2 hr
    have K := Lib.hid hr
    obtain ⟨-, rfl, -⟩ := hr
    go_wp2
    refine bodyPost_ret (v := .tuple #[]) (by simp [results, Tryz.results111, go_sem]) rfl ?_
    exact end_rej H0.out K.out
end
end
section
open Go.ChangeShapes Go.WideShapes Go.ChangeAt Go.RowKit Go.Sort BigFrame

/-- The frame of split: its first slot is the scanner's pointer. -/
def FrameAt (b : Nat) (a : Act) : Prop := ∃ u : Nat → Value, a = { tmps := #[lxPtr b, u 1, u 2, u 3, u 4, u 5, u 6, u 7, u 8, u 9, u 10, u 11, u 12, u 13, u 14, u 15, u 16, u 17, u 18, u 19, u 20, u 21, u 22, u 23, u 24, u 25, u 26, u 27, u 28, u 29, u 30, u 31, u 32, u 33, u 34, u 35, u 36, u 37, u 38, u 39, u 40, u 41, u 42, u 43, u 44, u 45, u 46, u 47, u 48, u 49, u 50, u 51, u 52, u 53, u 54, u 55, u 56, u 57, u 58, u 59, u 60, u 61, u 62, u 63, u 64, u 65, u 66, u 67, u 68, u 69, u 70, u 71, u 72, u 73, u 74, u 75, u 76, u 77, u 78, u 79, u 80, u 81], defers := [] }
theorem frame_at (b : Nat) {x1 x2 x3 x4 x5 x6 x7 x8 x9 x10 x11 x12 x13 x14 x15 x16 x17 x18 x19 x20 x21 x22 x23 x24 x25 x26 x27 x28 x29 x30 x31 x32 x33 x34 x35 x36 x37 x38 x39 x40 x41 x42 x43 x44 x45 x46 x47 x48 x49 x50 x51 x52 x53 x54 x55 x56 x57 x58 x59 x60 x61 x62 x63 x64 x65 x66 x67 x68 x69 x70 x71 x72 x73 x74 x75 x76 x77 x78 x79 x80 x81 : Value} : FrameAt b { tmps := #[lxPtr b, x1, x2, x3, x4, x5, x6, x7, x8, x9, x10, x11, x12, x13, x14, x15, x16, x17, x18, x19, x20, x21, x22, x23, x24, x25, x26, x27, x28, x29, x30, x31, x32, x33, x34, x35, x36, x37, x38, x39, x40, x41, x42, x43, x44, x45, x46, x47, x48, x49, x50, x51, x52, x53, x54, x55, x56, x57, x58, x59, x60, x61, x62, x63, x64, x65, x66, x67, x68, x69, x70, x71, x72, x73, x74, x75, x76, x77, x78, x79, x80, x81], defers := [] } := ⟨fun i => (#[lxPtr b, x1, x2, x3, x4, x5, x6, x7, x8, x9, x10, x11, x12, x13, x14, x15, x16, x17, x18, x19, x20, x21, x22, x23, x24, x25, x26, x27, x28, x29, x30, x31, x32, x33, x34, x35, x36, x37, x38, x39, x40, x41, x42, x43, x44, x45, x46, x47, x48, x49, x50, x51, x52, x53, x54, x55, x56, x57, x58, x59, x60, x61, x62, x63, x64, x65, x66, x67, x68, x69, x70, x71, x72, x73, x74, x75, x76, x77, x78, x79, x80, x81] : Array Value).getD i undef, rfl⟩
/-- What is so at each label: the byte k at which what is being read begins, the byte j at which it goes on. -/
def ModeAt (l : List UInt8) (k j : Nat) (f : Int) : Nat → Prop
  | 0 => j = k
  | 1 => f = k ∧ j = k + 1 ∧ ∃ h : k < l.length, l[k].toNat = 10
  | 2 => f = k ∧ Scan isNam l k j ∧ ∃ h : k < l.length, isBeg l[k] = true
  | 3 => f = k ∧ Scan isWrd l k j ∧ ∃ h : k < l.length, isDig l[k] = true
  | 4 => f = k ∧ ∃ (mo : Nat) (h : k < l.length), j = k + 1 + mo ∧ j ≤ l.length ∧ l[k].toNat ≠ 10 ∧ lxCut l[k] (l.drop (k + 1)) = ⟨mo, 3, 0, 0⟩
  | 5 => f = k ∧ j = k + 1 ∧ ∃ h : k < l.length, l[k].toNat = 35
  | 6 => f = k ∧ j = k + 1 ∧ ∃ h : k < l.length, l[k].toNat = 47
  | 7 => f = k ∧ j = k + 1 ∧ ∃ h : k < l.length, l[k].toNat ≠ 10 ∧ lxCut l[k] (l.drop (k + 1)) = ⟨0, 0, 0, 8⟩
  | 8 => f = k ∧ Scan notLf l k j ∧ ∃ h : k < l.length, l[k].toNat = 47 ∧ ∃ h2 : k + 1 < l.length, l[k + 1].toNat = 47
  | _ => False
def rankAt : Nat → Nat
  | 0 => 0
  | 6 => 2
  | _ => 1
def StAt (W : World) (b : Nat) (S : ByteArray) (l : List UInt8) (n lab : Nat) (w : World) : Prop :=
  ∃ (k j : Nat) (f ln lb : Int) (v1 v2 : Value) (l1 : List Tk) (l2 : List Wr), LxP W b S f j ln lb v1 v2 v1 v2 l1 l2 w ∧ At l k ln lb l1 l2 ∧ n = 4 * (l.length - j) + rankAt lab ∧ ModeAt l k j f lab
section
variable {W w : World} {b : Nat} {S : ByteArray} {l : List UInt8} {k j : Nat} {f ln lb : Int} {c1 c2 v1 v2 : Value} {l1 : List Tk} {l2 : List Wr}
theorem LxP.up (h : LxP W b S f ((j : Int) + 1) ln lb c1 c2 v1 v2 l1 l2 w) : LxP W b S f ((j + 1 : Nat) : Int) ln lb c1 c2 v1 v2 l1 l2 w := by
  have e : ((j + 1 : Nat) : Int) = (j : Int) + 1 := by omega
  rw [e]
  exact h
theorem At.lf' (h : At l k ln lb l1 l2) (hk : k < l.length) (hb : l[k].toNat = 10) : At l (k + 1) (ln + 1) ((k + 1 : Nat) : Int) (l1 ++ [lxEnd ln (k - lb + 1)]) l2 := by
  have e : ((k + 1 : Nat) : Int) = (k : Int) + 1 := by omega
  rw [e]
  exact h.lf hk hb
/-- Between two tokens. -/
theorem st_zero {n : Nat} (hL : LxP W b S f j ln lb v1 v2 v1 v2 l1 l2 w) (hA : At l j ln lb l1 l2) (hn : 4 * (l.length - j) < n) : ∃ m, m < n ∧ (0 ≤ 8 ∧ True) ∧ StAt W b S l m 0 w :=
  ⟨_, hn, ⟨by decide, trivial⟩, j, j, f, ln, lb, v1, v2, l1, l2, hL, hA, rfl, rfl⟩
theorem st_end {n : Nat} {ki va er : Int} {tx : List UInt8} {e : Ending} (h : EndSays W b S k j ln lb l1 l2 ki va er tx e w) (hA : At l j ln lb (l1 ++ cutK ki va er tx ln (k - lb + 1)) ((l2 ++ cutW er ln (k - lb + 1)).take 100)) (hn : 4 * (l.length - j) < n) : ∃ m, m < n ∧ StAt W b S l m 0 w := by
  obtain ⟨u1, u2, -, hL⟩ := h
  exact ⟨_, hn, j, j, k, ln, lb, u1, u2, _, _, hL, hA, rfl, rfl⟩
theorem hash_says {e : Ending} (hk : k < l.length) (hb : l[k].toNat = 35) (h : TookSays W b S l (fun b => decide (b.toNat = 35)) k (k + 1) ln lb v1 v2 l1 l2 e w) :
    ∃ (d : Bool) (j : Nat), e = .returned (.bool d) ∧ k < j ∧ LxP W b S k j ln lb v1 v2 v1 v2 l1 l2 w ∧ ModeAt l k j k 4 := by
  have h10 : l[k].toNat ≠ 10 := by omega
  rcases h with ⟨he, hL, h1, hp⟩ | ⟨he, hL, hp⟩
  · refine ⟨true, k + 1 + 1, he, by omega, hL.up, rfl, 1, hk, rfl, h1, h10, ?_⟩
    rw [cut_hash _ _ hb, if_pos ((head_at h1 35).2 (by simpa using hp))]
  · refine ⟨false, k + 1, he, by omega, hL, rfl, 0, hk, rfl, hk, h10, ?_⟩
    rw [cut_hash _ _ hb, if_neg]
    intro h2
    rcases Nat.lt_or_ge (k + 1) l.length with h3 | h3
    · have h4 := hp h3
      have h5 := (head_at h3 35).1 h2
      simp [h5] at h4
    · exact head_none h3 35 h2
theorem name_cut (hA : At l k ln lb l1 l2) (hs : Scan isNam l k j) (hk : k < l.length) (hb : isBeg l[k] = true) (hp : ∀ h : j < l.length, isNam l[j] = false) :
    At l j ln lb (l1 ++ cutK 1 0 (if 32 < j - k then 3 else 0) ((l.drop k).take (j - k)) ln (k - lb + 1)) ((l2 ++ cutW (if 32 < j - k then 3 else 0) ln (k - lb + 1)).take 100) := by
  have h1 := hs.stop hp
  have h2 := hs.lt
  refine hA.cut hk ((byte_excl _).1 hb).2 (mo := j - k - 1) (by omega) ?_
  rw [cut_beg _ _ hb, h1, show j - k - 1 + 1 = j - k by omega]
theorem number_cut (hA : At l k ln lb l1 l2) (hs : Scan isWrd l k j) (hk : k < l.length) (hb : isDig l[k] = true) (hp : ∀ h : j < l.length, isWrd l[j] = false) :
    At l j ln lb (l1 ++ cutK 2 (lxNum ((l.drop k).take (j - k))) (vE (lxNum ((l.drop k).take (j - k)))) ((l.drop k).take (j - k)) ln (k - lb + 1)) ((l2 ++ cutW (vE (lxNum ((l.drop k).take (j - k)))) ln (k - lb + 1)).take 100) := by
  have h1 := hs.stop hp
  have h2 := hs.lt
  refine hA.cut hk ((byte_excl _).2.1 hb).2.2 (mo := j - k - 1) (by omega) ?_
  rw [hs.text hp hk, cut_dig _ _ hb, h1]
  rfl
theorem comment_cut (hA : At l k ln lb l1 l2) (hs : Scan notLf l k j) (hk : k < l.length) (hb : l[k].toNat = 47) (hk2 : k + 1 < l.length) (hb2 : l[k + 1].toNat = 47) (hp : ∀ h : j < l.length, notLf l[j] = false) : At l j ln lb l1 l2 := by
  have h1 := hs.stop hp
  have h2 := hs.lt
  refine hA.skip hk (by omega) (mo := j - k - 1) (va := 0) (by omega) ?_
  rw [cut_slash _ _ hb, if_pos ((head_at hk2 47).2 hb2), h1]
theorem slash_two (hk2 : k + 1 < l.length) (hb2 : l[k + 1].toNat = 47) : Scan notLf l k (k + 1 + 1) := (scan_one (by omega)).next hk2 (by unfold notLf; exact decide_eq_true (by omega))
theorem slash_one (hk : k < l.length) (hb : l[k].toNat = 47) (hp : ∀ h : k + 1 < l.length, decide (l[k + 1].toNat = 47) = false) : lxCut l[k] (l.drop (k + 1)) = ⟨0, 0, 0, 8⟩ := by
  rw [cut_slash _ _ hb, if_neg]
  intro h2
  rcases Nat.lt_or_ge (k + 1) l.length with h3 | h3
  · have h4 := hp h3
    have h5 := (head_at h3 47).1 h2
    simp [h5] at h4
  · exact head_none h3 47 h2
end
section
attribute [local irreducible] World.cell?
set_option maxRecDepth 1000000 in
set_option maxHeartbeats 32000000 in
theorem split_any (W : World) (b : Nat) (S : ByteArray) (l : List UInt8) (hS : IsStr S l) (hl : l.length ≤ 20000) (v1 v2 : Value) (w : World) (hw : LxP W b S 0 0 1 0 v1 v2 v1 v2 [] [] w) :
    Calls Tryz.prog 59 #[lxPtr b] w (fun e w' => e = .returned (.tuple #[]) ∧ ∃ f t ln lb u1 u2, LxP W b S f t ln lb u1 u2 u1 u2 (lexT l) (lexW l) w') := by
  have HS := Lib.hid hS
  have HZ := Lib.hid (str_size hS)
  have h0 : StAt W b S l (4 * (l.length - 0) + 0) 0 w := ⟨0, 0, 0, 1, 0, v1, v2, [], [], hw, at_start l, rfl, rfl⟩
  clear hw hS
  go_enter Tryz.func59, Tryz.ntmps59
  go_wp2
  refine wp_scope_by (fun n l' a w => l' ≤ 8 ∧ FrameAt b a ∧ StAt W b S l n l' w) _ 0 ⟨by decide, frame_at b, h0⟩ ?_ ?_
  · clear h0
    rintro n a w1 ⟨-, ⟨u, rfl⟩, k, j, f, ln, lb, v1, v2, l1, l2, hL, hA, hn, hM⟩
    have hM2 : j = k := hM
    subst hM2
    have HA := Lib.hid hA
    have HN := Lib.hid hn
    have KL := Lib.hid (hL.set 1 (.int .i64 j) (S' := S) (f' := j) (t' := j) (ln' := ln) (lb' := lb) (c1' := v1) (c2' := v2) rfl)
    obtain ⟨a0, a1, a2, a3, a4, a5, a6⟩ := lx_cells hL
    have ft := free_of_lit hL.blk
    have lt := heap_lt hL.blk
    have hfew := hA.few
    have hle := hA.le
    clear hL hA hn hM
    go_wp2_with (fail)
    refine world_named (fun u => LxP W b S j j ln lb v1 v2 v1 v2 l1 l2 u) KL.out ?_
    intro z hz
    have KZ := Lib.hid hz
    clear hz KL a0 a1 a2 a3 a4 a5 a6 ft lt
    obtain ⟨a0, a1, a2, a3, a4, a5, a6⟩ := lx_cells KZ.out
    have ft := free_of_lit KZ.out.blk
    have lt := heap_lt KZ.out.blk
    by_cases hk : j < l.length
    · have hg : ((j : Int) == (S.size : Int)) = false := beq_eq_false_iff_ne.2 (by have := HZ.out; omega)
      have hj1 : (j : Int) + 1 ≤ 20001 := by omega
      have KU := Lib.hid (fun q => ((KZ.out.next (below_drewN (Made.refl _) q)).set 2 (.int .i64 ((j : Int) + 1)) (S' := S) (f' := j) (t' := (j : Int) + 1) (ln' := ln) (lb' := lb) (c1' := v1) (c2' := v2) rfl).up)
      go_quiet (fail)
      go_wp2_with (fail)
      refine world_named (fun u => LxP W b S j ((j + 1 : Nat) : Int) ln lb v1 v2 v1 v2 l1 l2 u) (KU.out _) ?_
      intro y hy
      have KY := Lib.hid hy
      clear hy KU KZ a0 a1 a2 a3 a4 a5 a6 ft lt hg
      obtain ⟨a0, a1, a2, a3, a4, a5, a6⟩ := lx_cells KY.out
      obtain ⟨c, hc⟩ : ∃ c, l[j] = c := ⟨_, rfl⟩
      have hix := fun u => str_at HS.out hk c hc u
      have HBL := Lib.hid (blank_any c)
      have HBE := Lib.hid (begins_any c)
      have HDG := Lib.hid (digitB_any c)
      have HSI := Lib.hid (single_any c)
      have HHA := Lib.hid (hash_any c)
      have HSL := Lib.hid (slash_any c)
      have HC := Lib.hid hc
      have g10 : ((c.toNat : Int) == 10) = decide (c.toNat = 10) := byte_is c 10
      clear hc
      go_quiet (fail)
      have KD := Lib.hid (KY.out.next (below_drewN (Made.refl _) nq))
      clear a0 a1 a2 a3 a4 a5 a6 hix
      go_wp2_with (fail)
      refine (HBL.out _).mono ?_
      rintro e w' ⟨rfl, rfl⟩
      cases h1 : isBlk c with
      | true =>
        have HX := Lib.hid (HA.out.skip hk (by rw [HC.out]; exact (byte_excl c).2.2.2.2.2 h1) (mo := 0) (va := 0) (j := j + 1) rfl (by rw [HC.out]; exact cut_blk _ _ h1))
        go_wp2_with (fail)
        go_step3
        exact ⟨4 * (l.length - (j + 1)), by have := HN.out; simp only [rankAt] at this; omega, by decide, frame_at b, j + 1, j + 1, j, ln, lb, v1, v2, l1, l2, KD.out, HX.out, rfl, rfl⟩
      | false =>
        cases h2 : decide (c.toNat = 10) with
        | true =>
          rewrite [h2] at g10
          have HX := Lib.hid (of_decide_eq_true h2)
          clear h2
          go_wp2_with (fail)
          go_step3
          exact ⟨4 * (l.length - (j + 1)) + 1, by have := HN.out; simp only [rankAt] at this; omega, by decide, frame_at b, j, j + 1, j, ln, lb, v1, v2, l1, l2, KD.out, HA.out, rfl, rfl, rfl, hk, by rw [HC.out]; exact HX.out⟩
        | false =>
          rewrite [h2] at g10
          have H10 := Lib.hid (of_decide_eq_false h2)
          clear h2
          go_wp2_with (fail)
          refine (HBE.out _).mono ?_
          rintro e w' ⟨rfl, rfl⟩
          cases h3 : isBeg c with
          | true =>
            have H3 := Lib.hid h3
            clear h3
            go_wp2_with (fail)
            go_step3
            exact ⟨4 * (l.length - (j + 1)) + 1, by have := HN.out; simp only [rankAt] at this; omega, by decide, frame_at b, j, j + 1, j, ln, lb, v1, v2, l1, l2, KD.out, HA.out, rfl, rfl, scan_one hk, hk, by rw [HC.out]; exact H3.out⟩
          | false =>
            go_wp2_with (fail)
            refine (HDG.out _).mono ?_
            rintro e w' ⟨rfl, rfl⟩
            cases h4 : isDig c with
            | true =>
              have H4 := Lib.hid h4
              clear h4
              go_wp2_with (fail)
              go_step3
              exact ⟨4 * (l.length - (j + 1)) + 1, by have := HN.out; simp only [rankAt] at this; omega, by decide, frame_at b, j, j + 1, j, ln, lb, v1, v2, l1, l2, KD.out, HA.out, rfl, rfl, scan_one hk, hk, by rw [HC.out]; exact H4.out⟩
            | false =>
              go_wp2_with (fail)
              refine (HSI.out _).mono ?_
              rintro e w' ⟨rfl, rfl⟩
              cases h5 : isSin c with
              | true =>
                have HX := Lib.hid (show lxCut l[j] (l.drop (j + 1)) = ⟨0, 3, 0, 0⟩ by rw [HC.out]; exact cut_sin _ _ h5)
                clear h5
                go_wp2_with (fail)
                go_step3
                exact ⟨4 * (l.length - (j + 1)) + 1, by have := HN.out; simp only [rankAt] at this; omega, by decide, frame_at b, j, j + 1, j, ln, lb, v1, v2, l1, l2, KD.out, HA.out, rfl, rfl, 0, hk, rfl, hk, by rw [HC.out]; exact H10.out, HX.out⟩
              | false =>
                go_wp2_with (fail)
                refine (HHA.out _).mono ?_
                rintro e w' ⟨rfl, rfl⟩
                cases h6 : decide (c.toNat = 35) with
                | true =>
                  have HX := Lib.hid (of_decide_eq_true h6)
                  clear h6
                  go_wp2_with (fail)
                  go_step3
                  exact ⟨4 * (l.length - (j + 1)) + 1, by have := HN.out; simp only [rankAt] at this; omega, by decide, frame_at b, j, j + 1, j, ln, lb, v1, v2, l1, l2, KD.out, HA.out, rfl, rfl, rfl, hk, by rw [HC.out]; exact HX.out⟩
                | false =>
                  go_wp2_with (fail)
                  refine (HSL.out _).mono ?_
                  rintro e w' ⟨rfl, rfl⟩
                  cases h7 : decide (c.toNat = 47) with
                  | true =>
                    have HX := Lib.hid (of_decide_eq_true h7)
                    clear h7
                    go_wp2_with (fail)
                    go_step3
                    exact ⟨4 * (l.length - (j + 1)) + 2, by have := HN.out; simp only [rankAt] at this; omega, by decide, frame_at b, j, j + 1, j, ln, lb, v1, v2, l1, l2, KD.out, HA.out, rfl, rfl, rfl, hk, by rw [HC.out]; exact HX.out⟩
                  | false =>
                    have HX := Lib.hid (show lxCut l[j] (l.drop (j + 1)) = ⟨0, 0, 0, 8⟩ by rw [HC.out]; exact cut_wrong _ _ h1 h3 h4 h5 (of_decide_eq_false h6) (of_decide_eq_false h7))
                    clear h6 h7
                    go_wp2_with (fail)
                    go_step3
                    exact ⟨4 * (l.length - (j + 1)) + 1, by have := HN.out; simp only [rankAt] at this; omega, by decide, frame_at b, j, j + 1, j, ln, lb, v1, v2, l1, l2, KD.out, HA.out, rfl, rfl, rfl, hk, by rw [HC.out]; exact H10.out, HX.out⟩
    · obtain rfl : j = l.length := by omega
      have hg : ((l.length : Int) == (S.size : Int)) = true := beq_iff_eq.2 (by have := HZ.out; omega)
      have HE := Lib.hid (fun q => endLine_any (S := S) (l.length : Int) (l.length : Int) ln lb HA.out.lb0 HA.out.lb1 (by omega) (by omega) (by have := HA.out.ln0; omega) (by have := HA.out.ln1; omega) _ (KZ.out.next (below_drewN (Made.refl _) q)))
      have HD := Lib.hid HA.out.done
      go_quiet (fail)
      go_wp2_with (fail)
      refine (HE.out _).mono ?_
      rintro e w2 ⟨rfl, u1, hL2⟩
      have K2 := Lib.hid hL2
      clear hL2 HE
      go_wp2
      rw [toLabel_ret]
      refine bodyPost_ret (v := .tuple #[]) (by simp [results, Tryz.results59, go_sem]) rfl ?_
      exact ⟨rfl, _, _, _, _, u1, v2, by rw [HD.out.1, HD.out.2]; exact K2.out⟩
  · clear h0
    rintro n lab a w1 hne ⟨h8, ⟨u, rfl⟩, k, j, f, ln, lb, v1, v2, l1, l2, hL, hA, hn, hM⟩
    have HA := Lib.hid hA
    have hfew := hA.few
    have hle := hA.le
    clear hA
    match lab, h8, hn, hM with
    | 0, _, _, _ => exact absurd rfl hne
    | 1, _, hn, hM =>
      obtain ⟨rfl, rfl, hk, hb⟩ := hM
      have hn1 : n = 4 * (l.length - (k + 1)) + 1 := hn
      have HX := Lib.hid (HA.out.lf' hk hb)
      have HE := Lib.hid (endLine_any (S := S) (k : Int) ((k + 1 : Nat) : Int) ln lb HA.out.lb0 HA.out.lb1 (by omega) (by omega) (by have := HA.out.ln0; omega) (by have := HA.out.ln1; omega) w1 hL)
      clear hL hb hn
      refine ⟨_, rfl, ?_⟩
      go_wp2_with (fail)
      refine HE.out.mono ?_
      rintro e w2 ⟨rfl, u1, hL2⟩
      have K2 := Lib.hid hL2
      clear hL2 HE
      go_wp2_with (fail)
      go_step3
      exact ⟨4 * (l.length - (k + 1)), by omega, by decide, frame_at b, k + 1, k + 1, k, ln + 1, _, u1, v2, _, l2, K2.out, HX.out, rfl, rfl⟩
    | 2, _, hn, hM =>
      obtain ⟨rfl, hs, hk, hb⟩ := hM
      have hn1 : n = 4 * (l.length - j) + 1 := hn
      have HSC := Lib.hid hs
      have HK := Lib.hid (show ∃ h : k < l.length, isBeg l[k] = true from ⟨hk, hb⟩)
      have HT := Lib.hid (took_name l HS.out (f := (k : Int)) j ln lb hs.le (by omega) w1 hL)
      have hjl := hs.le
      have hkj := hs.lt
      clear hL hb hn hs
      refine ⟨_, rfl, ?_⟩
      go_wp2_with (fail)
      refine HT.out.mono ?_
      intro e w2 hT
      rcases hT with ⟨rfl, hL, hj1, hp⟩ | ⟨rfl, hL, hp⟩
      · have KN := Lib.hid hL.up
        have HN := Lib.hid (HSC.out.next hj1 hp)
        clear hL hp HT
        go_wp2_with (fail)
        go_step3
        exact ⟨4 * (l.length - (j + 1)) + 1, by omega, by decide, frame_at b, k, j + 1, k, ln, lb, v1, v2, l1, l2, KN.out, HA.out, rfl, rfl, HN.out, HK.out⟩
      · have HX := Lib.hid (name_cut HA.out HSC.out hk HK.out.2 hp)
        have HE := Lib.hid (endName_any l HS.out k j ln lb (by omega) hjl (by omega) HA.out.lb0 HA.out.lb1 (by omega) hfew.2 w2 hL)
        clear hL hp HT
        go_wp2_with (fail)
        refine HE.out.mono ?_
        intro e w3 hr
        have K := Lib.hid hr
        obtain ⟨-, -, rfl, -⟩ := hr
        go_wp2_with (fail)
        go_step3
        obtain ⟨m, hm, hst⟩ := st_end (n := n) K.out HX.out (by omega)
        exact ⟨m, hm, by decide, frame_at b, hst⟩
    | 3, _, hn, hM =>
      obtain ⟨rfl, hs, hk, hb⟩ := hM
      have hn1 : n = 4 * (l.length - j) + 1 := hn
      have HSC := Lib.hid hs
      have HK := Lib.hid (show ∃ h : k < l.length, isDig l[k] = true from ⟨hk, hb⟩)
      have HT := Lib.hid (took_number l HS.out (f := (k : Int)) j ln lb hs.le (by omega) w1 hL)
      have hjl := hs.le
      have hkj := hs.lt
      clear hL hb hn hs
      refine ⟨_, rfl, ?_⟩
      go_wp2_with (fail)
      refine HT.out.mono ?_
      intro e w2 hT
      rcases hT with ⟨rfl, hL, hj1, hp⟩ | ⟨rfl, hL, hp⟩
      · have KN := Lib.hid hL.up
        have HN := Lib.hid (HSC.out.next hj1 hp)
        clear hL hp HT
        go_wp2_with (fail)
        go_step3
        exact ⟨4 * (l.length - (j + 1)) + 1, by omega, by decide, frame_at b, k, j + 1, k, ln, lb, v1, v2, l1, l2, KN.out, HA.out, rfl, rfl, HN.out, HK.out⟩
      · have HX := Lib.hid (number_cut HA.out HSC.out hk HK.out.2 hp)
        have HE := Lib.hid (endNumber_any l HS.out k j ln lb (by omega) hjl (by omega) HA.out.lb0 HA.out.lb1 (by omega) hfew.2 w2 hL _ rfl)
        clear hL hp HT
        go_wp2_with (fail)
        refine HE.out.mono ?_
        intro e w3 hr
        have K := Lib.hid hr
        obtain ⟨-, -, rfl, -⟩ := hr
        go_wp2_with (fail)
        go_step3
        obtain ⟨m, hm, hst⟩ := st_end (n := n) K.out HX.out (by omega)
        exact ⟨m, hm, by decide, frame_at b, hst⟩
    | 4, _, hn, hM =>
      have hn1 : n = 4 * (l.length - j) + 1 := hn
      obtain ⟨rfl, hM'⟩ := id hM
      have HM := Lib.hid hM
      have KL := Lib.hid hL
      obtain ⟨w2, hw2⟩ : ∃ w2, w2 = w1 := ⟨_, rfl⟩
      subst hw2
      clear hL hM hM' hn
      refine ⟨_, rfl, ?_⟩
      have hjl := HM.out.2
      obtain ⟨mo, hk, hj, hjl, h10, hcut⟩ := HM.out.2
      have HC := Lib.hid (HA.out.cut hk h10 hj hcut)
      have hsz := str_size HS.out
      obtain ⟨E, hE⟩ : ∃ E, S.extract k j = E := ⟨_, rfl⟩
      have hET : IsStr E ((l.drop k).take (j - k)) := by rw [← hE]; exact str_part HS.out k j
      have hEs : E.size ≤ 100000 := by rw [str_size hET, List.length_take, List.length_drop]; omega
      have HRD := Lib.hid (read_any (c1 := v1) (c2 := v2) k j ln lb (by omega) (by omega) w2 KL.out)
      rewrite [hE] at HRD
      generalize (l.drop k).take (j - k) = tx at *
      have HAD := Lib.hid (fun u hu => add_any (S := S) k j ln lb HA.out.lb0 HA.out.lb1 (by omega) (by have := HA.out.few.1; omega) E tx hET hEs 3 0 u (KL.out.next hu))
      have hlt : k < j := by omega
      clear hE hET hEs hcut h10 hj hsz
      go_wp2_with (fail)
      refine (HRD.out _ (Made.refl _)).mono ?_
      rintro e w3 ⟨rfl, hm⟩
      go_wp2_with (fail)
      refine (HAD.out _ hm).mono ?_
      intro e w4 hr
      have K := Lib.hid (end_add (ki := 3) (va := 0) (er := 0) HA.out.few.2 rfl (by decide) rfl hr)
      obtain ⟨-, rfl, -⟩ := hr
      go_wp2_with (fail)
      go_step3
      obtain ⟨m, hm, hst⟩ := st_end (n := n) K.out HC.out (by omega)
      exact ⟨m, hm, by decide, frame_at b, hst⟩
    | 5, _, hn, hM =>
      obtain ⟨rfl, rfl, hk5, hb5⟩ := hM
      have hn1 : n = 4 * (l.length - (k + 1)) + 1 := hn
      have HT := Lib.hid (took_hash l HS.out (f := (k : Int)) (k + 1) ln lb hk5 (by omega) w1 hL)
      have HB := Lib.hid hb5
      clear hL hn hb5
      refine ⟨_, rfl, ?_⟩
      go_wp2_with (fail)
      refine HT.out.mono ?_
      intro e w2 hT
      obtain ⟨d, j, rfl, hkj, hL, hM⟩ := hash_says hk5 HB.out hT
      have HM := Lib.hid hM
      have KL := Lib.hid hL
      clear hT hL hM HT
      have hjl := HM.out.2
      obtain ⟨mo, hk, hj, hjl, h10, hcut⟩ := HM.out.2
      have HC := Lib.hid (HA.out.cut hk h10 hj hcut)
      have hsz := str_size HS.out
      obtain ⟨E, hE⟩ : ∃ E, S.extract k j = E := ⟨_, rfl⟩
      have hET : IsStr E ((l.drop k).take (j - k)) := by rw [← hE]; exact str_part HS.out k j
      have hEs : E.size ≤ 100000 := by rw [str_size hET, List.length_take, List.length_drop]; omega
      have HRD := Lib.hid (read_any (c1 := v1) (c2 := v2) k j ln lb (by omega) (by omega) w2 KL.out)
      rewrite [hE] at HRD
      generalize (l.drop k).take (j - k) = tx at *
      have HAD := Lib.hid (fun u hu => add_any (S := S) k j ln lb HA.out.lb0 HA.out.lb1 (by omega) (by have := HA.out.few.1; omega) E tx hET hEs 3 0 u (KL.out.next hu))
      have hlt : k < j := by omega
      clear hE hET hEs hcut h10 hj hsz
      go_wp2_with (fail)
      go_step3
      go_wp2_with (fail)
      refine (HRD.out _ (Made.refl _)).mono ?_
      rintro e w3 ⟨rfl, hm⟩
      go_wp2_with (fail)
      refine (HAD.out _ hm).mono ?_
      intro e w4 hr
      have K := Lib.hid (end_add (ki := 3) (va := 0) (er := 0) HA.out.few.2 rfl (by decide) rfl hr)
      obtain ⟨-, rfl, -⟩ := hr
      go_wp2_with (fail)
      go_step3
      obtain ⟨m, hm, hst⟩ := st_end (n := n) K.out HC.out (by omega)
      exact ⟨m, hm, by decide, frame_at b, hst⟩
    | 6, _, hn, hM =>
      obtain ⟨rfl, rfl, hk6, hb6⟩ := hM
      have hn1 : n = 4 * (l.length - (k + 1)) + 2 := hn
      have HT := Lib.hid (took_slash l HS.out (f := (k : Int)) (k + 1) ln lb hk6 (by omega) w1 hL)
      have HB := Lib.hid hb6
      clear hL hn hb6
      refine ⟨_, rfl, ?_⟩
      go_wp2_with (fail)
      refine HT.out.mono ?_
      intro e w2 hT
      rcases hT with ⟨rfl, hL, hk2, hp⟩ | ⟨rfl, hL, hp⟩
      · have hb2 : l[k + 1].toNat = 47 := by simpa using hp
        have hLU := hL.up
        obtain ⟨j, hj⟩ : ∃ j, j = k + 1 + 1 := ⟨_, rfl⟩
        rewrite [← hj] at hLU
        have hs : Scan notLf l k j := by rw [hj]; exact slash_two hk2 hb2
        have KL := Lib.hid hLU
        have HSC := Lib.hid hs
        have HK := Lib.hid (show ∃ h : k < l.length, l[k].toNat = 47 ∧ ∃ h2 : k + 1 < l.length, l[k + 1].toNat = 47 from ⟨hk6, HB.out, hk2, hb2⟩)
        have hn2 : 4 * (l.length - j) + 1 < n := by omega
        have hjl := hs.le
        clear hL hLU hp hb2 hs hj HT hn1
        go_wp2_with (fail)
        go_step3
        go_wp2_with (fail)
        refine (took_comment l HS.out (f := k) j ln lb (by have := HSC.out.le; omega) (by omega) _ KL.out).mono ?_
        intro e w2 hT
        rcases hT with ⟨rfl, hL, hj1, hp⟩ | ⟨rfl, hL, hp⟩
        · have KN := Lib.hid hL.up
          have HN := Lib.hid (HSC.out.next hj1 hp)
          clear hL hp
          go_wp2_with (fail)
          go_step3
          exact ⟨4 * (l.length - (j + 1)) + 1, by omega, by decide, frame_at b, k, j + 1, k, ln, lb, v1, v2, l1, l2, KN.out, HA.out, rfl, rfl, HN.out, HK.out⟩
        · have KN := Lib.hid hL
          have HN := Lib.hid (comment_cut HA.out HSC.out HK.out.1 HK.out.2.1 HK.out.2.2.1 HK.out.2.2.2 hp)
          clear hL hp
          go_wp2_with (fail)
          go_step3
          exact ⟨4 * (l.length - j), by omega, by decide, frame_at b, j, j, k, ln, lb, v1, v2, l1, l2, KN.out, HN.out, rfl, rfl⟩
      · have KN := Lib.hid hL
        have HX := Lib.hid (slash_one hk6 HB.out hp)
        clear hL hp HT
        go_wp2_with (fail)
        go_step3
        exact ⟨4 * (l.length - (k + 1)) + 1, by omega, by decide, frame_at b, k, k + 1, k, ln, lb, v1, v2, l1, l2, KN.out, HA.out, rfl, rfl, rfl, hk6, by have := HB.out; omega, HX.out⟩
    | 7, _, hn, hM =>
      obtain ⟨rfl, rfl, hk, hb, hc⟩ := hM
      have hn1 : n = 4 * (l.length - (k + 1)) + 1 := hn
      have HX := Lib.hid (HA.out.cut hk hb (j := k + 1) (mo := 0) rfl hc)
      have HE := Lib.hid (reject_any (S := S) (k : Int) ((k + 1 : Nat) : Int) ln lb HA.out.lb0 HA.out.lb1 (by omega) hfew.2 8 w1 hL)
      clear hL hb hn hc
      refine ⟨_, rfl, ?_⟩
      go_wp2_with (fail)
      refine HE.out.mono ?_
      intro e w3 hr
      have K := Lib.hid (end_rej (ki := 0) (va := 0) (tx := (l.drop k).take (k + 1 - k)) (by decide) hr)
      obtain ⟨-, rfl, -⟩ := hr
      go_wp2_with (fail)
      go_step3
      obtain ⟨m, hm, hst⟩ := st_end (n := n) K.out HX.out (by omega)
      exact ⟨m, hm, by decide, frame_at b, hst⟩
    | 8, _, hn, hM =>
      obtain ⟨rfl, hs, hK⟩ := hM
      have hn1 : n = 4 * (l.length - j) + 1 := hn
      have hn2 : 4 * (l.length - j) + 1 ≤ n := by omega
      have HSC := Lib.hid hs
      have HK := Lib.hid hK
      have KL := Lib.hid hL
      have hjl := hs.le
      clear hL hn hs hK
      refine ⟨_, rfl, ?_⟩
      go_wp2_with (fail)
      refine (took_comment l HS.out (f := k) j ln lb (by have := HSC.out.le; omega) (by omega) _ KL.out).mono ?_
      intro e w2 hT
      rcases hT with ⟨rfl, hL, hj1, hp⟩ | ⟨rfl, hL, hp⟩
      · have KN := Lib.hid hL.up
        have HN := Lib.hid (HSC.out.next hj1 hp)
        clear hL hp
        go_wp2_with (fail)
        go_step3
        exact ⟨4 * (l.length - (j + 1)) + 1, by omega, by decide, frame_at b, k, j + 1, k, ln, lb, v1, v2, l1, l2, KN.out, HA.out, rfl, rfl, HN.out, HK.out⟩
      · have KN := Lib.hid hL
        have HN := Lib.hid (comment_cut HA.out HSC.out HK.out.1 HK.out.2.1 HK.out.2.2.1 HK.out.2.2.2 hp)
        clear hL hp
        go_wp2_with (fail)
        go_step3
        exact ⟨4 * (l.length - j), by omega, by decide, frame_at b, j, j, k, ln, lb, v1, v2, l1, l2, KN.out, HN.out, rfl, rfl⟩
end
end
section
open Go.ChangeShapes Go.WideShapes Go.ChangeAt Go.RowKit Go.Sort BigFrame

section
attribute [local irreducible] World.cell?
set_option maxRecDepth 100000 in
set_option maxHeartbeats 4000000 in
theorem lex_any (S : ByteArray) (l : List UInt8) (h : S.data.toList = l) (hl : l.length ≤ 20000) (w : World) : Calls Tryz.prog 33 #[.string S] w (LexSays l w) := by
  have hz : S.size = l.length := str_size h
  have hle : (S.size : Int) ≤ 33554432 := by omega
  have HSP := Lib.hid (fun v1 v2 u hu => split_any w w.heap.size S l h hl v1 v2 u hu)
  have HL := Lib.hid (show LxP w w.heap.size S 0 0 1 0 (.slice none 0 0) (.slice none 0 0) (.slice none 0 0) (.slice none 0 0) [] [] (w.alloc (.cells #[.string S, .int .i64 0, .int .i64 0, .int .i64 1, .int .i64 0, .slice none 0 0, .slice none 0 0] 116)) from
    ⟨(two_start w).next ((Made.refl w).alloc (Nat.le_refl _) _), heap_alloc_new w _, Nat.le_refl _⟩)
  clear h hz
  go_enter Tryz.func33, Tryz.ntmps33
  go_wp2_with (fail)
  refine (HSP.out _ _ _ HL.out).mono ?_
  rintro e w2 ⟨rfl, f, t, ln, lb, u1, u2, hL⟩
  obtain ⟨s1, c1, rfl, h1⟩ := hL.two.fst.recs tk_len (by decide)
  obtain ⟨s2, c2, rfl, h2⟩ := hL.two.snd.recs wr_len (by decide)
  obtain ⟨a0, a1, a2, a3, a4, a5, a6⟩ := lx_cells hL
  have H1 := Lib.hid h1
  have H2 := Lib.hid h2
  have HM := Lib.hid hL.made
  clear hL h1 h2 HSP HL
  go_wp2_with (fail)
  go_quiet (fail)
  go_wp2
  refine bodyPost_ret (v := .tuple #[.slice s1 (lexT l).length c1, .slice s2 (lexW l).length c2]) (by simp [results, Tryz.results33, go_sem]) rfl ?_
  exact ⟨s1, _, c1, s2, _, c2, rfl, rfl, rfl, toks_made H1.out (below_drewN (Made.refl _) _), wrs_made H2.out (below_drewN (Made.refl _) _), below_drewN HM.out _⟩
end
end
end Go.Proofs.YtnfmlmamgkpocaaGreatDoor
