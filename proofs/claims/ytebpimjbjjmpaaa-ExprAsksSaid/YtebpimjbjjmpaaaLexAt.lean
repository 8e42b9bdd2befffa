/- Where a scanner of package lex stands in a text, as plain data: what has been told, what is to come; no condition but those named. -/
import Derived.Test.YtebpimjbjjmpaaaLexFns2
import Derived.Test.YtebpimjbjjmpaaaLexSay
namespace Go.Proofs.Ytebpimjbjjmpaaa

/-- What one cut leaves: a token, or what is wrong. -/
def cutK (ki va er : Int) (tx : List UInt8) (ln col : Int) : List Tk := if er = 0 ∧ ki ≠ 0 then [⟨ki, tx, va, ln, col⟩] else []
def cutW (er : Int) (ln col : Int) : List Wr := if er = 0 then [] else [⟨ln, col, er⟩]
/-- The scanner stands at byte k: line ln, which begins at byte lb; l1 and l2 have been told. -/
structure At (l : List UInt8) (k : Nat) (ln lb : Int) (l1 : List Tk) (l2 : List Wr) : Prop where
  le : k ≤ l.length
  lb0 : 0 ≤ lb
  lb1 : lb ≤ k
  ln0 : 1 ≤ ln
  ln1 : ln ≤ k + 1
  run : ∃ m2, l2 = m2.take 100 ∧ lxRun 1 1 l = (l1 ++ (lxRun ln (k - lb + 1) (l.drop k)).1, m2 ++ (lxRun ln (k - lb + 1) (l.drop k)).2)
theorem at_start (l : List UInt8) : At l 0 1 0 [] [] := ⟨Nat.zero_le _, Int.le_refl _, Int.le_refl _, Int.le_refl _, by omega, [], rfl, rfl⟩
section
variable {l : List UInt8} {k : Nat} {ln lb : Int} {l1 : List Tk} {l2 : List Wr}
theorem At.few (h : At l k ln lb l1 l2) : l1.length ≤ l.length + 1 ∧ l2.length ≤ 100 := by
  obtain ⟨m2, e, hr⟩ := h.run
  have h1 := (run_few l.length l (Nat.le_refl _) 1 1).1
  rw [hr, List.length_append] at h1
  refine ⟨by omega, ?_⟩
  rw [e, List.length_take]
  omega
theorem At.done (h : At l l.length ln lb l1 l2) : lexT l = l1 ++ [lxEnd ln (l.length - lb + 1)] ∧ lexW l = l2 := by
  obtain ⟨m2, e, hr⟩ := h.run
  rw [List.drop_length, lxRun_nil] at hr
  unfold lexT lexW
  rw [hr, e]
  exact ⟨rfl, by rw [List.append_nil]⟩
theorem At.lf (h : At l k ln lb l1 l2) (hk : k < l.length) (hb : l[k].toNat = 10) : At l (k + 1) (ln + 1) ((k : Int) + 1) (l1 ++ [lxEnd ln (k - lb + 1)]) l2 := by
  obtain ⟨m2, e, hr⟩ := h.run
  have h0 := h.ln0
  have h1 := h.ln1
  refine ⟨hk, by omega, by omega, by omega, by omega, m2, e, ?_⟩
  rw [hr, List.drop_eq_getElem_cons hk, lxRun_lf _ _ hb, show ((k + 1 : Nat) : Int) - ((k : Int) + 1) + 1 = 1 by omega]
  simp only [List.append_assoc, List.cons_append, List.nil_append]
theorem take_app {α : Type} (m x : List α) (n : Nat) : (m.take n ++ x).take n = (m ++ x).take n := by
  rcases Nat.lt_or_ge m.length n with h | h
  · rw [List.take_of_length_le (Nat.le_of_lt h)]
  · rw [List.take_append_of_le_length (by rw [List.length_take]; omega), List.take_append_of_le_length h, List.take_take, Nat.min_self]
theorem At.cut (h : At l k ln lb l1 l2) (hk : k < l.length) (hb : l[k].toNat ≠ 10) {j mo : Nat} {ki va er : Int} (hj : j = k + 1 + mo) (hc : lxCut l[k] (l.drop (k + 1)) = ⟨mo, ki, va, er⟩) :
    At l j ln lb (l1 ++ cutK ki va er ((l.drop k).take (j - k)) ln (k - lb + 1)) ((l2 ++ cutW er ln (k - lb + 1)).take 100) := by
  obtain ⟨m2, e, hr⟩ := h.run
  have h1 := h.ln1
  have h2 := h.lb1
  have hle := cut_le l[k] (l.drop (k + 1))
  rw [hc, List.length_drop] at hle
  have hle2 : mo ≤ l.length - (k + 1) := hle
  refine ⟨by omega, h.lb0, by omega, h.ln0, by omega, m2 ++ cutW er ln (k - lb + 1), ?_, ?_⟩
  · rw [e, take_app]
  · have hd : l.drop k = l[k] :: l.drop (k + 1) := List.drop_eq_getElem_cons hk
    have e1 : lxTok l[k] (l.drop (k + 1)) ln (k - lb + 1) = cutK ki va er ((l.drop k).take (j - k)) ln (k - lb + 1) := by
      unfold lxTok cutK
      rw [hc, hd, show j - k = mo + 1 by omega]
    have e2 : lxBad l[k] (l.drop (k + 1)) ln (k - lb + 1) = cutW er ln (k - lb + 1) := by
      unfold lxBad cutW
      rw [hc]
    rw [hr]
    rw [hd, lxRun_cut _ _ hb, hc, e1, e2, hd]
    rw [List.drop_drop, show k + 1 + mo = j by omega, show ((k : Int) - lb + 1) + (mo : Nat) + 1 = (j : Int) - lb + 1 by omega]
    simp only [List.append_assoc]
theorem At.skip (h : At l k ln lb l1 l2) (hk : k < l.length) (hb : l[k].toNat ≠ 10) {j mo : Nat} {va : Int} (hj : j = k + 1 + mo) (hc : lxCut l[k] (l.drop (k + 1)) = ⟨mo, 0, va, 0⟩) : At l j ln lb l1 l2 := by
  have h1 := h.cut hk hb hj hc
  have h2 := h.few.2
  unfold cutK cutW at h1
  rw [if_neg (fun h => h.2 rfl), if_pos rfl, List.append_nil, List.append_nil, List.take_of_length_le h2] at h1
  exact h1
end
/-! What one byte begins. -/
theorem byte_excl (b : UInt8) : (isBeg b = true → isBlk b = false ∧ b.toNat ≠ 10) ∧ (isDig b = true → isBlk b = false ∧ isBeg b = false ∧ b.toNat ≠ 10) ∧ (isSin b = true → isBlk b = false ∧ isBeg b = false ∧ isDig b = false ∧ b.toNat ≠ 47 ∧ b.toNat ≠ 35 ∧ b.toNat ≠ 10) ∧
    (b.toNat = 35 → isBlk b = false ∧ isBeg b = false ∧ isDig b = false) ∧ (b.toNat = 47 → isBlk b = false ∧ isBeg b = false ∧ isDig b = false ∧ isSin b = false) ∧ (isBlk b = true → b.toNat ≠ 10) := by
  have := all_bytes (p := fun b => decide ((isBeg b = true → isBlk b = false ∧ b.toNat ≠ 10) ∧ (isDig b = true → isBlk b = false ∧ isBeg b = false ∧ b.toNat ≠ 10) ∧ (isSin b = true → isBlk b = false ∧ isBeg b = false ∧ isDig b = false ∧ b.toNat ≠ 47 ∧ b.toNat ≠ 35 ∧ b.toNat ≠ 10) ∧
    (b.toNat = 35 → isBlk b = false ∧ isBeg b = false ∧ isDig b = false) ∧ (b.toNat = 47 → isBlk b = false ∧ isBeg b = false ∧ isDig b = false ∧ isSin b = false) ∧ (isBlk b = true → b.toNat ≠ 10))) (by decide +kernel) b
  exact of_decide_eq_true this
section
variable (b : UInt8) (r : List UInt8)
theorem cut_def : lxCut b r = if isBlk b then ⟨0, 0, 0, 0⟩
  else if isBeg b then ⟨(r.takeWhile isNam).length, 1, 0, if 32 < (r.takeWhile isNam).length + 1 then 3 else 0⟩
  else if isDig b then ⟨(r.takeWhile isWrd).length, 2, lxNum (b :: r.takeWhile isWrd), if lxNum (b :: r.takeWhile isWrd) = -1 then 8 else if lxNum (b :: r.takeWhile isWrd) = -2 then 6 else 0⟩
  else if b.toNat = 47 ∧ (r.head?.map UInt8.toNat) = some 47 then ⟨(r.takeWhile notLf).length, 0, 0, 0⟩
  else if b.toNat = 35 ∧ (r.head?.map UInt8.toNat) = some 35 then ⟨1, 3, 0, 0⟩
  else if isSgn b then ⟨0, 3, 0, 0⟩
  else ⟨0, 0, 0, 8⟩ := rfl
theorem cut_blk (h : isBlk b = true) : lxCut b r = ⟨0, 0, 0, 0⟩ := by rw [cut_def, if_pos h]
theorem cut_beg (h : isBeg b = true) : lxCut b r = ⟨(r.takeWhile isNam).length, 1, 0, if 32 < (r.takeWhile isNam).length + 1 then 3 else 0⟩ := by
  have h1 := (byte_excl b).1 h
  rw [cut_def, if_neg (by rw [h1.1]; simp), if_pos h]
theorem cut_dig (h : isDig b = true) : lxCut b r = ⟨(r.takeWhile isWrd).length, 2, lxNum (b :: r.takeWhile isWrd), if lxNum (b :: r.takeWhile isWrd) = -1 then 8 else if lxNum (b :: r.takeWhile isWrd) = -2 then 6 else 0⟩ := by
  have h1 := (byte_excl b).2.1 h
  rw [cut_def, if_neg (by rw [h1.1]; simp), if_neg (by rw [h1.2.1]; simp), if_pos h]
theorem cut_sin (h : isSin b = true) : lxCut b r = ⟨0, 3, 0, 0⟩ := by
  have h1 := (byte_excl b).2.2.1 h
  rw [cut_def, if_neg (by rw [h1.1]; simp), if_neg (by rw [h1.2.1]; simp), if_neg (by rw [h1.2.2.1]; simp), if_neg (fun h => h1.2.2.2.1 h.1), if_neg (fun h => h1.2.2.2.2.1 h.1), if_pos (by rw [sgn_sin, h]; rfl)]
theorem cut_hash (h : b.toNat = 35) : lxCut b r = if (r.head?.map UInt8.toNat) = some 35 then ⟨1, 3, 0, 0⟩ else ⟨0, 3, 0, 0⟩ := by
  have h1 := (byte_excl b).2.2.2.1 h
  rw [cut_def, if_neg (by rw [h1.1]; simp), if_neg (by rw [h1.2.1]; simp), if_neg (by rw [h1.2.2]; simp), if_neg (fun h2 => by have := h2.1; omega)]
  by_cases h3 : (r.head?.map UInt8.toNat) = some 35
  · rw [if_pos ⟨h, h3⟩, if_pos h3]
  · rw [if_neg (fun h2 => h3 h2.2), if_neg h3, if_pos (by rw [sgn_sin, decide_eq_true h, Bool.or_true])]
theorem cut_slash (h : b.toNat = 47) : lxCut b r = if (r.head?.map UInt8.toNat) = some 47 then ⟨(r.takeWhile notLf).length, 0, 0, 0⟩ else ⟨0, 0, 0, 8⟩ := by
  have h1 := (byte_excl b).2.2.2.2.1 h
  rw [cut_def, if_neg (by rw [h1.1]; simp), if_neg (by rw [h1.2.1]; simp), if_neg (by rw [h1.2.2.1]; simp)]
  by_cases h3 : (r.head?.map UInt8.toNat) = some 47
  · rw [if_pos ⟨h, h3⟩, if_pos h3]
  · rw [if_neg (fun h2 => h3 h2.2), if_neg h3, if_neg (fun h2 => by have := h2.1; omega), if_neg (by rw [sgn_sin, h1.2.2.2, decide_eq_false (by omega)]; simp)]
theorem cut_wrong (h1 : isBlk b = false) (h2 : isBeg b = false) (h3 : isDig b = false) (h4 : isSin b = false) (h5 : b.toNat ≠ 35) (h6 : b.toNat ≠ 47) : lxCut b r = ⟨0, 0, 0, 8⟩ := by
  rw [cut_def, if_neg (by rw [h1]; simp), if_neg (by rw [h2]; simp), if_neg (by rw [h3]; simp), if_neg (fun h => h6 h.1), if_neg (fun h => h5 h.1), if_neg (by rw [sgn_sin, h4, decide_eq_false h5]; simp)]
end
/-! A word as far as it has been read. -/
/-- From byte k on, which began it, the bytes up to j are p's. -/
structure Scan (p : UInt8 → Bool) (l : List UInt8) (k j : Nat) : Prop where
  lt : k < j
  le : j ≤ l.length
  all : ∀ i (h : i < l.length), k < i → i < j → p l[i] = true
section
variable {p : UInt8 → Bool} {l : List UInt8} {k j : Nat}
theorem scan_one (h : k < l.length) : Scan p l k (k + 1) := ⟨Nat.lt_succ_self k, h, fun i _ h1 h2 => by omega⟩
theorem Scan.next (h : Scan p l k j) (hj : j < l.length) (hp : p l[j] = true) : Scan p l k (j + 1) := ⟨Nat.lt_succ_of_lt h.lt, hj, fun i hi h1 h2 => by
  rcases Nat.lt_or_ge i j with h3 | h3
  · exact h.all i hi h1 h3
  · obtain rfl : i = j := by omega
    exact hp⟩
theorem Scan.stop (h : Scan p l k j) (hs : ∀ h : j < l.length, p l[j] = false) : ((l.drop (k + 1)).takeWhile p).length = j - k - 1 := by
  have h1 := h.lt
  have h2 := h.le
  refine take_found p (l.drop (k + 1)) (j - k - 1) (fun i hi hij => ?_) (by rw [List.length_drop]; omega) (fun hi => ?_)
  · rw [List.length_drop] at hi
    rw [List.getElem_drop]
    exact h.all (k + 1 + i) (by omega) (by omega) (by omega)
  · rw [List.length_drop] at hi
    rw [List.getElem_drop]
    have e : k + 1 + (j - k - 1) = j := by omega
    have := hs (by omega)
    simpa only [e] using this
theorem Scan.text (h : Scan p l k j) (hs : ∀ h : j < l.length, p l[j] = false) (hk : k < l.length) : (l.drop k).take (j - k) = l[k] :: (l.drop (k + 1)).takeWhile p := by
  have h1 := h.stop hs
  have h2 := h.lt
  rw [List.drop_eq_getElem_cons hk, show j - k = ((l.drop (k + 1)).takeWhile p).length + 1 by omega, List.take_succ_cons, take_pre]
theorem head_at (h : k < l.length) (n : Nat) : ((l.drop k).head?.map UInt8.toNat) = some n ↔ l[k].toNat = n := by
  rw [List.drop_eq_getElem_cons h, List.head?_cons, Option.map_some]
  exact ⟨Option.some.inj, fun h => by rw [h]⟩
theorem head_none (h : l.length ≤ k) (n : Nat) : ((l.drop k).head?.map UInt8.toNat) ≠ some n := by
  rw [List.drop_eq_nil_of_le h]
  simp
end
end Go.Proofs.Ytebpimjbjjmpaaa
