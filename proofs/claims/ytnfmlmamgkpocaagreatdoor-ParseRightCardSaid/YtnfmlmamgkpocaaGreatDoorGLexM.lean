/- A text cut into tokens, as plain data: what one begins with, the run over the whole text; no condition but those named. · A text's tokens, written out with blanks between, are cut into the same tokens, as plain data; no condition. · Where a text's tokens and what is wrong stand, as plain data; no condition but those named. · Values of digits, as plain data: digit by digit, with what is too great marked; no condition but those named. · Rows of structs in memory, for any struct that is s cells, each told by a function f; rows of a call's own; no condition but those named. · Tokens and what is wrong in memory; what Split of package lex, and the document's, tells; no condition. · A scope whose run jumps to any of several labels: what holds at each, with a number that each pass lowers; no condition but those named. -/
import Derived.Test.YtnfmlmamgkpocaaGreatDoorGBase
import Derived.ScopeJumps
namespace Go.Proofs.YtnfmlmamgkpocaaGreatDoor
section

def isLet (b : UInt8) : Bool := (decide (97 ≤ b.toNat) && decide (b.toNat ≤ 122)) || (decide (65 ≤ b.toNat) && decide (b.toNat ≤ 90)) || decide (b.toNat = 95)
def isDig (b : UInt8) : Bool := decide (48 ≤ b.toNat) && decide (b.toNat ≤ 57)
def isWrd (b : UInt8) : Bool := isLet b || isDig b
def isNam (b : UInt8) : Bool := isLet b || isDig b || decide (b.toNat = 46)
def isBlk (b : UInt8) : Bool := decide (b.toNat = 32) || decide (b.toNat = 9) || decide (b.toNat = 13)
/-- { } ; : ( ) , = + - * ! # -/
def isSgn (b : UInt8) : Bool := [123, 125, 59, 58, 40, 41, 44, 61, 43, 45, 42, 33, 35].contains b.toNat
def notLf (b : UInt8) : Bool := decide (b.toNat ≠ 10)
def hexZ (b : UInt8) : Int := if 48 ≤ b.toNat ∧ b.toNat ≤ 57 then (b.toNat : Int) - 48 else if 97 ≤ b.toNat ∧ b.toNat ≤ 102 then (b.toNat : Int) - 87 else if 65 ≤ b.toNat ∧ b.toNat ≤ 70 then (b.toNat : Int) - 55 else -1
/-- The value of digits by a base, behind v. -/
def lxVal (base : Int) : List UInt8 → Int → Int
  | [], v => v
  | b :: r, v => lxVal base r (v * base + hexZ b)
def lxDig (base : Int) (b : UInt8) : Bool := decide (0 ≤ hexZ b) && decide (hexZ b < base)
/-- -1: not digits; -2: too great. -/
def lxWord (base : Int) (l : List UInt8) : Int := if l = [] ∨ l.all (lxDig base) = false then -1 else if lxVal base l 0 > 1099511627776 then -2 else lxVal base l 0
def lxNum : List UInt8 → Int
  | [] => lxWord 10 []
  | [a] => lxWord 10 [a]
  | a :: x :: r => if a.toNat = 48 ∧ (x.toNat = 120 ∨ x.toNat = 88) then lxWord 16 r else lxWord 10 (a :: x :: r)
/-- What a text begins with: how many bytes more than one, its kind (0: no token), its value, what is wrong. -/
structure Cut where
  more : Nat
  kind : Int
  v : Int
  e : Int
def lxCut (b : UInt8) (r : List UInt8) : Cut :=
  if isBlk b then ⟨0, 0, 0, 0⟩
  else if isLet b || decide (b.toNat = 46) then ⟨(r.takeWhile isNam).length, 1, 0, if 32 < (r.takeWhile isNam).length + 1 then 3 else 0⟩
  else if isDig b then ⟨(r.takeWhile isWrd).length, 2, lxNum (b :: r.takeWhile isWrd), if lxNum (b :: r.takeWhile isWrd) = -1 then 8 else if lxNum (b :: r.takeWhile isWrd) = -2 then 6 else 0⟩
  else if b.toNat = 47 ∧ (r.head?.map UInt8.toNat) = some 47 then ⟨(r.takeWhile notLf).length, 0, 0, 0⟩
  else if b.toNat = 35 ∧ (r.head?.map UInt8.toNat) = some 35 then ⟨1, 3, 0, 0⟩
  else if isSgn b then ⟨0, 3, 0, 0⟩
  else ⟨0, 0, 0, 8⟩
/-- A token, and what is wrong. -/
structure Tk where
  kind : Int
  text : List UInt8
  v : Int
  line : Int
  col : Int
  deriving DecidableEq
structure Wr where
  line : Int
  col : Int
  code : Int
  deriving DecidableEq
def lxTok (b : UInt8) (r : List UInt8) (line col : Int) : List Tk := if (lxCut b r).e = 0 ∧ (lxCut b r).kind ≠ 0 then [⟨(lxCut b r).kind, (b :: r).take ((lxCut b r).more + 1), (lxCut b r).v, line, col⟩] else []
def lxBad (b : UInt8) (r : List UInt8) (line col : Int) : List Wr := if (lxCut b r).e = 0 then [] else [⟨line, col, (lxCut b r).e⟩]
def lxEnd (line col : Int) : Tk := ⟨4, [], 0, line, col⟩
def lxRunF : Nat → Int → Int → List UInt8 → List Tk × List Wr
  | _, line, col, [] => ([lxEnd line col], [])
  | 0, _, _, _ :: _ => ([], [])
  | n + 1, line, col, b :: r =>
    if b.toNat = 10 then (lxEnd line col :: (lxRunF n (line + 1) 1 r).1, (lxRunF n (line + 1) 1 r).2)
    else (lxTok b r line col ++ (lxRunF n line (col + ((lxCut b r).more : Nat) + 1) (r.drop (lxCut b r).more)).1, lxBad b r line col ++ (lxRunF n line (col + ((lxCut b r).more : Nat) + 1) (r.drop (lxCut b r).more)).2)
/-- The tokens, and what is wrong, of a text that begins at a place. -/
def lxRun (line col : Int) (l : List UInt8) : List Tk × List Wr := lxRunF l.length line col l
theorem runF_nil (n : Nat) (line col : Int) : lxRunF n line col [] = ([lxEnd line col], []) := by cases n <;> rfl
theorem runF_more : ∀ (n m : Nat) (l : List UInt8) (line col : Int), l.length ≤ n → l.length ≤ m → lxRunF n line col l = lxRunF m line col l
  | n, m, [], line, col, _, _ => by rw [runF_nil, runF_nil]
  | 0, _, b :: r, _, _, h, _ => by simp at h
  | _ + 1, 0, b :: r, _, _, _, h => by simp at h
  | n + 1, m + 1, b :: r, line, col, h, h2 => by
    rw [List.length_cons] at h h2
    show (if b.toNat = 10 then _ else _) = (if b.toNat = 10 then _ else _)
    rw [runF_more n m r (line + 1) 1 (by omega) (by omega), runF_more n m (r.drop (lxCut b r).more) line _ (by rw [List.length_drop]; omega) (by rw [List.length_drop]; omega)]
theorem lxRun_nil (line col : Int) : lxRun line col [] = ([lxEnd line col], []) := rfl
theorem lxRun_lf (line col : Int) {b : UInt8} (h : b.toNat = 10) (r : List UInt8) : lxRun line col (b :: r) = (lxEnd line col :: (lxRun (line + 1) 1 r).1, (lxRun (line + 1) 1 r).2) := by
  show (if b.toNat = 10 then _ else _) = _
  rw [if_pos h]
  rfl
theorem lxRun_cut (line col : Int) {b : UInt8} (h : b.toNat ≠ 10) (r : List UInt8) : lxRun line col (b :: r) = (lxTok b r line col ++ (lxRun line (col + ((lxCut b r).more : Nat) + 1) (r.drop (lxCut b r).more)).1, lxBad b r line col ++ (lxRun line (col + ((lxCut b r).more : Nat) + 1) (r.drop (lxCut b r).more)).2) := by
  show (if b.toNat = 10 then _ else _) = _
  rw [if_neg h]
  unfold lxRun
  rw [runF_more r.length (r.drop (lxCut b r).more).length _ line _ (by rw [List.length_drop]; omega) (Nat.le_refl _)]
/-! Words end at a byte that is none of theirs. -/
theorem take_stop (p : UInt8 → Bool) (x : UInt8) (hx : p x = false) : ∀ (r t : List UInt8), (r ++ x :: t).takeWhile p = r.takeWhile p
  | [], t => by rw [List.nil_append, List.takeWhile_cons, hx]; rfl
  | a :: r, t => by
    rw [List.cons_append, List.takeWhile_cons, List.takeWhile_cons, take_stop p x hx r t]
theorem take_le (p : UInt8 → Bool) : ∀ r : List UInt8, (r.takeWhile p).length ≤ r.length
  | [] => Nat.le_refl _
  | a :: r => by
    rw [List.takeWhile_cons]
    have := take_le p r
    split
    · rw [List.length_cons, List.length_cons]; omega
    · exact Nat.zero_le _
theorem take_pre (p : UInt8 → Bool) : ∀ r : List UInt8, r.take (r.takeWhile p).length = r.takeWhile p
  | [] => rfl
  | a :: r => by
    rw [List.takeWhile_cons]
    split
    · rw [List.length_cons, List.take_succ_cons, take_pre p r]
    · rfl
theorem take_all (p : UInt8 → Bool) : ∀ r : List UInt8, ∀ b ∈ r.takeWhile p, p b = true
  | [], b, h => by cases h
  | a :: r, b, h => by
    rw [List.takeWhile_cons] at h
    by_cases ha : p a = true
    · rw [if_pos ha] at h
      rcases List.mem_cons.1 h with rfl | h
      · exact ha
      · exact take_all p r b h
    · rw [if_neg ha] at h
      cases h
/-- What a walk over a word finds. -/
theorem take_found (p : UInt8 → Bool) : ∀ (r : List UInt8) (k : Nat), (∀ j (h : j < r.length), j < k → p r[j] = true) → k ≤ r.length → (∀ h : k < r.length, p r[k] = false) → (r.takeWhile p).length = k
  | [], k, _, hk, _ => by
    obtain rfl : k = 0 := by simpa using hk
    rfl
  | a :: r, 0, _, _, h => by
    have : p a = false := h (by simp)
    rw [List.takeWhile_cons, this]
    rfl
  | a :: r, k + 1, h1, hk, h => by
    have : p a = true := h1 0 (by simp) (by omega)
    rw [List.takeWhile_cons, this, if_pos rfl, List.length_cons, take_found p r k (fun j hj hjk => by
      have h4 := h1 (j + 1) (by simpa using hj) (by omega)
      rwa [List.getElem_cons_succ] at h4) (by simpa using hk) (fun hlt => by
      have h4 := h (by simpa using hlt)
      rwa [List.getElem_cons_succ] at h4)]
theorem cut_le (b : UInt8) (r : List UInt8) : (lxCut b r).more ≤ r.length := by
  have h1 := take_le isNam r
  have h2 := take_le isWrd r
  have h3 := take_le notLf r
  unfold lxCut
  split
  · exact Nat.zero_le _
  split
  · exact h1
  split
  · exact h2
  split
  · exact h3
  split
  case isTrue h =>
    cases r with
    | nil => cases h.2
    | cons a t => show 1 ≤ t.length + 1; omega
  split <;> exact Nat.zero_le _
/-- A line's end ends whatever stands ahead. -/
theorem cut_app {x : UInt8} (hx : x.toNat = 10) (b : UInt8) (r t : List UInt8) : lxCut b (r ++ x :: t) = lxCut b r := by
  have p1 : isNam x = false := by unfold isNam isLet isDig; rw [hx]; rfl
  have p2 : isWrd x = false := by unfold isWrd isLet isDig; rw [hx]; rfl
  have p3 : notLf x = false := by unfold notLf; rw [hx]; rfl
  have hh : ∀ n : Nat, n ≠ 10 → (((r ++ x :: t).head?.map UInt8.toNat) = some n ↔ (r.head?.map UInt8.toNat) = some n) := by
    intro n hn
    cases r with
    | nil =>
      show (some x.toNat = some n) ↔ none = some n
      rw [hx]
      simp
      omega
    | cons a r => exact Iff.rfl
  unfold lxCut
  rw [take_stop isNam x p1, take_stop isWrd x p2, take_stop notLf x p3]
  simp only [hh 47 (by decide), hh 35 (by decide)]
/-! Two texts, one behind the other with a line's end between. -/
def lfs (l : List UInt8) : Nat := l.countP (fun b => decide (b.toNat = 10))
theorem drop_nolf {b : UInt8} {r : List UInt8} (hb : b.toNat ≠ 10) : lfs (r.drop (lxCut b r).more) = lfs (b :: r) := by
  have e : lfs (b :: r) = lfs r := by
    unfold lfs
    rw [List.countP_cons, decide_eq_false hb]
    rfl
  rw [e]
  have key : ∀ n, (∀ y ∈ r.take n, y.toNat ≠ 10) → lfs (r.drop n) = lfs r := by
    intro n h
    have h2 : lfs r = lfs (r.take n) + lfs (r.drop n) := by
      unfold lfs
      rw [← List.countP_append, List.take_append_drop]
    have h3 : lfs (r.take n) = 0 := by
      unfold lfs
      rw [List.countP_eq_zero]
      intro y hy
      simpa using h y hy
    omega
  have hw : ∀ p : UInt8 → Bool, (∀ y, y.toNat = 10 → p y = false) → ∀ y ∈ r.take (r.takeWhile p).length, y.toNat ≠ 10 := by
    intro p hp y hy he
    rw [take_pre] at hy
    have := take_all p r y hy
    rw [hp y he] at this
    cases this
  unfold lxCut
  split
  · rfl
  split
  · exact key _ (hw isNam fun y he => by unfold isNam isLet isDig; rw [he]; rfl)
  split
  · exact key _ (hw isWrd fun y he => by unfold isWrd isLet isDig; rw [he]; rfl)
  split
  · exact key _ (hw notLf fun y he => by unfold notLf; rw [he]; rfl)
  split
  case isTrue h =>
    refine key 1 fun y hy he => ?_
    cases r with
    | nil => cases hy
    | cons a t =>
      have h4 : a.toNat = 35 := by simpa using h.2
      have h5 : y = a := by simpa using hy
      rw [h5] at he
      omega
  split <;> rfl
theorem run_app_lf {x : UInt8} (hx : x.toNat = 10) (t : List UInt8) : ∀ (n : Nat) (l : List UInt8) (line col : Int), l.length ≤ n →
    lxRun line col (l ++ x :: t) = ((lxRun line col l).1 ++ (lxRun (line + (lfs l : Nat) + 1) 1 t).1, (lxRun line col l).2 ++ (lxRun (line + (lfs l : Nat) + 1) 1 t).2)
  | _, [], line, col, _ => by
    rw [List.nil_append, lxRun_lf _ _ hx, lxRun_nil, show line + (lfs [] : Nat) + 1 = line + 1 by simp [lfs]]
    rfl
  | 0, b :: r, _, _, h => by simp at h
  | n + 1, b :: r, line, col, h => by
    rw [List.length_cons] at h
    rw [List.cons_append]
    by_cases hb : b.toNat = 10
    · rw [lxRun_lf _ _ hb, lxRun_lf _ _ hb, run_app_lf hx t n r (line + 1) 1 (by omega)]
      have e : lfs (b :: r) = lfs r + 1 := by
        unfold lfs
        rw [List.countP_cons, decide_eq_true hb]
        rfl
      rw [e, show line + ((lfs r + 1 : Nat) : Int) + 1 = line + 1 + (lfs r : Nat) + 1 by omega]
      rfl
    · have hle := cut_le b r
      rw [lxRun_cut _ _ hb, lxRun_cut _ _ hb, cut_app hx, List.drop_append_of_le_length hle, run_app_lf hx t n _ line _ (by rw [List.length_drop]; omega), drop_nolf hb]
      have e1 : lxTok b (r ++ x :: t) line col = lxTok b r line col := by
        unfold lxTok
        rw [cut_app hx, ← List.cons_append, List.take_append_of_le_length (by rw [List.length_cons]; omega)]
      have e2 : lxBad b (r ++ x :: t) line col = lxBad b r line col := by
        unfold lxBad
        rw [cut_app hx]
      rw [e1, e2]
      simp only [List.append_assoc]
end
section

theorem take_idem (p : UInt8 → Bool) : ∀ l : List UInt8, (∀ b ∈ l, p b = true) → l.takeWhile p = l
  | [], _ => rfl
  | a :: l, h => by
    rw [List.takeWhile_cons, h a (List.mem_cons_self ..), if_pos rfl, take_idem p l (fun b hb => h b (List.mem_cons_of_mem _ hb))]
theorem cut_kind (b : UInt8) (r : List UInt8) : 0 ≤ (lxCut b r).kind ∧ (lxCut b r).kind ≤ 3 := by
  unfold lxCut
  repeat' split
  all_goals simp
/-- What a token's text begins with, a blank behind it. -/
theorem cut_again {b : UInt8} {r : List UInt8} (he : (lxCut b r).e = 0) (hk : (lxCut b r).kind ≠ 0) {x : UInt8} (hx : x.toNat = 32) (t : List UInt8) : lxCut b (r.take (lxCut b r).more ++ x :: t) = lxCut b r := by
  have p1 : isNam x = false := by unfold isNam isLet isDig; rw [hx]; rfl
  have p2 : isWrd x = false := by unfold isWrd isLet isDig; rw [hx]; rfl
  have w1 : ∀ p : UInt8 → Bool, p x = false → (r.take (r.takeWhile p).length ++ x :: t).takeWhile p = r.takeWhile p := fun p hp => by
    rw [take_stop p x hp, take_pre, take_idem p _ (take_all p r)]
  by_cases h1 : isBlk b = true
  · exact absurd (show (lxCut b r).kind = 0 by unfold lxCut; rw [if_pos h1]) hk
  by_cases h2 : (isLet b || decide (b.toNat = 46)) = true
  · have e : lxCut b r = ⟨(r.takeWhile isNam).length, 1, 0, if 32 < (r.takeWhile isNam).length + 1 then 3 else 0⟩ := by unfold lxCut; rw [if_neg h1, if_pos h2]
    rw [e]
    show lxCut b (r.take (r.takeWhile isNam).length ++ x :: t) = _
    unfold lxCut
    rw [if_neg h1, if_pos h2, w1 isNam p1]
  by_cases h3 : isDig b = true
  · have e : lxCut b r = ⟨(r.takeWhile isWrd).length, 2, lxNum (b :: r.takeWhile isWrd), if lxNum (b :: r.takeWhile isWrd) = -1 then 8 else if lxNum (b :: r.takeWhile isWrd) = -2 then 6 else 0⟩ := by unfold lxCut; rw [if_neg h1, if_neg h2, if_pos h3]
    rw [e]
    show lxCut b (r.take (r.takeWhile isWrd).length ++ x :: t) = _
    unfold lxCut
    rw [if_neg h1, if_neg h2, if_pos h3, w1 isWrd p2]
  by_cases h4 : b.toNat = 47 ∧ (r.head?.map UInt8.toNat) = some 47
  · exact absurd (show (lxCut b r).kind = 0 by unfold lxCut; rw [if_neg h1, if_neg h2, if_neg h3, if_pos h4]) hk
  by_cases h5 : b.toNat = 35 ∧ (r.head?.map UInt8.toNat) = some 35
  · have e : lxCut b r = ⟨1, 3, 0, 0⟩ := by unfold lxCut; rw [if_neg h1, if_neg h2, if_neg h3, if_neg h4, if_pos h5]
    rw [e]
    show lxCut b (r.take 1 ++ x :: t) = _
    cases r with
    | nil => cases h5.2
    | cons a r =>
      unfold lxCut
      rw [if_neg h1, if_neg h2, if_neg h3, if_neg (fun h => by have h6 := h.1; have h7 := h5.1; omega), if_pos ⟨h5.1, h5.2⟩]
  have h6 : isSgn b = true := by
    by_cases h6 : isSgn b = true
    · exact h6
    · exact absurd he (by unfold lxCut; rw [if_neg h1, if_neg h2, if_neg h3, if_neg h4, if_neg h5, if_neg h6]; decide)
  have e : lxCut b r = ⟨0, 3, 0, 0⟩ := by unfold lxCut; rw [if_neg h1, if_neg h2, if_neg h3, if_neg h4, if_neg h5, if_pos h6]
  rw [e]
  show lxCut b (x :: t) = _
  have hh : ∀ n : Nat, n ≠ 32 → ((x :: t).head?.map UInt8.toNat) ≠ some n := fun n hn h => by
    have : some x.toNat = some n := h
    rw [hx] at this
    exact hn (Option.some.inj this).symm
  unfold lxCut
  rw [if_neg h1, if_neg h2, if_neg h3, if_neg (fun h => hh 47 (by decide) h.2), if_neg (fun h => hh 35 (by decide) h.2), if_pos h6]
/-- The text that is written. -/
def oneB (t : Tk) : List UInt8 := if t.kind = 4 then [10] else t.text ++ [32]
def backL : List Tk → List UInt8
  | [] => []
  | [t] => if t.kind = 4 then [] else t.text ++ [32]
  | t :: u :: r => oneB t ++ backL (u :: r)
theorem back_cons (t : Tk) {r : List Tk} (h : r ≠ []) : backL (t :: r) = oneB t ++ backL r := by
  cases r with
  | nil => exact absurd rfl h
  | cons u r => rfl
theorem run_ne : ∀ (n : Nat) (l : List UInt8), l.length ≤ n → ∀ line col : Int, (lxRun line col l).1 ≠ []
  | _, [], _, line, col => by rw [lxRun_nil]; simp
  | 0, b :: r, h, _, _ => by simp at h
  | n + 1, b :: r, h, line, col => by
    rw [List.length_cons] at h
    by_cases hb : b.toNat = 10
    · rw [lxRun_lf _ _ hb]; simp
    · rw [lxRun_cut _ _ hb]
      intro h2
      exact run_ne n (r.drop (lxCut b r).more) (by rw [List.length_drop]; omega) _ _ (List.append_eq_nil_iff.1 h2).2
def uncol (t : Tk) : Tk := { t with col := 0 }
theorem run_back : ∀ (n : Nat) (l : List UInt8), l.length ≤ n → ∀ line col c : Int, (lxRun line c (backL (lxRun line col l).1)).1.map uncol = (lxRun line col l).1.map uncol ∧ (lxRun line c (backL (lxRun line col l).1)).2 = []
  | _, [], _, line, col, c => by
    rw [lxRun_nil]
    show (lxRun line c []).1.map uncol = _ ∧ (lxRun line c []).2 = []
    rw [lxRun_nil]
    exact ⟨rfl, rfl⟩
  | 0, b :: r, h, _, _, _ => by simp at h
  | n + 1, b :: r, h, line, col, c => by
    rw [List.length_cons] at h
    by_cases hb : b.toNat = 10
    · rw [lxRun_lf _ _ hb]
      have hne := run_ne r.length r (Nat.le_refl _) (line + 1) 1
      obtain ⟨i1, i2⟩ := run_back n r (by omega) (line + 1) 1 1
      simp only []
      rw [back_cons _ hne]
      show (lxRun line c (10 :: backL (lxRun (line + 1) 1 r).1)).1.map uncol = _ ∧ (lxRun line c (10 :: backL (lxRun (line + 1) 1 r).1)).2 = []
      rw [lxRun_lf _ _ (b := 10) rfl]
      refine ⟨?_, i2⟩
      rw [List.map_cons, List.map_cons, i1]
      rfl
    · rw [lxRun_cut _ _ hb]
      have hle := cut_le b r
      generalize hcol : col + ((lxCut b r).more : Nat) + 1 = col2
      have hne := run_ne (r.drop (lxCut b r).more).length (r.drop (lxCut b r).more) (Nat.le_refl _) line col2
      have ih := fun c => run_back n (r.drop (lxCut b r).more) (by rw [List.length_drop]; omega) line col2 c
      simp only []
      generalize (lxRun line col2 (r.drop (lxCut b r).more)).1 = T at *
      unfold lxTok
      by_cases hk : (lxCut b r).e = 0 ∧ (lxCut b r).kind ≠ 0
      · rw [if_pos hk, List.singleton_append, back_cons _ hne]
        have hk4 : (lxCut b r).kind ≠ 4 := by
          have := cut_kind b r
          omega
        have eo : oneB ⟨(lxCut b r).kind, (b :: r).take ((lxCut b r).more + 1), (lxCut b r).v, line, col⟩ ++ backL T = b :: (r.take (lxCut b r).more ++ 32 :: backL T) := by
          unfold oneB
          rw [if_neg hk4, List.take_succ_cons]
          simp
        rw [eo, lxRun_cut _ _ hb, cut_again hk.1 hk.2 (x := 32) rfl]
        have e1 : lxTok b (r.take (lxCut b r).more ++ 32 :: backL T) line c = [⟨(lxCut b r).kind, (b :: r).take ((lxCut b r).more + 1), (lxCut b r).v, line, c⟩] := by
          unfold lxTok
          rw [cut_again hk.1 hk.2 (x := 32) rfl, if_pos hk, List.take_succ_cons, List.take_succ_cons, List.take_append_of_le_length (by rw [List.length_take]; omega), List.take_take, Nat.min_self]
        have e2 : lxBad b (r.take (lxCut b r).more ++ 32 :: backL T) line c = [] := by
          unfold lxBad
          rw [cut_again hk.1 hk.2 (x := 32) rfl, if_pos hk.1]
        have e3 : (r.take (lxCut b r).more ++ 32 :: backL T).drop (lxCut b r).more = 32 :: backL T := by
          rw [List.drop_append_of_le_length (by rw [List.length_take]; omega), List.drop_eq_nil_of_le (by rw [List.length_take]; omega)]
          rfl
        rw [e1, e2, e3, lxRun_cut _ _ (b := 32) (by decide)]
        obtain ⟨i1, i2⟩ := ih (c + ((lxCut b r).more : Nat) + 1 + ((lxCut 32 (backL T)).more : Nat) + 1)
        have d1 : lxCut 32 (backL T) = ⟨0, 0, 0, 0⟩ := rfl
        have d2 : lxTok 32 (backL T) line (c + ((lxCut b r).more : Nat) + 1) = [] := rfl
        have d3 : lxBad 32 (backL T) line (c + ((lxCut b r).more : Nat) + 1) = [] := rfl
        rw [d2, d3]
        have d4 : (backL T).drop (lxCut 32 (backL T)).more = backL T := rfl
        rw [d4]
        refine ⟨?_, i2⟩
        simp only [List.nil_append, List.singleton_append, List.map_cons, i1]
        rfl
      · rw [if_neg hk]
        exact ih c
/-! The lines counted on. -/
def onLine (k : Int) (t : Tk) : Tk := { t with line := t.line + k }
theorem run_shift (k : Int) : ∀ (n : Nat) (l : List UInt8), l.length ≤ n → ∀ line col : Int, (lxRun (line + k) col l).1 = (lxRun line col l).1.map (onLine k)
  | _, [], _, line, col => by
    rw [lxRun_nil, lxRun_nil]
    rfl
  | 0, b :: r, h, _, _ => by simp at h
  | n + 1, b :: r, h, line, col => by
    rw [List.length_cons] at h
    by_cases hb : b.toNat = 10
    · rw [lxRun_lf _ _ hb, lxRun_lf _ _ hb]
      have ih := run_shift k n r (by omega) (line + 1) 1
      simp only []
      rw [show line + k + 1 = line + 1 + k by omega, ih]
      rfl
    · rw [lxRun_cut _ _ hb, lxRun_cut _ _ hb]
      simp only []
      rw [run_shift k n (r.drop (lxCut b r).more) (by rw [List.length_drop]; omega) line, List.map_append]
      congr 1
      unfold lxTok
      split <;> rfl
theorem run_ends : ∀ (n : Nat) (l : List UInt8), l.length ≤ n → ∀ line col : Int, (lxRun line col l).1.countP (fun t => decide (t.kind = 4)) = lfs l + 1
  | _, [], _, line, col => by
    rw [lxRun_nil]
    rfl
  | 0, b :: r, h, _, _ => by simp at h
  | n + 1, b :: r, h, line, col => by
    rw [List.length_cons] at h
    by_cases hb : b.toNat = 10
    · rw [lxRun_lf _ _ hb]
      simp only []
      rw [List.countP_cons, run_ends n r (by omega)]
      unfold lfs
      rw [List.countP_cons, decide_eq_true hb]
      rfl
    · rw [lxRun_cut _ _ hb]
      simp only []
      rw [List.countP_append, run_ends n (r.drop (lxCut b r).more) (by rw [List.length_drop]; omega), drop_nolf hb]
      have h0 : (lxTok b r line col).countP (fun t => decide (t.kind = 4)) = 0 := by
        have hk4 : (lxCut b r).kind ≠ 4 := by
          have := cut_kind b r
          omega
        unfold lxTok
        split
        · rw [List.countP_cons, List.countP_nil, decide_eq_false hk4]
          rfl
        · rfl
      omega
end
section

/-- Where lines begin, but for the first. -/
def fromsN : List UInt8 → Nat → List Nat
  | [], _ => []
  | b :: r, p => if b.toNat = 10 then (p + 1) :: fromsN r (p + 1) else fromsN r (p + 1)
def fromsL (s : List UInt8) : List Nat := 0 :: fromsN s 0
theorem froms_app : ∀ (a b : List UInt8) (p : Nat), fromsN (a ++ b) p = fromsN a p ++ fromsN b (p + a.length)
  | [], b, p => rfl
  | x :: a, b, p => by
    have e : fromsN (x :: (a ++ b)) p = (if x.toNat = 10 then (p + 1) :: fromsN (a ++ b) (p + 1) else fromsN (a ++ b) (p + 1)) := rfl
    have e2 : fromsN (x :: a) p = (if x.toNat = 10 then (p + 1) :: fromsN a (p + 1) else fromsN a (p + 1)) := rfl
    rw [List.cons_append, e, e2, froms_app a b (p + 1), List.length_cons, show p + 1 + a.length = p + (a.length + 1) by omega]
    split <;> rfl
theorem froms_len : ∀ (s : List UInt8) (p : Nat), (fromsN s p).length = lfs s
  | [], p => rfl
  | x :: a, p => by
    have e2 : fromsN (x :: a) p = (if x.toNat = 10 then (p + 1) :: fromsN a (p + 1) else fromsN a (p + 1)) := rfl
    have e3 : lfs (x :: a) = lfs a + if x.toNat = 10 then 1 else 0 := by
      unfold lfs
      rw [List.countP_cons]
      simp
    rw [e2, e3]
    split
    · rw [List.length_cons, froms_len a (p + 1)]
    · rw [froms_len a (p + 1)]; rfl
/-- The place of a byte, or of the text's end. -/
structure AtP (s : List UInt8) (p : Nat) (line col : Int) : Prop where
  line_ : line = (lfs (s.take p) : Nat) + 1
  col_ : ∃ f : Nat, (fromsL s)[lfs (s.take p)]? = some f ∧ (f : Int) + col - 1 = p
  one : 1 ≤ col
theorem at_begin (s : List UInt8) : AtP s 0 1 1 := ⟨rfl, ⟨0, rfl, rfl⟩, Int.le_refl _⟩
theorem lfs_app (a b : List UInt8) : lfs (a ++ b) = lfs a + lfs b := List.countP_append
theorem at_cut {s : List UInt8} {p n : Nat} {line col : Int} (h : AtP s p line col) (hn : lfs (s.take (p + n)) = lfs (s.take p)) : AtP s (p + n) line (col + (n : Nat)) := by
  obtain ⟨f, h1, h2⟩ := h.col_
  have h3 := h.one
  exact ⟨by rw [hn]; exact h.line_, ⟨f, by rw [hn]; exact h1, by omega⟩, by omega⟩
theorem at_lf {s : List UInt8} {p : Nat} {line col : Int} (h : AtP s p line col) (hp : p < s.length) (hb : s[p].toNat = 10) : AtP s (p + 1) (line + 1) 1 := by
  have e : s.take (p + 1) = s.take p ++ [s[p]] := List.take_succ_eq_append_getElem hp
  have el : lfs (s.take (p + 1)) = lfs (s.take p) + 1 := by
    rw [e, lfs_app]
    unfold lfs
    rw [List.countP_cons, decide_eq_true hb]
    rfl
  refine ⟨by rw [el, h.line_]; omega, ⟨p + 1, ?_, by omega⟩, Int.le_refl _⟩
  rw [el]
  show (fromsN s 0)[lfs (s.take p)]? = some (p + 1)
  have e2 : s = s.take p ++ (s[p] :: s.drop (p + 1)) := by rw [← List.drop_eq_getElem_cons hp, List.take_append_drop]
  have e3 : fromsN s 0 = fromsN (s.take p) 0 ++ (p + 1) :: fromsN (s.drop (p + 1)) (p + 1) := by
    have h4 : fromsN s 0 = fromsN (s.take p ++ (s[p] :: s.drop (p + 1))) 0 := by rw [← e2]
    rw [h4, froms_app, List.length_take, Nat.zero_add, show min p s.length = p by omega]
    congr 1
    show (if s[p].toNat = 10 then (p + 1) :: fromsN (s.drop (p + 1)) (p + 1) else fromsN (s.drop (p + 1)) (p + 1)) = _
    rw [if_pos hb]
  rw [e3, List.getElem?_append_right (by rw [froms_len]; exact Nat.le_refl _), froms_len, Nat.sub_self]
  rfl
theorem at_line {s : List UInt8} {p : Nat} {line col : Int} (h : AtP s p line col) : 1 ≤ line ∧ line ≤ ((fromsL s).length : Nat) := by
  have h1 := h.line_
  obtain ⟨f, h2, -⟩ := h.col_
  have h3 : lfs (s.take p) < (fromsL s).length := by
    by_cases hc : lfs (s.take p) < (fromsL s).length
    · exact hc
    · rw [List.getElem?_eq_none (by omega)] at h2
      cases h2
  omega
/-- Tokens one behind the other, from p on. -/
def PlacedT (s : List UInt8) : Nat → List Tk → Prop
  | _, [] => True
  | p, t :: r => ∃ q : Nat, p ≤ q ∧ AtP s q t.line t.col ∧ q + t.text.length ≤ s.length ∧ (s.drop q).take t.text.length = t.text ∧ (t.text = [] ↔ t.kind = 4) ∧ (t.kind = 4 → ∀ h : q < s.length, s[q].toNat = 10) ∧ PlacedT s (q + t.text.length) r
theorem placedT_mono {s : List UInt8} : ∀ {p q : Nat} {l : List Tk}, p ≤ q → PlacedT s q l → PlacedT s p l
  | _, _, [], _, _ => trivial
  | _, _, _ :: _, h, ⟨q, h1, h2⟩ => ⟨q, Nat.le_trans h h1, h2⟩
/-- What is wrong, one behind the other. -/
def PlacedW (s : List UInt8) : Nat → List Wr → Prop
  | _, [] => True
  | p, t :: r => ∃ q : Nat, p ≤ q ∧ AtP s q t.line t.col ∧ q < s.length ∧ (t.code = 3 ∨ t.code = 6 ∨ t.code = 8) ∧ PlacedW s (q + 1) r
theorem placedW_mono {s : List UInt8} : ∀ {p q : Nat} {l : List Wr}, p ≤ q → PlacedW s q l → PlacedW s p l
  | _, _, [], _, _ => trivial
  | _, _, _ :: _, h, ⟨q, h1, h2⟩ => ⟨q, Nat.le_trans h h1, h2⟩
theorem placedW_take {s : List UInt8} : ∀ {p : Nat} {l : List Wr} (n : Nat), PlacedW s p l → PlacedW s p (l.take n)
  | _, [], n, _ => by rw [List.take_nil]; trivial
  | _, t :: r, 0, _ => trivial
  | _, t :: r, n + 1, ⟨q, h1, h2, h3, h4, h5⟩ => ⟨q, h1, h2, h3, h4, placedW_take n h5⟩
theorem cut_code (b : UInt8) (r : List UInt8) : (lxCut b r).e = 0 ∨ (lxCut b r).e = 3 ∨ (lxCut b r).e = 6 ∨ (lxCut b r).e = 8 := by
  unfold lxCut
  repeat' split
  all_goals simp
theorem run_placed {s : List UInt8} : ∀ (n : Nat) (l : List UInt8) (p : Nat) (line col : Int), l.length ≤ n → s.drop p = l → p ≤ s.length → AtP s p line col → PlacedT s p (lxRun line col l).1 ∧ PlacedW s p (lxRun line col l).2
  | _, [], p, line, col, _, hd, hp, ha => by
    rw [lxRun_nil]
    have hps : p = s.length := by
      have := List.drop_eq_nil_iff.1 hd
      omega
    exact ⟨⟨p, Nat.le_refl _, ha, by rw [hps]; exact Nat.le_refl _, rfl, ⟨fun _ => rfl, fun _ => rfl⟩, fun _ h => absurd h (by omega), trivial⟩, trivial⟩
  | 0, b :: r, _, _, _, h, _, _, _ => by simp at h
  | n + 1, b :: r, p, line, col, h, hd, hp, ha => by
    rw [List.length_cons] at h
    have hlen : (s.drop p).length = r.length + 1 := by rw [hd, List.length_cons]
    rw [List.length_drop] at hlen
    have hps : p < s.length := by omega
    have hsp : s[p] = b ∧ s.drop (p + 1) = r := by
      rw [List.drop_eq_getElem_cons hps] at hd
      exact List.cons.inj hd
    by_cases hb : b.toNat = 10
    · rw [lxRun_lf _ _ hb]
      obtain ⟨i1, i2⟩ := run_placed n r (p + 1) (line + 1) 1 (by omega) hsp.2 (by omega) (at_lf ha hps (by rw [hsp.1]; exact hb))
      exact ⟨⟨p, Nat.le_refl _, ha, by show p + 0 ≤ _; omega, rfl, ⟨fun _ => rfl, fun _ => rfl⟩, fun _ _ => by rw [hsp.1]; exact hb, placedT_mono (by show p + 0 ≤ p + 1; omega) i1⟩, placedW_mono (by omega) i2⟩
    · rw [lxRun_cut _ _ hb]
      have hle := cut_le b r
      have hdr : s.drop (p + ((lxCut b r).more + 1)) = r.drop (lxCut b r).more := by
        obtain ⟨m, hm⟩ : ∃ m, m = (lxCut b r).more := ⟨_, rfl⟩
        rw [← hm, ← hsp.2, List.drop_drop, show p + 1 + m = p + (m + 1) by omega]
      have hlf : lfs (s.take (p + ((lxCut b r).more + 1))) = lfs (s.take p) := by
        have e1 : lfs s = lfs (s.take (p + ((lxCut b r).more + 1))) + lfs (r.drop (lxCut b r).more) := by rw [← hdr, ← lfs_app, List.take_append_drop]
        have e2 : lfs s = lfs (s.take p) + lfs (b :: r) := by rw [← hd, ← lfs_app, List.take_append_drop]
        have e3 := drop_nolf (r := r) hb
        omega
      have ha2 := at_cut ha hlf
      rw [show col + (((lxCut b r).more + 1 : Nat) : Int) = col + ((lxCut b r).more : Nat) + 1 by omega] at ha2
      obtain ⟨i1, i2⟩ := run_placed n (r.drop (lxCut b r).more) (p + ((lxCut b r).more + 1)) line _ (by rw [List.length_drop]; omega) hdr (by omega) ha2
      constructor
      · unfold lxTok
        by_cases hk : (lxCut b r).e = 0 ∧ (lxCut b r).kind ≠ 0
        · rw [if_pos hk, List.singleton_append]
          have htl : ((b :: r).take ((lxCut b r).more + 1)).length = (lxCut b r).more + 1 := by rw [List.length_take, List.length_cons]; omega
          have hk3 := cut_kind b r
          refine ⟨p, Nat.le_refl _, ha, ?_, ?_, ⟨fun h0 => ?_, fun h0 => ?_⟩, fun h0 => ?_, ?_⟩
          · show p + ((b :: r).take ((lxCut b r).more + 1)).length ≤ _
            rw [htl]; omega
          · show (s.drop p).take ((b :: r).take ((lxCut b r).more + 1)).length = (b :: r).take ((lxCut b r).more + 1)
            rw [htl, hd]
          · have h0' : (b :: r).take ((lxCut b r).more + 1) = [] := h0
            rw [h0'] at htl
            cases htl
          · have h0' : (lxCut b r).kind = 4 := h0
            omega
          · have h0' : (lxCut b r).kind = 4 := h0
            omega
          · show PlacedT s (p + ((b :: r).take ((lxCut b r).more + 1)).length) _
            rw [htl]
            exact i1
        · rw [if_neg hk, List.nil_append]
          exact placedT_mono (by omega) i1
      · unfold lxBad
        by_cases he : (lxCut b r).e = 0
        · rw [if_pos he, List.nil_append]
          exact placedW_mono (by omega) i2
        · rw [if_neg he, List.singleton_append]
          exact ⟨p, Nat.le_refl _, ha, hps, (cut_code b r).resolve_left he, placedW_mono (by omega) i2⟩
/-- Of a whole text. -/
def lexT (s : List UInt8) : List Tk := (lxRun 1 1 s).1
def lexW (s : List UInt8) : List Wr := (lxRun 1 1 s).2.take 100
theorem lex_placed (s : List UInt8) : PlacedT s 0 (lexT s) ∧ PlacedW s 0 (lexW s) := by
  obtain ⟨h1, h2⟩ := run_placed s.length s 0 1 1 (Nat.le_refl _) rfl (Nat.zero_le _) (at_begin s)
  exact ⟨h1, placedW_take 100 h2⟩
theorem lex_ends (s : List UInt8) : (lexT s).countP (fun t => decide (t.kind = 4)) = (fromsL s).length := by
  show (lxRun 1 1 s).1.countP _ = _
  rw [run_ends s.length s (Nat.le_refl _)]
  show _ = (fromsN s 0).length + 1
  rw [froms_len]
end
section

/-- A digit's value by a base; -1: none. -/
def digZ (base : Int) (b : UInt8) : Int := if lxDig base b then hexZ b else -1
theorem dig_iff (base : Int) (b : UInt8) : lxDig base b = true ↔ 0 ≤ hexZ b ∧ hexZ b < base := by
  unfold lxDig
  simp
theorem val_mono {base : Int} (hb : 1 ≤ base) : ∀ (l : List UInt8) (v : Int), 0 ≤ v → l.all (lxDig base) = true → v ≤ lxVal base l v
  | [], v, _, _ => Int.le_refl _
  | b :: r, v, hv, h => by
    rw [List.all_cons, Bool.and_eq_true] at h
    obtain ⟨h0, -⟩ := (dig_iff base b).1 h.1
    have h1 : v ≤ v * base := by
      have := Int.mul_le_mul_of_nonneg_left hb hv
      rwa [Int.mul_one] at this
    have h2 := val_mono hb r (v * base + hexZ b) (by omega) h.2
    show v ≤ lxVal base r (v * base + hexZ b)
    omega
/-- What stands behind the first k digits: the value as far as it is not too great, and whether it is. -/
structure ValAt (base : Int) (l : List UInt8) (k : Nat) (v : Int) (great : Bool) : Prop where
  digits : (l.take k).all (lxDig base) = true
  low : 0 ≤ v
  max : v ≤ 1099511627776
  fine : great = false → v = lxVal base (l.take k) 0
  much : great = true → 1099511627776 < lxVal base (l.take k) 0
theorem valAt_begin (base : Int) (l : List UInt8) : ValAt base l 0 0 false := ⟨rfl, Int.le_refl _, by omega, fun _ => rfl, fun h => by cases h⟩
theorem val_app (base : Int) : ∀ (a b : List UInt8) (v : Int), lxVal base (a ++ b) v = lxVal base b (lxVal base a v)
  | [], _, _ => rfl
  | _ :: a, b, _ => val_app base a b _
theorem val_next {base : Int} {l : List UInt8} {k : Nat} (h : k < l.length) (b : UInt8) (hb : l[k] = b) : lxVal base (l.take (k + 1)) 0 = lxVal base (l.take k) 0 * base + hexZ b := by
  rw [List.take_succ_eq_append_getElem h, val_app, hb]
  rfl
theorem valAt_next {base : Int} (hb : 1 ≤ base) {l : List UInt8} {k : Nat} {v : Int} {great : Bool} (h : ValAt base l k v great) (hk : k < l.length) (b : UInt8) (hlb : l[k] = b) (hd : lxDig base b = true) :
    (v * base + hexZ b ≤ 1099511627776 → ValAt base l (k + 1) (v * base + hexZ b) great) ∧ (1099511627776 < v * base + hexZ b → ValAt base l (k + 1) 0 true) := by
  obtain ⟨h0, h1⟩ := (dig_iff base b).1 hd
  have hds : (l.take (k + 1)).all (lxDig base) = true := by
    rw [List.take_succ_eq_append_getElem hk, List.all_append, h.digits, hlb, List.all_cons, hd]
    rfl
  have hn := val_next (base := base) hk b hlb
  have hv0 : 0 ≤ v * base := Int.mul_nonneg h.low (by omega)
  have hfine : great = false → lxVal base (l.take (k + 1)) 0 = v * base + hexZ b := fun hg => by rw [hn, ← h.fine hg]
  have hmuch : great = true → 1099511627776 < lxVal base (l.take (k + 1)) 0 := fun hg => by
    have h2 := h.much hg
    have h3 : lxVal base (l.take k) 0 ≤ lxVal base (l.take k) 0 * base := by
      have := Int.mul_le_mul_of_nonneg_left hb (show 0 ≤ lxVal base (l.take k) 0 by omega)
      rwa [Int.mul_one] at this
    omega
  refine ⟨fun hle => ⟨hds, by omega, hle, fun hg => (hfine hg).symm, hmuch⟩, fun hgt => ⟨hds, Int.le_refl _, by omega, fun hg => (by cases hg), fun _ => ?_⟩⟩
  cases great with
  | true => exact hmuch rfl
  | false => rw [hfine rfl]; exact hgt
/-- A byte that is no digit. -/
theorem word_bad {base : Int} {l : List UInt8} {k : Nat} (hk : k < l.length) (b : UInt8) (hb : l[k] = b) (hd : lxDig base b = false) : lxWord base l = -1 := by
  have h : l.all (lxDig base) = false := List.all_eq_false.2 ⟨b, hb ▸ List.getElem_mem hk, by rw [hd]; simp⟩
  unfold lxWord
  rw [if_pos (.inr h)]
theorem word_all {base : Int} {l : List UInt8} {v : Int} {great : Bool} (hne : l ≠ []) (h : ValAt base l l.length v great) : lxWord base l = if great = true then -2 else v := by
  have hd := h.digits
  have hf := h.fine
  have hm := h.much
  rw [List.take_length] at hd hf hm
  unfold lxWord
  rw [if_neg (by rw [hd]; simp [hne])]
  cases great with
  | true => rw [if_pos (hm rfl), if_pos rfl]
  | false =>
    have hx := h.max
    rw [← hf rfl, if_neg (by omega), if_neg (by simp)]
theorem word_nil (base : Int) : lxWord base [] = -1 := by
  unfold lxWord
  rw [if_pos (.inl rfl)]
/-- What number: the base by the first two bytes. -/
theorem num_hex {a x : UInt8} {r : List UInt8} (h : a.toNat = 48) (hx : x.toNat = 120 ∨ x.toNat = 88) : lxNum (a :: x :: r) = lxWord 16 r := by
  show (if a.toNat = 48 ∧ (x.toNat = 120 ∨ x.toNat = 88) then _ else _) = _
  rw [if_pos ⟨h, hx⟩]
theorem num_dec {l : List UInt8} (h : ∀ a x r, l = a :: x :: r → ¬ (a.toNat = 48 ∧ (x.toNat = 120 ∨ x.toNat = 88))) : lxNum l = lxWord 10 l := by
  match l, h with
  | [], _ => rfl
  | [a], _ => rfl
  | a :: x :: r, h =>
    show (if a.toNat = 48 ∧ (x.toNat = 120 ∨ x.toNat = 88) then _ else _) = _
    rw [if_neg (h a x r rfl)]
end
section
open Go.ChangeShapes Go.WideShapes Go.ChangeAt Go.RowKit Go.Sort BigFrame

section
variable {α : Type} {f : α → List Value} {s : Nat}
theorem flat_len' (hf : ∀ x, (f x).length = s) : ∀ l : List α, (l.flatMap f).length = l.length * s
  | [] => by simp
  | x :: l => by
    have := flat_len' hf l
    rw [List.flatMap_cons, List.length_append, hf, this, List.length_cons, Nat.add_mul, Nat.one_mul, Nat.add_comm]
theorem flat_at' (hf : ∀ x, (f x).length = s) : ∀ (l : List α) (t r : Nat) (h : t < l.length), r < s → (l.flatMap f)[t * s + r]? = (f l[t])[r]?
  | x :: l, 0, r, _, hr => by
    rw [List.flatMap_cons, Nat.zero_mul, Nat.zero_add, List.getElem_cons_zero, List.getElem?_append_left (by rw [hf]; exact hr)]
  | x :: l, t + 1, r, h, hr => by
    have ih := flat_at' hf l t r (by simpa using h) hr
    have e : (t + 1) * s + r = s + (t * s + r) := by rw [Nat.add_mul, Nat.one_mul]; omega
    rw [List.flatMap_cons, List.getElem_cons_succ, List.getElem?_append_right (by rw [hf, e]; exact Nat.le_add_right _ _), hf, e, Nat.add_sub_cancel_left]
    exact ih
/-- Structs in memory, wherever they lie. -/
structure Recs (f : α → List Value) (s : Nat) (w : World) (ao : Option Addr) (cap : Nat) (l : List α) : Prop where
  room : l.length ≤ cap
  max : cap ≤ maxLen
  cell : ∀ t (h : t < l.length), ∃ b o, ao = some ⟨b, o, none⟩ ∧ ∀ r, r < s → w.cell? ⟨b, o + t * s + r, none⟩ = (f l[t])[r]?
theorem Recs.made {w w' : World} {ao : Option Addr} {cap : Nat} {l : List α} (hf : ∀ x, (f x).length = s) (h : Recs f s w ao cap l) (hm : Made w w') : Recs f s w' ao cap l :=
  ⟨h.room, h.max, fun t ht => by
    obtain ⟨b, o, e, hcell⟩ := h.cell t ht
    refine ⟨b, o, e, fun r hr => ?_⟩
    have h1 := hcell r hr
    have h2 : r < (f l[t]).length := by rw [hf]; exact hr
    rw [List.getElem?_eq_getElem h2] at h1 ⊢
    exact (World.cell?_of_block (hm.block b (World.block_lt_of_cell? w _ h1))).trans h1⟩
theorem recs_none (w : World) : Recs f s w none 0 ([] : List α) := ⟨Nat.le_refl _, Nat.zero_le _, fun t ht => absurd ht (Nat.not_lt_zero t)⟩
theorem recs_first {w : World} {ao : Option Addr} {cap : Nat} {l : List α} (h : Recs f s w ao cap l) (k : Nat) : Recs f s w ao cap (l.take k) :=
  ⟨by rw [List.length_take]; have := h.room; omega, h.max, fun t ht => by
    rw [List.length_take] at ht
    obtain ⟨b, o, e, hc⟩ := h.cell t (by omega)
    exact ⟨b, o, e, fun r hr => by rw [hc r hr, List.getElem_take]⟩⟩
theorem owns_recs {w : World} {B : Nat} {T : TypeId} {v : Value} {n : Nat} {l : List α} (hf : ∀ x, (f x).length = s) (hs : 0 < s) (h : w.ownsRow B T s v n (l.flatMap f)) : l.length = n ∧ ∃ so cap, v = .slice so n cap ∧ Recs f s w so cap l := by
  have hl : l.length = n := by
    have := h.1
    rw [flat_len' hf] at this
    exact Nat.eq_of_mul_eq_mul_right hs this
  refine ⟨hl, ?_⟩
  rcases h.2 with ⟨rfl, rfl⟩ | ⟨g, cap, cur, rfl, _, hg, hn, hm, _⟩
  · obtain rfl := List.eq_nil_of_length_eq_zero hl
    exact ⟨none, 0, rfl, recs_none w⟩
  · refine ⟨_, cap, rfl, by omega, hm, fun t ht => ⟨g, 0, rfl, fun r hr => ?_⟩⟩
    rw [Nat.zero_add]
    refine (h.cellAt (t * s + r) ?_).trans (flat_at' hf l t r ht hr)
    have h2 : (t + 1) * s ≤ n * s := Nat.mul_le_mul_right s (by omega)
    rw [Nat.add_mul, Nat.one_mul] at h2
    omega
/-- What lies in memory, as the cells that an append asks for. -/
theorem recs_olds {w : World} {ao : Option Addr} {cap : Nat} {l : List α} (hf : ∀ x, (f x).length = s) (hs : 0 < s) (h : Recs f s w ao cap l) : ∀ ad, ao = some ad → ∀ j u, (l.flatMap f)[j]? = some u → w.cell? (ad.add j) = some u := by
  intro ad had j u hu
  have hj : j < l.length * s := by
    have := (List.getElem?_eq_some_iff.1 hu).1
    rwa [flat_len' hf] at this
  have ht : j / s < l.length := Nat.div_lt_of_lt_mul (by rwa [Nat.mul_comm] at hj)
  obtain ⟨b, o, e, hc⟩ := h.cell (j / s) ht
  obtain rfl := Option.some.inj (had.symm.trans e)
  have hr : j % s < s := Nat.mod_lt _ hs
  have h1 := hc (j % s) hr
  have h2 := flat_at' hf l (j / s) (j % s) ht hr
  have e2 : j / s * s + j % s = j := Nat.div_add_mod' j s
  rw [e2] at h2
  rw [add_plain, show o + j = o + j / s * s + j % s by rw [Nat.add_assoc, e2], h1, ← h2]
  exact hu
/-- Structs written out in a block. -/
theorem recs_lit {w : World} {b n : Nat} {l : List α} {T : TypeId} (hf : ∀ x, (f x).length = s) (h : w.heap[b]? = some (.cells (l.flatMap f).toArray T (0, 0))) (hn : l.length = n) (hl : n ≤ 1000) : Recs f s w (some ⟨b, 0, none⟩) n l := by
  refine ⟨by omega, by unfold maxLen; omega, fun t ht => ⟨b, 0, rfl, fun r hr => ?_⟩⟩
  rw [Nat.zero_add, cell_of_lit h]
  exact flat_at' hf l t r ht hr
/-- A row of the call's own, in blocks from B on. -/
structure Grows (f : α → List Value) (s : Nat) (T : TypeId) (W : World) (B : Nat) (v : Value) (l : List α) (w : World) : Prop where
  made : Made W w
  low : W.heap.size ≤ B
  row : w.ownsRow B T s v l.length (l.flatMap f)
theorem grows_nil {T : TypeId} {W w : World} {B : Nat} (h : Made W w) (hB : W.heap.size ≤ B) : Grows f s T W B (.slice none 0 0) [] w := ⟨h, hB, by refine ⟨by simp, .inl ⟨rfl, rfl⟩⟩⟩
theorem Grows.next {T : TypeId} {W w w' : World} {B : Nat} {v : Value} {l : List α} (h : Grows f s T W B v l w) (hm : Made w w') : Grows f s T W B v l w' := ⟨Made.trans h.made hm, h.low, owns_made h.row hm⟩
theorem Grows.recs {T : TypeId} {W w : World} {B : Nat} {v : Value} {l : List α} (hf : ∀ x, (f x).length = s) (hs : 0 < s) (h : Grows f s T W B v l w) : ∃ so c, v = .slice so l.length c ∧ Recs f s w so c l := (owns_recs hf hs h.row).2
theorem Grows.more {T : TypeId} {W w w1 : World} {B : Nat} {v v1 : Value} {l l2 : List α} {n : Nat} (h : Grows f s T W B v l w) (hn : l.length + l2.length = n) (own : w1.ownsRow B T s v1 n (l.flatMap f ++ l2.flatMap f)) (gr : w.grownBy w1 v.ownBlock) : Grows f s T W B v1 (l ++ l2) w1 := by
  refine ⟨Below.grown h.made gr h.made.size (fun t ht => Nat.le_trans h.low (h.row.lt t ht).1), h.low, ?_⟩
  rw [List.flatMap_append, List.length_append, hn]
  exact own
end
end
section
open Go.ChangeShapes Go.WideShapes Go.ChangeAt Go.RowKit Go.Sort BigFrame

abbrev strOf (l : List UInt8) : ByteArray := ⟨l.toArray⟩
abbrev Tk.cells (t : Tk) : List Value := [.int .u8 t.kind, .string (strOf t.text), .int .i64 t.v, .int .i64 t.line, .int .i64 t.col]
abbrev Tk.val (t : Tk) : Value := .agg #[.int .u8 t.kind, .string (strOf t.text), .int .i64 t.v, .int .i64 t.line, .int .i64 t.col]
abbrev Wr.cells (t : Wr) : List Value := [.int .i64 t.line, .int .i64 t.col, .int .i64 t.code]
abbrev Wr.val (t : Wr) : Value := .agg #[.int .i64 t.line, .int .i64 t.col, .int .i64 t.code]
theorem tk_len (t : Tk) : t.cells.length = 5 := rfl
theorem wr_len (t : Wr) : t.cells.length = 3 := rfl
abbrev Toks (w : World) (ao : Option Addr) (cap : Nat) (l : List Tk) : Prop := Recs Tk.cells 5 w ao cap l
abbrev Wrs (w : World) (ao : Option Addr) (cap : Nat) (l : List Wr) : Prop := Recs Wr.cells 3 w ao cap l
theorem toks_made {w w' : World} {ao : Option Addr} {cap : Nat} {l : List Tk} (h : Toks w ao cap l) (hm : Made w w') : Toks w' ao cap l := h.made tk_len hm
theorem wrs_made {w w' : World} {ao : Option Addr} {cap : Nat} {l : List Wr} (h : Wrs w ao cap l) (hm : Made w w') : Wrs w' ao cap l := h.made wr_len hm
theorem toks_cells {w : World} {ao : Option Addr} {cap : Nat} {l : List Tk} (h : Toks w ao cap l) {t : Nat} (ht : t < l.length) (x : Tk) (hx : l[t] = x) : ∃ b o, ao = some ⟨b, o, none⟩ ∧
    w.cell? ⟨b, o + t * 5, none⟩ = some (.int .u8 x.kind) ∧ w.cell? ⟨b, o + t * 5 + 1, none⟩ = some (.string (strOf x.text)) ∧ w.cell? ⟨b, o + t * 5 + 2, none⟩ = some (.int .i64 x.v) ∧
    w.cell? ⟨b, o + t * 5 + 3, none⟩ = some (.int .i64 x.line) ∧ w.cell? ⟨b, o + t * 5 + 4, none⟩ = some (.int .i64 x.col) := by
  subst hx
  obtain ⟨b, o, e, hc⟩ := h.cell t ht
  exact ⟨b, o, e, hc 0 (by omega), hc 1 (by omega), hc 2 (by omega), hc 3 (by omega), hc 4 (by omega)⟩
theorem wrs_cells {w : World} {ao : Option Addr} {cap : Nat} {l : List Wr} (h : Wrs w ao cap l) {t : Nat} (ht : t < l.length) (x : Wr) (hx : l[t] = x) : ∃ b o, ao = some ⟨b, o, none⟩ ∧
    w.cell? ⟨b, o + t * 3, none⟩ = some (.int .i64 x.line) ∧ w.cell? ⟨b, o + t * 3 + 1, none⟩ = some (.int .i64 x.col) ∧ w.cell? ⟨b, o + t * 3 + 2, none⟩ = some (.int .i64 x.code) := by
  subst hx
  obtain ⟨b, o, e, hc⟩ := h.cell t ht
  exact ⟨b, o, e, hc 0 (by omega), hc 1 (by omega), hc 2 (by omega)⟩
/-- There are at most as many tokens as bytes, and one. -/
theorem run_few : ∀ (n : Nat) (l : List UInt8), l.length ≤ n → ∀ line col : Int, (lxRun line col l).1.length ≤ l.length + 1 ∧ (lxRun line col l).2.length ≤ l.length
  | _, [], _, line, col => ⟨Nat.le_refl _, Nat.le_refl _⟩
  | 0, b :: r, h, _, _ => by simp at h
  | n + 1, b :: r, h, line, col => by
    rw [List.length_cons] at h
    by_cases hb : b.toNat = 10
    · rw [lxRun_lf _ _ hb]
      obtain ⟨h1, h2⟩ := run_few n r (by omega) (line + 1) 1
      exact ⟨by simp only [List.length_cons]; omega, by simp only [List.length_cons]; omega⟩
    · rw [lxRun_cut _ _ hb]
      obtain ⟨h1, h2⟩ := run_few n (r.drop (lxCut b r).more) (by rw [List.length_drop]; omega) line (col + ((lxCut b r).more : Nat) + 1)
      rw [List.length_drop] at h1 h2
      have t1 : (lxTok b r line col).length ≤ 1 := by unfold lxTok; split <;> simp
      have t2 : (lxBad b r line col).length ≤ 1 := by unfold lxBad; split <;> simp
      exact ⟨by simp only [List.length_cons, List.length_append]; omega, by simp only [List.length_cons, List.length_append]; omega⟩
theorem lexT_few (s : List UInt8) : (lexT s).length ≤ s.length + 1 := (run_few s.length s (Nat.le_refl _) 1 1).1
theorem lexW_few (s : List UInt8) : (lexW s).length ≤ 100 := by
  unfold lexW
  rw [List.length_take]
  omega
/-- What Split tells. -/
def LexSays (s : List UInt8) (w : World) (e : Ending) (w' : World) : Prop :=
  ∃ so n c dg m d, e = .returned (.tuple #[.slice so n c, .slice dg m d]) ∧ (lexT s).length = n ∧ (lexW s).length = m ∧ Toks w' so c (lexT s) ∧ Wrs w' dg d (lexW s) ∧ Made w w'
end
section
open Go

/-- As Q; by a goto to label l: J l. -/
def toLabel (J : Nat → Act → World → Prop) (Q : Exit → Act → World → Prop) : Exit → Act → World → Prop
  | .goto l, a, w => J l a w
  | e, a, w => Q e a w
section
variable {J : Nat → Act → World → Prop} {Q : Exit → Act → World → Prop} {a : Act} {w : World}
theorem toLabel_goto (l : Nat) : toLabel J Q (.goto l) a w = J l a w := rfl
theorem toLabel_ret : toLabel J Q .ret a w = Q .ret a w := rfl
theorem toLabel_normal : toLabel J Q .normal a w = Q .normal a w := rfl
end
/-- J n l a w: at label l, with n to go. The scope's code begins with a label. -/
theorem wp_scope_by {P : Program} {a : Act} {w : World} {Q : Exit → Act → World → Prop} {c' : Code} (J : Nat → Nat → Act → World → Prop) (n0 l0 : Nat) (h0 : J n0 l0 a w)
    (begins : ∀ n a w, J n l0 a w → c'.wp P (toLabel (fun l' a' w' => ∃ m, m < n ∧ J m l' a' w') Q) a w)
    (others : ∀ n l a w, l ≠ l0 → J n l a w → ∃ r, findLabel (.seq (.label l0) c') l = some r ∧ r.wp P (toLabel (fun l' a' w' => ∃ m, m < n ∧ J m l' a' w') Q) a w) : (Code.scope (.seq (.label l0) c')).wp P Q a w := by
  have pass : ∀ n l a w, J n l a w → ∃ r, findLabel (.seq (.label l0) c') l = some r ∧ r.wp P (toLabel (fun l' a' w' => ∃ m, m < n ∧ J m l' a' w') Q) a w := by
    intro n l a w h
    by_cases hl : l = l0
    · subst hl
      exact ⟨.seq .skip c', by simp [findLabel], wp_seq (wp_skip (begins n a w h))⟩
    · exact others n l a w hl h
  have first : (Code.seq (.label l0) c').wp P (toLabel (fun l' a' w' => ∃ m, m < n0 ∧ J m l' a' w') Q) a w := wp_seq (wp_label (begins n0 a w h0))
  generalize Code.seq (.label l0) c' = c at *
  intro b k cs
  have hg : ∀ l r, findLabel c l = some r → gotoIn l (.inScope c :: k) = some (.code r :: .inScope c :: k) := fun l r h => by simp [gotoIn, h]
  have key : ∀ n l a w, J n l a w → ∀ r, findLabel c l = some r → ∃ e a' w', Q e a' w' ∧ Arrives P (lone (b.at a (.code r :: .inScope c :: k)) cs w) b k cs e a' w' := by
    intro n
    induction n using Nat.strongRecOn with
    | _ n ih =>
      intro l a w hJ r hr
      obtain ⟨r', hr', hwp⟩ := pass n l a w hJ
      obtain rfl := Option.some.inj (hr'.symm.trans hr)
      obtain ⟨e, a₁, w₁, hq, harr⟩ := hwp b (.inScope c :: k) cs
      cases e with
      | normal => exact ⟨.normal, a₁, w₁, hq, Steps.trans harr (.one step_inScope)⟩
      | exit id => exact ⟨.exit id, a₁, w₁, hq, fun k' hk => harr k' (by simp [exitTo, hk])⟩
      | goto l' =>
        obtain ⟨m, hlt, hJ'⟩ := hq
        obtain ⟨r2, hr2, -⟩ := pass m l' a₁ w₁ hJ'
        obtain ⟨e₂, a₂, w₂, hq₂, harr₂⟩ := ih m hlt l' a₁ w₁ hJ' r2 hr2
        exact ⟨e₂, a₂, w₂, hq₂, .of_steps (harr _ (hg l' r2 hr2)) harr₂⟩
      | ret => exact ⟨_, a₁, w₁, hq, harr⟩
      | panic ch => exact ⟨_, a₁, w₁, hq, harr⟩
      | outgrown => exact ⟨_, a₁, w₁, hq, harr⟩
  obtain ⟨e, a₁, w₁, hq, harr⟩ := first b (.inScope c :: k) cs
  cases e with
  | normal => exact ⟨.normal, a₁, w₁, hq, .head step_scope (Steps.trans harr (.one step_inScope))⟩
  | exit id => exact ⟨.exit id, a₁, w₁, hq, fun k' hk => .head step_scope (harr k' (by simp [exitTo, hk]))⟩
  | goto l' =>
    obtain ⟨m, -, hJ'⟩ := hq
    obtain ⟨r2, hr2, -⟩ := pass m l' a₁ w₁ hJ'
    obtain ⟨e₂, a₂, w₂, hq₂, harr₂⟩ := key m l' a₁ w₁ hJ' r2 hr2
    exact ⟨e₂, a₂, w₂, hq₂, .of_steps (.head step_scope (harr _ (hg l' r2 hr2))) harr₂⟩
  | ret => exact ⟨_, a₁, w₁, hq, .of_steps (.one step_scope) harr⟩
  | panic ch => exact ⟨_, a₁, w₁, hq, .of_steps (.one step_scope) harr⟩
  | outgrown => exact ⟨_, a₁, w₁, hq, .of_steps (.one step_scope) harr⟩
end
end Go.Proofs.YtnfmlmamgkpocaaGreatDoor
