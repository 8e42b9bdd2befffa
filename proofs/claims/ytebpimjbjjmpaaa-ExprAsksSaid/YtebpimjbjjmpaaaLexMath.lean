/- A text cut into tokens, as plain data: what one begins with, the run over the whole text; no condition but those named. -/

namespace Go.Proofs.Ytebpimjbjjmpaaa

def isLet (b : UInt8) : Bool := (decide (97 ≤ b.toNat) && decide (b.toNat ≤ 122)) || (decide (65 ≤ b.toNat) && decide (b.toNat ≤ 90)) || decide (b.toNat = 95)
def isDig (b : UInt8) : Bool := decide (48 ≤ b.toNat) && decide (b.toNat ≤ 57)
def isWrd (b : UInt8) : Bool := isLet b || isDig b
def isNam (b : UInt8) : Bool := isLet b || isDig b || decide (b.toNat = 46)
def isBlk (b : UInt8) : Bool := decide (b.toNat = 32) || decide (b.toNat = 9) || decide (b.toNat = 13)
/-- { } ; : ( ) , = + - * ! # -/
def isSgn (b : UInt8) : Bool := [123, 125, 59, 58, 40, 41, 44, 61, 43, 45, 42, 33, 35].contains b.toNat
def notLf (b : UInt8) : Bool := decide (b.toNat ≠ 10)
def hexZ (b : UInt8) : Int := if 48 ≤ b.toNat ∧ b.toNat ≤ 57 then (b.toNat : Int) - 48 else if 97 ≤ b.toNat ∧ b.toNat ≤ 102 then (b.toNat : Int) - 87 else if 65 ≤ b.toNat ∧ b.toNat ≤ 70 then (b.toNat : Int) - 55 else -1
/-- The value of digits by a base, behind v. -/
def lxVal (base : Int) : List UInt8 → Int → Int
  | [], v => v
  | b :: r, v => lxVal base r (v * base + hexZ b)
def lxDig (base : Int) (b : UInt8) : Bool := decide (0 ≤ hexZ b) && decide (hexZ b < base)
/-- -1: not digits; -2: too great. -/
def lxWord (base : Int) (l : List UInt8) : Int := if l = [] ∨ l.all (lxDig base) = false then -1 else if lxVal base l 0 > 1099511627776 then -2 else lxVal base l 0
def lxNum : List UInt8 → Int
  | [] => lxWord 10 []
  | [a] => lxWord 10 [a]
  | a :: x :: r => if a.toNat = 48 ∧ (x.toNat = 120 ∨ x.toNat = 88) then lxWord 16 r else lxWord 10 (a :: x :: r)
/-- What a text begins with: how many bytes more than one, its kind (0: no token), its value, what is wrong. -/
structure Cut where
  more : Nat
  kind : Int
  v : Int
  e : Int
def lxCut (b : UInt8) (r : List UInt8) : Cut :=
  if isBlk b then ⟨0, 0, 0, 0⟩
  else if isLet b || decide (b.toNat = 46) then ⟨(r.takeWhile isNam).length, 1, 0, if 32 < (r.takeWhile isNam).length + 1 then 3 else 0⟩
  else if isDig b then ⟨(r.takeWhile isWrd).length, 2, lxNum (b :: r.takeWhile isWrd), if lxNum (b :: r.takeWhile isWrd) = -1 then 8 else if lxNum (b :: r.takeWhile isWrd) = -2 then 6 else 0⟩
  else if b.toNat = 47 ∧ (r.head?.map UInt8.toNat) = some 47 then ⟨(r.takeWhile notLf).length, 0, 0, 0⟩
  else if b.toNat = 35 ∧ (r.head?.map UInt8.toNat) = some 35 then ⟨1, 3, 0, 0⟩
  else if isSgn b then ⟨0, 3, 0, 0⟩
  else ⟨0, 0, 0, 8⟩
/-- A token, and what is wrong. -/
structure Tk where
  kind : Int
  text : List UInt8
  v : Int
  line : Int
  col : Int
  deriving DecidableEq
structure Wr where
  line : Int
  col : Int
  code : Int
  deriving DecidableEq
def lxTok (b : UInt8) (r : List UInt8) (line col : Int) : List Tk := if (lxCut b r).e = 0 ∧ (lxCut b r).kind ≠ 0 then [⟨(lxCut b r).kind, (b :: r).take ((lxCut b r).more + 1), (lxCut b r).v, line, col⟩] else []
def lxBad (b : UInt8) (r : List UInt8) (line col : Int) : List Wr := if (lxCut b r).e = 0 then [] else [⟨line, col, (lxCut b r).e⟩]
def lxEnd (line col : Int) : Tk := ⟨4, [], 0, line, col⟩
def lxRunF : Nat → Int → Int → List UInt8 → List Tk × List Wr
  | _, line, col, [] => ([lxEnd line col], [])
  | 0, _, _, _ :: _ => ([], [])
  | n + 1, line, col, b :: r =>
    if b.toNat = 10 then (lxEnd line col :: (lxRunF n (line + 1) 1 r).1, (lxRunF n (line + 1) 1 r).2)
    else (lxTok b r line col ++ (lxRunF n line (col + ((lxCut b r).more : Nat) + 1) (r.drop (lxCut b r).more)).1, lxBad b r line col ++ (lxRunF n line (col + ((lxCut b r).more : Nat) + 1) (r.drop (lxCut b r).more)).2)
/-- The tokens, and what is wrong, of a text that begins at a place. -/
def lxRun (line col : Int) (l : List UInt8) : List Tk × List Wr := lxRunF l.length line col l
theorem runF_nil (n : Nat) (line col : Int) : lxRunF n line col [] = ([lxEnd line col], []) := by cases n <;> rfl
theorem runF_more : ∀ (n m : Nat) (l : List UInt8) (line col : Int), l.length ≤ n → l.length ≤ m → lxRunF n line col l = lxRunF m line col l
  | n, m, [], line, col, _, _ => by rw [runF_nil, runF_nil]
  | 0, _, b :: r, _, _, h, _ => by simp at h
  | _ + 1, 0, b :: r, _, _, _, h => by simp at h
  | n + 1, m + 1, b :: r, line, col, h, h2 => by
    rw [List.length_cons] at h h2
    show (if b.toNat = 10 then _ else _) = (if b.toNat = 10 then _ else _)
    rw [runF_more n m r (line + 1) 1 (by omega) (by omega), runF_more n m (r.drop (lxCut b r).more) line _ (by rw [List.length_drop]; omega) (by rw [List.length_drop]; omega)]
theorem lxRun_nil (line col : Int) : lxRun line col [] = ([lxEnd line col], []) := rfl
theorem lxRun_lf (line col : Int) {b : UInt8} (h : b.toNat = 10) (r : List UInt8) : lxRun line col (b :: r) = (lxEnd line col :: (lxRun (line + 1) 1 r).1, (lxRun (line + 1) 1 r).2) := by
  show (if b.toNat = 10 then _ else _) = _
  rw [if_pos h]
  rfl
theorem lxRun_cut (line col : Int) {b : UInt8} (h : b.toNat ≠ 10) (r : List UInt8) : lxRun line col (b :: r) = (lxTok b r line col ++ (lxRun line (col + ((lxCut b r).more : Nat) + 1) (r.drop (lxCut b r).more)).1, lxBad b r line col ++ (lxRun line (col + ((lxCut b r).more : Nat) + 1) (r.drop (lxCut b r).more)).2) := by
  show (if b.toNat = 10 then _ else _) = _
  rw [if_neg h]
  unfold lxRun
  rw [runF_more r.length (r.drop (lxCut b r).more).length _ line _ (by rw [List.length_drop]; omega) (Nat.le_refl _)]
/-! Words end at a byte that is none of theirs. -/
theorem take_stop (p : UInt8 → Bool) (x : UInt8) (hx : p x = false) : ∀ (r t : List UInt8), (r ++ x :: t).takeWhile p = r.takeWhile p
  | [], t => by rw [List.nil_append, List.takeWhile_cons, hx]; rfl
  | a :: r, t => by
    rw [List.cons_append, List.takeWhile_cons, List.takeWhile_cons, take_stop p x hx r t]
theorem take_le (p : UInt8 → Bool) : ∀ r : List UInt8, (r.takeWhile p).length ≤ r.length
  | [] => Nat.le_refl _
  | a :: r => by
    rw [List.takeWhile_cons]
    have := take_le p r
    split
    · rw [List.length_cons, List.length_cons]; omega
    · exact Nat.zero_le _
theorem take_pre (p : UInt8 → Bool) : ∀ r : List UInt8, r.take (r.takeWhile p).length = r.takeWhile p
  | [] => rfl
  | a :: r => by
    rw [List.takeWhile_cons]
    split
    · rw [List.length_cons, List.take_succ_cons, take_pre p r]
    · rfl
theorem take_all (p : UInt8 → Bool) : ∀ r : List UInt8, ∀ b ∈ r.takeWhile p, p b = true
  | [], b, h => by cases h
  | a :: r, b, h => by
    rw [List.takeWhile_cons] at h
    by_cases ha : p a = true
    · rw [if_pos ha] at h
      rcases List.mem_cons.1 h with rfl | h
      · exact ha
      · exact take_all p r b h
    · rw [if_neg ha] at h
      cases h
/-- What a walk over a word finds. -/
theorem take_found (p : UInt8 → Bool) : ∀ (r : List UInt8) (k : Nat), (∀ j (h : j < r.length), j < k → p r[j] = true) → k ≤ r.length → (∀ h : k < r.length, p r[k] = false) → (r.takeWhile p).length = k
  | [], k, _, hk, _ => by
    obtain rfl : k = 0 := by simpa using hk
    rfl
  | a :: r, 0, _, _, h => by
    have : p a = false := h (by simp)
    rw [List.takeWhile_cons, this]
    rfl
  | a :: r, k + 1, h1, hk, h => by
    have : p a = true := h1 0 (by simp) (by omega)
    rw [List.takeWhile_cons, this, if_pos rfl, List.length_cons, take_found p r k (fun j hj hjk => by
      have h4 := h1 (j + 1) (by simpa using hj) (by omega)
      rwa [List.getElem_cons_succ] at h4) (by simpa using hk) (fun hlt => by
      have h4 := h (by simpa using hlt)
      rwa [List.getElem_cons_succ] at h4)]
theorem cut_le (b : UInt8) (r : List UInt8) : (lxCut b r).more ≤ r.length := by
  have h1 := take_le isNam r
  have h2 := take_le isWrd r
  have h3 := take_le notLf r
  unfold lxCut
  split
  · exact Nat.zero_le _
  split
  · exact h1
  split
  · exact h2
  split
  · exact h3
  split
  case isTrue h =>
    cases r with
    | nil => cases h.2
    | cons a t => show 1 ≤ t.length + 1; omega
  split <;> exact Nat.zero_le _
/-- A line's end ends whatever stands ahead. -/
theorem cut_app {x : UInt8} (hx : x.toNat = 10) (b : UInt8) (r t : List UInt8) : lxCut b (r ++ x :: t) = lxCut b r := by
  have p1 : isNam x = false := by unfold isNam isLet isDig; rw [hx]; rfl
  have p2 : isWrd x = false := by unfold isWrd isLet isDig; rw [hx]; rfl
  have p3 : notLf x = false := by unfold notLf; rw [hx]; rfl
  have hh : ∀ n : Nat, n ≠ 10 → (((r ++ x :: t).head?.map UInt8.toNat) = some n ↔ (r.head?.map UInt8.toNat) = some n) := by
    intro n hn
    cases r with
    | nil =>
      show (some x.toNat = some n) ↔ none = some n
      rw [hx]
      simp
      omega
    | cons a r => exact Iff.rfl
  unfold lxCut
  rw [take_stop isNam x p1, take_stop isWrd x p2, take_stop notLf x p3]
  simp only [hh 47 (by decide), hh 35 (by decide)]
/-! Two texts, one behind the other with a line's end between. -/
def lfs (l : List UInt8) : Nat := l.countP (fun b => decide (b.toNat = 10))
theorem drop_nolf {b : UInt8} {r : List UInt8} (hb : b.toNat ≠ 10) : lfs (r.drop (lxCut b r).more) = lfs (b :: r) := by
  have e : lfs (b :: r) = lfs r := by
    unfold lfs
    rw [List.countP_cons, decide_eq_false hb]
    rfl
  rw [e]
  have key : ∀ n, (∀ y ∈ r.take n, y.toNat ≠ 10) → lfs (r.drop n) = lfs r := by
    intro n h
    have h2 : lfs r = lfs (r.take n) + lfs (r.drop n) := by
      unfold lfs
      rw [← List.countP_append, List.take_append_drop]
    have h3 : lfs (r.take n) = 0 := by
      unfold lfs
      rw [List.countP_eq_zero]
      intro y hy
      simpa using h y hy
    omega
  have hw : ∀ p : UInt8 → Bool, (∀ y, y.toNat = 10 → p y = false) → ∀ y ∈ r.take (r.takeWhile p).length, y.toNat ≠ 10 := by
    intro p hp y hy he
    rw [take_pre] at hy
    have := take_all p r y hy
    rw [hp y he] at this
    cases this
  unfold lxCut
  split
  · rfl
  split
  · exact key _ (hw isNam fun y he => by unfold isNam isLet isDig; rw [he]; rfl)
  split
  · exact key _ (hw isWrd fun y he => by unfold isWrd isLet isDig; rw [he]; rfl)
  split
  · exact key _ (hw notLf fun y he => by unfold notLf; rw [he]; rfl)
  split
  case isTrue h =>
    refine key 1 fun y hy he => ?_
    cases r with
    | nil => cases hy
    | cons a t =>
      have h4 : a.toNat = 35 := by simpa using h.2
      have h5 : y = a := by simpa using hy
      rw [h5] at he
      omega
  split <;> rfl
theorem run_app_lf {x : UInt8} (hx : x.toNat = 10) (t : List UInt8) : ∀ (n : Nat) (l : List UInt8) (line col : Int), l.length ≤ n →
    lxRun line col (l ++ x :: t) = ((lxRun line col l).1 ++ (lxRun (line + (lfs l : Nat) + 1) 1 t).1, (lxRun line col l).2 ++ (lxRun (line + (lfs l : Nat) + 1) 1 t).2)
  | _, [], line, col, _ => by
    rw [List.nil_append, lxRun_lf _ _ hx, lxRun_nil, show line + (lfs [] : Nat) + 1 = line + 1 by simp [lfs]]
    rfl
  | 0, b :: r, _, _, h => by simp at h
  | n + 1, b :: r, line, col, h => by
    rw [List.length_cons] at h
    rw [List.cons_append]
    by_cases hb : b.toNat = 10
    · rw [lxRun_lf _ _ hb, lxRun_lf _ _ hb, run_app_lf hx t n r (line + 1) 1 (by omega)]
      have e : lfs (b :: r) = lfs r + 1 := by
        unfold lfs
        rw [List.countP_cons, decide_eq_true hb]
        rfl
      rw [e, show line + ((lfs r + 1 : Nat) : Int) + 1 = line + 1 + (lfs r : Nat) + 1 by omega]
      rfl
    · have hle := cut_le b r
      rw [lxRun_cut _ _ hb, lxRun_cut _ _ hb, cut_app hx, List.drop_append_of_le_length hle, run_app_lf hx t n _ line _ (by rw [List.length_drop]; omega), drop_nolf hb]
      have e1 : lxTok b (r ++ x :: t) line col = lxTok b r line col := by
        unfold lxTok
        rw [cut_app hx, ← List.cons_append, List.take_append_of_le_length (by rw [List.length_cons]; omega)]
      have e2 : lxBad b (r ++ x :: t) line col = lxBad b r line col := by
        unfold lxBad
        rw [cut_app hx]
      rw [e1, e2]
      simp only [List.append_assoc]
end Go.Proofs.Ytebpimjbjjmpaaa
