/- The ways of writing an instruction, as plain data: numbers, names, parts and ways, as the document's answer for parse reads them; no condition. · What the program's parse reads of tokens, as plain data: step by step, as its parser goes; no condition. · What is read of tokens is one thing; plain data. · What the program's parse reads of tokens that are written out, reckoned step by step; plain data; no condition but those named. (Written by gen_pareval.py.) · The names that are reserved, all of them: what they are made of, and what becomes of them with .new behind; plain data; no condition. -/
import Derived.Test.YtnfmlmamgkpocaaGreatDoorGExprM
namespace Go.Proofs.YtnfmlmamgkpocaaGreatDoor
section

/-- A small number of digits without noughts ahead; -1: it is none. -/
def numR : List UInt8 → Int
  | [a] => if isDig a then (a.toNat : Int) - 48 else -1
  | [a, b] => if a.toNat = 48 then -1 else if isDig a && isDig b then 10 * ((a.toNat : Int) - 48) + ((b.toNat : Int) - 48) else -1
  | _ => -1
/-- The number of a name that is a letter and a number below a bound. -/
def namedR (c : UInt8) (bound : Int) : List UInt8 → Int
  | [] => -1
  | x :: r => if x = c then (if bound ≤ numR r then -1 else numR r) else -1
/-- A name without .new, and whether it had it. -/
def bareR (s : List UInt8) : List UInt8 × Bool :=
  if 4 ≤ s.length ∧ s.drop (s.length - 4) = [46, 110, 101, 119] then (s.take (s.length - 4), true) else (s, false)
/-- The parts of a text between bytes. -/
def splitR (c : UInt8) : List UInt8 → List UInt8 → List (List UInt8)
  | cur, [] => if cur = [] then [] else [cur]
  | cur, x :: r => if x = c then (if cur = [] then splitR c [] r else cur :: splitR c [] r) else splitR c (cur ++ [x]) r
/-- What is read of an instruction. -/
structure Ln where
  op : Int
  d : Int
  s : Int
  t : Int
  n : Int
  pred : Int
  mode : Int
  new : Bool
  value : List Tm
  count : List Tm
  forced : Bool
  line : Int
  col : Int
def lnZero : Ln := ⟨0, 0, 0, 0, 0, 0, 0, false, [], [], false, 0, 0⟩
def nameR (L : List Tk) (at_ : Nat) : List UInt8 := match L[at_]? with | some t => if t.kind = 1 then t.text else [] | none => []
def signR (L : List Tk) (at_ : Nat) : List UInt8 := match L[at_]? with | some t => if t.kind = 3 then t.text else [] | none => []
/-- What an expression is read as, from a place on. -/
noncomputable def readR (ts : List Tq) : Rs := Classical.choose (rd_total ts)
theorem readR_rd (ts : List Tq) : Rd .sum 0 ts (readR ts) := Classical.choose_spec (rd_total ts)
/-- The expression, where it ends, what is wrong. -/
noncomputable def valueR (L : List Tk) (at_ : Nat) : List Tm × Nat × Int :=
  match readR ((L.drop at_).map Tk.q) with
  | .ok a r => (a.post 0, L.length - r.length, 0)
  | .bad r why => ([], L.length - r.length, why)
def lowR : List UInt8 → Bool
  | c :: _ => decide (97 ≤ c.toNat) && decide (c.toNat ≤ 122)
  | [] => false
/-- A part of a way, by its text. -/
noncomputable def partR (L : List Tk) (at_ : Nat) (p : List UInt8) (x : Ln) : Ln × Nat × Int :=
  if p = [82] ∨ p = [83] ∨ p = [84] then
    if namedR 114 32 (nameR L at_) < 0 then (x, at_, 8)
    else (if p = [82] then { x with d := namedR 114 32 (nameR L at_) } else if p = [83] then { x with s := namedR 114 32 (nameR L at_) } else { x with t := namedR 114 32 (nameR L at_) }, at_ + 1, 0)
  else if p = [85] then
    if namedR 114 32 (bareR (nameR L at_)).1 < 0 ∨ (bareR (nameR L at_)).2 = false then (x, at_, 8)
    else ({ x with t := namedR 114 32 (bareR (nameR L at_)).1, new := true }, at_ + 1, 0)
  else if p = [80] ∨ p = [81] then
    if namedR 112 4 (nameR L at_) < 0 then (x, at_, 8)
    else (if p = [80] then { x with pred := namedR 112 4 (nameR L at_) } else { x with d := namedR 112 4 (nameR L at_) }, at_ + 1, 0)
  else if p = [73] ∨ p = [72] ∨ p = [67] ∨ p = [71] then
    if signR L at_ = [35, 35] ∧ (p = [73] ∨ p = [71]) then
      ({ x with forced := true, value := (valueR L (at_ + 1)).1 }, (valueR L (at_ + 1)).2)
    else if p ≠ [71] then
      if signR L at_ ≠ [35] then (x, at_, 8)
      else if p = [67] then ({ x with count := (valueR L (at_ + 1)).1 }, (valueR L (at_ + 1)).2)
      else ({ x with value := (valueR L (at_ + 1)).1 }, (valueR L (at_ + 1)).2)
    else ({ x with value := (valueR L at_).1 }, (valueR L at_).2)
  else if (lowR p = true ∧ nameR L at_ = p) ∨ signR L at_ = p then (x, at_ + 1, 0)
  else (x, at_, 8)
/-- A way, from a place on. -/
noncomputable def wayR (L : List Tk) : List (List UInt8) → Nat → Ln → Ln × Nat × Int
  | [], at_, x => (x, at_, 0)
  | p :: r, at_, x => match partR L at_ p x with
    | (y, b, bad) => if bad = 0 then wayR L r b y else (y, b, bad)
/-- if and what stands behind it. -/
def condR (L : List Tk) (x : Ln) : Ln × Nat × Int :=
  if signR L 1 ≠ [40] then (x, 1, 8)
  else
    let at_ := if signR L 2 = [33] then 3 else 2
    let b := bareR (nameR L at_)
    let mode : Int := (if signR L 2 = [33] then 2 else 1)
    if namedR 112 4 b.1 < 0 then ({ x with mode := mode }, at_, 8)
    else
      let y : Ln := { x with mode := if b.2 then mode + 2 else mode, pred := namedR 112 4 b.1 }
      if signR L (at_ + 1) ≠ [41] then (y, at_ + 1, 8) else (y, at_ + 2, 0)
/-- All ways from the i-th on: what has come farthest, and why; or what was read. -/
noncomputable def tryR (L : List Tk) (cond : Bool) (from_ : Nat) (x : Ln) : List (List (List UInt8)) → Nat → Int → Ln × Nat × Int
  | [], far, why => (lnZero, far, why)
  | w :: r, far, why =>
    if cond = true ∧ w[2]? ≠ some [99] then tryR L cond from_ x r far why
    else match wayR L (w.drop 3) from_ x with
      | (y, b, bad) =>
        if bad = 0 then ({ y with op := numR (w[0]?.getD []), n := numR (w[1]?.getD []) }, b, 0)
        else tryR L cond from_ x r (if far < b then b else far) (if (if far < b then b else far) = b ∧ bad = 3 then bad else if far < b then bad else why)
/-- Inst. -/
noncomputable def instR (ways : List (List (List UInt8))) (L : List Tk) : Ln × Nat × Int :=
  let x : Ln := { lnZero with line := (L[0]?.map Tk.line).getD 0, col := (L[0]?.map Tk.col).getD 0 }
  if nameR L 0 = [105, 102] then
    match condR L x with
    | (y, b, bad) => if bad ≠ 0 then (lnZero, b, bad) else tryR L true b y ways b 8
  else tryR L false 0 x ways 0 8
/-- Whether a name is reserved, by the ways' parts. -/
def resR (ways : List (List (List UInt8))) (s : List UInt8) : Bool :=
  decide (0 ≤ namedR 114 32 (bareR s).1) || decide (0 ≤ namedR 112 4 (bareR s).1) || ways.any (fun w => (w.drop 3).any fun p => decide (p = s) && lowR p) || decide (s = [105, 102]) || decide (s = [99, 111, 100, 101]) || decide (s = [100, 97, 116, 97])
theorem num_small (s : List UInt8) : -1 ≤ numR s ∧ numR s ≤ 99 := by
  unfold numR
  split
  · rename_i a
    split
    · rename_i h
      unfold isDig at h
      simp only [Bool.and_eq_true, decide_eq_true_eq] at h
      omega
    · omega
  · rename_i a b
    split
    · omega
    · split
      · rename_i h
        unfold isDig at h
        simp only [Bool.and_eq_true, decide_eq_true_eq] at h
        omega
      · omega
  · omega
theorem named_small (c : UInt8) (bound : Int) (s : List UInt8) (hb : 0 < bound) : -1 ≤ namedR c bound s ∧ namedR c bound s < bound := by
  unfold namedR
  split
  · omega
  · rename_i x r
    have := num_small r
    split
    · split <;> omega
    · omega
end
section

/-- Where reading has come to, and what it has read; or where it gave up, and why. -/
inductive PR where
  | ok (a : Nat) (x : Ln)
  | bad (a : Nat) (why : Int)
def PR.bind : PR → (Nat → Ln → PR) → PR
  | .ok a x, f => f a x
  | .bad a w, _ => .bad a w
def PR.pos : PR → Nat
  | .ok a _ => a
  | .bad a _ => a
/-- What is told of a name. -/
structure Wd where
  begins : Int
  sets : Int
  compares : Int
  n : Int
  deriving DecidableEq
def wordsT : List (List UInt8 × Wd) := [
  ([110, 111, 112], ⟨1, 0, 0, 0⟩),
  ([97, 100, 100], ⟨0, 2, 0, 0⟩),
  ([115, 117, 98], ⟨0, 3, 0, 0⟩),
  ([97, 110, 100], ⟨0, 4, 0, 0⟩),
  ([111, 114], ⟨0, 5, 0, 0⟩),
  ([120, 111, 114], ⟨0, 6, 0, 0⟩),
  ([99, 109, 112, 46, 101, 113], ⟨0, 0, 10, 0⟩),
  ([99, 109, 112, 46, 103, 116], ⟨0, 0, 11, 0⟩),
  ([99, 109, 112, 46, 103, 116, 117], ⟨0, 0, 12, 0⟩),
  ([109, 117, 120], ⟨0, 14, 0, 0⟩),
  ([97, 115, 108], ⟨0, 15, 0, 0⟩),
  ([108, 115, 114], ⟨0, 16, 0, 0⟩),
  ([97, 115, 114], ⟨0, 17, 0, 0⟩),
  ([109, 112, 121], ⟨0, 18, 0, 0⟩),
  ([99, 109, 112, 121], ⟨0, 19, 0, 0⟩),
  ([99, 109, 112, 121, 99], ⟨0, 20, 0, 0⟩),
  ([109, 101, 109, 119], ⟨24, 21, 0, 0⟩),
  ([109, 101, 109, 104], ⟨25, 22, 0, 0⟩),
  ([109, 101, 109, 98], ⟨26, 23, 0, 0⟩),
  ([106, 117, 109, 112], ⟨27, 0, 0, 0⟩),
  ([106, 117, 109, 112, 114], ⟨28, 0, 0, 0⟩),
  ([99, 97, 108, 108], ⟨29, 0, 0, 0⟩),
  ([108, 111, 111, 112, 48], ⟨30, 0, 0, 0⟩),
  ([108, 111, 111, 112, 49], ⟨30, 0, 0, 1⟩),
  ([105, 102], ⟨0, 0, 0, 0⟩),
  ([99, 111, 100, 101], ⟨0, 0, 0, 0⟩),
  ([100, 97, 116, 97], ⟨0, 0, 0, 0⟩)]
def wdZero : Wd := ⟨0, 0, 0, 0⟩
def wordOf (s : List UInt8) : Option Wd := (wordsT.find? fun p => p.1 == s).map (·.2)
def wdOf (s : List UInt8) : Wd := (wordOf s).getD wdZero
def isWord (s : List UInt8) : Bool := (wordOf s).isSome
/-- Whether an op has a Mode. -/
def hasM (op : Int) : Bool := decide (op = 2) || decide (op = 3) || decide (op = 4) || decide (op = 5) || decide (op = 6) || decide (op = 8) || decide (op = 9) || decide (op = 27) || decide (op = 28)
def pSetS (x : Ln) (v : Int) : Ln := { x with s := v }
def pSetT (x : Ln) (v : Int) : Ln := { x with t := v }
def pSetPd (x : Ln) (v : Int) : Ln := { x with pred := v }
def pSetV (x : Ln) (e : List Tm) : Ln := { x with value := e }
def pSetC (x : Ln) (e : List Tm) : Ln := { x with count := e }
def pSetF (x : Ln) (b : Bool) : Ln := { x with forced := b }
def pSetOp (x : Ln) (v : Int) : Ln := { x with op := v }
def signP (L : List Tk) (s : List UInt8) (a : Nat) (x : Ln) : PR := if signR L a = s then .ok (a + 1) x else .bad a 8
def regZ (L : List Tk) (a : Nat) : Int := namedR 114 32 (nameR L a)
def predZ (L : List Tk) (a : Nat) : Int := namedR 112 4 (nameR L a)
def regP (L : List Tk) (f : Ln → Int → Ln) (a : Nat) (x : Ln) : PR := if 0 ≤ regZ L a then .ok (a + 1) (f x (regZ L a)) else .bad a 8
def predP (L : List Tk) (f : Ln → Int → Ln) (a : Nat) (x : Ln) : PR := if 0 ≤ predZ L a then .ok (a + 1) (f x (predZ L a)) else .bad a 8
noncomputable def exprP (L : List Tk) (f : Ln → List Tm → Ln) (a : Nat) (x : Ln) : PR := if (valueR L a).2.2 = 0 then .ok (valueR L a).2.1 (f x (valueR L a).1) else .bad (valueR L a).2.1 (valueR L a).2.2
def chooseP (op : Int) (a : Nat) (x : Ln) : PR := if op = 0 ∨ (x.mode ≠ 0 ∧ hasM op = false) then .bad a 8 else .ok a (pSetOp x op)
def beginsV (L : List Tk) (a : Nat) : Bool := decide (signR L a = [35]) || decide (signR L a = [35, 35])
noncomputable def immP (L : List Tk) (a : Nat) (x : Ln) : PR :=
  if signR L a = [35, 35] then exprP L pSetV (a + 1) (pSetF x true) else (signP L [35] a (pSetF x false)).bind (exprP L pSetV)
noncomputable def targetP (L : List Tk) (a : Nat) (x : Ln) : PR :=
  if signR L a = [35, 35] then exprP L pSetV (a + 1) (pSetF x true) else exprP L pSetV a (pSetF x false)
noncomputable def addressP (L : List Tk) (a : Nat) (x : Ln) : PR := (regP L pSetS a x).bind fun a x => (signP L [43] a x).bind (immP L)
def valueOp (op : Int) : Int := if op = 2 then 7 else if op = 10 then 13 else 0
noncomputable def twoP (L : List Tk) (a : Nat) (x : Ln) : PR := (regP L pSetS a x).bind fun a x => (signP L [44] a x).bind fun a x =>
  if beginsV L a = true then (chooseP (valueOp x.op) a x).bind (immP L) else regP L pSetT a x
noncomputable def shiftP (L : List Tk) (a : Nat) (x : Ln) : PR := (regP L pSetS a x).bind fun a x => (signP L [44] a x).bind fun a x => (signP L [35] a x).bind (exprP L pSetV)
noncomputable def insideP (L : List Tk) (a : Nat) (x : Ln) : PR :=
  if x.op = 14 then (predP L pSetPd a x).bind fun a x => (signP L [44] a x).bind (twoP L)
  else if x.op = 15 ∨ x.op = 16 ∨ x.op = 17 then shiftP L a x
  else if x.op = 21 ∨ x.op = 22 ∨ x.op = 23 then addressP L a x
  else twoP L a x
noncomputable def operandsP (L : List Tk) (a : Nat) (x : Ln) : PR := (signP L [40] a x).bind fun a x => (insideP L a x).bind (signP L [41])
def newP (L : List Tk) (a : Nat) (x : Ln) : PR :=
  if 0 ≤ namedR 114 32 (bareR (nameR L a)).1 then .ok (a + 1) { x with t := namedR 114 32 (bareR (nameR L a)).1, new := (bareR (nameR L a)).2 } else .bad a 8
noncomputable def storeP (L : List Tk) (a : Nat) (x : Ln) : PR := (signP L [40] a x).bind fun a x => (addressP L a x).bind fun a x => (signP L [41] a x).bind fun a x => (signP L [61] a x).bind (newP L)
noncomputable def countP (L : List Tk) (a : Nat) (x : Ln) : PR := if signR L a = [35] then exprP L pSetC (a + 1) x else (chooseP 31 a x).bind (regP L pSetS)
noncomputable def loopP (L : List Tk) (a : Nat) (x : Ln) : PR := (signP L [40] a x).bind fun a x => (targetP L a x).bind fun a x => (signP L [44] a x).bind fun a x => (countP L a x).bind (signP L [41])
noncomputable def assignP (L : List Tk) (a : Nat) (x : Ln) : PR :=
  if 0 ≤ regZ L a then (chooseP 9 a x).bind fun a x => .ok (a + 1) (pSetS x (regZ L a))
  else if beginsV L a = true then (chooseP 8 a x).bind (immP L)
  else (chooseP (wdOf (nameR L a)).sets a x).bind fun a x => operandsP L (a + 1) x
noncomputable def compareP (L : List Tk) (a : Nat) (x : Ln) : PR := (chooseP (wdOf (nameR L a)).compares a x).bind fun a x => operandsP L (a + 1) x
noncomputable def bodyP (L : List Tk) (n : Int) (a : Nat) (x : Ln) : PR :=
  if x.op = 27 ∨ x.op = 29 then targetP L a x
  else if x.op = 28 then regP L pSetS a x
  else if x.op = 30 then loopP L a { x with n := n }
  else if x.op = 24 ∨ x.op = 25 ∨ x.op = 26 then storeP L a x
  else .ok a x
noncomputable def namedP (L : List Tk) (a : Nat) (x : Ln) : PR := (chooseP (wdOf (nameR L a)).begins a x).bind fun b y => bodyP L (wdOf (nameR L a)).n (b + 1) y
noncomputable def actionP (L : List Tk) (a : Nat) (x : Ln) : PR :=
  if 0 ≤ regZ L a then (signP L [61] (a + 1) { x with d := regZ L a }).bind (assignP L)
  else if 0 ≤ predZ L a then (chooseP 10 a x).bind fun b y => (signP L [61] (b + 1) { y with d := predZ L a }).bind (compareP L)
  else namedP L a x
def modeZ (isNot isNew : Bool) : Int := if isNot && isNew then 4 else if isNew then 3 else if isNot then 2 else 1
def askP (L : List Tk) (isNot : Bool) (a : Nat) (x : Ln) : PR :=
  if 0 ≤ namedR 112 4 (bareR (nameR L a)).1 then signP L [41] (a + 1) { x with pred := namedR 112 4 (bareR (nameR L a)).1, mode := modeZ isNot (bareR (nameR L a)).2 } else .bad a 8
def condP (L : List Tk) (a : Nat) (x : Ln) : PR :=
  if nameR L a = [105, 102] then (signP L [40] (a + 1) x).bind fun a x => if signR L a = [33] then askP L true (a + 1) x else askP L false a x
  else .ok a x
noncomputable def readP (L : List Tk) : PR := (condP L 0 lnZero).bind (actionP L)
/-- Inst: what it returns. -/
noncomputable def instP (L : List Tk) : Ln × Nat × Int := match readP L with
  | .bad a w => (lnZero, a, w)
  | .ok a x => ({ x with line := (L[0]?.map Tk.line).getD 0, col := (L[0]?.map Tk.col).getD 0 }, a, 0)
/-- Reserved. -/
def resP (s : List UInt8) : Bool := isWord s || decide (0 ≤ namedR 114 32 (bareR s).1) || decide (0 ≤ namedR 112 4 (bareR s).1)
end
section

theorem sg_num {c : UInt8} {t : Tq} {r : List Tq} (h : isSg c (t :: r) = true) (hk : t.kind = 2) : False := by have := (sg_kind h).1; omega
theorem sg_nam {c : UInt8} {t : Tq} {r : List Tq} (h : isSg c (t :: r) = true) (hk : t.kind = 1) : False := by have := (sg_kind h).1; omega
theorem sg_both {c c' : UInt8} {ts : List Tq} (hc : c ≠ c') (h : isSg c ts = true) (h' : isSg c' ts = true) : False := hc (sg_one h h')
theorem sg_tf {c : UInt8} {ts : List Tq} (h : isSg c ts = true) (h' : isSg c ts = false) : False := by rw [h] at h'; cases h'
theorem rd_fun {m : Md} {d : Nat} {ts : List Tq} {r1 : Rs} (h : Rd m d ts r1) : ∀ r2, Rd m d ts r2 → r1 = r2 := by
  induction h with
  | deepP h hd =>
    intro r2 k
    cases k
    all_goals first
      | rfl
      | omega
      | exact (sg_both (by decide) (by assumption) (by assumption)).elim
      | exact (sg_tf (by assumption) (by assumption)).elim
      | exact (sg_num (by assumption) (by assumption)).elim
      | exact (sg_nam (by assumption) (by assumption)).elim
      | (cases h)
  | deepN h hd =>
    intro r2 k
    cases k
    all_goals first
      | rfl
      | omega
      | exact (sg_both (c := 40) (c' := 45) (by decide) (by assumption) (by assumption)).elim
      | exact (sg_tf h (by assumption)).elim
      | exact (sg_num h (by assumption)).elim
      | exact (sg_nam h (by assumption)).elim
      | (cases h)
  | parOk h hd hs hc ih =>
    intro r2 k
    cases k
    all_goals first
      | omega
      | exact (sg_both (c := 40) (c' := 45) (by decide) (by assumption) (by assumption)).elim
      | exact (sg_tf h (by assumption)).elim
      | exact (sg_num h (by assumption)).elim
      | exact (sg_nam h (by assumption)).elim
      | (have e := ih _ (by assumption); cases e <;> first | rfl | exact (sg_tf (c := 41) (by assumption) (by assumption)).elim)
  | parOpen h hd hs hc ih =>
    intro r2 k
    cases k
    all_goals first
      | omega
      | exact (sg_both (c := 40) (c' := 45) (by decide) (by assumption) (by assumption)).elim
      | exact (sg_tf h (by assumption)).elim
      | exact (sg_num h (by assumption)).elim
      | exact (sg_nam h (by assumption)).elim
      | (have e := ih _ (by assumption); cases e <;> first | rfl | exact (sg_tf (c := 41) (by assumption) (by assumption)).elim)
  | parBad h hd hs ih =>
    intro r2 k
    cases k
    all_goals first
      | omega
      | exact (sg_both (c := 40) (c' := 45) (by decide) (by assumption) (by assumption)).elim
      | exact (sg_tf h (by assumption)).elim
      | exact (sg_num h (by assumption)).elim
      | exact (sg_nam h (by assumption)).elim
      | (have e := ih _ (by assumption); cases e <;> first | rfl | exact (sg_tf (c := 41) (by assumption) (by assumption)).elim)
  | negOk h hd hs ih =>
    intro r2 k
    cases k
    all_goals first
      | omega
      | exact (sg_both (c := 40) (c' := 45) (by decide) (by assumption) (by assumption)).elim
      | exact (sg_tf h (by assumption)).elim
      | exact (sg_num h (by assumption)).elim
      | exact (sg_nam h (by assumption)).elim
      | (have e := ih _ (by assumption); cases e <;> first | rfl | exact (sg_tf (c := 41) (by assumption) (by assumption)).elim)
  | negBad h hd hs ih =>
    intro r2 k
    cases k
    all_goals first
      | omega
      | exact (sg_both (c := 40) (c' := 45) (by decide) (by assumption) (by assumption)).elim
      | exact (sg_tf h (by assumption)).elim
      | exact (sg_num h (by assumption)).elim
      | exact (sg_nam h (by assumption)).elim
      | (have e := ih _ (by assumption); cases e <;> first | rfl | exact (sg_tf (c := 41) (by assumption) (by assumption)).elim)
  | number hk h0 h1 =>
    intro r2 k
    cases k
    all_goals first
      | rfl
      | omega
      | exact (sg_num (by assumption) hk).elim
      | exact absurd (And.intro hk (And.intro h0 h1)) (by assumption)
  | name hk h0 =>
    intro r2 k
    cases k
    all_goals first
      | rfl
      | omega
      | exact (sg_nam (by assumption) hk).elim
      | exact absurd (And.intro hk h0) (by assumption)
  | noneEnd =>
    intro r2 k
    cases k
    all_goals first
      | rfl
      | simp_all [isSg]
  | noneTok n1 n2 n3 n4 =>
    intro r2 k
    cases k
    all_goals first
      | rfl
      | exact (sg_tf (by assumption) n1).elim
      | exact (sg_tf (by assumption) n2).elim
      | exact absurd (And.intro (by assumption) (And.intro (by assumption) (by assumption))) n3
      | exact absurd (And.intro (by assumption) (by assumption)) n4
  | prodOk hf hp ih1 ih2 =>
    intro r2 k
    cases k with
    | prodOk hf2 hp2 => have e := ih1 _ hf2; cases e; exact ih2 _ hp2
    | prodBad hf2 => have e := ih1 _ hf2; cases e
  | prodBad hf ih =>
    intro r2 k
    cases k with
    | prodOk hf2 hp2 => have e := ih _ hf2; cases e
    | prodBad hf2 => have e := ih _ hf2; cases e; rfl
  | starOk h hf hp ih1 ih2 =>
    intro r2 k
    cases k with
    | starOk h2 hf2 hp2 => have e := ih1 _ hf2; cases e; exact ih2 _ hp2
    | starBad h2 hf2 => have e := ih1 _ hf2; cases e
    | starEnd h2 => exact (sg_tf h h2).elim
  | starBad h hf ih =>
    intro r2 k
    cases k with
    | starOk h2 hf2 hp2 => have e := ih _ hf2; cases e
    | starBad h2 hf2 => have e := ih _ hf2; cases e; rfl
    | starEnd h2 => exact (sg_tf h h2).elim
  | starEnd h =>
    intro r2 k
    cases k with
    | starOk h2 hf2 hp2 => exact (sg_tf h2 h).elim
    | starBad h2 hf2 => exact (sg_tf h2 h).elim
    | starEnd h2 => rfl
  | sumOk hf hp ih1 ih2 =>
    intro r2 k
    cases k with
    | sumOk hf2 hp2 => have e := ih1 _ hf2; cases e; exact ih2 _ hp2
    | sumBad hf2 => have e := ih1 _ hf2; cases e
  | sumBad hf ih =>
    intro r2 k
    cases k with
    | sumOk hf2 hp2 => have e := ih _ hf2; cases e
    | sumBad hf2 => have e := ih _ hf2; cases e; rfl
  | plusOk h hf hp ih1 ih2 =>
    intro r2 k
    cases k with
    | plusOk h2 hf2 hp2 => have e := ih1 _ hf2; cases e; exact ih2 _ hp2
    | plusBad h2 hf2 => have e := ih1 _ hf2; cases e
    | subOk h2 hf2 hp2 => exact (sg_both (c := 43) (c' := 45) (by decide) h h2).elim
    | subBad h2 hf2 => exact (sg_both (c := 43) (c' := 45) (by decide) h h2).elim
    | sumEnd h2 h3 => exact (sg_tf h h2).elim
  | plusBad h hf ih =>
    intro r2 k
    cases k with
    | plusOk h2 hf2 hp2 => have e := ih _ hf2; cases e
    | plusBad h2 hf2 => have e := ih _ hf2; cases e; rfl
    | subOk h2 hf2 hp2 => exact (sg_both (c := 43) (c' := 45) (by decide) h h2).elim
    | subBad h2 hf2 => exact (sg_both (c := 43) (c' := 45) (by decide) h h2).elim
    | sumEnd h2 h3 => exact (sg_tf h h2).elim
  | subOk h hf hp ih1 ih2 =>
    intro r2 k
    cases k with
    | plusOk h2 hf2 hp2 => exact (sg_both (c := 43) (c' := 45) (by decide) h2 h).elim
    | plusBad h2 hf2 => exact (sg_both (c := 43) (c' := 45) (by decide) h2 h).elim
    | subOk h2 hf2 hp2 => have e := ih1 _ hf2; cases e; exact ih2 _ hp2
    | subBad h2 hf2 => have e := ih1 _ hf2; cases e
    | sumEnd h2 h3 => exact (sg_tf h h3).elim
  | subBad h hf ih =>
    intro r2 k
    cases k with
    | plusOk h2 hf2 hp2 => exact (sg_both (c := 43) (c' := 45) (by decide) h2 h).elim
    | plusBad h2 hf2 => exact (sg_both (c := 43) (c' := 45) (by decide) h2 h).elim
    | subOk h2 hf2 hp2 => have e := ih _ hf2; cases e
    | subBad h2 hf2 => have e := ih _ hf2; cases e; rfl
    | sumEnd h2 h3 => exact (sg_tf h h3).elim
  | sumEnd h h2 =>
    intro r2 k
    cases k with
    | plusOk k2 hf2 hp2 => exact (sg_tf k2 h).elim
    | plusBad k2 hf2 => exact (sg_tf k2 h).elim
    | subOk k2 hf2 hp2 => exact (sg_tf k2 h2).elim
    | subBad k2 hf2 => exact (sg_tf k2 h2).elim
    | sumEnd k2 k3 => rfl
theorem readR_eq {ts : List Tq} {res : Rs} (h : Rd .sum 0 ts res) : readR ts = res := rd_fun (readR_rd ts) res h
/-- What is read of a text that is written out. -/
theorem readR_pf {ts : List Tq} {res : Rs} (n : Nat) (h : pf n .sum 0 ts = some res) : readR ts = res := readR_eq (pf_sound n _ _ _ _ h)
end
section

def exprF (V : Nat → List Tm × Nat × Int) (_ : List Tk) (f : Ln → List Tm → Ln) (a : Nat) (x : Ln) : PR := if (V a).2.2 = 0 then .ok (V a).2.1 (f x (V a).1) else .bad (V a).2.1 (V a).2.2
def immF (V : Nat → List Tm × Nat × Int) (L : List Tk) (a : Nat) (x : Ln) : PR :=
  if signR L a = [35, 35] then exprF V L pSetV (a + 1) (pSetF x true) else (signP L [35] a (pSetF x false)).bind (exprF V L pSetV)
def targetF (V : Nat → List Tm × Nat × Int) (L : List Tk) (a : Nat) (x : Ln) : PR :=
  if signR L a = [35, 35] then exprF V L pSetV (a + 1) (pSetF x true) else exprF V L pSetV a (pSetF x false)
def addressF (V : Nat → List Tm × Nat × Int) (L : List Tk) (a : Nat) (x : Ln) : PR := (regP L pSetS a x).bind fun a x => (signP L [43] a x).bind (immF V L)
def twoF (V : Nat → List Tm × Nat × Int) (L : List Tk) (a : Nat) (x : Ln) : PR := (regP L pSetS a x).bind fun a x => (signP L [44] a x).bind fun a x =>
  if beginsV L a = true then (chooseP (valueOp x.op) a x).bind (immF V L) else regP L pSetT a x
def shiftF (V : Nat → List Tm × Nat × Int) (L : List Tk) (a : Nat) (x : Ln) : PR := (regP L pSetS a x).bind fun a x => (signP L [44] a x).bind fun a x => (signP L [35] a x).bind (exprF V L pSetV)
def insideF (V : Nat → List Tm × Nat × Int) (L : List Tk) (a : Nat) (x : Ln) : PR :=
  if x.op = 14 then (predP L pSetPd a x).bind fun a x => (signP L [44] a x).bind (twoF V L)
  else if x.op = 15 ∨ x.op = 16 ∨ x.op = 17 then shiftF V L a x
  else if x.op = 21 ∨ x.op = 22 ∨ x.op = 23 then addressF V L a x
  else twoF V L a x
def operandsF (V : Nat → List Tm × Nat × Int) (L : List Tk) (a : Nat) (x : Ln) : PR := (signP L [40] a x).bind fun a x => (insideF V L a x).bind (signP L [41])
def storeF (V : Nat → List Tm × Nat × Int) (L : List Tk) (a : Nat) (x : Ln) : PR := (signP L [40] a x).bind fun a x => (addressF V L a x).bind fun a x => (signP L [41] a x).bind fun a x => (signP L [61] a x).bind (newP L)
def countF (V : Nat → List Tm × Nat × Int) (L : List Tk) (a : Nat) (x : Ln) : PR := if signR L a = [35] then exprF V L pSetC (a + 1) x else (chooseP 31 a x).bind (regP L pSetS)
def loopF (V : Nat → List Tm × Nat × Int) (L : List Tk) (a : Nat) (x : Ln) : PR := (signP L [40] a x).bind fun a x => (targetF V L a x).bind fun a x => (signP L [44] a x).bind fun a x => (countF V L a x).bind (signP L [41])
def assignF (V : Nat → List Tm × Nat × Int) (L : List Tk) (a : Nat) (x : Ln) : PR :=
  if 0 ≤ regZ L a then (chooseP 9 a x).bind fun a x => .ok (a + 1) (pSetS x (regZ L a))
  else if beginsV L a = true then (chooseP 8 a x).bind (immF V L)
  else (chooseP (wdOf (nameR L a)).sets a x).bind fun a x => operandsF V L (a + 1) x
def compareF (V : Nat → List Tm × Nat × Int) (L : List Tk) (a : Nat) (x : Ln) : PR := (chooseP (wdOf (nameR L a)).compares a x).bind fun a x => operandsF V L (a + 1) x
def bodyF (V : Nat → List Tm × Nat × Int) (L : List Tk) (n : Int) (a : Nat) (x : Ln) : PR :=
  if x.op = 27 ∨ x.op = 29 then targetF V L a x
  else if x.op = 28 then regP L pSetS a x
  else if x.op = 30 then loopF V L a { x with n := n }
  else if x.op = 24 ∨ x.op = 25 ∨ x.op = 26 then storeF V L a x
  else .ok a x
def namedF (V : Nat → List Tm × Nat × Int) (L : List Tk) (a : Nat) (x : Ln) : PR := (chooseP (wdOf (nameR L a)).begins a x).bind fun b y => bodyF V L (wdOf (nameR L a)).n (b + 1) y
def actionF (V : Nat → List Tm × Nat × Int) (L : List Tk) (a : Nat) (x : Ln) : PR :=
  if 0 ≤ regZ L a then (signP L [61] (a + 1) { x with d := regZ L a }).bind (assignF V L)
  else if 0 ≤ predZ L a then (chooseP 10 a x).bind fun b y => (signP L [61] (b + 1) { y with d := predZ L a }).bind (compareF V L)
  else namedF V L a x
def readF (V : Nat → List Tm × Nat × Int) (L : List Tk) : PR := (condP L 0 lnZero).bind (actionF V L)
theorem readF_eq (L : List Tk) : readP L = readF (valueR L) L := rfl
def instF (V : Nat → List Tm × Nat × Int) (L : List Tk) : Ln × Nat × Int := match readF V L with
  | .bad a w => (lnZero, a, w)
  | .ok a x => ({ x with line := (L[0]?.map Tk.line).getD 0, col := (L[0]?.map Tk.col).getD 0 }, a, 0)
theorem instF_eq (L : List Tk) : instP L = instF (valueR L) L := rfl
/-- The expression from a place on, by so many steps at most. -/
def valN (n : Nat) (L : List Tk) (a : Nat) : Option (List Tm × Nat × Int) := (pf n .sum 0 ((L.drop a).map Tk.q)).map fun r => match r with
  | .ok e r => (e.post 0, L.length - r.length, 0)
  | .bad r why => ([], L.length - r.length, why)
def valZ (n : Nat) (L : List Tk) (a : Nat) : List Tm × Nat × Int := (valN n L a).getD ([], 0, 0)
theorem valN_eq {n : Nat} {L : List Tk} {a : Nat} {v : List Tm × Nat × Int} (h : valN n L a = some v) : valueR L a = v := by
  obtain ⟨res, hr, hv⟩ := Option.map_eq_some_iff.1 h
  unfold valueR
  rw [readR_pf n hr, ← hv]
  first | done | (cases res <;> rfl)
def valAll (n : Nat) (L : List Tk) : Bool := (List.range (L.length + 1)).all fun a => (valN n L a).isSome
theorem valZ_eq {n : Nat} {L : List Tk} (h : valAll n L = true) : valueR L = valZ n L := by
  funext a
  have hs : (valN n L a).isSome = true := by
    have hall := List.all_eq_true.1 h
    by_cases ha : a ≤ L.length
    · exact hall a (List.mem_range.2 (by omega))
    · have h1 := hall L.length (List.mem_range.2 (by omega))
      unfold valN at h1 ⊢
      rw [List.drop_eq_nil_of_le (Nat.le_refl _)] at h1
      rw [List.drop_eq_nil_of_le (by omega)]
      exact h1
  obtain ⟨v, hv⟩ := Option.isSome_iff_exists.1 hs
  rw [valN_eq hv]
  unfold valZ
  rw [hv]
  rfl
/-- Inst of tokens that are written out. -/
theorem inst_lit {n : Nat} {L : List Tk} (h : valAll n L = true) {v : Ln × Nat × Int} (hv : instF (valZ n L) L = v) : instP L = v := by
  rw [instF_eq, valZ_eq h, hv]
end
section

def digN : List UInt8 := [48, 49, 50, 51, 52, 53, 54, 55, 56, 57]
theorem dig_mem {a : UInt8} (h : isDig a = true) : a ∈ digN := by
  unfold isDig at h
  simp only [Bool.and_eq_true, decide_eq_true_eq] at h
  have e : a = UInt8.ofNat a.toNat := (UInt8.ofNat_toNat).symm
  rw [e]
  obtain ⟨h1, h2⟩ := h
  generalize a.toNat = n at h1 h2
  have : n = 48 ∨ n = 49 ∨ n = 50 ∨ n = 51 ∨ n = 52 ∨ n = 53 ∨ n = 54 ∨ n = 55 ∨ n = 56 ∨ n = 57 := by omega
  rcases this with rfl | rfl | rfl | rfl | rfl | rfl | rfl | rfl | rfl | rfl <;> decide
/-- Texts of one or two digits. -/
def numsL : List (List UInt8) := digN.map (fun a => [a]) ++ digN.flatMap fun a => digN.map fun b => [a, b]
theorem nums_mem {s : List UInt8} (h : 0 ≤ numR s) : s ∈ numsL := by
  unfold numR at h
  split at h
  · rename_i a
    split at h
    · rename_i ha
      exact List.mem_append_left _ (List.mem_map.2 ⟨a, dig_mem ha, rfl⟩)
    · omega
  · rename_i a b
    split at h
    · omega
    · split at h
      · rename_i hab
        rw [Bool.and_eq_true] at hab
        exact List.mem_append_right _ (List.mem_flatMap.2 ⟨a, dig_mem hab.1, List.mem_map.2 ⟨b, dig_mem hab.2, rfl⟩⟩)
      · omega
  · omega
def regsN : List (List UInt8) := (numsL.map (fun r => 114 :: r)).filter fun s => decide (0 ≤ namedR 114 32 s)
def predsN : List (List UInt8) := (numsL.map (fun r => 112 :: r)).filter fun s => decide (0 ≤ namedR 112 4 s)
theorem named_cons {c : UInt8} {b : Int} {s : List UInt8} (h : 0 ≤ namedR c b s) : ∃ r, s = c :: r ∧ r ∈ numsL := by
  unfold namedR at h
  split at h
  · omega
  · rename_i x r
    split at h
    · rename_i hx
      split at h
      · omega
      · exact ⟨r, by rw [hx], nums_mem h⟩
    · omega
theorem regs_mem {s : List UInt8} (h : 0 ≤ namedR 114 32 s) : s ∈ regsN := by
  obtain ⟨r, rfl, hr⟩ := named_cons h
  exact List.mem_filter.2 ⟨List.mem_map.2 ⟨r, hr, rfl⟩, decide_eq_true h⟩
theorem preds_mem {s : List UInt8} (h : 0 ≤ namedR 112 4 s) : s ∈ predsN := by
  obtain ⟨r, rfl, hr⟩ := named_cons h
  exact List.mem_filter.2 ⟨List.mem_map.2 ⟨r, hr, rfl⟩, decide_eq_true h⟩
/-- All reserved names. -/
def resN : List (List UInt8) := wordsT.map (·.1) ++ (regsN ++ predsN) ++ (regsN ++ predsN).map (· ++ [46, 110, 101, 119])
theorem bare_back (s : List UInt8) : s = (bareR s).1 ∨ s = (bareR s).1 ++ [46, 110, 101, 119] := by
  unfold bareR
  split
  · rename_i h
    right
    show s = s.take (s.length - 4) ++ [46, 110, 101, 119]
    rw [← h.2, List.take_append_drop]
  · exact .inl rfl
theorem res_mem {s : List UInt8} (h : resP s = true) : s ∈ resN := by
  unfold resP at h
  simp only [Bool.or_eq_true, decide_eq_true_eq] at h
  unfold resN
  rcases h with (h | h) | h
  · refine List.mem_append_left _ (List.mem_append_left _ ?_)
    unfold isWord wordOf at h
    rw [Option.isSome_map] at h
    obtain ⟨p, hp⟩ := Option.isSome_iff_exists.1 h
    have h1 := List.find?_some hp
    have h2 := List.mem_of_find?_eq_some hp
    rw [beq_iff_eq] at h1
    exact List.mem_map.2 ⟨p, h2, h1⟩
  · have hm := List.mem_append_left predsN (regs_mem h)
    rcases bare_back s with e | e
    · rw [e]; exact List.mem_append_left _ (List.mem_append_right _ hm)
    · rw [e]; exact List.mem_append_right _ (List.mem_map.2 ⟨_, hm, rfl⟩)
  · have hm := List.mem_append_right regsN (preds_mem h)
    rcases bare_back s with e | e
    · rw [e]; exact List.mem_append_left _ (List.mem_append_right _ hm)
    · rw [e]; exact List.mem_append_right _ (List.mem_map.2 ⟨_, hm, rfl⟩)
/-- A byte that a reserved name may have. -/
def nameB (c : UInt8) : Bool := (decide (97 ≤ c.toNat) && decide (c.toNat ≤ 122)) || (decide (48 ≤ c.toNat) && decide (c.toNat ≤ 57)) || decide (c.toNat = 46)
/-- A register or a predicate, by its length and its first two bytes. -/
def regN (s : List UInt8) : Bool := decide (1 < s.length) && decide (s.length < 4) && ((s[0]? == some 114) || (s[0]? == some 112)) && (match s[1]? with | some c => decide (48 ≤ c.toNat) && decide (c.toNat ≤ 57) | none => false)
def okN (s : List UInt8) : Bool := s.all nameB && decide (0 < s.length) && (s[0]? != some 46) && (resP (s ++ [46, 110, 101, 119]) == regN s)
theorem all_okN : resN.all okN = true := by decide +kernel
theorem res_ok {s : List UInt8} (h : resP s = true) : (∀ c ∈ s, nameB c = true) ∧ 0 < s.length ∧ s[0]? ≠ some 46 ∧ resP (s ++ [46, 110, 101, 119]) = regN s := by
  have h1 := List.all_eq_true.1 all_okN s (res_mem h)
  unfold okN at h1
  simp only [Bool.and_eq_true, decide_eq_true_eq, bne_iff_ne, beq_iff_eq, List.all_eq_true] at h1
  exact ⟨h1.1.1.1, h1.1.1.2, h1.1.2, h1.2⟩
end
end Go.Proofs.YtnfmlmamgkpocaaGreatDoor
