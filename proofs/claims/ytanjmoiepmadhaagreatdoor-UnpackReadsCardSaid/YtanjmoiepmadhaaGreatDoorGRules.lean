/- The rules for what is done at once as plain data: clashes, and what is wrong with a packet; it does not hang on the row of the instructions; of what is due none writes what another one writes; without one that writes nothing nothing gets wrong. No condition but those named. · A packet among a law's arguments, opened into its instructions and marks; it reads behind a call that makes new memory alone as before it. · Of a right instruction the numbers that it writes lie in their ranges. · What the small functions of package rules return, for every two instructions: which register and predicate they write, whether at most one of them is due, whether they clash. · What Go's slices.IndexFunc and slices.ContainsFunc return of instructions in memory, for every function of an instruction that tells a bool and makes new memory alone. · The rules for what is done at once, in the program's own words, are those of the plain data: two branches, a clash with one ahead, what lacks its fresh predicate or register, what disturbs a loop. No condition but those named. · What the closures and the parts of Check of package rules return, for any instructions in memory. · What Clash and Check of package rules return, for every packet in memory, in every world that holds the table of names. · Rows of instructions that a call itself makes, copied and gone through; instructions compared by Go's != with themselves; no condition. -/
import Derived.Test.YtanjmoiepmadhaaGreatDoorGInst
import Derived.Test.YtanjmoiepmadhaaGreatDoorGBase
import Derived.Deep.Slices
import Derived.Carry
import Derived.Test.YtanjmoiepmadhaaGreatDoorGFns
import Derived.Laws.Small
import Derived.Test.YtanjmoiepmadhaaGreatDoorGOf
import Derived.Laws.AppendOwnNone
import Derived.Laws.StructEq
namespace Go.Proofs.YtanjmoiepmadhaaGreatDoor
section

def exclB (a b : In) : Bool := a.pred == b.pred && ((a.mode == 1 && b.mode == 2) || (a.mode == 2 && b.mode == 1) || (a.mode == 3 && b.mode == 4) || (a.mode == 4 && b.mode == 3))
def regB (x : In) (r : Int) : Bool := (writesP x).2 && (writesP x).1 == r
def setB (x : In) (p : Int) : Bool := (wpredP x).2 && (wpredP x).1 == p
def wClash (a b : In) : Bool := (writesP a).2 && regB b (writesP a).1 && !exclB a b
def pClash (a b : In) : Bool := (wpredP a).2 && setB b (wpredP a).1
def clashP (a b : In) : Bool := wClash a b || pClash a b
theorem beq_comm' (a b : Int) : (a == b) = (b == a) := by
  by_cases h : a = b
  · subst h; rfl
  · rw [beq_eq_false_iff_ne.2 h, beq_eq_false_iff_ne.2 (Ne.symm h)]
theorem exclB_comm (a b : In) : exclB a b = exclB b a := by
  unfold exclB
  rw [beq_comm' a.pred b.pred]
  cases (b.pred == a.pred) <;> cases (a.mode == 1) <;> cases (a.mode == 2) <;> cases (a.mode == 3) <;> cases (a.mode == 4) <;> cases (b.mode == 1) <;> cases (b.mode == 2) <;> cases (b.mode == 3) <;> cases (b.mode == 4) <;> rfl
theorem wClash_comm (a b : In) : wClash a b = wClash b a := by
  unfold wClash regB
  rw [exclB_comm a b, beq_comm' (writesP b).1 (writesP a).1]
  cases (writesP a).2 <;> cases (writesP b).2 <;> rfl
theorem pClash_comm (a b : In) : pClash a b = pClash b a := by
  unfold pClash setB
  rw [beq_comm' (wpredP b).1 (wpredP a).1]
  cases (wpredP a).2 <;> cases (wpredP b).2 <;> rfl
theorem clashP_comm (a b : In) : clashP a b = clashP b a := by unfold clashP; rw [wClash_comm, pClash_comm]

def classP (x : In) : Int := classZ (if isOp x.op then x.op else 0)
def countC (l : List In) (c : Int) : Nat := l.countP fun x => classP x == c
def clashL : List In → Bool
  | [] => false
  | a :: r => r.any (clashP a) || clashL r
theorem clashL_iff : ∀ l : List In, clashL l = false ↔ l.Pairwise fun a b => clashP a b = false
  | [] => by simp [clashL]
  | a :: r => by
    have e : clashL (a :: r) = (r.any (clashP a) || clashL r) := rfl
    rw [e, Bool.or_eq_false_iff, List.pairwise_cons, clashL_iff r]
    simp
def setsB (l : List In) (p : Int) : Bool := l.any fun y => setB y p
def writers (l : List In) (r : Int) : Nat := l.countP fun y => regB y r
def goodB (y : In) (r : Int) : Bool := regB y r && (classP y == 1 || classP y == 2) && y.mode == 0
def goods (l : List In) (r : Int) : Nat := l.countP fun y => goodB y r
def freshOne (l : List In) (x : In) : Bool := (decide (x.mode ≤ 2) || setsB l x.pred) && (!x.new || (writers l x.t == 1 && goods l x.t == 1))
def freshB (l : List In) : Bool := l.all (freshOne l)
/-- A packet as plain data. -/
structure Pk where
  insts : List In
  e0 : Bool
  e1 : Bool
  raw : Bool
  dup : Bool
def formB (p : Pk) : Bool := p.insts.length != 0 && decide (p.insts.length ≤ 4) && !(p.raw && p.dup) && p.insts.all rightB
def loopB (p : Pk) : Bool := (p.e0 || p.e1) && decide (0 < countC p.insts 5 + countC p.insts 6)
def checkP (p : Pk) : Int := if !formB p then 8 else if 1 < countC p.insts 5 then 14 else if clashL p.insts then 11 else if !freshB p.insts then 12 else if loopB p then 13 else 0

theorem perm_clash {l m : List In} (h : l.Perm m) : clashL l = clashL m := by
  have key : ∀ {a b : List In}, a.Perm b → clashL a = false → clashL b = false := fun {a b} hp ha =>
    (clashL_iff b).2 ((hp.pairwise_iff (fun {x y} hxy => by rw [clashP_comm]; exact hxy)).1 ((clashL_iff a).1 ha))
  cases h1 : clashL l with
  | false => exact (key h h1).symm
  | true =>
    cases h2 : clashL m with
    | true => rfl
    | false => exact absurd (key h.symm h2) (by rw [h1]; simp)
theorem perm_all {l m : List In} (h : l.Perm m) (f : In → Bool) : l.all f = m.all f := by
  have e : ∀ x, x ∈ l ↔ x ∈ m := fun x => h.mem_iff
  rw [Bool.eq_iff_iff, List.all_eq_true, List.all_eq_true]
  exact ⟨fun k x hx => k x ((e x).2 hx), fun k x hx => k x ((e x).1 hx)⟩
theorem perm_any {l m : List In} (h : l.Perm m) (f : In → Bool) : l.any f = m.any f := by
  have e : ∀ x, x ∈ l ↔ x ∈ m := fun x => h.mem_iff
  rw [Bool.eq_iff_iff, List.any_eq_true, List.any_eq_true]
  exact ⟨fun ⟨x, hx, k⟩ => ⟨x, (e x).1 hx, k⟩, fun ⟨x, hx, k⟩ => ⟨x, (e x).2 hx, k⟩⟩
theorem perm_fresh {l m : List In} (h : l.Perm m) : freshB l = freshB m := by
  have e : freshOne l = freshOne m := funext fun x => by
    unfold freshOne setsB writers goods
    rw [perm_any h, h.countP_eq, h.countP_eq]
  unfold freshB
  rw [e, perm_all h]
/-- What is wrong with a packet does not hang on the row of its instructions. -/
theorem check_perm {p q : Pk} (h : p.insts.Perm q.insts) (h0 : p.e0 = q.e0) (h1 : p.e1 = q.e1) (h2 : p.raw = q.raw) (h3 : p.dup = q.dup) : checkP p = checkP q := by
  unfold checkP formB loopB countC
  rw [h.length_eq, perm_all h, h.countP_eq, h.countP_eq, perm_clash h, perm_fresh h, h0, h1, h2, h3]

/-- What is so of a packet that is OK. -/
structure AllOk (p : Pk) : Prop where
  form : formB p = true
  branch : countC p.insts 5 ≤ 1
  clash : clashL p.insts = false
  fresh : freshB p.insts = true
  loop : loopB p = false
theorem ok_iff (p : Pk) : checkP p = 0 ↔ AllOk p := by
  unfold checkP
  constructor
  · intro h
    by_cases h1 : formB p = true
    · by_cases h2 : 1 < countC p.insts 5
      · simp [h1, h2] at h
      · cases h3 : clashL p.insts with
        | true => simp [h1, h2, h3] at h
        | false =>
          cases h4 : freshB p.insts with
          | false => simp [h1, h2, h3, h4] at h
          | true =>
            cases h5 : loopB p with
            | true => simp [h1, h2, h3, h4, h5] at h
            | false => exact ⟨h1, by omega, h3, h4, h5⟩
    · simp [h1] at h
  · rintro ⟨h1, h2, h3, h4, h5⟩
    simp [h1, show ¬ 1 < countC p.insts 5 by omega, h3, h4, h5]
theorem form_iff (p : Pk) : formB p = true ↔ p.insts ≠ [] ∧ p.insts.length ≤ 4 ∧ (p.raw && p.dup) = false ∧ ∀ x ∈ p.insts, rightB x = true := by
  unfold formB
  simp only [Bool.and_eq_true, bne_iff_ne, decide_eq_true_eq, Bool.not_eq_true', List.all_eq_true, ne_eq, List.length_eq_zero_iff]
  constructor
  · rintro ⟨⟨⟨a, b⟩, c⟩, d⟩; exact ⟨a, b, c, d⟩
  · rintro ⟨a, b, c, d⟩; exact ⟨⟨⟨a, b⟩, c⟩, d⟩

/-! What is due. -/
/-! Without one that writes nothing. -/
/-- Two instructions in each other's place. -/
theorem swap_perm (l : List In) (i j : Nat) (hi : i < l.length) (hj : j < l.length) : ((l.set i l[j]).set j l[i]).Perm l := by
  have h := Array.swap_perm (xs := l.toArray) (i := i) (j := j) (by simpa using hi) (by simpa using hj)
  have h2 := h.toList
  simpa [Array.swap] using h2
end
section
open Go.ChangeShapes Go.WideShapes Go.ChangeAt Go.RowKit Go.Deep

/-- A slice of instructions in memory, wherever it lies. -/
structure Insts (w : World) (ao : Option Addr) (cap : Nat) (l : List In) : Prop where
  room : l.length ≤ cap
  max : cap ≤ maxLen
  small : ∀ x ∈ l, x.small
  bare : ao = none → l = [] ∧ cap = 0
  cell : ∀ t (h : t < l.length), ∃ b o, ao = some ⟨b, o, none⟩ ∧ ∀ r, r < 11 → w.cell? ⟨b, o + t * 11 + r, none⟩ = (l[t].cells)[r]?
theorem Insts.keep {w w' : World} {ao : Option Addr} {cap : Nat} {l : List In} (h : Insts w ao cap l) (hc : ∀ a v, w.cell? a = some v → w'.cell? a = some v) : Insts w' ao cap l :=
  ⟨h.room, h.max, h.small, h.bare, fun t ht => by
    obtain ⟨b, o, e, hcell⟩ := h.cell t ht
    refine ⟨b, o, e, fun r hr => ?_⟩
    have h1 := hcell r hr
    have h2 : r < (l[t].cells).length := hr
    rw [List.getElem?_eq_getElem h2] at h1 ⊢
    exact hc _ _ h1⟩
theorem insts_made {w w' : World} {ao : Option Addr} {cap : Nat} {l : List In} (h : Insts w ao cap l) (hm : Made w w') : Insts w' ao cap l :=
  h.keep fun a _ k => (World.cell?_of_block (hm.block a.block (World.block_lt_of_cell? w a k))).trans k
/-- The cells of one of them. -/
theorem insts_cells {w : World} {ao : Option Addr} {cap : Nat} {l : List In} (h : Insts w ao cap l) {t : Nat} (ht : t < l.length) (x : In) (hx : l[t] = x) : ∃ b o, ao = some ⟨b, o, none⟩ ∧
    w.cell? ⟨b, o + t * 11, none⟩ = some (.int .u8 x.op) ∧ w.cell? ⟨b, o + t * 11 + 1, none⟩ = some (.int .u8 x.d) ∧ w.cell? ⟨b, o + t * 11 + 2, none⟩ = some (.int .u8 x.s) ∧ w.cell? ⟨b, o + t * 11 + 3, none⟩ = some (.int .u8 x.t) ∧
    w.cell? ⟨b, o + t * 11 + 4, none⟩ = some (.int .u8 x.n) ∧ w.cell? ⟨b, o + t * 11 + 5, none⟩ = some (.int .u8 x.pred) ∧ w.cell? ⟨b, o + t * 11 + 6, none⟩ = some (.int .u8 x.mode) ∧ w.cell? ⟨b, o + t * 11 + 7, none⟩ = some (.bool x.new) ∧
    w.cell? ⟨b, o + t * 11 + 8, none⟩ = some (.bool x.ext) ∧ w.cell? ⟨b, o + t * 11 + 9, none⟩ = some (.int .u16 x.count) ∧ w.cell? ⟨b, o + t * 11 + 10, none⟩ = some (.int .i64 x.imm) := by
  subst hx
  obtain ⟨b, o, e, hc⟩ := h.cell t ht
  exact ⟨b, o, e, hc 0 (by omega), hc 1 (by omega), hc 2 (by omega), hc 3 (by omega), hc 4 (by omega), hc 5 (by omega), hc 6 (by omega), hc 7 (by omega), hc 8 (by omega), hc 9 (by omega), hc 10 (by omega)⟩
abbrev pkV (ao : Option Addr) (n cap : Nat) (e0 e1 raw dup : Bool) : Value := .agg #[.slice ao n cap, .bool e0, .bool e1, .bool raw, .bool dup]
theorem laid_out10 : laidOutB Tryz.prog = true := by kernel_rfl
theorem cells_pk : Tryz.prog.cellsOf 29 = 5 := by kernel_rfl
theorem cells_sl : Tryz.prog.cellsOf 27 = 1 := by kernel_rfl
theorem array5 {α : Type} {cs : Array α} (h : cs.size = 5) : ∃ c0 c1 c2 c3 c4, cs = #[c0, c1, c2, c3, c4] := by
  obtain ⟨l⟩ := cs
  match l, h with
  | [c0, c1, c2, c3, c4], _ => exact ⟨c0, c1, c2, c3, c4, rfl⟩
theorem list5 {α : Type} {l : List α} (h : l.length = 5) : ∃ c0 c1 c2 c3 c4, l = [c0, c1, c2, c3, c4] := by
  match l, h with
  | [c0, c1, c2, c3, c4], _ => exact ⟨c0, c1, c2, c3, c4, rfl⟩
section
variable {H : Type} {enc : TypeId × Value → H} {w : World} {base : Nat} {spare : Nat → Bool} {held : Bool}
set_option maxRecDepth 100000 in
theorem open_inst_cells {fuel : Nat} {cs : List Value} {z : DataW H × List MemPlace} (hlen0 : cs.length = 11) (hf : DataW.trod enc Tryz.prog w base spare held fuel 40 cs = some z) : ∃ x : In, cs = x.cells ∧ x.small := by
  obtain ⟨xs, n, _, hx, _, hlen, hfld⟩ := DataW.trod_struct Tryz.underlying40 hf
  obtain ⟨c0, c1, c2, c3, c4, c5, c6, c7, c8, c9, c10, rfl⟩ := list11 hlen0
  obtain ⟨y0, y1, y2, y3, y4, y5, y6, y7, y8, y9, y10, rfl⟩ := list11 hlen
  have h0 : DataW.trod enc Tryz.prog w base spare held n 5 [c0] = some y0 := by simpa [cells_u8] using hfld 0 _ rfl
  obtain ⟨a0, e0, hy0, w0⟩ := DataW.trod_int Tryz.underlying5 h0
  obtain rfl : c0 = _ := List.head_eq_of_cons_eq e0
  subst hy0
  have h1 : DataW.trod enc Tryz.prog w base spare held n 5 [c1] = some y1 := by simpa [cells_u8] using hfld 1 _ rfl
  obtain ⟨a1, e1, hy1, w1⟩ := DataW.trod_int Tryz.underlying5 h1
  obtain rfl : c1 = _ := List.head_eq_of_cons_eq e1
  subst hy1
  have h2 : DataW.trod enc Tryz.prog w base spare held n 5 [c2] = some y2 := by simpa [cells_u8] using hfld 2 _ rfl
  obtain ⟨a2, e2, hy2, w2⟩ := DataW.trod_int Tryz.underlying5 h2
  obtain rfl : c2 = _ := List.head_eq_of_cons_eq e2
  subst hy2
  have h3 : DataW.trod enc Tryz.prog w base spare held n 5 [c3] = some y3 := by simpa [cells_u8] using hfld 3 _ rfl
  obtain ⟨a3, e3, hy3, w3⟩ := DataW.trod_int Tryz.underlying5 h3
  obtain rfl : c3 = _ := List.head_eq_of_cons_eq e3
  subst hy3
  have h4 : DataW.trod enc Tryz.prog w base spare held n 5 [c4] = some y4 := by simpa [cells_u8] using hfld 4 _ rfl
  obtain ⟨a4, e4, hy4, w4⟩ := DataW.trod_int Tryz.underlying5 h4
  obtain rfl : c4 = _ := List.head_eq_of_cons_eq e4
  subst hy4
  have h5 : DataW.trod enc Tryz.prog w base spare held n 5 [c5] = some y5 := by simpa [cells_u8] using hfld 5 _ rfl
  obtain ⟨a5, e5, hy5, w5⟩ := DataW.trod_int Tryz.underlying5 h5
  obtain rfl : c5 = _ := List.head_eq_of_cons_eq e5
  subst hy5
  have h6 : DataW.trod enc Tryz.prog w base spare held n 5 [c6] = some y6 := by simpa [cells_u8] using hfld 6 _ rfl
  obtain ⟨a6, e6, hy6, w6⟩ := DataW.trod_int Tryz.underlying5 h6
  obtain rfl : c6 = _ := List.head_eq_of_cons_eq e6
  subst hy6
  have h7 : DataW.trod enc Tryz.prog w base spare held n 4 [c7] = some y7 := by simpa [cells_bool] using hfld 7 _ rfl
  obtain ⟨a7, e7, hy7⟩ := DataW.trod_bool Tryz.underlying4 h7
  obtain rfl : c7 = _ := List.head_eq_of_cons_eq e7
  subst hy7
  have h8 : DataW.trod enc Tryz.prog w base spare held n 4 [c8] = some y8 := by simpa [cells_bool] using hfld 8 _ rfl
  obtain ⟨a8, e8, hy8⟩ := DataW.trod_bool Tryz.underlying4 h8
  obtain rfl : c8 = _ := List.head_eq_of_cons_eq e8
  subst hy8
  have h9 : DataW.trod enc Tryz.prog w base spare held n 38 [c9] = some y9 := by simpa [cells_u16] using hfld 9 _ rfl
  obtain ⟨a9, e9, hy9, w9⟩ := DataW.trod_int Tryz.underlying38 h9
  obtain rfl : c9 = _ := List.head_eq_of_cons_eq e9
  subst hy9
  have h10 : DataW.trod enc Tryz.prog w base spare held n 2 [c10] = some y10 := by simpa [cells_i64] using hfld 10 _ rfl
  obtain ⟨a10, e10, hy10, w10⟩ := DataW.trod_int Tryz.underlying2 h10
  obtain rfl : c10 = _ := List.head_eq_of_cons_eq e10
  subst hy10
  exact ⟨⟨a0, a1, a2, a3, a4, a5, a6, a7, a8, a9, a10⟩, rfl, ⟨(u8_wf w0).1, (u8_wf w0).2, (u8_wf w1).1, (u8_wf w1).2, (u8_wf w2).1, (u8_wf w2).2, (u8_wf w3).1, (u8_wf w3).2, (u8_wf w4).1, (u8_wf w4).2, (u8_wf w5).1, (u8_wf w5).2, (u8_wf w6).1, (u8_wf w6).2, (u16_wf w9).1, (u16_wf w9).2, (i64_wf w10).1, (i64_wf w10).2⟩⟩
end
theorem add_plain (b o k : Nat) : (⟨b, o, none⟩ : Addr).add k = ⟨b, o + k, none⟩ := by
  unfold Addr.add
  split
  · rename_i h; subst h; rfl
  · rfl
section
variable {H : Type} {enc : TypeId × Value → H} {w : World}
theorem choose_list {P : Nat → In → Prop} : ∀ n : Nat, (∀ t, t < n → ∃ x, P t x) → ∃ l : List In, l.length = n ∧ ∀ t (h : t < l.length), P t l[t]
  | 0, _ => ⟨[], rfl, fun t h => absurd h (Nat.not_lt_zero t)⟩
  | n + 1, h => by
    obtain ⟨l, hl, hp⟩ := choose_list n fun t ht => h t (by omega)
    obtain ⟨x, hx⟩ := h n (by omega)
    refine ⟨l ++ [x], by simp [hl], fun t ht => ?_⟩
    simp only [List.length_append, List.length_cons, List.length_nil] at ht
    by_cases h1 : t < l.length
    · rw [List.getElem_append_left h1]
      exact hp t h1
    · obtain rfl : t = n := by omega
      subst hl
      simpa using hx
/-- A slice of instructions, opened. -/
theorem open_insts {fuel : Nat} {ao : Option Addr} {n cap : Nat} {z : DataW H × List MemPlace} (hf : DataW.trod enc Tryz.prog w 0 (fun _ => true) true fuel 27 [.slice ao n cap] = some z) : ∃ l : List In, l.length = n ∧ Insts w ao cap l := by
  rcases open_slice Tryz.underlying27 hf with ⟨hcs, _⟩ | ⟨a, len, cap', m, k, D, Pl, hcs, _, hl, hm, hmm, _, hx⟩
  · simp only [List.cons.injEq, Value.slice.injEq, and_true] at hcs
    obtain ⟨rfl, rfl, rfl⟩ := hcs
    exact ⟨[], rfl, Nat.le_refl _, Nat.zero_le _, fun x hx => by simp at hx, fun _ => ⟨rfl, rfl⟩, fun t ht => absurd ht (Nat.not_lt_zero t)⟩
  · simp only [List.cons.injEq, Value.slice.injEq, and_true] at hcs
    obtain ⟨rfl, rfl, rfl⟩ := hcs
    simp only [if_true] at hmm
    subst hmm
    rw [cells_inst] at hx
    have hspot : 0 < n → a.spot = none := fun h0 => by
      obtain ⟨cs', h1, h2⟩ := hx 0 (by omega)
      obtain ⟨h3, h4, h5⟩ := World.cells?_some h1
      obtain ⟨x, rfl, _⟩ := open_inst_cells h4 h2
      have h6 := h5 0 (by omega)
      simpa [Addr.add] using World.cell?_spot (h6.trans rfl)
    obtain ⟨l, hll, hp⟩ := choose_list (P := fun t x => x.small ∧ ∃ b o, a = ⟨b, o, none⟩ ∧ ∀ r, r < 11 → w.cell? ⟨b, o + t * 11 + r, none⟩ = (x.cells)[r]?) n (fun t ht => by
      obtain ⟨cs', h1, h2⟩ := hx t (by omega)
      obtain ⟨h3, h4, h5⟩ := World.cells?_some h1
      obtain ⟨x, rfl, hs⟩ := open_inst_cells h4 h2
      have hsp := hspot (by omega)
      obtain ⟨b, o, sp⟩ := a
      have hsp2 : sp = none := hsp
      subst hsp2
      refine ⟨x, hs, b, o, rfl, fun r hr => ?_⟩
      rw [← h5 r hr, add_plain, add_plain])
    exact ⟨l, hll, by omega, hm, fun x hx => by
      obtain ⟨t, ht, rfl⟩ := List.mem_iff_getElem.1 hx
      exact (hp t ht).1, fun h => by simp at h, fun t ht => by
      obtain ⟨b, o, e, hc⟩ := (hp t ht).2
      exact ⟨b, o, by rw [e], hc⟩⟩
set_option maxRecDepth 100000 in
theorem open_packet {base : Nat} {v : Value} {d : DataW H} {p : List MemPlace} (hval : Value.okWide Tryz.prog w .any base 29 v) (h : DataW.Trod enc Tryz.prog w 0 (fun _ => true) true 29 v d p) :
    ∃ (ao : Option Addr) (cap : Nat) (l : List In) (e0 e1 raw dup : Bool), v = pkV ao l.length cap e0 e1 raw dup ∧ Insts w ao cap l := by
  obtain ⟨cs, rfl, hsz⟩ := okWide_struct Tryz.underlying29 hval
  obtain ⟨fuel, hf⟩ := h
  obtain ⟨xs, n, _, hx, _, hlen, hfld⟩ := DataW.trod_struct Tryz.underlying29 hf
  obtain ⟨c0, c1, c2, c3, c4, rfl⟩ := array5 (hsz.trans cells_pk)
  obtain ⟨y0, y1, y2, y3, y4, rfl⟩ := list5 hlen
  have h0 : DataW.trod enc Tryz.prog w 0 (fun _ => true) true n 27 [c0] = some y0 := by simpa [Value.cells, cells_sl] using hfld 0 _ rfl
  have h1 : DataW.trod enc Tryz.prog w 0 (fun _ => true) true n 4 [c1] = some y1 := by simpa [Value.cells, cells_bool, cells_sl] using hfld 1 _ rfl
  obtain ⟨a1, e1, hy1⟩ := DataW.trod_bool Tryz.underlying4 h1
  obtain rfl : c1 = _ := List.head_eq_of_cons_eq e1
  have h2 : DataW.trod enc Tryz.prog w 0 (fun _ => true) true n 4 [c2] = some y2 := by simpa [Value.cells, cells_bool, cells_sl] using hfld 2 _ rfl
  obtain ⟨a2, e2, hy2⟩ := DataW.trod_bool Tryz.underlying4 h2
  obtain rfl : c2 = _ := List.head_eq_of_cons_eq e2
  have h3 : DataW.trod enc Tryz.prog w 0 (fun _ => true) true n 4 [c3] = some y3 := by simpa [Value.cells, cells_bool, cells_sl] using hfld 3 _ rfl
  obtain ⟨a3, e3, hy3⟩ := DataW.trod_bool Tryz.underlying4 h3
  obtain rfl : c3 = _ := List.head_eq_of_cons_eq e3
  have h4 : DataW.trod enc Tryz.prog w 0 (fun _ => true) true n 4 [c4] = some y4 := by simpa [Value.cells, cells_bool, cells_sl] using hfld 4 _ rfl
  obtain ⟨a4, e4, hy4⟩ := DataW.trod_bool Tryz.underlying4 h4
  obtain rfl : c4 = _ := List.head_eq_of_cons_eq e4
  have hs : ∃ ao n cap, c0 = .slice ao n cap := by
    rcases open_slice Tryz.underlying27 h0 with ⟨hcs, _⟩ | ⟨a, len, cap', m, k, D, Pl, hcs, _⟩
    · exact ⟨_, _, _, List.head_eq_of_cons_eq hcs⟩
    · exact ⟨_, _, _, List.head_eq_of_cons_eq hcs⟩
  obtain ⟨ao, n0, cap, rfl⟩ := hs
  obtain ⟨l, rfl, hi⟩ := open_insts h0
  exact ⟨ao, cap, l, a1, a2, a3, a4, rfl, hi⟩
theorem keep_packet {w' : World} {v : Value} {d : DataW H} {p : List MemPlace} (h : DataW.Trod enc Tryz.prog w 0 (fun _ => true) true 29 v d p)
    (hm : Made w w') (hlt : ∀ x ∈ p, x.block < w.heap.size) (sp : Nat → Bool) (hs : ∀ x ∈ p, sp x.block = true) : DataW.Trod enc Tryz.prog w' 0 sp true 29 v d p :=
  WideElems.Trod_stays laid_out10 (by kernel_rfl) (of_decide_eq_true (by kernel_rfl)) h (fun x hx => hm.same (hlt x hx)) hs
end
end
section
end
section
section
open Go.ChangeShapes Go.WideShapes Go.ChangeAt Go.RowKit Go.Sort BigFrame

theorem low_high (a b : Int) : (((if b < a then b else a) == 1 && (if b > a then b else a) == 2) || ((if b < a then b else a) == 3 && (if b > a then b else a) == 4)) = ((a == 1 && b == 2) || (a == 2 && b == 1) || (a == 3 && b == 4) || (a == 4 && b == 3)) := by
  rw [Bool.eq_iff_iff]
  simp only [Bool.or_eq_true, Bool.and_eq_true, beq_iff_eq]
  split <;> omega
/-- Two instructions in blocks of a call's own. -/
structure BothIn (W : World) (B : Nat) (a b : In) (w : World) : Prop where
  made : Made W w
  fst : InAt w B a
  snd : InAt w (B + 1) b
theorem BothIn.next {W w w' : World} {B : Nat} {a b : In} (h : BothIn W B a b w) (hm : Made w w') : BothIn W B a b w' := ⟨Made.trans h.made hm, hm.heap h.fst, hm.heap h.snd⟩
theorem boxes_start {W w : World} (hm : Made W w) (a b : In) : BothIn W w.heap.size a b ((w.alloc (.cells a.cells.toArray 40)).alloc (.cells b.cells.toArray 40)) := by
  have m1 := hm.alloc hm.size (.cells a.cells.toArray 40)
  have b1 : (w.alloc (.cells a.cells.toArray 40)).heap[w.heap.size]? = some (.cells a.cells.toArray 40 (0, 0)) := heap_alloc_new w _
  exact ⟨m1.alloc m1.size _, (Below.heap_alloc _ _ _ (heap_lt b1)).trans b1, heap_at (by simp)⟩
section
attribute [local irreducible] World.cell?
set_option maxRecDepth 100000 in
set_option maxHeartbeats 4000000 in
theorem regw_any (W : World) (hN : Names W) (x : In) (hx : x.small) (r : Int) : Makes Tryz.prog W 118 #[x.val, .int .u8 r] (.bool (regB x r)) := by
  intro w hm
  have hz := hm.size
  have HM := Lib.hid (hm.alloc hz (.cells x.cells.toArray 40))
  have HV := writes_any _ (hN.made HM.out) x hx _ (Made.refl _)
  have HR := Lib.hid (show regB x r = ((writesP x).2 && (writesP x).1 == r) from rfl)
  clear hx hm
  generalize writesP x = p at *
  obtain ⟨v, b⟩ := p
  have H := Lib.hid HV
  clear HV
  cases b with
  | true =>
    go_enter Tryz.func118, Tryz.ntmps118
    go_wp2_with (fail)
    refine H.out.mono ?_
    rintro e w1 ⟨rfl, h1⟩
    have M1 := Lib.hid (Made.trans HM.out h1)
    clear h1
    go_wp2
    go_ret
    exact ⟨ret_bool (by rw [HR.out]; simp), M1.out⟩
  | false =>
    go_enter Tryz.func118, Tryz.ntmps118
    go_wp2_with (fail)
    refine H.out.mono ?_
    rintro e w1 ⟨rfl, h1⟩
    have M1 := Lib.hid (Made.trans HM.out h1)
    clear h1
    go_wp2
    go_ret
    exact ⟨ret_bool (by rw [HR.out]; rfl), M1.out⟩
set_option maxRecDepth 100000 in
set_option maxHeartbeats 4000000 in
theorem setw_any (W : World) (hN : Names W) (x : In) (hx : x.small) (r : Int) : Makes Tryz.prog W 116 #[x.val, .int .u8 r] (.bool (setB x r)) := by
  intro w hm
  have hz := hm.size
  have HM := Lib.hid (hm.alloc hz (.cells x.cells.toArray 40))
  have HV := writesPred_any _ (hN.made HM.out) x hx _ (Made.refl _)
  have HR := Lib.hid (show setB x r = ((wpredP x).2 && (wpredP x).1 == r) from rfl)
  clear hx hm
  generalize wpredP x = p at *
  obtain ⟨v, b⟩ := p
  have H := Lib.hid HV
  clear HV
  cases b with
  | true =>
    go_enter Tryz.func116, Tryz.ntmps116
    go_wp2_with (fail)
    refine H.out.mono ?_
    rintro e w1 ⟨rfl, h1⟩
    have M1 := Lib.hid (Made.trans HM.out h1)
    clear h1
    go_wp2
    go_ret
    exact ⟨ret_bool (by rw [HR.out]; simp), M1.out⟩
  | false =>
    go_enter Tryz.func116, Tryz.ntmps116
    go_wp2_with (fail)
    refine H.out.mono ?_
    rintro e w1 ⟨rfl, h1⟩
    have M1 := Lib.hid (Made.trans HM.out h1)
    clear h1
    go_wp2
    go_ret
    exact ⟨ret_bool (by rw [HR.out]; rfl), M1.out⟩
set_option maxRecDepth 100000 in
set_option maxHeartbeats 4000000 in
theorem wone_any (W : World) (hN : Names W) (a b : In) (ha : a.small) (hb : b.small) : Makes Tryz.prog W 111 #[a.val, b.val] (.bool ((writesP a).2 && regB b (writesP a).1)) := by
  intro w hm
  have hz := hm.size
  have m1 := hm.alloc hz (.cells a.cells.toArray 40)
  have HM := Lib.hid (m1.alloc m1.size (.cells b.cells.toArray 40))
  have HV := writes_any _ (hN.made HM.out) a ha _ (Made.refl _)
  have HB := Lib.hid (fun (r : Int) (u : World) (hu : Made W u) => regw_any W hN b hb r u hu)
  have HI := Lib.hid (show InAt ((w.alloc (.cells a.cells.toArray 40)).alloc (.cells b.cells.toArray 40)) (w.heap.size + 1) b from heap_at (by simp))
  clear ha hb hm m1
  generalize writesP a = p at *
  obtain ⟨v, k⟩ := p
  have H := Lib.hid HV
  clear HV
  cases k with
  | true =>
    go_enter Tryz.func111, Tryz.ntmps111
    go_wp2_with (fail)
    refine H.out.mono ?_
    rintro e w1 ⟨rfl, h1⟩
    have M1 := Lib.hid (Made.trans HM.out h1)
    have K := h1.heap HI.out
    obtain ⟨b0, b1, b2, b3, b4, b5, b6, b7, b8, b9, b10⟩ := in_cells K
    clear h1 K
    go_wp2_with (fail)
    refine (HB.out _ _ M1.out).mono ?_
    rintro e w2 ⟨rfl, h2⟩
    have M2 := Lib.hid h2
    clear h2
    go_wp2
    go_ret
    exact ⟨rfl, M2.out⟩
  | false =>
    go_enter Tryz.func111, Tryz.ntmps111
    go_wp2_with (fail)
    refine H.out.mono ?_
    rintro e w1 ⟨rfl, h1⟩
    have M1 := Lib.hid (Made.trans HM.out h1)
    clear h1
    go_wp2
    go_ret
    exact ⟨rfl, M1.out⟩
set_option maxRecDepth 100000 in
set_option maxHeartbeats 4000000 in
theorem pone_any (W : World) (hN : Names W) (a b : In) (ha : a.small) (hb : b.small) : Makes Tryz.prog W 113 #[a.val, b.val] (.bool (pClash a b)) := by
  intro w hm
  have hz := hm.size
  have m1 := hm.alloc hz (.cells a.cells.toArray 40)
  have HM := Lib.hid (m1.alloc m1.size (.cells b.cells.toArray 40))
  have HV := writesPred_any _ (hN.made HM.out) a ha _ (Made.refl _)
  have HB := Lib.hid (fun (r : Int) (u : World) (hu : Made W u) => setw_any W hN b hb r u hu)
  have HI := Lib.hid (show InAt ((w.alloc (.cells a.cells.toArray 40)).alloc (.cells b.cells.toArray 40)) (w.heap.size + 1) b from heap_at (by simp))
  have HP := Lib.hid (show pClash a b = ((wpredP a).2 && setB b (wpredP a).1) from rfl)
  clear ha hb hm m1
  generalize wpredP a = p at *
  obtain ⟨v, k⟩ := p
  have H := Lib.hid HV
  clear HV
  cases k with
  | true =>
    go_enter Tryz.func113, Tryz.ntmps113
    go_wp2_with (fail)
    refine H.out.mono ?_
    rintro e w1 ⟨rfl, h1⟩
    have M1 := Lib.hid (Made.trans HM.out h1)
    have K := h1.heap HI.out
    obtain ⟨b0, b1, b2, b3, b4, b5, b6, b7, b8, b9, b10⟩ := in_cells K
    clear h1 K
    go_wp2_with (fail)
    refine (HB.out _ _ M1.out).mono ?_
    rintro e w2 ⟨rfl, h2⟩
    have M2 := Lib.hid h2
    clear h2
    go_wp2
    go_ret
    exact ⟨ret_bool (by rw [HP.out]; rfl), M2.out⟩
  | false =>
    go_enter Tryz.func113, Tryz.ntmps113
    go_wp2_with (fail)
    refine H.out.mono ?_
    rintro e w1 ⟨rfl, h1⟩
    have M1 := Lib.hid (Made.trans HM.out h1)
    clear h1
    go_wp2
    go_ret
    exact ⟨ret_bool (by rw [HP.out]; rfl), M1.out⟩
set_option maxRecDepth 100000 in
set_option maxHeartbeats 4000000 in
theorem excl_any (W : World) (a b : In) : Makes Tryz.prog W 112 #[a.val, b.val] (.bool (exclB a b)) := by
  intro w hm
  have hz := hm.size
  have m1 := hm.alloc hz (.cells a.cells.toArray 40)
  have HM := Lib.hid (m1.alloc m1.size (.cells b.cells.toArray 40))
  have HE := Lib.hid (show exclB a b = (a.pred == b.pred && ((a.mode == 1 && b.mode == 2) || (a.mode == 2 && b.mode == 1) || (a.mode == 3 && b.mode == 4) || (a.mode == 4 && b.mode == 3))) from rfl)
  have HL := low_high a.mode b.mode
  obtain ⟨a0, a1, a2, a3, a4, ap, am, a7, a8, a9, a10⟩ := a
  obtain ⟨b0, b1, b2, b3, b4, bp, bm, b7, b8, b9, b10⟩ := b
  clear hm m1
  simp only at HL
  obtain ⟨lo, hlo⟩ : ∃ lo, (if bm < am then bm else am) = lo := ⟨_, rfl⟩
  obtain ⟨hi, hhi⟩ : ∃ hi, (if bm > am then bm else am) = hi := ⟨_, rfl⟩
  rewrite [hlo, hhi] at HL
  by_cases hp : ap = bp
  · subst hp
    have HV := Lib.hid (show exclB ⟨a0, a1, a2, a3, a4, ap, am, a7, a8, a9, a10⟩ ⟨b0, b1, b2, b3, b4, ap, bm, b7, b8, b9, b10⟩ = ((lo == 1 && hi == 2) || (lo == 3 && hi == 4)) by rw [HE.out, HL]; simp)
    clear HL HE
    go_enter Tryz.func112, Tryz.ntmps112
    go_wp2
    go_region
    cases h1 : (lo == 1) <;> cases h2 : (hi == 2) <;> cases h3 : (lo == 3) <;> cases h4 : (hi == 4)
    all_goals
      go_wp2
      go_ret
      exact ⟨ret_bool (by rw [HV.out]; simp [*]), HM.out.drew⟩
  · have hb : (ap == bp) = false := beq_eq_false_iff_ne.2 hp
    have HV := Lib.hid (show exclB ⟨a0, a1, a2, a3, a4, ap, am, a7, a8, a9, a10⟩ ⟨b0, b1, b2, b3, b4, bp, bm, b7, b8, b9, b10⟩ = false by rw [HE.out]; simp [hb])
    clear HL HE hlo hhi
    go_enter Tryz.func112, Tryz.ntmps112
    go_wp2
    go_ret
    exact ⟨ret_bool (by rw [HV.out]), HM.out⟩
set_option maxRecDepth 100000 in
set_option maxHeartbeats 4000000 in
theorem clash_any (W : World) (hN : Names W) (a b : In) (ha : a.small) (hb : b.small) : Makes Tryz.prog W 84 #[a.val, b.val] (.bool (clashP a b)) := by
  intro w hm
  have B0 := Lib.hid (boxes_start hm a b)
  have H1 := Lib.hid (fun (u : World) (hu : Made W u) => wone_any u (hN.made hu) a b ha hb u (Made.refl u))
  have H2 := Lib.hid (fun (u : World) => excl_any u a b u (Made.refl u))
  have H3 := Lib.hid (fun (u : World) (hu : Made W u) => pone_any u (hN.made hu) a b ha hb u (Made.refl u))
  have HP := Lib.hid (show clashP a b = ((((writesP a).2 && regB b (writesP a).1) && !exclB a b) || pClash a b) from rfl)
  clear ha hb hm
  generalize ((writesP a).2 && regB b (writesP a).1) = k1 at *
  generalize exclB a b = k2 at *
  generalize pClash a b = k3 at *
  cases k1 with
  | true =>
    cases k2 with
    | true =>
      go_enter Tryz.func84, Tryz.ntmps84
      go_wp2_with (fail)
      refine (H1.out _ B0.out.made).mono ?_
      rintro e w1 ⟨rfl, h1⟩
      have B1 := Lib.hid (B0.out.next h1)
      clear h1
      obtain ⟨a0, a1, a2, a3, a4, a5, a6, a7, a8, a9, a10⟩ := in_cells B1.out.fst
      obtain ⟨b0, b1, b2, b3, b4, b5, b6, b7, b8, b9, b10⟩ := in_cells B1.out.snd
      go_wp2_with (fail)
      refine (H2.out _).mono ?_
      rintro e w2 ⟨rfl, h2⟩
      have B2 := Lib.hid (B1.out.next h2)
      clear h2 a0 a1 a2 a3 a4 a5 a6 a7 a8 a9 a10 b0 b1 b2 b3 b4 b5 b6 b7 b8 b9 b10
      obtain ⟨a0, a1, a2, a3, a4, a5, a6, a7, a8, a9, a10⟩ := in_cells B2.out.fst
      obtain ⟨b0, b1, b2, b3, b4, b5, b6, b7, b8, b9, b10⟩ := in_cells B2.out.snd
      go_wp2_with (fail)
      refine (H3.out _ B2.out.made).mono ?_
      rintro e w3 ⟨rfl, h3⟩
      have B3 := Lib.hid (B2.out.next h3)
      clear h3
      go_wp2
      go_ret
      exact ⟨ret_bool (by rw [HP.out]; rfl), B3.out.made⟩
    | false =>
      go_enter Tryz.func84, Tryz.ntmps84
      go_wp2_with (fail)
      refine (H1.out _ B0.out.made).mono ?_
      rintro e w1 ⟨rfl, h1⟩
      have B1 := Lib.hid (B0.out.next h1)
      clear h1
      obtain ⟨a0, a1, a2, a3, a4, a5, a6, a7, a8, a9, a10⟩ := in_cells B1.out.fst
      obtain ⟨b0, b1, b2, b3, b4, b5, b6, b7, b8, b9, b10⟩ := in_cells B1.out.snd
      go_wp2_with (fail)
      refine (H2.out _).mono ?_
      rintro e w2 ⟨rfl, h2⟩
      have B2 := Lib.hid (B1.out.next h2)
      clear h2
      go_wp2
      go_ret
      exact ⟨ret_bool (by rw [HP.out]; rfl), B2.out.made⟩
  | false =>
    go_enter Tryz.func84, Tryz.ntmps84
    go_wp2_with (fail)
    refine (H1.out _ B0.out.made).mono ?_
    rintro e w1 ⟨rfl, h1⟩
    have B1 := Lib.hid (B0.out.next h1)
    clear h1
    obtain ⟨a0, a1, a2, a3, a4, a5, a6, a7, a8, a9, a10⟩ := in_cells B1.out.fst
    obtain ⟨b0, b1, b2, b3, b4, b5, b6, b7, b8, b9, b10⟩ := in_cells B1.out.snd
    go_wp2_with (fail)
    refine (H3.out _ B1.out.made).mono ?_
    rintro e w3 ⟨rfl, h3⟩
    have B3 := Lib.hid (B1.out.next h3)
    clear h3
    go_wp2
    go_ret
    exact ⟨ret_bool (by rw [HP.out]; rfl), B3.out.made⟩
/-! Of one instruction. -/
set_option maxRecDepth 100000 in
set_option maxHeartbeats 4000000 in
theorem branch_any (W : World) (hN : Names W) (x : In) (hx : x.small) : Makes Tryz.prog W 82 #[x.val] (.bool (classP x == 5)) := by
  intro w hm
  have hz := hm.size
  have HM := Lib.hid (hm.alloc hz (.cells x.cells.toArray 40))
  have HV := class_any _ (hN.made HM.out) x hx _ (Made.refl _)
  have hc : classZ (opN x.op) = classP x := rfl
  rewrite [hc] at HV
  clear hx hm hc
  generalize classP x = c at *
  have H := Lib.hid HV
  clear HV
  go_enter Tryz.func82, Tryz.ntmps82
  go_wp2_with (fail)
  refine H.out.mono ?_
  rintro e w1 ⟨rfl, h1⟩
  have M1 := Lib.hid (Made.trans HM.out h1)
  clear h1
  go_wp2
  go_ret
  exact ⟨rfl, M1.out⟩
set_option maxRecDepth 100000 in
set_option maxHeartbeats 4000000 in
theorem disturbs_any (W : World) (hN : Names W) (x : In) (hx : x.small) : Makes Tryz.prog W 58 #[x.val] (.bool (classP x == 5 || classP x == 6)) := by
  intro w hm
  have hz := hm.size
  have HM := Lib.hid (hm.alloc hz (.cells x.cells.toArray 40))
  have HV := class_any _ (hN.made HM.out) x hx _ (Made.refl _)
  have hc : classZ (opN x.op) = classP x := rfl
  rewrite [hc] at HV
  clear hx hm hc
  generalize classP x = c at *
  have H := Lib.hid HV
  clear HV
  cases h5 : (c == 5)
  all_goals
    go_enter Tryz.func58, Tryz.ntmps58
    go_wp2_with (fail)
    refine H.out.mono ?_
    rintro e w1 ⟨rfl, h1⟩
    have M1 := Lib.hid (Made.trans HM.out h1)
    clear h1
    go_wp2
    go_ret
    exact ⟨rfl, M1.out⟩
set_option maxRecDepth 100000 in
set_option maxHeartbeats 4000000 in
theorem gives_any (W : World) (hN : Names W) (x : In) (hx : x.small) : Makes Tryz.prog W 119 #[x.val] (.bool (x.mode == 0 && (classP x == 1 || classP x == 2))) := by
  intro w hm
  have hz := hm.size
  have HM := Lib.hid (hm.alloc hz (.cells x.cells.toArray 40))
  have HI := Lib.hid (heap_alloc_new w (.cells x.cells.toArray 40))
  have HV := class_any _ (hN.made HM.out) x hx _ (Made.refl _)
  have hc : classZ (opN x.op) = classP x := rfl
  rewrite [hc] at HV
  clear hx hm hc
  generalize classP x = c at *
  have H := Lib.hid HV
  clear HV
  cases h0 : (x.mode == 0) <;> cases h5 : (c == 1)
  all_goals
    go_enter Tryz.func119, Tryz.ntmps119
    go_wp2_with (fail)
    refine H.out.mono ?_
    rintro e w1 ⟨rfl, h1⟩
    obtain ⟨a0, a1, a2, a3, a4, a5, a6, a7, a8, a9, a10⟩ := in_cells (h1.heap HI.out)
    have M1 := Lib.hid (Made.trans HM.out h1)
    clear h1
    go_wp2
    go_ret
    exact ⟨rfl, M1.out⟩
end
end
section
open Go.ChangeShapes Go.WideShapes Go.ChangeAt Go.RowKit Go.Sort BigFrame

/-- Where the first one is of which q holds. -/
def FirstAt (l : List In) (q : In → Bool) (i : Int) : Prop := (i = -1 ∧ l.any q = false) ∨ ∃ k : Nat, i = k ∧ k < l.length ∧ (l.take k).any q = false ∧ l.any q = true ∧ ∀ h : k < l.length, q l[k] = true
theorem any_step (l : List In) (q : In → Bool) {k : Nat} (h : k < l.length) : (l.take (k + 1)).any q = ((l.take k).any q || q l[k]) := by
  rw [List.take_succ_eq_append_getElem h, List.any_append]
  simp
theorem any_true (l : List In) (q : In → Bool) {k : Nat} (h : k < l.length) (hq : q l[k] = true) : l.any q = true := List.any_eq_true.2 ⟨l[k], List.getElem_mem h, hq⟩
abbrev Enters (K : FuncId) : Prop := ∀ (args : Array Value) (w : World), Sem.run Tryz.prog (callFunc K args) w = .ok (.enter K args) w
theorem enters_of {f : FuncId} {fn : Func} (hf : Tryz.prog.funcs[f]? = some fn) (hname : (fn.name == "runtime.NumGoroutine") = false) (hb : fn.body.isNone = false) : Enters f := fun args w => by
  have h1 : ¬ fn.name = "runtime.NumGoroutine" := by simpa using hname
  have h2 : ¬ fn.body = none := fun h => by
    rw [h] at hb
    exact absurd hb (by simp)
  simp [callFunc, program, Sem.run, hf, go_sem, h1, h2]
theorem enters_isBranch : Enters 82 := enters_of Tryz.func82 (by kernel_rfl) (by kernel_rfl)
theorem enters_disturbs : Enters 58 := enters_of Tryz.func58 (by kernel_rfl) (by kernel_rfl)
theorem enters_clash : Enters 83 := enters_of Tryz.func83 (by kernel_rfl) (by kernel_rfl)
theorem enters_new : Enters 85 := enters_of Tryz.func85 (by kernel_rfl) (by kernel_rfl)
theorem enters_pred : Enters 115 := enters_of Tryz.func115 (by kernel_rfl) (by kernel_rfl)
theorem enters_register : Enters 117 := enters_of Tryz.func117 (by kernel_rfl) (by kernel_rfl)
/-- What a function value tells of each instruction, in every world that has grown out of w. -/
abbrev TellsOf (w : World) (K : FuncId) (caps : Array Value) (q : In → Bool) (l : List In) : Prop := ∀ x : In, x ∈ l → x.small → ∀ u : World, Made w u → Calls Tryz.prog K (#[x.val] ++ caps) u fun e u' => e = .returned (.bool (q x)) ∧ Made u u'
section
attribute [local irreducible] World.cell?
set_option maxRecDepth 100000 in
set_option maxHeartbeats 4000000 in
theorem first_any (K : FuncId) (caps : Array Value) (q : In → Bool) (ao : Option Addr) (cap : Nat) (l : List In) (w : World) (hI : Insts w ao cap l) (hK : Enters K) (hq : TellsOf w K caps q l) :
    Calls Tryz.prog 81 #[.slice ao l.length cap, .func (.func K) #[] caps] w fun e w' => ∃ i : Int, e = .returned (.int .i64 i) ∧ FirstAt l q i ∧ Made w w' := by
  have hmax := hI.max
  have hroom := hI.room
  unfold maxLen at hmax
  have H := Lib.hid hI
  have HQ := Lib.hid hq
  clear hI hq
  go_enter Tryz.func81, Tryz.ntmps81
  go_wp2_with (fail)
  go_loopw [8] (fun i wr => ∃ k : Nat, k ≤ l.length ∧ i = .int .i64 k ∧ (l.take k).any q = false ∧ Made w wr) (fun i _ => l.length - (intOf i).toNat)
  case atStart => exact ⟨0, Nat.zero_le _, rfl, by simp, Made.refl _⟩
  case round =>
    obtain ⟨k, hk, rfl, hat, hwr⟩ := hrel
    have KA := Lib.hid hat
    have HM := Lib.hid hwr
    clear hat hwr
    by_cases hlt : k < l.length
    · obtain ⟨x, hx⟩ : ∃ x, l[k] = x := ⟨_, rfl⟩
      obtain ⟨b, o, rfl, c0, c1, c2, c3, c4, c5, c6, c7, c8, c9, c10⟩ := insts_cells (insts_made H.out HM.out) hlt x hx
      have HX := Lib.hid (HQ.out x (hx ▸ List.getElem_mem hlt) (H.out.small x (hx ▸ List.getElem_mem hlt)) wr HM.out)
      have HN := Lib.hid (any_step l q hlt)
      have HT := Lib.hid (fun h => any_true l q hlt h)
      have HG := Lib.hid hx
      rewrite [hx] at HN HT
      clear hx
      go_wp2_with (fail)
      refine HX.out.mono ?_
      rintro e w2 ⟨rfl, h2⟩
      have M2 := Lib.hid (Made.trans HM.out h2)
      clear h2 c0 c1 c2 c3 c4 c5 c6 c7 c8 c9 c10
      cases hqx : q x with
      | true =>
        have HK := Lib.hid (HT.out hqx)
        have HY := Lib.hid hqx
        clear hqx
        go_wp2
        go_ret
        exact ⟨_, rfl, .inr ⟨k, rfl, hlt, KA.out, HK.out, fun h => by rw [HG.out]; exact HY.out⟩, M2.out⟩
      | false =>
        have HK := Lib.hid (show (l.take (k + 1)).any q = false by rw [HN.out, KA.out, hqx]; rfl)
        clear hqx
        go_wp2
        go_roundw
        case rel => exact ⟨k + 1, by omega, by go_num, HK.out, M2.out⟩
        case measure => simp [intOf]; omega
    · obtain rfl : k = l.length := by omega
      have KN := Lib.hid (show l.any q = false by have h := KA.out; rwa [List.take_length] at h)
      go_wp2
      go_ret
      exact ⟨-1, rfl, .inl ⟨rfl, KN.out⟩, HM.out⟩
set_option maxRecDepth 100000 in
theorem any_any (K : FuncId) (caps : Array Value) (q : In → Bool) (ao : Option Addr) (cap : Nat) (l : List In) (w : World) (hI : Insts w ao cap l) (hK : Enters K) (hq : TellsOf w K caps q l) :
    Calls Tryz.prog 57 #[.slice ao l.length cap, .func (.func K) #[] caps] w fun e w' => e = .returned (.bool (l.any q)) ∧ Made w w' := by
  have H := Lib.hid (first_any K caps q ao cap l w hI hK hq)
  clear hI hK hq
  go_enter Tryz.func57, Tryz.ntmps57
  go_wp2_with (fail)
  refine H.out.mono ?_
  rintro e w1 ⟨i, rfl, hi, h1⟩
  have M1 := Lib.hid h1
  clear h1
  rcases hi with ⟨rfl, hf⟩ | ⟨k, rfl, -, -, hf, -⟩
  · have HF := Lib.hid hf
    clear hf
    go_wp2
    go_ret
    exact ⟨ret_bool HF.out.symm, M1.out⟩
  · have HF := Lib.hid hf
    clear hf
    go_wp2
    go_ret
    exact ⟨ret_bool (by rw [HF.out]), M1.out⟩
end
end
section
theorem any_pos (l : List In) (q : In → Bool) : l.any q = decide (0 < l.countP q) := by
  rw [Bool.eq_iff_iff, List.any_eq_true, decide_eq_true_eq, List.countP_pos_iff]
theorem split_at {l : List In} {k : Nat} (h : k < l.length) : l = l.take k ++ l[k] :: l.drop (k + 1) := by
  rw [← List.drop_eq_getElem_cons h, List.take_append_drop]
theorem any_zero {l : List In} {q : In → Bool} (h : l.any q = false) : l.countP q = 0 := by
  rw [any_pos, decide_eq_false_iff_not] at h
  omega
/-- The rest behind the first one of which q holds has one, just if there are two. -/
theorem two_first {l : List In} {q : In → Bool} {k : Nat} (hk : k < l.length) (h0 : (l.take k).any q = false) (h1 : q l[k] = true) : (l.drop (k + 1)).any q = decide (1 < l.countP q) := by
  have e : l.countP q = 1 + (l.drop (k + 1)).countP q := by
    conv => lhs; rw [split_at hk]
    rw [List.countP_append, any_zero h0, List.countP_cons, h1]
    simp; omega
  rw [any_pos, e]
  congr 1
  simp only [eq_iff_iff]
  omega
theorem clash_end (m : List In) (x : In) : clashL (m ++ [x]) = (clashL m || m.any (clashP x)) := by
  have key : clashL (m ++ [x]) = false ↔ (clashL m || m.any (clashP x)) = false := by
    rw [Bool.or_eq_false_iff, clashL_iff, clashL_iff, List.pairwise_append]
    constructor
    · rintro ⟨h1, -, h3⟩
      refine ⟨h1, ?_⟩
      rw [List.any_eq_false]
      intro a ha
      rw [clashP_comm, h3 a ha x (by simp)]
      simp
    · rintro ⟨h1, h2⟩
      refine ⟨h1, by simp, ?_⟩
      intro a ha b hb
      obtain rfl : b = x := by simpa using hb
      rw [List.any_eq_false] at h2
      rw [clashP_comm]
      simpa using h2 a ha
  cases h1 : clashL (m ++ [x]) with
  | false => exact (key.1 h1).symm
  | true =>
    cases h2 : (clashL m || m.any (clashP x)) with
    | true => rfl
    | false => rw [key.2 h2] at h1; exact absurd h1 (by simp)
theorem clash_step (l : List In) {k : Nat} (h : k < l.length) : clashL (l.take (k + 1)) = (clashL (l.take k) || (l.take k).any (clashP l[k])) := by
  rw [List.take_succ_eq_append_getElem h, clash_end]
theorem clash_more (l : List In) (k : Nat) (h : clashL (l.take k) = true) : clashL l = true := by
  cases hl : clashL l with
  | true => rfl
  | false =>
    have := (clashL_iff _).2 (List.Pairwise.sublist (List.take_sublist k l) ((clashL_iff l).1 hl))
    rw [this] at h
    exact absurd h (by simp)

/-! What lacks what it asks for. -/
def lackPred (l : List In) (x : In) : Bool := ((rpredP x).2.2 && (rpredP x).2.1) && !setsB l (rpredP x).1
def goodQ (y : In) (r : Int) : Bool := regB y r && (y.mode == 0 && (classP y == 1 || classP y == 2))
def lackReg (l : List In) (x : In) : Bool := x.new && !l.any fun y => goodQ y x.t
theorem goodQ_eq (y : In) (r : Int) : goodQ y r = goodB y r := by
  unfold goodQ goodB
  cases regB y r <;> cases (y.mode == 0) <;> cases (classP y == 1 || classP y == 2) <;> rfl
/-- One that gives its register whatever the predicates is the only one that writes it. -/
theorem good_alone {l : List In} (hc : clashL l = false) {r : Int} {y : In} (hy : y ∈ l) (hg : goodB y r = true) : writers l r = 1 ∧ goods l r = 1 := by
  obtain ⟨s, t, rfl⟩ := List.append_of_mem hy
  have hg' := hg
  unfold goodB at hg'
  simp only [Bool.and_eq_true, beq_iff_eq] at hg'
  obtain ⟨⟨hr, -⟩, hm⟩ := hg'
  have ey : (writesP y).2 = true ∧ (writesP y).1 = r := by simpa [regB] using hr
  have none : ∀ z, clashP y z = false → regB z r = false := fun z hz => by
    have h1 : wClash y z = false := by
      unfold clashP at hz
      exact (Bool.or_eq_false_iff.1 hz).1
    have he : exclB y z = false := by simp [exclB, hm]
    unfold wClash at h1
    rw [ey.1, ey.2, he] at h1
    simpa using h1
  have hp := (clashL_iff _).1 hc
  rw [List.pairwise_append, List.pairwise_cons] at hp
  obtain ⟨-, ⟨h2, -⟩, h3⟩ := hp
  have hs : ∀ z ∈ s, regB z r = false := fun z hz => none z (by rw [clashP_comm]; exact h3 z hz y (by simp))
  have ht : ∀ z ∈ t, regB z r = false := fun z hz => none z (h2 z hz)
  have z1 : ∀ m : List In, (∀ z ∈ m, regB z r = false) → (m.countP fun y => regB y r) = 0 ∧ (m.countP fun y => goodB y r) = 0 := fun m h =>
    ⟨List.countP_eq_zero.2 fun z hz => by rw [h z hz]; simp, List.countP_eq_zero.2 fun z hz => by unfold goodB; rw [h z hz]; simp⟩
  constructor
  · unfold writers
    rw [List.countP_append, List.countP_cons, (z1 s hs).1, (z1 t ht).1, hr]
    rfl
  · unfold goods
    rw [List.countP_append, List.countP_cons, (z1 s hs).2, (z1 t ht).2, hg]
    rfl
theorem good_one {l : List In} (hc : clashL l = false) (r : Int) : (writers l r == 1 && goods l r == 1) = l.any fun y => goodQ y r := by
  simp only [goodQ_eq]
  cases h : l.any fun y => goodB y r with
  | true =>
    obtain ⟨y, hy, hg⟩ := List.any_eq_true.1 h
    obtain ⟨h1, h2⟩ := good_alone hc hy hg
    rw [h1, h2]
    rfl
  | false =>
    have : goods l r = 0 := any_zero (q := fun y => goodB y r) h
    rw [this]
    simp
theorem lack_pred {l : List In} {x : In} (hx : x.small) (hr : rightB x = true) : lackPred l x = !(decide (x.mode ≤ 2) || setsB l x.pred) := by
  unfold lackPred
  rw [rpred_kind x hx]
  by_cases h : 2 < x.mode
  · rw [if_pos ⟨hr, .inr (by omega)⟩, decide_eq_false (show ¬ x.mode ≤ 2 by omega)]
    simp [h]
  · rw [decide_eq_true (show x.mode ≤ 2 by omega)]
    split <;> simp [h]
theorem lacks_new {l : List In} (hc : clashL l = false) (hr : ∀ x ∈ l, x.small ∧ rightB x = true) : (l.any fun x => lackPred l x || lackReg l x) = !freshB l := by
  have key : ∀ x ∈ l, (lackPred l x || lackReg l x) = !freshOne l x := fun x hx => by
    rw [lack_pred (hr x hx).1 (hr x hx).2]
    unfold lackReg freshOne
    rw [good_one hc]
    cases (decide (x.mode ≤ 2) || setsB l x.pred) <;> cases x.new <;> cases (l.any fun y => goodQ y x.t) <;> rfl
  unfold freshB
  rw [Bool.eq_iff_iff]
  simp only [List.any_eq_true, Bool.not_eq_true', List.all_eq_false, Bool.not_eq_true]
  constructor
  · rintro ⟨x, hx, h⟩
    exact ⟨x, hx, by rw [key x hx] at h; simpa using h⟩
  · rintro ⟨x, hx, h⟩
    exact ⟨x, hx, by rw [key x hx, h]; rfl⟩
theorem loops (l : List In) : (l.any fun x => classP x == 5 || classP x == 6) = decide (0 < countC l 5 + countC l 6) := by
  rw [Bool.eq_iff_iff, List.any_eq_true, decide_eq_true_eq]
  unfold countC
  constructor
  · rintro ⟨x, hx, h⟩
    simp only [Bool.or_eq_true] at h
    rcases h with h | h
    · have := List.countP_pos_iff (p := fun x => classP x == 5).2 ⟨x, hx, h⟩
      omega
    · have := List.countP_pos_iff (p := fun x => classP x == 6).2 ⟨x, hx, h⟩
      omega
  · intro h
    by_cases h5 : 0 < l.countP fun x => classP x == 5
    · obtain ⟨x, hx, h⟩ := List.countP_pos_iff.1 h5
      exact ⟨x, hx, by rw [h]; rfl⟩
    · obtain ⟨x, hx, h⟩ := List.countP_pos_iff.1 (show 0 < l.countP fun x => classP x == 6 by omega)
      exact ⟨x, hx, by rw [h]; simp⟩
end
section
open Go.ChangeShapes Go.WideShapes Go.ChangeAt Go.RowKit Go.Sort BigFrame

section
attribute [local irreducible] World.cell?
set_option maxRecDepth 100000 in
set_option maxHeartbeats 4000000 in
theorem tells_clash (w : World) (hN : Names w) (a : In) (ha : a.small) (c : Nat) (hc : InAt w c a) (l : List In) : TellsOf w 83 #[.pointer (some ⟨c, 0, none⟩)] (clashP a) l := by
  intro x _ hx u hu
  show Calls Tryz.prog 83 #[x.val, .pointer (some ⟨c, 0, none⟩)] u _
  have hi := hu.heap hc
  have hb := heap_lt hi
  obtain ⟨a0, a1, a2, a3, a4, a5, a6, a7, a8, a9, a10⟩ := in_cells hi
  have m1 : Made u (u.alloc (.cells x.cells.toArray 40)) := (Made.refl u).alloc (Nat.le_refl _) _
  have HM := Lib.hid m1
  have H := Lib.hid (clash_any _ (hN.made (Made.trans hu m1)) a x ha hx _ (Made.refl _))
  clear hi hc hu m1 ha hx
  go_enter Tryz.func83, Tryz.ntmps83
  go_wp2_with (fail)
  refine H.out.mono ?_
  rintro e w1 ⟨rfl, h1⟩
  have M1 := Lib.hid (Made.trans HM.out h1)
  clear h1
  go_wp2
  go_ret
  exact ⟨rfl, M1.out⟩
set_option maxRecDepth 100000 in
set_option maxHeartbeats 4000000 in
theorem tells_pred (w : World) (hN : Names w) (r : Int) (c : Nat) (T : TypeId) (hc : w.heap[c]? = some (.cells #[.int .u8 r] T (0, 0))) (l : List In) : TellsOf w 115 #[.pointer (some ⟨c, 0, none⟩)] (fun y => setB y r) l := by
  intro x _ hx u hu
  show Calls Tryz.prog 115 #[x.val, .pointer (some ⟨c, 0, none⟩)] u _
  have hi := hu.heap hc
  have hb := heap_lt hi
  have c0 : u.cell? ⟨c, 0, none⟩ = some (.int .u8 r) := cell_of_lit (cs := [.int .u8 r]) hi 0
  have m1 : Made u (u.alloc (.cells x.cells.toArray 40)) := (Made.refl u).alloc (Nat.le_refl _) _
  have HM := Lib.hid m1
  have H := Lib.hid (setw_any _ (hN.made (Made.trans hu m1)) x hx r _ (Made.refl _))
  clear hi hc hu m1 hx
  go_enter Tryz.func115, Tryz.ntmps115
  go_wp2_with (fail)
  refine H.out.mono ?_
  rintro e w1 ⟨rfl, h1⟩
  have M1 := Lib.hid (Made.trans HM.out h1)
  clear h1
  go_wp2
  go_ret
  exact ⟨rfl, M1.out⟩
set_option maxRecDepth 100000 in
set_option maxHeartbeats 4000000 in
theorem tells_register (w : World) (hN : Names w) (a : In) (c : Nat) (hc : InAt w c a) (l : List In) : TellsOf w 117 #[.pointer (some ⟨c, 0, none⟩)] (fun y => goodQ y a.t) l := by
  intro x _ hx u hu
  show Calls Tryz.prog 117 #[x.val, .pointer (some ⟨c, 0, none⟩)] u _
  have hi := hu.heap hc
  have hb := heap_lt hi
  obtain ⟨a0, a1, a2, a3, a4, a5, a6, a7, a8, a9, a10⟩ := in_cells hi
  have m1 : Made u (u.alloc (.cells x.cells.toArray 40)) := (Made.refl u).alloc (Nat.le_refl _) _
  have HM := Lib.hid m1
  have HX := Lib.hid (show InAt (u.alloc (.cells x.cells.toArray 40)) u.heap.size x from heap_alloc_new u _)
  have HN := Lib.hid (hN.made (Made.trans hu m1))
  have H := Lib.hid (regw_any _ HN.out x hx a.t _ (Made.refl _))
  have HG := Lib.hid (fun (v : World) (hv : Made (u.alloc (.cells x.cells.toArray 40)) v) => gives_any v (HN.out.made hv) x hx v (Made.refl v))
  have HQ := Lib.hid (show goodQ x a.t = (regB x a.t && (x.mode == 0 && (classP x == 1 || classP x == 2))) from rfl)
  clear hi hc hu m1 hx
  generalize regB x a.t = k1 at *
  generalize (x.mode == 0 && (classP x == 1 || classP x == 2)) = k2 at *
  cases k1 with
  | true =>
    go_enter Tryz.func117, Tryz.ntmps117
    go_wp2_with (fail)
    refine H.out.mono ?_
    rintro e w1 ⟨rfl, h1⟩
    have M1 := Lib.hid h1
    obtain ⟨b0, b1, b2, b3, b4, b5, b6, b7, b8, b9, b10⟩ := in_cells (h1.heap HX.out)
    clear h1
    go_wp2_with (fail)
    refine (HG.out _ M1.out).mono ?_
    rintro e w2 ⟨rfl, h2⟩
    have M2 := Lib.hid (Made.trans HM.out (Made.trans M1.out h2))
    clear h2
    go_wp2
    go_ret
    exact ⟨ret_bool (by rw [HQ.out]; rfl), M2.out⟩
  | false =>
    go_enter Tryz.func117, Tryz.ntmps117
    go_wp2_with (fail)
    refine H.out.mono ?_
    rintro e w1 ⟨rfl, h1⟩
    have M1 := Lib.hid (Made.trans HM.out h1)
    clear h1
    go_wp2
    go_ret
    exact ⟨ret_bool (by rw [HQ.out]; rfl), M1.out⟩

/-! The parts of Check. -/
set_option maxRecDepth 100000 in
set_option maxHeartbeats 4000000 in
theorem lackReg_any (ao : Option Addr) (cap : Nat) (l : List In) (x : In) (w : World) (hN : Names w) (hI : Insts w ao cap l) :
    Calls Tryz.prog 87 #[.slice ao l.length cap, x.val] w fun e w' => e = .returned (.bool (lackReg l x)) ∧ Made w w' := by
  have m1 : Made w (w.alloc (.cells x.cells.toArray 40)) := (Made.refl w).alloc (Nat.le_refl _) _
  have HM := Lib.hid m1
  have HA := Lib.hid (any_any _ _ _ ao cap l _ (insts_made hI m1) enters_register (tells_register _ (hN.made m1) x w.heap.size (heap_alloc_new w _) l))
  have HV := Lib.hid (show lackReg l x = (x.new && !l.any fun y => goodQ y x.t) from rfl)
  clear hI m1
  obtain ⟨a0, a1, a2, a3, a4, ap, am, an, a8, a9, a10⟩ := x
  cases an with
  | true =>
    go_enter Tryz.func87, Tryz.ntmps87
    go_wp2_with (fail)
    refine HA.out.mono ?_
    rintro e w1 ⟨rfl, h1⟩
    have M1 := Lib.hid (Made.trans HM.out h1)
    clear h1
    go_wp2
    go_ret
    exact ⟨ret_bool (by rw [HV.out]; rfl), M1.out⟩
  | false =>
    go_enter Tryz.func87, Tryz.ntmps87
    go_wp2
    go_ret
    exact ⟨ret_bool (by rw [HV.out]; rfl), HM.out⟩
set_option maxRecDepth 100000 in
set_option maxHeartbeats 4000000 in
theorem lackPred_any (ao : Option Addr) (cap : Nat) (l : List In) (x : In) (hx : x.small) (w : World) (hN : Names w) (hI : Insts w ao cap l) :
    Calls Tryz.prog 86 #[.slice ao l.length cap, x.val] w fun e w' => e = .returned (.bool (lackPred l x)) ∧ Made w w' := by
  have m1 : Made w (w.alloc (.cells x.cells.toArray 40)) := (Made.refl w).alloc (Nat.le_refl _) _
  have HM := Lib.hid m1
  have HR := readsPred_any _ (hN.made m1) x hx _ (Made.refl _)
  have HV := Lib.hid (show lackPred l x = (((rpredP x).2.2 && (rpredP x).2.1) && !setsB l (rpredP x).1) from rfl)
  have HA := Lib.hid (fun (u : World) (hu : Made w u) (r : Int) (c : Nat) (hc : u.heap[c]? = some (.cells #[.int .u8 r] 5 (0, 0))) => any_any _ _ _ ao cap l u (insts_made hI hu) enters_pred (tells_pred u (hN.made hu) r c 5 hc l))
  clear hI m1 hx
  generalize rpredP x = p at *
  obtain ⟨r, f, k⟩ := p
  have H := Lib.hid HR
  clear HR
  cases k <;> cases f
  case true.true =>
    go_enter Tryz.func86, Tryz.ntmps86
    go_wp2_with (fail)
    refine H.out.mono ?_
    rintro e w1 ⟨rfl, h1⟩
    have M1 := Lib.hid (Made.trans HM.out h1)
    have hz1 := M1.out.size
    clear h1
    go_wp2_with (fail)
    refine (HA.out _ (M1.out.alloc hz1 _) r w1.heap.size (heap_alloc_new w1 _)).mono ?_
    rintro e w2 ⟨rfl, h2⟩
    have M2 := Lib.hid (Made.trans (M1.out.alloc hz1 _) h2)
    clear h2
    go_wp2
    go_ret
    exact ⟨ret_bool (by rw [HV.out]; rfl), M2.out⟩
  all_goals
    go_enter Tryz.func86, Tryz.ntmps86
    go_wp2_with (fail)
    refine H.out.mono ?_
    rintro e w1 ⟨rfl, h1⟩
    have M1 := Lib.hid (Made.trans HM.out h1)
    have hz1 := M1.out.size
    clear h1
    go_wp2
    go_ret
    exact ⟨ret_bool (by rw [HV.out]; rfl), M1.out.alloc hz1 _⟩
end
end
section
open Go.ChangeShapes Go.WideShapes Go.ChangeAt Go.RowKit Go.Sort BigFrame

/-- The first ones of a slice, and the ones behind. -/
theorem insts_take {w : World} {ao : Option Addr} {cap : Nat} {l : List In} (h : Insts w ao cap l) (k : Nat) : Insts w ao cap (l.take k) := by
  have hl : (l.take k).length ≤ l.length := by rw [List.length_take]; omega
  refine ⟨Nat.le_trans hl h.room, h.max, fun x hx => h.small x (List.mem_of_mem_take hx), fun e => ?_, fun t ht => ?_⟩
  · obtain ⟨e1, e2⟩ := h.bare e
    exact ⟨by rw [e1]; simp, e2⟩
  · obtain ⟨b, o, e, hc⟩ := h.cell t (Nat.lt_of_lt_of_le ht hl)
    refine ⟨b, o, e, fun r hr => ?_⟩
    rw [List.getElem_take]
    exact hc r hr
theorem insts_drop {w : World} {b o cap k : Nat} {l : List In} (h : Insts w (some ⟨b, o, none⟩) cap l) (hk : k ≤ l.length) (hlt : k < cap) : Insts w (some ⟨b, o + k * 11, none⟩) (cap - k) (l.drop k) := by
  have hr := h.room
  have hm := h.max
  refine ⟨by rw [List.length_drop]; omega, by omega, fun x hx => h.small x (List.mem_of_mem_drop hx), fun e => by simp at e, fun t ht => ?_⟩
  rw [List.length_drop] at ht
  obtain ⟨b', o', e, hc⟩ := h.cell (k + t) (by omega)
  cases e
  refine ⟨b, o + k * 11, rfl, fun r hr => ?_⟩
  rw [List.getElem_drop, ← hc r hr]
  congr 2
  simp only [Nat.add_mul]; omega
theorem insts_empty (w : World) (ao : Option Addr) (h : ao ≠ none) : Insts w ao 0 [] := ⟨Nat.le_refl _, by unfold maxLen; omega, fun x hx => by simp at hx, fun e => absurd e h, fun t ht => absurd ht (Nat.not_lt_zero t)⟩
section
attribute [local irreducible] World.cell?
set_option maxRecDepth 100000 in
set_option maxHeartbeats 4000000 in
theorem tells_new (w : World) (hN : Names w) (ao : Option Addr) (cap : Nat) (l : List In) (hI : Insts w ao cap l) (c : Nat) (T : TypeId) (hc : w.heap[c]? = some (.cells #[.slice ao l.length cap] T (0, 0))) : TellsOf w 85 #[.pointer (some ⟨c, 0, none⟩)] (fun x => lackPred l x || lackReg l x) l := by
  intro x _ hx u hu
  show Calls Tryz.prog 85 #[x.val, .pointer (some ⟨c, 0, none⟩)] u fun e u' => e = .returned (.bool (lackPred l x || lackReg l x)) ∧ Made u u'
  have hi := hu.heap hc
  have hb := heap_lt hi
  have c0 : u.cell? ⟨c, 0, none⟩ = some (.slice ao l.length cap) := cell_of_lit (cs := [.slice ao l.length cap]) hi 0
  have m1 : Made u (u.alloc (.cells x.cells.toArray 40)) := (Made.refl u).alloc (Nat.le_refl _) _
  have HM := Lib.hid m1
  have HC := Lib.hid (m1.heap hi)
  have HX := Lib.hid (show InAt (u.alloc (.cells x.cells.toArray 40)) u.heap.size x from heap_alloc_new u _)
  have H1 := Lib.hid (lackPred_any ao cap l x hx _ (hN.made (Made.trans hu m1)) (insts_made (insts_made hI hu) m1))
  have H2 := Lib.hid (fun (v : World) (hv : Made (u.alloc (.cells x.cells.toArray 40)) v) => lackReg_any ao cap l x v (hN.made (Made.trans (Made.trans hu m1) hv)) (insts_made (insts_made (insts_made hI hu) m1) hv))
  clear hi hc hu m1 hx hI
  generalize lackPred l x = k1 at *
  generalize lackReg l x = k2 at *
  cases k1 with
  | true =>
    go_enter Tryz.func85, Tryz.ntmps85
    go_wp2_with (fail)
    refine H1.out.mono ?_
    rintro e w1 ⟨rfl, h1⟩
    have M1 := Lib.hid (Made.trans HM.out h1)
    clear h1
    go_wp2
    go_ret
    exact ⟨rfl, M1.out⟩
  | false =>
    go_enter Tryz.func85, Tryz.ntmps85
    go_wp2_with (fail)
    refine H1.out.mono ?_
    rintro e w1 ⟨rfl, h1⟩
    have M1 := Lib.hid h1
    obtain ⟨b0, b1, b2, b3, b4, b5, b6, b7, b8, b9, b10⟩ := in_cells (h1.heap HX.out)
    have d0 : w1.cell? ⟨c, 0, none⟩ = some (.slice ao l.length cap) := cell_of_lit (cs := [.slice ao l.length cap]) (h1.heap HC.out) 0
    clear h1
    go_wp2_with (fail)
    refine (H2.out _ M1.out).mono ?_
    rintro e w2 ⟨rfl, h2⟩
    have M2 := Lib.hid (Made.trans HM.out (Made.trans M1.out h2))
    clear h2
    go_wp2
    go_ret
    exact ⟨rfl, M2.out⟩
set_option maxRecDepth 100000 in
theorem lacksNew_any (ao : Option Addr) (cap : Nat) (l : List In) (w : World) (hN : Names w) (hI : Insts w ao cap l) :
    Calls Tryz.prog 56 #[.slice ao l.length cap] w fun e w' => e = .returned (.bool (l.any fun x => lackPred l x || lackReg l x)) ∧ Made w w' := by
  have m1 : Made w (w.alloc (.cells #[.slice ao l.length cap] 27)) := (Made.refl w).alloc (Nat.le_refl _) _
  have HM := Lib.hid m1
  have HA := Lib.hid (any_any _ _ _ ao cap l _ (insts_made hI m1) enters_new (tells_new _ (hN.made m1) ao cap l (insts_made hI m1) w.heap.size 27 (heap_alloc_new w _)))
  clear hI m1
  go_enter Tryz.func56, Tryz.ntmps56
  go_wp2_with (fail)
  refine HA.out.mono ?_
  rintro e w1 ⟨rfl, h1⟩
  have M1 := Lib.hid (Made.trans HM.out h1)
  clear h1
  go_wp2
  go_ret
  exact ⟨rfl, M1.out⟩
/-! Two branches. -/
theorem tells_branch (w : World) (hN : Names w) (l : List In) : TellsOf w 82 #[] (fun x => classP x == 5) l := fun x _ hx u hu => branch_any u (hN.made hu) x hx u (Made.refl u)
theorem tells_disturbs (w : World) (hN : Names w) (l : List In) : TellsOf w 58 #[] (fun x => classP x == 5 || classP x == 6) l := fun x _ hx u hu => disturbs_any u (hN.made hu) x hx u (Made.refl u)
set_option maxRecDepth 100000 in
set_option maxHeartbeats 4000000 in
theorem two_any (ao : Option Addr) (cap : Nat) (l : List In) (w : World) (hN : Names w) (hI : Insts w ao cap l) :
    Calls Tryz.prog 54 #[.slice ao l.length cap] w fun e w' => e = .returned (.bool (decide (1 < countC l 5))) ∧ Made w w' := by
  have hmax := hI.max
  have hroom := hI.room
  unfold maxLen at hmax
  have H := Lib.hid hI
  have HN := Lib.hid hN
  have HF := Lib.hid (first_any _ _ _ ao cap l w hI enters_isBranch (tells_branch w hN l))
  clear hI hN
  go_enter Tryz.func54, Tryz.ntmps54
  go_wp2_with (fail)
  refine HF.out.mono ?_
  rintro e w1 ⟨i, rfl, hi, h1⟩
  have M1 := Lib.hid h1
  clear h1
  rcases hi with ⟨rfl, hf⟩ | ⟨k, rfl, hk, h0, -, hq⟩
  · have HV := Lib.hid (show decide (1 < countC l 5) = false by rw [decide_eq_false_iff_not]; have := any_zero hf; unfold countC; omega)
    clear hf
    go_wp2
    go_ret
    exact ⟨ret_bool HV.out.symm, M1.out⟩
  · have HV := Lib.hid (show (l.drop (k + 1)).any (fun x => classP x == 5) = decide (1 < countC l 5) from two_first hk h0 (hq hk))
    obtain ⟨b, o, rfl, -⟩ := H.out.cell k hk
    clear h0 hq
    by_cases hc : k + 1 < cap
    · have HA := Lib.hid (any_any _ _ _ _ _ _ _ (insts_drop (insts_made H.out M1.out) (show k + 1 ≤ l.length by omega) hc) enters_isBranch (tells_branch w1 (HN.out.made M1.out) _))
      rewrite [List.length_drop] at HA
      go_wp2_with (fail)
      refine HA.out.mono ?_
      rintro e w2 ⟨rfl, h2⟩
      have M2 := Lib.hid (Made.trans M1.out h2)
      clear h2
      go_wp2
      go_ret
      exact ⟨ret_bool (by rw [HV.out]), M2.out⟩
    · obtain rfl : cap = k + 1 := by omega
      have hlen : l.length = k + 1 := by omega
      have HL := Lib.hid hlen
      have HA := Lib.hid (any_any _ _ _ _ _ _ _ (insts_empty w1 (some ⟨b, o, none⟩) (by simp)) enters_isBranch (tells_branch w1 (HN.out.made M1.out) _))
      have HV2 := Lib.hid (show decide (1 < countC l 5) = false by rw [← HV.out, List.drop_of_length_le (by omega)]; rfl)
      clear hlen
      go_wp2_with (fail)
      refine HA.out.mono ?_
      rintro e w2 ⟨rfl, h2⟩
      have M2 := Lib.hid (Made.trans M1.out h2)
      clear h2
      go_wp2
      go_ret
      exact ⟨ret_bool (by rw [HV2.out]), M2.out⟩
/-! A clash. -/
set_option maxRecDepth 100000 in
set_option maxHeartbeats 4000000 in
theorem hasClash_any (ao : Option Addr) (cap : Nat) (l : List In) (w : World) (hN : Names w) (hI : Insts w ao cap l) :
    Calls Tryz.prog 55 #[.slice ao l.length cap] w fun e w' => e = .returned (.bool (clashL l)) ∧ Made w w' := by
  have hmax := hI.max
  have hroom := hI.room
  unfold maxLen at hmax
  have H := Lib.hid hI
  have HN := Lib.hid hN
  clear hI hN
  go_enter Tryz.func55, Tryz.ntmps55
  go_wp2_with (fail)
  go_loopw [7] (fun i wr => ∃ k : Nat, k ≤ l.length ∧ i = .int .i64 k ∧ clashL (l.take k) = false ∧ Made w wr) (fun i _ => l.length - (intOf i).toNat)
  case atStart => exact ⟨0, Nat.zero_le _, rfl, rfl, Made.refl _⟩
  case round =>
    obtain ⟨k, hk, rfl, hat, hwr⟩ := hrel
    have KA := Lib.hid hat
    have HM := Lib.hid hwr
    have hz := hwr.size
    clear hat hwr
    by_cases hlt : k < l.length
    · obtain ⟨x, hx⟩ : ∃ x, l[k] = x := ⟨_, rfl⟩
      have HI := Lib.hid (insts_made H.out HM.out)
      obtain ⟨b, o, rfl, c0, c1, c2, c3, c4, c5, c6, c7, c8, c9, c10⟩ := insts_cells HI.out hlt x hx
      have m1 : Made wr (wr.alloc (.cells x.cells.toArray 40)) := (Made.refl wr).alloc (Nat.le_refl _) _
      have HA := any_any _ _ _ _ _ _ _ (insts_take (insts_made HI.out m1) k) enters_clash (tells_clash _ (HN.out.made (Made.trans HM.out m1)) x (H.out.small x (hx ▸ List.getElem_mem hlt)) wr.heap.size (heap_alloc_new wr _) (l.take k))
      have hlk : (l.take k).length = k := by rw [List.length_take]; omega
      rewrite [hlk] at HA
      have HC := Lib.hid HA
      have HX := Lib.hid (clash_step l hlt)
      rewrite [hx] at HX
      have HZ := Lib.hid (clash_more l (k + 1))
      have HK := Lib.hid (HM.out.trans m1)
      clear HA hx hlk m1
      go_wp2_with (fail)
      refine HC.out.mono ?_
      rintro e w1 ⟨rfl, h1⟩
      have M1 := Lib.hid (Made.trans HK.out h1)
      clear h1 c0 c1 c2 c3 c4 c5 c6 c7 c8 c9 c10
      cases hany : (l.take k).any (clashP x) with
      | true =>
        have HT := Lib.hid (HZ.out (by rw [HX.out, hany]; simp))
        clear hany
        go_wp2
        go_ret
        exact ⟨ret_bool (by rw [HT.out]), M1.out⟩
      | false =>
        have HT := Lib.hid (show clashL (l.take (k + 1)) = false by rw [HX.out, hany, KA.out]; rfl)
        clear hany
        go_wp2
        go_roundw
        case rel => exact ⟨k + 1, by omega, by go_num, HT.out, M1.out⟩
        case measure => simp [intOf]; omega
    · obtain rfl : k = l.length := by omega
      have KN := Lib.hid (show clashL l = false by have h := KA.out; rwa [List.take_length] at h)
      go_wp2
      go_ret
      exact ⟨ret_bool (by rw [KN.out]), HM.out⟩
/-! The form. -/
/-- A packet's variable, kept. -/
structure PkBox (W : World) (B : Nat) (cs : List Value) (w : World) : Prop where
  made : Made W w
  at_ : w.heap[B]? = some (.cells cs.toArray 29 (0, 0))
theorem PkBox.next {W w w' : World} {B : Nat} {cs : List Value} (h : PkBox W B cs w) (hm : Made w w') : PkBox W B cs w' := ⟨Made.trans h.made hm, hm.heap h.at_⟩
theorem box_start {W w : World} (hm : Made W w) (cs : List Value) : PkBox W w.heap.size cs (w.alloc (.cells cs.toArray 29)) := ⟨hm.alloc hm.size _, heap_alloc_new w _⟩
abbrev boxL (ao : Option Addr) (n cap : Nat) (e0 e1 raw dup : Bool) : List Value := [.slice ao n cap, .bool e0, .bool e1, .bool raw, .bool dup]
theorem box_cells {W w : World} {B : Nat} {ao : Option Addr} {n cap : Nat} {e0 e1 raw dup : Bool} (h : PkBox W B (boxL ao n cap e0 e1 raw dup) w) :
    w.cell? ⟨B, 0, none⟩ = some (.slice ao n cap) ∧ w.cell? ⟨B, 1, none⟩ = some (.bool e0) ∧ w.cell? ⟨B, 2, none⟩ = some (.bool e1) ∧ w.cell? ⟨B, 3, none⟩ = some (.bool raw) ∧ w.cell? ⟨B, 4, none⟩ = some (.bool dup) :=
  ⟨cell_of_lit h.at_ 0, cell_of_lit h.at_ 1, cell_of_lit h.at_ 2, cell_of_lit h.at_ 3, cell_of_lit h.at_ 4⟩
theorem all_more (l : List In) (f : In → Bool) {k : Nat} (h : k < l.length) : (l.take (k + 1)).all f = ((l.take k).all f && f l[k]) := by
  rw [List.take_succ_eq_append_getElem h, List.all_append]
  simp
theorem all_fails (l : List In) (f : In → Bool) {k : Nat} (h : k < l.length) (hf : f l[k] = false) : l.all f = false := by
  rw [List.all_eq_false]
  exact ⟨l[k], List.getElem_mem h, by rw [hf]; simp⟩
set_option maxRecDepth 100000 in
set_option maxHeartbeats 4000000 in
theorem formed_any (ao : Option Addr) (cap : Nat) (l : List In) (e0 e1 raw dup : Bool) (w : World) (hN : Names w) (hI : Insts w ao cap l) :
    Calls Tryz.prog 53 #[pkV ao l.length cap e0 e1 raw dup] w fun e w' => e = .returned (.bool (formB ⟨l, e0, e1, raw, dup⟩)) ∧ Made w w' := by
  have K := Lib.hid (box_start (Made.refl w) (boxL ao l.length cap e0 e1 raw dup))
  have hmax := hI.max
  have hroom := hI.room
  unfold maxLen at hmax
  have H := Lib.hid hI
  have HN := Lib.hid hN
  have HV := Lib.hid (show formB ⟨l, e0, e1, raw, dup⟩ = (l.length != 0 && decide (l.length ≤ 4) && !(raw && dup) && l.all rightB) from rfl)
  clear hI hN
  by_cases h0 : l.length = 0
  · have hb : ((l.length : Int) == 0) = true := beq_iff_eq.2 (by omega)
    have HR := Lib.hid (show formB ⟨l, e0, e1, raw, dup⟩ = false by rw [HV.out, h0]; rfl)
    clear h0
    go_enter Tryz.func53, Tryz.ntmps53
    go_wp2
    go_ret
    exact ⟨ret_bool HR.out.symm, K.out.made⟩
  · have hb : ((l.length : Int) == 0) = false := beq_eq_false_iff_ne.2 (by omega)
    by_cases h4 : 4 < l.length
    · have HR := Lib.hid (show formB ⟨l, e0, e1, raw, dup⟩ = false by rw [HV.out, decide_eq_false (show ¬ l.length ≤ 4 by omega)]; simp)
      have hd4 : decide ((l.length : Int) > 4) = true := decide_eq_true (by omega)
      clear h0
      go_enter Tryz.func53, Tryz.ntmps53
      go_wp2
      go_ret
      exact ⟨ret_bool HR.out.symm, K.out.made⟩
    · have hd4 : decide ((l.length : Int) > 4) = false := decide_eq_false (by omega)
      cases hrd : (raw && dup) with
      | true =>
        have HR := Lib.hid (show formB ⟨l, e0, e1, raw, dup⟩ = false by rw [HV.out, hrd]; simp)
        simp only [Bool.and_eq_true] at hrd
        obtain ⟨rfl, rfl⟩ := hrd
        clear h0
        go_enter Tryz.func53, Tryz.ntmps53
        go_wp2
        go_ret
        exact ⟨ret_bool HR.out.symm, K.out.made⟩
      | false =>
        have HR := Lib.hid (show formB ⟨l, e0, e1, raw, dup⟩ = l.all rightB by
          rw [HV.out, hrd, decide_eq_true (show l.length ≤ 4 by omega), bne_iff_ne.2 h0]; rfl)
        have hroad : ∀ Q : Prop, (raw = false → Q) → (raw = true → dup = false → Q) → Q := fun Q h1 h2 => by
          cases raw with
          | false => exact h1 rfl
          | true => exact h2 rfl (by simpa using hrd)
        clear h0 hrd
        refine hroad _ (fun hr => ?_) (fun hr hd => ?_)
        all_goals
          subst hr
          try subst hd
          clear hroad
          go_enter Tryz.func53, Tryz.ntmps53
          go_wp2_with (fail)
          go_loopw [26] (fun x wr => ∃ k : Nat, k ≤ l.length ∧ x = .int .i64 k ∧ (l.take k).all rightB = true ∧ PkBox w w.heap.size (boxL ao l.length cap e0 e1 _ _) wr) (fun x _ => l.length - (intOf x).toNat)
          case atStart => exact ⟨0, by omega, rfl, by simp, K.out⟩
          case round =>
            obtain ⟨k, hk, rfl, hall, hP⟩ := hrel
            have KP := Lib.hid hP
            have KA := Lib.hid hall
            clear hP hall
            by_cases hlt : k < l.length
            · obtain ⟨x, hx⟩ : ∃ x, l[k] = x := ⟨_, rfl⟩
              obtain ⟨b, o, rfl, c0, c1, c2, c3, c4, c5, c6, c7, c8, c9, c10⟩ := insts_cells (insts_made H.out KP.out.made) hlt x hx
              have m1 : Made wr (wr.alloc (.cells x.cells.toArray 40)) := (Made.refl wr).alloc (Nat.le_refl _) _
              have KM := Lib.hid m1
              have HRx := Lib.hid (right_any _ (HN.out.made (Made.trans KP.out.made m1)) x (H.out.small x (hx ▸ List.getElem_mem hlt)) _ (Made.refl _))
              have HA2 := Lib.hid (all_more l rightB hlt)
              have HF := Lib.hid (fun h => all_fails l rightB hlt h)
              rewrite [hx] at HA2 HF
              clear hx m1
              go_wp2_with (fail)
              refine HRx.out.mono ?_
              rintro e w2 ⟨rfl, h2⟩
              have K2 := Lib.hid (KP.out.next (Made.trans KM.out h2))
              clear h2 c0 c1 c2 c3 c4 c5 c6 c7 c8 c9 c10
              cases hrx : rightB x with
              | true =>
                have KN := Lib.hid (show (l.take (k + 1)).all rightB = true by rw [HA2.out, KA.out, hrx]; rfl)
                clear hrx
                go_wp2
                go_roundw
                case rel => exact ⟨k + 1, by omega, by go_num, KN.out, K2.out⟩
                case measure => simp [intOf]; omega
              | false =>
                have KN := Lib.hid (HF.out hrx)
                clear hrx
                go_wp2
                go_ret
                exact ⟨ret_bool (by rw [HR.out, KN.out]), K2.out.made⟩
            · obtain rfl : k = l.length := by omega
              have KN := Lib.hid (show l.all rightB = true by have h := KA.out; rwa [List.take_length] at h)
              go_wp2
              go_ret
              exact ⟨ret_bool (by rw [HR.out, KN.out]), KP.out.made⟩
/-! Check. -/
theorem form_facts {p : Pk} (h : formB p = true) (hs : ∀ x ∈ p.insts, x.small) : ∀ x ∈ p.insts, x.small ∧ rightB x = true := fun x hx => ⟨hs x hx, ((form_iff p).1 h).2.2.2 x hx⟩
set_option maxRecDepth 100000 in
set_option maxHeartbeats 8000000 in
theorem check_any (ao : Option Addr) (cap : Nat) (l : List In) (e0 e1 raw dup : Bool) (w : World) (hN : Names w) (hI : Insts w ao cap l) :
    Calls Tryz.prog 26 #[pkV ao l.length cap e0 e1 raw dup] w fun e w' => e = .returned (.int .i64 (checkP ⟨l, e0, e1, raw, dup⟩)) ∧ Made w w' := by
  have K0 := Lib.hid (box_start (Made.refl w) (boxL ao l.length cap e0 e1 raw dup))
  have H1 := Lib.hid (fun (u : World) (hu : Made w u) => formed_any ao cap l e0 e1 raw dup u (hN.made hu) (insts_made hI hu))
  have H2 := Lib.hid (fun (u : World) (hu : Made w u) => two_any ao cap l u (hN.made hu) (insts_made hI hu))
  have H3 := Lib.hid (fun (u : World) (hu : Made w u) => hasClash_any ao cap l u (hN.made hu) (insts_made hI hu))
  have H4 := fun (u : World) (hu : Made w u) => lacksNew_any ao cap l u (hN.made hu) (insts_made hI hu)
  have H5 := fun (u : World) (hu : Made w u) => any_any _ _ _ ao cap l u (insts_made hI hu) enters_disturbs (tells_disturbs u (hN.made hu) l)
  have HV := Lib.hid (show checkP ⟨l, e0, e1, raw, dup⟩ = if !formB ⟨l, e0, e1, raw, dup⟩ then 8 else if 1 < countC l 5 then 14 else if clashL l then 11 else if !freshB l then 12 else if ((e0 || e1) && decide (0 < countC l 5 + countC l 6)) then 13 else 0 from rfl)
  rewrite [loops l] at H5
  have HN4 := Lib.hid (fun (hf : formB ⟨l, e0, e1, raw, dup⟩ = true) (hc : clashL l = false) => lacks_new hc (form_facts (p := ⟨l, e0, e1, raw, dup⟩) hf hI.small))
  clear hI hN
  generalize formB ⟨l, e0, e1, raw, dup⟩ = k1 at *
  generalize hk2 : decide (1 < countC l 5) = k2 at *
  generalize clashL l = k3 at *
  generalize (l.any fun x => lackPred l x || lackReg l x) = k4 at *
  generalize decide (0 < countC l 5 + countC l 6) = k5 at *
  generalize freshB l = k6 at *
  generalize checkP ⟨l, e0, e1, raw, dup⟩ = v at *
  have HV2 := Lib.hid (show v = if !k1 then 8 else if k2 then 14 else if k3 then 11 else if !k6 then 12 else if ((e0 || e1) && k5) then 13 else 0 by rw [HV.out, ← hk2]; simp)
  have h4 := Lib.hid H4
  have h5 := Lib.hid H5
  clear HV hk2 H4 H5
  go_enter Tryz.func26, Tryz.ntmps26
  obtain ⟨p0, p1, p2, p3, p4⟩ := box_cells K0.out
  go_wp2_with (fail)
  refine (H1.out _ K0.out.made).mono ?_
  rintro e w1 ⟨rfl, h1⟩
  have K1 := Lib.hid (K0.out.next h1)
  clear h1 p0 p1 p2 p3 p4
  obtain ⟨p0, p1, p2, p3, p4⟩ := box_cells K1.out
  cases k1 with
  | false =>
    go_wp2
    go_ret
    exact ⟨ret_int (by rw [HV2.out]; rfl), K1.out.made⟩
  | true =>
  go_wp2_with (fail)
  refine (H2.out _ K1.out.made).mono ?_
  rintro e w2 ⟨rfl, h2⟩
  have K2 := Lib.hid (K1.out.next h2)
  clear h2 p0 p1 p2 p3 p4
  obtain ⟨p0, p1, p2, p3, p4⟩ := box_cells K2.out
  cases k2 with
  | true =>
    go_wp2
    go_ret
    exact ⟨ret_int (by rw [HV2.out]; rfl), K2.out.made⟩
  | false =>
  go_wp2_with (fail)
  refine (H3.out _ K2.out.made).mono ?_
  rintro e w3 ⟨rfl, h3⟩
  have K3 := Lib.hid (K2.out.next h3)
  clear h3 p0 p1 p2 p3 p4
  obtain ⟨p0, p1, p2, p3, p4⟩ := box_cells K3.out
  cases k3 with
  | true =>
    go_wp2
    go_ret
    exact ⟨ret_int (by rw [HV2.out]; rfl), K3.out.made⟩
  | false =>
  go_wp2_with (fail)
  refine (h4.out _ K3.out.made).mono ?_
  rintro e w4 ⟨rfl, h4'⟩
  have K4 := Lib.hid (K3.out.next h4')
  have HE := Lib.hid (HN4.out (by trivial) (by trivial))
  clear h4' p0 p1 p2 p3 p4
  obtain ⟨p0, p1, p2, p3, p4⟩ := box_cells K4.out
  cases k4 with
  | true =>
    go_wp2
    go_ret
    exact ⟨ret_int (by rw [HV2.out, ← HE.out]; rfl), K4.out.made⟩
  | false =>
  have HV3 := Lib.hid (show v = if ((e0 || e1) && k5) then 13 else 0 by rw [HV2.out, ← HE.out]; rfl)
  have hroad : ∀ Q : Prop, (e0 = true → Q) → (e0 = false → e1 = true → Q) → (e0 = false → e1 = false → Q) → Q := fun Q h1 h2 h3 => by
    cases e0 with
    | true => exact h1 rfl
    | false =>
      cases e1 with
      | true => exact h2 rfl rfl
      | false => exact h3 rfl rfl
  refine hroad _ (fun he => ?_) (fun he hf => ?_) (fun he hf => ?_)
  case' refine_3 =>
    subst he; subst hf
    go_wp2
    go_ret
    exact ⟨ret_int (by rw [HV3.out]; rfl), K4.out.made⟩
  all_goals
    subst he
    try subst hf
    clear hroad
    go_wp2_with (fail)
    refine (h5.out _ K4.out.made).mono ?_
    rintro e w5 ⟨rfl, h5'⟩
    have K5 := Lib.hid (K4.out.next h5')
    clear h5' p0 p1 p2 p3 p4
    cases k5 with
    | true =>
      go_wp2
      go_ret
      exact ⟨ret_int (by rw [HV3.out]; rfl), K5.out.made⟩
    | false =>
      go_wp2
      go_ret
      exact ⟨ret_int (by rw [HV3.out]; simp), K5.out.made⟩
end
end
end
section
open Go.ChangeShapes Go.WideShapes Go.ChangeAt Go.RowKit Go.Sort BigFrame

theorem inst_row : (Tryz.prog.info? 40).map (fun i => (i.zero, i.size, i.bytes)) = some (some (In.val inZero), 11, 24) := by kernel_rfl
abbrev flatI (l : List In) : List Value := l.flatMap In.cells
theorem flatI_len : ∀ l : List In, (flatI l).length = l.length * 11
  | [] => rfl
  | x :: l => by
    have hl : x.cells.length = 11 := rfl
    have := flatI_len l
    simp only [flatI, List.flatMap_cons, List.length_append, List.length_cons] at this ⊢
    omega
theorem flatI_at : ∀ (l : List In) (t r : Nat) (h : t < l.length), r < 11 → (flatI l)[t * 11 + r]? = (l[t].cells)[r]?
  | x :: l, 0, r, _, hr => by
    have hl : x.cells.length = 11 := rfl
    simp only [flatI, List.flatMap_cons, Nat.zero_mul, Nat.zero_add, List.getElem_cons_zero]
    rw [List.getElem?_append_left (by omega)]
  | x :: l, t + 1, r, h, hr => by
    have hl : x.cells.length = 11 := rfl
    have ih := flatI_at l t r (by simpa using h) hr
    simp only [flatI, List.flatMap_cons, List.getElem_cons_succ] at ih ⊢
    rw [List.getElem?_append_right (by omega), show (t + 1) * 11 + r - x.cells.length = t * 11 + r by omega]
    exact ih
theorem cell_one (x : In) : ∀ u ∈ x.cells, u.oneCell' = true := by
  intro u hu
  simp only [In.cells, List.mem_cons, List.not_mem_nil, or_false] at hu
  rcases hu with rfl | rfl | rfl | rfl | rfl | rfl | rfl | rfl | rfl | rfl | rfl <;> rfl
theorem flatI_one (l : List In) : ∀ u ∈ flatI l, u.oneCell' = true := by
  intro u hu
  obtain ⟨x, _, h⟩ := List.mem_flatMap.1 hu
  exact cell_one x u h
theorem flatI_app (a b : List In) : flatI (a ++ b) = flatI a ++ flatI b := List.flatMap_append
/-- What lies in memory, as the cells that an append asks for. -/
theorem insts_olds {w : World} {ao : Option Addr} {cap : Nat} {l : List In} (h : Insts w ao cap l) : ∀ ad, ao = some ad → ∀ j u, (flatI l)[j]? = some u → w.cell? (ad.add j) = some u := by
  intro ad had j u hu
  have hj : j < l.length * 11 := by
    have := (List.getElem?_eq_some_iff.1 hu).1
    rwa [flatI_len] at this
  have ht : j / 11 < l.length := by omega
  obtain ⟨b, o, e, hc⟩ := h.cell (j / 11) ht
  obtain rfl := Option.some.inj (had.symm.trans e)
  have hr : j % 11 < 11 := Nat.mod_lt _ (by omega)
  have h1 := hc (j % 11) hr
  have h2 := flatI_at l (j / 11) (j % 11) ht hr
  have e2 : j / 11 * 11 + j % 11 = j := by omega
  rw [e2] at h2
  rw [add_plain, show o + j = o + j / 11 * 11 + j % 11 by omega, h1, ← h2]
  exact hu
theorem owns_insts {w : World} {B : Nat} {v : Value} {n : Nat} {l : List In} (h : w.ownsRow B 40 11 v n (flatI l)) (hs : ∀ x ∈ l, x.small) : l.length = n ∧ ∃ so cap, v = .slice so n cap ∧ Insts w so cap l := by
  have hl : l.length = n := by have := h.1; rw [flatI_len] at this; omega
  refine ⟨hl, ?_⟩
  have hc := fun g hg => h.cells (g := g) hg
  rcases h.2 with ⟨rfl, rfl⟩ | ⟨g, cap, cur, rfl, _, hg, hn, hm, _⟩
  · obtain rfl := List.eq_nil_of_length_eq_zero hl
    exact ⟨none, 0, rfl, Nat.le_refl _, Nat.zero_le _, fun x hx => by simp at hx, fun _ => ⟨rfl, rfl⟩, fun t ht => absurd ht (Nat.not_lt_zero t)⟩
  · refine ⟨_, cap, rfl, by omega, hm, hs, fun h => by simp at h, fun t ht => ⟨g, 0, rfl, fun r hr => ?_⟩⟩
    have h1 := flatI_at l t r ht hr
    have h2 : r < (l[t].cells).length := hr
    rw [List.getElem?_eq_getElem h2] at h1 ⊢
    have h3 := hc g rfl (t * 11 + r) _ h1
    rw [add_plain] at h3
    rw [Nat.zero_add]
    simpa using h3
/-- 'append' of whatever came in to a slice of the call's own: nil, empty or not; elements of any size. -/
theorem wpList_append_each {P : Program} {w : World} {ops : Array Oper} {rest : List Oper} {o : Oper} {a : Act} {Q : Exit → Act → World → Prop} (hgd : o.guard = none) (s x : Operand) (t : TypeId)
    (ho : o.op = .call { callee := .builtin .append, args := #[s, x], argTypes := #[t, t] })
    (base : Nat) (e : TypeId) (i : TypeInfo) (z : Value) (size bytes : Nat) (ht : P.underlying t = some (.slice e)) (hi : P.info? e = some i) (hz : i.zero = some z)
    (hsize : i.size = size) (hby : i.bytes = bytes) (hzs : z.cells.size = size) (hsz : 0 < size)
    (v : Value) (n : Nat) (xs : List Value) (hs : a.eval s = v) (hown : w.ownsRow base e size v n xs)
    (ao : Option Addr) (m c : Nat) (news : List Value) (hx : a.eval x = .slice ao m c) (hnone : ao = none → m = 0 ∧ c = 0) (hl : news.length = m * size) (hnews : ∀ ad, ao = some ad → ∀ j u, news[j]? = some u → w.cell? (ad.add j) = some u) (h1 : ∀ u ∈ news, u.oneCell' = true)
    (h63 : n + m ≤ maxLen) (hbytes : (n + m) * bytes ≤ 140737488355328) (hbase : base ≤ w.heap.size)
    (h : ∀ v' w', w'.ownsRow base e size v' (n + m) (xs ++ news) → w.grownBy w' v.ownBlock → wpList P ops Q rest (a.put o.dst v') w') : wpList P ops Q (o :: rest) a w := by
  cases ao with
  | none =>
    obtain ⟨rfl, rfl⟩ := hnone rfl
    obtain rfl : news = [] := List.eq_nil_of_length_eq_zero (by omega)
    exact wpList_append_own_none hgd s x t ho base e i size ht hi v n xs hs hown hx (h v w (by simpa using hown) ⟨rfl, rfl, rfl, Nat.le_refl _, fun _ _ _ => rfl⟩)
  | some ad =>
    exact wpList_append_own w hgd s x t ho base e i z size bytes ht hi hz hsize hby hzs hsz v n xs hs hown ad m c news hx hl (hnews ad rfl) h1 h63 hbytes hbase fun v' w' h2 h3 _ => h v' w' h2 h3
/-- An append to a row of the call's own, as one step of a region that draws. -/
theorem step_append_each {P : Program} {ops : Array Oper} {o : Oper} {a : Act} {w : World} {K : Act → World → Prop} {Q : Exit → Act → World → Prop} {X : Prop} (hg : o.guard = none) (s x : Operand) (t : TypeId)
    (ho : o.op = .call { callee := .builtin .append, args := #[s, x], argTypes := #[t, t] })
    (base : Nat) (e : TypeId) (i : TypeInfo) (z : Value) (size bytes : Nat) (ht : P.underlying t = some (.slice e)) (hi : P.info? e = some i) (hz : i.zero = some z)
    (hsize : i.size = size) (hby : i.bytes = bytes) (hzs : z.cells.size = size) (hsz : 0 < size)
    (v : Value) (n : Nat) (xs : List Value) (hs : a.eval s = v) (hown : w.ownsRow base e size v n xs)
    (ad : Addr) (m c : Nat) (news : List Value) (hx : a.eval x = .slice (some ad) m c) (hl : news.length = m * size) (hnews : ∀ j u, news[j]? = some u → w.cell? (ad.add j) = some u) (h1 : ∀ u ∈ news, u.oneCell' = true)
    (h63 : n + m ≤ maxLen) (hbytes : (n + m) * bytes ≤ 140737488355328) (hbase : base ≤ w.heap.size)
    (h : ∀ v' w', w'.ownsRow base e size v' (n + m) (xs ++ news) → w.grownBy w' v.ownBlock → (v' = .slice none 0 0 ↔ v = .slice none 0 0 ∧ m = 0) → K (a.put o.dst v') w') :
    if Region.wanted o (yielded ops a.tmps) = true then Oper.wp P o a w K Q else X := by
  rw [if_pos (by simp [Region.wanted, hg])]
  exact wp_append_own w s x t ho base e i z size bytes ht hi hz hsize hby hzs hsz v n xs hs hown ad m c news hx hl hnews h1 h63 hbytes hbase h
theorem run_neq_same (y : In) (w : World) : (binOp .neq 40 y.val y.val).run Tryz.prog w = .ok (.bool false) w := by
  obtain ⟨y0, y1, y2, y3, y4, y5, y6, y7, y8, y9, y10⟩ := y
  simp [go_sem]
end
end Go.Proofs.YtanjmoiepmadhaaGreatDoor
