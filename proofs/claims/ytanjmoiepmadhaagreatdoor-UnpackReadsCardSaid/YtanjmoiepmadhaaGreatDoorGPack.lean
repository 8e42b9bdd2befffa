/- The row of instructions at an address and the words of a packet as plain data; rows that have the same instructions are one; what the words say; no condition but those named. · The first of what is left, again and again; rows that have the same instructions; no condition. · Words in memory; what Order and Words of package pack, and the document's, tell; no condition. · Rows of instructions of a call's own: copied, one taken out, one put behind; no condition. · Rows of words of a call's own: one put behind, one stored; the words of a packet as they are gathered; no condition. · What Same, Insts and Multiset beside the laws of pack return, for whatever lies in memory. -/
import Derived.Test.YtanjmoiepmadhaaGreatDoorGEncM
import Derived.Test.YtanjmoiepmadhaaGreatDoorGLegal
import Derived.Test.YtanjmoiepmadhaaGreatDoorGRules
import Derived.Test.YtanjmoiepmadhaaGreatDoorGBase
import Derived.Test.YtanjmoiepmadhaaGreatDoorGSub
import Derived.Deep.RegionLaw
namespace Go.Proofs.YtanjmoiepmadhaaGreatDoor
section
set_option maxRecDepth 100000

/-! The row. -/
def rankZ (op : Int) : Int := if 30 ≤ op then 0 else if 27 ≤ op then 1 else if 24 ≤ op then 5 else if 21 ≤ op then 4 else if 15 ≤ op then 2 else 3
/-- Whether one stands ahead of another one. -/
def aheadB (pc : Int) (a b : In) : Bool :=
  if rankZ a.op ≠ rankZ b.op then decide (rankZ a.op < rankZ b.op) else if wordP a pc ≠ wordP b pc then decide (wordP a pc < wordP b pc) else if upP a pc ≠ upP b pc then decide (upP a pc < upP b pc) else !a.ext && b.ext
def leB (pc : Int) (a b : In) : Bool := !aheadB pc b a
def extZ (x : In) : Int := if x.ext then 1 else 0
theorem ext_lt (a b : In) : (!a.ext && b.ext) = decide (extZ a < extZ b) := by
  unfold extZ
  cases a.ext <;> cases b.ext <;> rfl
theorem le_iff (pc : Int) (a b : In) : leB pc a b = true ↔ rankZ a.op < rankZ b.op ∨ (rankZ a.op = rankZ b.op ∧ (wordP a pc < wordP b pc ∨ (wordP a pc = wordP b pc ∧ (upP a pc < upP b pc ∨ (upP a pc = upP b pc ∧ extZ a ≤ extZ b))))) := by
  unfold leB aheadB
  rw [ext_lt]
  generalize rankZ a.op = r; generalize rankZ b.op = q
  generalize wordP a pc = v; generalize wordP b pc = w
  generalize upP a pc = x; generalize upP b pc = y
  generalize extZ a = e; generalize extZ b = f
  rw [Bool.not_eq_true']
  by_cases h1 : q = r
  · subst h1
    rw [if_neg (by simp)]
    by_cases h2 : w = v
    · subst h2
      rw [if_neg (by simp)]
      by_cases h3 : y = x
      · subst h3
        rw [if_neg (by simp), decide_eq_false_iff_not]
        omega
      · rw [if_pos (by simpa using h3), decide_eq_false_iff_not]
        omega
    · rw [if_pos (by simpa using h2), decide_eq_false_iff_not]
      omega
  · rw [if_pos (by simpa using h1), decide_eq_false_iff_not]
    omega
theorem le_trans' (pc : Int) (a b c : In) (h1 : leB pc a b = true) (h2 : leB pc b c = true) : leB pc a c = true := by
  rw [le_iff] at *
  omega
theorem le_total' (pc : Int) (a b : In) : (leB pc a b || leB pc b a) = true := by
  rw [Bool.or_eq_true, le_iff, le_iff]
  omega
/-- Those that the order does not tell apart are one. -/
theorem le_same {pc : Int} {a b : In} (ha : a.small) (hb : b.small) (sa : sayB a pc = true) (sb : sayB b pc = true) (h1 : leB pc a b = true) (h2 : leB pc b a = true) : a = b := by
  rw [le_iff] at h1 h2
  have hw : wordP a pc = wordP b pc := by omega
  have hu : upP a pc = upP b pc := by omega
  have he : extZ a = extZ b := by omega
  have hx : a.ext = b.ext := by
    unfold extZ at he
    cases h3 : a.ext <;> cases h4 : b.ext <;> rw [h3, h4] at he <;> first | rfl | (simp at he)
  have e1 := (inst_of_word ha sa).2.1
  have e2 := (inst_of_word hb sb).2.1
  rw [hw, hu, hx, e2] at e1
  exact e1.symm
def rowP (pc : Int) (l : List In) : List In := l.mergeSort (leB pc)
theorem row_perm (pc : Int) (l : List In) : (rowP pc l).Perm l := List.mergeSort_perm l _
theorem row_sorted (pc : Int) (l : List In) : (rowP pc l).Pairwise (fun a b => leB pc a b = true) := List.pairwise_mergeSort (le_trans' pc) (le_total' pc) l
/-- That all have a word, and lie in their Go types. -/
def Said (pc : Int) (l : List In) : Prop := ∀ x ∈ l, x.small ∧ sayB x pc = true
theorem row_one {pc : Int} {l r : List In} (hs : Said pc l) (hp : r.Perm l) (h : r.Pairwise (fun a b => leB pc a b = true)) : r = rowP pc l :=
  List.Perm.eq_of_pairwise (le := fun a b => leB pc a b = true) (fun a b ha hb h1 h2 => by
    have a1 := hs a (hp.mem_iff.1 ha)
    have b1 := hs b ((row_perm pc l).mem_iff.1 hb)
    exact le_same a1.1 b1.1 a1.2 b1.2 h1 h2) h (row_sorted pc l) (hp.trans (row_perm pc l).symm)
theorem row_congr {pc : Int} {l m : List In} (hs : Said pc m) (h : l.Perm m) : rowP pc l = rowP pc m := row_one hs ((row_perm pc l).trans h) (row_sorted pc l)
theorem row_len (pc : Int) (l : List In) : (rowP pc l).length = l.length := (row_perm pc l).length_eq
def sayAll (pc : Int) (l : List In) : Bool := l.all fun x => sayB x pc
def orderB (pc : Int) (l : List In) : Bool := decide (l.length ≤ 4) && sayAll pc l
def orderL (pc : Int) (l : List In) : List In := if orderB pc l then rowP pc l else []
theorem sayAll_perm {pc : Int} {l m : List In} (h : l.Perm m) : sayAll pc l = sayAll pc m := by
  unfold sayAll
  rw [Bool.eq_iff_iff, List.all_eq_true, List.all_eq_true]
  exact ⟨fun k x hx => k x (h.mem_iff.2 hx), fun k x hx => k x (h.mem_iff.1 hx)⟩
theorem said_of {pc : Int} {l : List In} (hs : ∀ x ∈ l, x.small) (h : sayAll pc l = true) : Said pc l := fun x hx => ⟨hs x hx, List.all_eq_true.1 h x hx⟩

/-! The words, without their parse bits. -/
def oneW (pc : Int) (x : In) : List Int := if x.ext then [wordZ 0 (upP x pc) 0, wordP x pc] else [wordP x pc]
def bareW (pc : Int) (l : List In) : List Int := l.flatMap (oneW pc)
theorem bareW_app (pc : Int) (l m : List In) : bareW pc (l ++ m) = bareW pc l ++ bareW pc m := List.flatMap_append
theorem bareW_len (pc : Int) : ∀ l : List In, (bareW pc l).length = l.length + extN l
  | [] => rfl
  | x :: l => by
    have e : bareW pc (x :: l) = oneW pc x ++ bareW pc l := rfl
    rw [e, List.length_append, bareW_len pc l]
    unfold oneW extN
    rw [List.countP_cons, List.length_cons]
    cases x.ext <;> simp <;> omega
/-- The words of a row whose i and j are one duplex. -/
def dupW (pc : Int) (r : List In) (i j : Nat) : List Int := bareW pc (restOf r i j) ++ [(pairP (r.getD i inZero) (r.getD j inZero)).1]
def bareP (pc : Int) (p : Pk) (i j : Nat) : List Int := if p.dup then dupW pc (rowP pc p.insts) i j else bareW pc (rowP pc p.insts)
/-! Parse bits. -/
def parseAt (e0 e1 dup : Bool) (n k : Nat) : Int := if k + 1 = n then (if dup then 0 else 3) else if (k == 0 && e0) || (k == 1 && e1) then 2 else 1
def endsL (e0 e1 dup : Bool) (ws : List Int) : List Int := ws.mapIdx fun k w => putZ w 14 2 (parseAt e0 e1 dup ws.length k)
theorem endsL_len (e0 e1 dup : Bool) (ws : List Int) : (endsL e0 e1 dup ws).length = ws.length := by simp [endsL]
/-- What the words of a packet at an address are. -/
def IsWords (pc : Int) (p : Pk) (zs : List Int) : Prop := ∃ i j : Nat, (p.dup = true → IsChoice (rowP pc p.insts) i j true) ∧ (p.dup = false → i = 0 ∧ j = 0) ∧ zs = endsL p.e0 p.e1 p.dup (bareP pc p i j)
theorem words_one {pc : Int} {p : Pk} {ys zs : List Int} (h : IsWords pc p ys) (k : IsWords pc p zs) : ys = zs := by
  obtain ⟨i, j, h1, h2, rfl⟩ := h
  obtain ⟨a, b, k1, k2, rfl⟩ := k
  cases hd : p.dup with
  | true =>
    obtain ⟨rfl, rfl, -⟩ := choice_one (h1 hd) (k1 hd)
    rfl
  | false =>
    obtain ⟨rfl, rfl⟩ := h2 hd
    obtain ⟨rfl, rfl⟩ := k2 hd
    rfl
/-- The packet's words do not hang on the row of its instructions, nor on Raw. -/
theorem words_perm' {pc : Int} {p q : Pk} (hs : Said pc p.insts) (h : q.insts.Perm p.insts) (h0 : q.e0 = p.e0) (h1 : q.e1 = p.e1) (h2 : q.dup = p.dup) {zs : List Int} (hz : IsWords pc p zs) : IsWords pc q zs := by
  obtain ⟨i, j, k1, k2, rfl⟩ := hz
  have e := row_congr hs h
  refine ⟨i, j, fun hd => by rw [e]; exact k1 (by rw [← h2]; exact hd), fun hd => k2 (by rw [← h2]; exact hd), ?_⟩
  unfold bareP
  rw [e, h0, h1, h2]
/-! How many there are. -/
theorem pair_ext {a b : In} (h : pairB a b = true) : a.ext = false ∧ b.ext = false := by
  have hp : pairP a b = ((pairP a b).1, true) := Prod.ext rfl h
  have key : ∀ x : In, (subOf x).2 = true → x.ext = false := fun x hx => by
    obtain ⟨h0, h1, h2⟩ := inst_of (subOf x).1 x (Prod.ext rfl hx)
    exact (says _ h0 h1 x h2).ext
  unfold pairB pairP at h
  by_cases h1 : ((subOf a).2 && (subOf b).2 && !(storeB a && storeB b)) = true
  · simp only [Bool.and_eq_true] at h1
    exact ⟨key a h1.1.1, key b h1.1.2⟩
  · rw [if_neg h1] at h
    exact absurd h (by simp)
theorem rest_perm {l : List In} {i j : Nat} (hij : i < j) (hj : j < l.length) : l.Perm (l.getD i inZero :: l.getD j inZero :: restOf l i j) := by
  have hlen : (l.eraseIdx j).length = l.length - 1 := List.length_eraseIdx_of_lt hj
  have p1 := erase_perm hj
  have p2 := erase_perm (l := l.eraseIdx j) (i := i) (by omega)
  rw [erase_at hij] at p2
  exact (p1.trans (p2.cons _)).trans (List.Perm.swap _ _ _)
theorem words_len {pc : Int} {p : Pk} {zs : List Int} (h : IsWords pc p zs) : (zs.length : Int) = wordsP p := by
  obtain ⟨i, j, k1, -, rfl⟩ := h
  rw [endsL_len]
  have hp := row_perm pc p.insts
  have hl := hp.length_eq
  have he : extN (rowP pc p.insts) = extN p.insts := hp.countP_eq _
  unfold bareP wordsP
  cases hd : p.dup with
  | false =>
    simp only [Bool.false_eq_true, if_false]
    rw [bareW_len, hl, he]
    omega
  | true =>
    obtain ⟨h1, h2, h3, -⟩ := (k1 hd).some rfl
    unfold okAt at h3
    rw [Bool.and_eq_true] at h3
    obtain ⟨x1, x2⟩ := pair_ext h3.1
    have hq := rest_perm h1 h2
    have hq1 := hq.length_eq
    have hq2 : extN (rowP pc p.insts) = extN (restOf (rowP pc p.insts) i j) := by
      have := hq.countP_eq (fun x => x.ext)
      unfold extN
      rw [this, List.countP_cons, List.countP_cons, x1, x2]
      simp
    simp only [List.length_cons] at hq1
    simp only [if_true]
    unfold dupW
    rw [List.length_append, bareW_len, ← hq2, he, List.length_singleton]
    omega
/-! Parse bits. -/
theorem put_parse (w v : Int) : putZ w 14 2 v = w / 65536 * 65536 + v % 4 * 16384 + w % 16384 := by
  unfold putZ
  rw [if_pos (by decide)]
  rfl
theorem parse_put (w v : Int) : parseZ (putZ w 14 2 v) = v % 4 := by
  rw [put_parse]
  unfold parseZ
  omega
theorem put_u32 {w v : Int} (h : isU32 w) : isU32 (putZ w 14 2 v) := by
  rw [put_parse]
  unfold isU32 at *
  omega
theorem parseAt_code (e0 e1 dup : Bool) (n k : Nat) : 0 ≤ parseAt e0 e1 dup n k ∧ parseAt e0 e1 dup n k < 4 := by
  unfold parseAt
  split
  · cases dup <;> simp
  · split <;> omega
theorem endsL_at (e0 e1 dup : Bool) (ws : List Int) {k : Nat} (h : k < ws.length) : (endsL e0 e1 dup ws)[k]'(by rw [endsL_len]; exact h) = putZ ws[k] 14 2 (parseAt e0 e1 dup ws.length k) := by simp [endsL]
/-- The last word, and no other one, ends a packet. -/
theorem parse_end (e0 e1 dup : Bool) (n k : Nat) : (parseAt e0 e1 dup n k = 0 ∨ parseAt e0 e1 dup n k = 3) ↔ k + 1 = n := by
  unfold parseAt
  by_cases h : k + 1 = n
  · rw [if_pos h]
    cases dup <;> simp [h]
  · rw [if_neg h]
    split <;> simp [h]
/-! What the words say. -/
theorem upP_plain {x : In} {pc : Int} (h : x.ext = false) : upP x pc = 0 := by
  unfold upP
  split
  · rw [upFrom_eq]
    unfold uppZ
    rw [h]
    split <;> rfl
  · rfl
structure BareOk (w : Int) : Prop where
  parse : parseZ w = 0
  u : isU32 w
theorem ext_word (x : In) (pc : Int) : codeZ (wordZ 0 (upP x pc) 0) = 0 ∧ payZ (wordZ 0 (upP x pc) 0) = upP x pc ∧ parseZ (wordZ 0 (upP x pc) 0) = 0 ∧ isU32 (wordZ 0 (upP x pc) 0) := by
  obtain ⟨h0, h1⟩ := upP_bounds x pc
  exact code_word (by decide) (by decide) h0 h1
theorem oneW_ok {x : In} {pc : Int} (h : x.small) (hs : sayB x pc = true) : ∀ w ∈ oneW pc x, BareOk w := by
  obtain ⟨-, -, -, -, w1, w2⟩ := inst_of_word h hs
  obtain ⟨-, -, e1, e2⟩ := ext_word x pc
  intro w hw
  unfold oneW at hw
  cases hx : x.ext with
  | true =>
    rw [hx] at hw
    simp only [if_true, List.mem_cons, List.not_mem_nil, or_false] at hw
    rcases hw with rfl | rfl
    · exact ⟨e1, e2⟩
    · exact ⟨w1, w2⟩
  | false =>
    rw [hx] at hw
    simp only [Bool.false_eq_true, if_false, List.mem_cons, List.not_mem_nil, or_false] at hw
    subst hw
    exact ⟨w1, w2⟩
theorem bareW_ok {pc : Int} {l : List In} (h : Said pc l) : ∀ w ∈ bareW pc l, BareOk w := fun w hw => by
  obtain ⟨x, hx, hwx⟩ := List.mem_flatMap.1 hw
  exact oneW_ok (h x hx).1 (h x hx).2 w hwx
theorem oneW_op {x : In} {pc : Int} (h : x.small) (hs : sayB x pc = true) : codeZ (wordP x pc) ≠ 0 := by
  rw [(inst_of_word h hs).2.2.1]
  have hr : rightB x = true := by
    unfold sayB at hs
    rw [Bool.and_eq_true] at hs
    exact hs.1
  have := right_range hr
  omega
end
section
set_option maxRecDepth 100000
theorem taken_at {l : List In} {k : Nat} (h : k < l.length) : l.Perm (l[k] :: (l.take k ++ l.drop (k + 1))) := by
  have e : l = l.take k ++ l[k] :: l.drop (k + 1) := by rw [← List.drop_eq_getElem_cons h, List.take_append_drop]
  exact (List.Perm.of_eq e).trans List.perm_middle
/-! The same instructions, in any row. -/
theorem multi_next {a left b : List In} {i k : Nat} (h : b.Perm (a.take i ++ left)) (hi : i < a.length) (hk : k < left.length) (hx : left[k] = a[i]) : b.Perm (a.take (i + 1) ++ (left.take k ++ left.drop (k + 1))) := by
  refine h.trans ?_
  rw [List.take_succ_eq_append_getElem hi, List.append_assoc, List.singleton_append, ← hx]
  exact List.Perm.append_left _ (taken_at hk)
theorem multi_none {a left b : List In} {i : Nat} (h : b.Perm (a.take i ++ left)) (hi : i < a.length) (hn : ∀ t (ht : t < left.length), left[t] ≠ a[i]) : ¬ a.Perm b := by
  intro hp
  have h1 : (a.take i ++ a.drop i).Perm (a.take i ++ left) := by rw [List.take_append_drop]; exact hp.trans h
  have h2 := (List.perm_append_left_iff _).1 h1
  have h3 : a[i] ∈ left := h2.mem_iff.1 (by rw [List.drop_eq_getElem_cons hi]; exact List.mem_cons_self ..)
  obtain ⟨t, ht, e⟩ := List.mem_iff_getElem.1 h3
  exact hn t ht e
theorem multi_end {a left b : List In} (h : b.Perm (a.take a.length ++ left)) (h0 : left.length = 0) : a.Perm b := by
  obtain rfl := List.eq_nil_of_length_eq_zero h0
  rw [List.take_length, List.append_nil] at h
  exact h.symm
end
section
set_option maxRecDepth 100000
open Go.ChangeShapes Go.WideShapes Go.ChangeAt Go.RowKit Go.Sort BigFrame

/-- Words in memory, wherever they lie. -/
structure Ws (w : World) (ao : Option Addr) (cap : Nat) (zs : List Int) : Prop where
  room : zs.length ≤ cap
  max : cap ≤ maxLen
  cell : ∀ t (h : t < zs.length), ∃ b o, ao = some ⟨b, o, none⟩ ∧ w.cell? ⟨b, o + t, none⟩ = some (.int .u32 zs[t])
theorem Ws.made {w w' : World} {ao : Option Addr} {cap : Nat} {zs : List Int} (h : Ws w ao cap zs) (hm : Made w w') : Ws w' ao cap zs :=
  ⟨h.room, h.max, fun t ht => by
    obtain ⟨b, o, e, hc⟩ := h.cell t ht
    exact ⟨b, o, e, made_cell hm _ _ hc⟩⟩
abbrev wordsV (zs : List Int) : List Value := zs.map fun x => Value.int .u32 x
theorem ws_nil (w : World) : Ws w none 0 [] := ⟨Nat.le_refl _, Nat.zero_le _, fun t ht => absurd ht (Nat.not_lt_zero t)⟩
theorem owns_ws {w : World} {B : Nat} {v : Value} {n : Nat} {zs : List Int} (h : w.ownsRow B 23 1 v n (wordsV zs)) : zs.length = n ∧ ∃ so cap, v = .slice so n cap ∧ Ws w so cap zs := by
  have hl : zs.length = n := by have := h.1; simpa using this
  refine ⟨hl, ?_⟩
  have hc := fun g hg => h.cells (g := g) hg
  rcases h.2 with ⟨rfl, rfl⟩ | ⟨g, cap, cur, rfl, _, hg, hn, hm, _⟩
  · obtain rfl := List.eq_nil_of_length_eq_zero hl
    exact ⟨none, 0, rfl, ws_nil w⟩
  · refine ⟨_, cap, rfl, by omega, hm, fun t ht => ⟨g, 0, rfl, ?_⟩⟩
    have h3 := hc g rfl t (.int .u32 zs[t]) (by simp [ht])
    rw [add_plain] at h3
    simpa using h3
theorem ws_lit {w : World} {b n : Nat} {zs : List Int} {T : TypeId} (h : w.heap[b]? = some (.cells (wordsV zs).toArray T (0, 0))) (hn : zs.length = n) (hl : n ≤ 1000) : Ws w (some ⟨b, 0, none⟩) n zs := by
  refine ⟨by omega, by unfold maxLen; omega, fun t ht => ⟨b, 0, rfl, ?_⟩⟩
  rw [Nat.zero_add, cell_of_lit h]
  simp [ht]
/-- What Words tells. -/
structure IsOut (pc : Int) (p : Pk) (er : Int) (zs : List Int) : Prop where
  bad : legalP p ≠ 0 → er = legalP p ∧ zs = []
  far : legalP p = 0 → sayAll pc p.insts = false → er = 6 ∧ zs = []
  ok : legalP p = 0 → sayAll pc p.insts = true → er = 0 ∧ IsWords pc p zs
theorem out_one {pc : Int} {p : Pk} {er fr : Int} {zs ys : List Int} (h : IsOut pc p er zs) (k : IsOut pc p fr ys) : er = fr ∧ zs = ys := by
  by_cases h0 : legalP p = 0
  · cases h1 : sayAll pc p.insts with
    | false =>
      obtain ⟨rfl, rfl⟩ := h.far h0 h1
      obtain ⟨rfl, rfl⟩ := k.far h0 h1
      exact ⟨rfl, rfl⟩
    | true =>
      obtain ⟨rfl, a⟩ := h.ok h0 h1
      obtain ⟨rfl, b⟩ := k.ok h0 h1
      exact ⟨rfl, words_one a b⟩
  · obtain ⟨rfl, rfl⟩ := h.bad h0
    obtain ⟨rfl, rfl⟩ := k.bad h0
    exact ⟨rfl, rfl⟩
def Worded (pc : Int) (p : Pk) (w : World) (e : Ending) (w' : World) : Prop :=
  ∃ so n cap er zs, e = .returned (.tuple #[.slice so n cap, .int .i64 er]) ∧ zs.length = n ∧ Ws w' so cap zs ∧ Made w w' ∧ IsOut pc p er zs
def Rowed (pc : Int) (l : List In) (w : World) (e : Ending) (w' : World) : Prop :=
  ∃ so n cap, e = .returned (.tuple #[.slice so n cap, .bool (orderB pc l)]) ∧ (orderL pc l).length = n ∧ Insts w' so cap (orderL pc l) ∧ Made w w'
theorem legal_len {p : Pk} (h : legalP p = 0) : p.insts.length ≤ 4 ∧ p.insts ≠ [] := by
  obtain ⟨f1, f2, -, -⟩ := (form_iff _).1 ((legal_iff p).1 h).rules.form
  exact ⟨f2, f1⟩
theorem order_legal {pc : Int} {p : Pk} (h : legalP p = 0) : orderB pc p.insts = sayAll pc p.insts := by
  unfold orderB
  rw [decide_eq_true (legal_len h).1, Bool.true_and]
end
section
set_option maxRecDepth 100000
open Go.ChangeShapes Go.WideShapes Go.ChangeAt Go.RowKit Go.Sort BigFrame

/-- A row of the call's own, in blocks from B on. -/
structure GotAt (W : World) (B : Nat) (v : Value) (l : List In) (w : World) : Prop where
  made : Made W w
  low : W.heap.size ≤ B
  row : w.ownsRow B 40 11 v l.length (flatI l)
  small : ∀ x ∈ l, x.small
theorem got_nil {W w : World} (h : Made W w) : GotAt W W.heap.size (.slice none 0 0) [] w := ⟨h, Nat.le_refl _, by refine ⟨by simp, .inl ⟨rfl, rfl⟩⟩, fun x hx => by simp at hx⟩
theorem GotAt.next {W w w' : World} {B : Nat} {v : Value} {l : List In} (h : GotAt W B v l w) (hm : Made w w') : GotAt W B v l w' := ⟨Made.trans h.made hm, h.low, owns_made h.row hm, h.small⟩
theorem GotAt.insts {W w : World} {B : Nat} {v : Value} {l : List In} (h : GotAt W B v l w) : ∃ so c, v = .slice so l.length c ∧ Insts w so c l := (owns_insts h.row h.small).2
theorem GotAt.grows {W w w1 : World} {B : Nat} {v v1 : Value} {l l2 : List In} {n : Nat} (h : GotAt W B v l w) (hs : ∀ x ∈ l2, x.small) (hn : l.length + l2.length = n) (own : w1.ownsRow B 40 11 v1 n (flatI l ++ flatI l2)) (gr : w.grownBy w1 v.ownBlock) : GotAt W B v1 (l ++ l2) w1 := by
  refine ⟨Below.grown h.made gr h.made.size (fun t ht => Nat.le_trans h.low (h.row.lt t ht).1), h.low, ?_, fun x hx => ?_⟩
  · rw [flatI_app, List.length_append, hn]
    exact own
  · rcases List.mem_append.1 hx with h1 | h1
    · exact h.small x h1
    · exact hs x h1
theorem made_empty {W w : World} (hm : Made W w) : Made W (w.alloc (.cells #[] 40)) := hm.alloc hm.size _
/-- The empty row that a copy begins with. -/
theorem empty_row {w : World} {B : Nat} (hB : B ≤ w.heap.size) : (w.alloc (.cells #[] 40)).ownsRow B 40 11 (.slice (some ⟨w.heap.size, 0, none⟩) 0 0) 0 [] :=
  World.ownsRow_made (e := 40) (size := 11) (base := B) w #[] 0 hB (Nat.zero_le _) rfl
theorem got_copy {W w w1 : World} {B : Nat} {v1 : Value} {l : List In} {n : Nat} (hm : Made W w) (hB : W.heap.size ≤ B) (hs : ∀ x ∈ l, x.small) (hn : l.length = n) (own : w1.ownsRow B 40 11 v1 (0 + n) ([] ++ flatI l))
    (gr : (w.alloc (.cells #[] 40)).grownBy w1 (Value.slice (some ⟨w.heap.size, 0, none⟩) 0 0).ownBlock) : GotAt W B v1 l w1 ∧ Made w w1 := by
  have m2 := (Made.refl w).alloc (Nat.le_refl _) (.cells #[] 40)
  have hmw : Made w w1 := Below.grown m2 gr m2.size (fun k hk => by
    have h2 : w.heap.size = k := by simpa [Value.ownBlock] using hk
    omega)
  rw [List.nil_append, Nat.zero_add, ← hn] at own
  exact ⟨⟨Made.trans hm hmw, hB, own, hs⟩, hmw⟩
/-- One instruction written out beside the call's own. -/
theorem one_lit (w : World) (x : In) (hx : x.small) : Insts (w.alloc (.cells (flatI [x]).toArray 40)) (some ⟨w.heap.size, 0, none⟩) 1 [x] :=
  insts_lit (l := [x]) (heap_alloc_new w _) rfl (by omega) fun y hy => by obtain rfl : y = x := (by simpa using hy); exact hx
/-- Instructions stand where their block does. -/
theorem insts_block {w w' : World} {ao : Option Addr} {cap : Nat} {l : List In} (h : Insts w ao cap l) (hb : ∀ b o, ao = some ⟨b, o, none⟩ → w'.heap[b]? = w.heap[b]?) : Insts w' ao cap l := by
  refine ⟨h.room, h.max, h.small, h.bare, fun t ht => ?_⟩
  obtain ⟨b, o, e, hc⟩ := h.cell t ht
  exact ⟨b, o, e, fun r hr => (World.cell?_of_block (hb b o e)).trans (hc r hr)⟩
/-- What stands behind one that is taken out, wherever the walk says that it begins. -/
theorem rest_at {u : World} {b o cap : Nat} {l : List In} (h : Insts u (some ⟨b, o, none⟩) cap l) {k : Nat} (hk : k < l.length) : ∃ A : Addr, (if cap = k + 1 then some (⟨b, o, none⟩ : Addr) else some ⟨b, o + (k + 1) * 11, none⟩) = some A ∧ ∀ v, Made u v → ∀ j y, (flatI (l.drop (k + 1)))[j]? = some y → v.cell? (A.add j) = some y := by
  have hr := h.room
  by_cases hc : cap = k + 1
  · refine ⟨_, if_pos hc, fun v _ j y hy => ?_⟩
    rw [List.drop_eq_nil_of_le (by omega)] at hy
    simp at hy
  · exact ⟨_, if_neg hc, fun v hv => insts_rest (insts_made h hv) k⟩
end
section
set_option maxRecDepth 100000
open Go.ChangeShapes Go.WideShapes Go.ChangeAt Go.RowKit Go.Sort BigFrame

theorem word_row : (Tryz.prog.info? 23).map (fun i => (i.zero, i.size, i.bytes)) = some (some (.int .u32 0), 1, 4) := by kernel_rfl
/-- A row of words of the call's own. -/
structure WordsAt (W : World) (v : Value) (zs : List Int) (w : World) : Prop where
  made : Made W w
  row : w.ownsRow W.heap.size 23 1 v zs.length (wordsV zs)
theorem words_nil {W w : World} (h : Made W w) : WordsAt W (.slice none 0 0) [] w := ⟨h, by refine ⟨by simp, .inl ⟨rfl, rfl⟩⟩⟩
theorem WordsAt.next {W w w' : World} {v : Value} {zs : List Int} (h : WordsAt W v zs w) (hm : Made w w') : WordsAt W v zs w' := ⟨Made.trans h.made hm, owns_made h.row hm⟩
theorem WordsAt.ws {W w : World} {v : Value} {zs : List Int} (h : WordsAt W v zs w) : ∃ so c, v = .slice so zs.length c ∧ Ws w so c zs := (owns_ws h.row).2
theorem WordsAt.grows {W w w1 : World} {v v1 : Value} {zs : List Int} {z : Int} (h : WordsAt W v zs w) (own : w1.ownsRow W.heap.size 23 1 v1 (zs.length + 1) (wordsV zs ++ wordsV [z])) (gr : w.grownBy w1 v.ownBlock) : WordsAt W v1 (zs ++ [z]) w1 := by
  refine ⟨Below.grown h.made gr h.made.size (fun t ht => (h.row.lt t ht).1), ?_⟩
  rw [List.length_append, List.length_singleton]
  simpa [wordsV] using own
theorem one_word (w : World) (z : Int) : ∀ ad, (some (⟨w.heap.size, 0, none⟩ : Addr)) = some ad → ∀ j u, (wordsV [z])[j]? = some u → (w.alloc (.cells (wordsV [z]).toArray 23)).cell? (ad.add j) = some u := fun ad had j u h => by
  obtain rfl := Option.some.inj had
  exact cells_of_lit (cs := wordsV [z]) (heap_alloc_new w (.cells (wordsV [z]).toArray 23)) j u h
theorem words_one_cell (zs : List Int) : ∀ u ∈ wordsV zs, u.oneCell' = true := by
  intro u hu
  obtain ⟨z, -, rfl⟩ := List.mem_map.1 hu
  rfl
/-! Parse bits, put one by one. -/
def endsTo (e0 e1 dup : Bool) (ws : List Int) (k : Nat) : List Int := ws.mapIdx fun t w => if t < k then putZ w 14 2 (parseAt e0 e1 dup ws.length t) else w
theorem endsTo_len (e0 e1 dup : Bool) (ws : List Int) (k : Nat) : (endsTo e0 e1 dup ws k).length = ws.length := by simp [endsTo]
theorem endsTo_none (e0 e1 dup : Bool) (ws : List Int) : endsTo e0 e1 dup ws 0 = ws := by
  refine List.ext_getElem (by simp [endsTo]) fun k h1 h2 => by simp [endsTo]
theorem endsTo_all (e0 e1 dup : Bool) (ws : List Int) : endsTo e0 e1 dup ws ws.length = endsL e0 e1 dup ws := by
  refine List.ext_getElem (by simp [endsTo, endsL]) fun k h1 h2 => ?_
  have h3 : k < ws.length := by simpa [endsL] using h2
  simp [endsTo, endsL, h3]
theorem endsTo_at (e0 e1 dup : Bool) (ws : List Int) {k : Nat} (h : k < ws.length) : (endsTo e0 e1 dup ws k)[k]'(by rw [endsTo_len]; exact h) = ws[k] := by simp [endsTo]
theorem endsTo_put (e0 e1 dup : Bool) (ws : List Int) {k : Nat} (h : k < ws.length) : endsTo e0 e1 dup ws (k + 1) = (endsTo e0 e1 dup ws k).set k (putZ ws[k] 14 2 (parseAt e0 e1 dup ws.length k)) := by
  refine List.ext_getElem (by simp [endsTo]) fun t h1 h2 => ?_
  have h3 : t < ws.length := by simpa [endsTo] using h1
  by_cases he : k = t
  · subst he
    simp [endsTo]
  · rw [List.getElem_set_ne he]
    simp only [endsTo, List.getElem_mapIdx]
    by_cases hl : t < k
    · rw [if_pos hl, if_pos (by omega)]
    · rw [if_neg hl, if_neg (by omega)]
theorem wordsV_set (zs : List Int) (k : Nat) (z : Int) : (wordsV zs).set k (.int .u32 z) = wordsV (zs.set k z) := by simp [wordsV, List.map_set]
theorem words_n {W w : World} {so : Option Addr} {n c : Nat} {zs : List Int} (h : WordsAt W (.slice so n c) zs w) : n = zs.length := by
  rcases h.row.2 with ⟨h1, h2⟩ | ⟨g, c2, cur, h1, -⟩
  · simp only [Value.slice.injEq] at h1
    omega
  · simp only [Value.slice.injEq] at h1
    exact h1.2.1
theorem words_row {W w : World} {so : Option Addr} {n c : Nat} {zs : List Int} (h : WordsAt W (.slice so n c) zs w) : w.ownsRow W.heap.size 23 1 (.slice so n c) n (wordsV zs) := by
  obtain rfl := words_n h
  exact h.row
theorem WordsAt.put {W w : World} {g n c : Nat} {zs : List Int} (h : WordsAt W (.slice (some ⟨g, 0, none⟩) n c) zs w) (k : Nat) (z : Int) : WordsAt W (.slice (some ⟨g, 0, none⟩) n c) (zs.set k z) (w.setCell ⟨g, k, none⟩ (.int .u32 z)) := by
  obtain rfl := words_n h
  have hg : W.heap.size ≤ g := (h.row.lt g rfl).1
  refine ⟨h.made.setCell (p := ⟨g, k, none⟩) hg _, ?_⟩
  have := (h.row.stored k (.int .u32 z)).1
  rw [wordsV_set] at this
  rw [List.length_set]
  exact this
theorem words_some {W w : World} {so : Option Addr} {n c : Nat} {zs : List Int} (h : WordsAt W (.slice so n c) zs w) (hn : 0 < zs.length) : ∃ g, so = some ⟨g, 0, none⟩ := by
  rcases h.row.2 with ⟨h1, h2⟩ | ⟨g, c2, cur, h1, -⟩
  · omega
  · simp only [Value.slice.injEq] at h1
    exact ⟨g, h1.1⟩
theorem words_cell {W w : World} {g n c : Nat} {zs : List Int} (h : WordsAt W (.slice (some ⟨g, 0, none⟩) n c) zs w) {k : Nat} (hk : k < zs.length) : w.cell? ⟨g, k, none⟩ = some (.int .u32 zs[k]) := by
  obtain rfl := words_n h
  have h1 := h.row.cellAt k (by omega)
  rw [h1]
  simp [hk]
/-! Which of the row are words of their own. -/
structure Kept (r : List In) (A B : Int) (kept : Nat → List In) : Prop where
  zero : kept 0 = []
  skip : ∀ k, k < r.length → ((k : Int) = A ∨ (k : Int) = B) → kept (k + 1) = kept k
  take : ∀ k (h : k < r.length), ¬ ((k : Int) = A ∨ (k : Int) = B) → kept (k + 1) = kept k ++ [r[k]]
theorem kept_plain (r : List In) : Kept r (-1) (-1) (fun k => r.take k) := ⟨by simp, fun k _ h => by omega, fun k h _ => List.take_succ_eq_append_getElem h⟩
theorem kept_pair (r : List In) {i j : Nat} (hij : i < j) : Kept r i j (fun k => restOf (r.take k) i j) :=
  ⟨rest_none r i j, fun k hk h => by rw [rest_next r hij hk _ rfl, if_pos (by omega)], fun k hk h => by rw [rest_next r hij hk _ rfl, if_neg (by omega)]⟩
theorem bareW_one (pc : Int) (l : List In) (x : In) : bareW pc (l ++ [x]) = bareW pc l ++ oneW pc x := by
  rw [bareW_app]
  simp [bareW]
theorem Kept.ways {r : List In} {A B : Int} {kept : Nat → List In} (h : Kept r A B kept) (k : Nat) (hk : k < r.length) : (((k : Int) == A) = true ∧ kept (k + 1) = kept k) ∨ (((k : Int) == A) = false ∧ ((k : Int) == B) = true ∧ kept (k + 1) = kept k) ∨ (((k : Int) == A) = false ∧ ((k : Int) == B) = false ∧ kept (k + 1) = kept k ++ [r[k]]) := by
  by_cases h1 : (k : Int) = A
  · exact .inl ⟨beq_iff_eq.2 h1, h.skip k hk (.inl h1)⟩
  · by_cases h2 : (k : Int) = B
    · exact .inr (.inl ⟨beq_eq_false_iff_ne.2 h1, beq_iff_eq.2 h2, h.skip k hk (.inr h2)⟩)
    · exact .inr (.inr ⟨beq_eq_false_iff_ne.2 h1, beq_eq_false_iff_ne.2 h2, h.take k hk (fun h => h.elim h1 h2)⟩)
theorem upP_u32 (x : In) (pc : Int) : isU32 (upP x pc) := by
  obtain ⟨h0, h1⟩ := upP_bounds x pc
  unfold isU32
  omega
theorem kept_len {r : List In} {A B : Int} {kept : Nat → List In} (h : Kept r A B kept) : ∀ k, k ≤ r.length → (kept k).length ≤ k
  | 0, _ => by rw [h.zero]; simp
  | k + 1, hk => by
    have ih := kept_len h k (by omega)
    by_cases hs : (k : Int) = A ∨ (k : Int) = B
    · rw [h.skip k (by omega) hs]; omega
    · rw [h.take k (by omega) hs, List.length_append, List.length_singleton]; omega
theorem oneW_len (pc : Int) (x : In) : (oneW pc x).length ≤ 2 := by
  unfold oneW
  split <;> simp
theorem bareW_le (pc : Int) : ∀ l : List In, (bareW pc l).length ≤ 2 * l.length
  | [] => by simp [bareW]
  | x :: l => by
    have e : bareW pc (x :: l) = oneW pc x ++ bareW pc l := rfl
    have h1 := oneW_len pc x
    have h2 := bareW_le pc l
    rw [e, List.length_append, List.length_cons]
    omega
/-! The parse bits that a word gets. -/
def endW (e0 e1 : Bool) (k : Nat) : Bool := (k == 0 && e0) || (k == 1 && e1)
theorem parse_last (e0 e1 dup : Bool) {n k : Nat} (h : k + 1 = n) : parseAt e0 e1 dup n k = if dup then 0 else 3 := if_pos h
theorem parse_two (e0 e1 dup : Bool) {n k : Nat} (h : ¬ k + 1 = n) (hb : endW e0 e1 k = true) : parseAt e0 e1 dup n k = 2 := (if_neg h).trans (if_pos hb)
theorem parse_one (e0 e1 dup : Bool) {n k : Nat} (h : ¬ k + 1 = n) (hb : endW e0 e1 k = false) : parseAt e0 e1 dup n k = 1 := (if_neg h).trans (if_neg (by unfold endW at hb; rw [hb]; simp))
theorem bit_ways (e0 e1 : Bool) (k : Nat) : (((k : Int) == 0) = true ∧ e0 = true ∧ endW e0 e1 k = true) ∨ (((k : Int) == 0) = true ∧ e0 = false ∧ ((k : Int) == 1) = false ∧ endW e0 e1 k = false) ∨ (((k : Int) == 0) = false ∧ ((k : Int) == 1) = true ∧ e1 = true ∧ endW e0 e1 k = true) ∨
    (((k : Int) == 0) = false ∧ ((k : Int) == 1) = true ∧ e1 = false ∧ endW e0 e1 k = false) ∨ (((k : Int) == 0) = false ∧ ((k : Int) == 1) = false ∧ endW e0 e1 k = false) := by
  unfold endW
  by_cases h0 : k = 0
  · subst h0
    cases e0
    · exact .inr (.inl ⟨rfl, rfl, rfl, by simp⟩)
    · exact .inl ⟨rfl, rfl, by simp⟩
  · have a0 : ((k : Int) == 0) = false := beq_eq_false_iff_ne.2 (by omega)
    by_cases h1 : k = 1
    · subst h1
      cases e1
      · exact .inr (.inr (.inr (.inl ⟨a0, rfl, rfl, by simp⟩)))
      · exact .inr (.inr (.inl ⟨a0, rfl, rfl, by simp⟩))
    · exact .inr (.inr (.inr (.inr ⟨a0, beq_eq_false_iff_ne.2 (by omega), by simp [h0, h1]⟩)))
end
section
set_option maxRecDepth 100000
open Go.ChangeShapes Go.WideShapes Go.ChangeAt Go.RowKit Go.Sort BigFrame

theorem drop_step {α : Type} [DecidableEq α] {zs ys : List α} {k : Nat} (h1 : k < zs.length) (h2 : k < ys.length) : decide (zs.drop k = ys.drop k) = (decide (zs[k] = ys[k]) && decide (zs.drop (k + 1) = ys.drop (k + 1))) := by
  rw [List.drop_eq_getElem_cons h1, List.drop_eq_getElem_cons h2]
  simp only [List.cons.injEq, Bool.decide_and]
theorem far_len {α : Type} [DecidableEq α] {zs ys : List α} (h : zs.length ≠ ys.length) : decide (zs = ys) = false := decide_eq_false fun e => h (by rw [e])
theorem made_drewP (w : World) (n : Nat) : Made w (w.drewN n) := below_drewN (Made.refl w) n
section
attribute [local irreducible] World.cell?
set_option maxRecDepth 100000 in
set_option maxHeartbeats 4000000 in
theorem psame_any (ao bo : Option Addr) (ca cb : Nat) (zs ys : List Int) (w : World) (h1 : Ws w ao ca zs) (h2 : Ws w bo cb ys) (hl : zs.length ≤ 1000) :
    Calls Tryz.prog 18 #[.slice ao zs.length ca, .slice bo ys.length cb] w fun e w' => e = .returned (.bool (decide (zs = ys))) ∧ Made w w' := by
  by_cases he : zs.length = ys.length
  · have hb : ((zs.length : Int) != (ys.length : Int)) = false := by rw [he]; simp
    have HE := Lib.hid he
    have H1 := Lib.hid h1
    have H2 := Lib.hid h2
    clear he h1 h2
    go_enter Tryz.func18, Tryz.ntmps18
    go_wp2_with (fail)
    go_loopw [5] (fun i wr => ∃ k nd : Nat, k ≤ zs.length ∧ i = .int .i64 k ∧ decide (zs.drop k = ys.drop k) = decide (zs = ys) ∧ wr = w.drewN nd) (fun i _ => zs.length - (intOf i).toNat)
    case atStart => exact ⟨0, 0, Nat.zero_le _, rfl, rfl, rfl⟩
    case round =>
      obtain ⟨k, nd, hk, rfl, hat, hwr⟩ := hrel
      have HW := Lib.hid hwr
      have hmw : Made w wr := hwr ▸ made_drewP w nd
      have HM := Lib.hid hmw
      clear hwr hmw
      by_cases hlt : k < zs.length
      · have hlt2 : k < ys.length := by have := HE.out; omega
        obtain ⟨a, o, rfl, hc⟩ := (H1.out.made HM.out).cell k hlt
        obtain ⟨b, q, rfl, hc2⟩ := (H2.out.made HM.out).cell k hlt2
        have hstep := drop_step hlt hlt2
        rewrite [hat] at hstep
        have HS := Lib.hid hstep
        generalize zs[k] = z at *
        generalize ys[k] = y at *
        clear hstep hat
        go_upto_region 6 with (fail)
        go_quiet (fail)
        rename_i nq
        by_cases hz : z = y
        · subst hz
          go_wp2
          go_roundw
          case rel => exact ⟨k + 1, nd + nq, by omega, by go_num, by rw [HS.out]; simp, by rw [HW.out]; simp only [World.drewN_drewN]⟩
          case measure => simp [intOf]; omega
        · have hzb : (z == y) = false := beq_eq_false_iff_ne.2 hz
          have hzb2 : (z != y) = true := bne_iff_ne.2 hz
          have HZ := Lib.hid hz
          clear hz
          go_wp2
          go_ret
          exact ⟨ret_bool (by rw [HS.out, decide_eq_false HZ.out]; rfl), below_drewN HM.out _⟩
      · obtain rfl : k = zs.length := by omega
        have HX := Lib.hid (show decide (zs = ys) = true by rw [← hat, List.drop_length, HE.out, List.drop_length]; rfl)
        clear hat
        go_wp2
        go_ret
        exact ⟨ret_bool HX.out.symm, HM.out⟩
  · have hb : ((zs.length : Int) != (ys.length : Int)) = true := bne_iff_ne.2 (by omega)
    have HX := Lib.hid (far_len he)
    clear he
    go_enter Tryz.func18, Tryz.ntmps18
    go_wp2
    go_ret
    exact ⟨ret_bool HX.out.symm, Made.refl w⟩
set_option maxRecDepth 100000 in
set_option maxHeartbeats 8000000 in
theorem pinsts_any (ao bo : Option Addr) (ca cb : Nat) (zs ys : List In) (w : World) (h1 : Insts w ao ca zs) (h2 : Insts w bo cb ys) (hl : zs.length ≤ 1000) :
    Calls Tryz.prog 22 #[.slice ao zs.length ca, .slice bo ys.length cb] w fun e w' => e = .returned (.bool (decide (zs = ys))) ∧ Made w w' := by
  by_cases he : zs.length = ys.length
  · have hb : ((zs.length : Int) != (ys.length : Int)) = false := by rw [he]; simp
    have HE := Lib.hid he
    have H1 := Lib.hid h1
    have H2 := Lib.hid h2
    clear he h1 h2
    go_enter Tryz.func22, Tryz.ntmps22
    go_wp2_with (fail)
    go_loopw [5] (fun i wr => ∃ k nd : Nat, k ≤ zs.length ∧ i = .int .i64 k ∧ decide (zs.drop k = ys.drop k) = decide (zs = ys) ∧ wr = w.drewN nd) (fun i _ => zs.length - (intOf i).toNat)
    case atStart => exact ⟨0, 0, Nat.zero_le _, rfl, rfl, rfl⟩
    case round =>
      obtain ⟨k, nd, hk, rfl, hat, hwr⟩ := hrel
      have HW := Lib.hid hwr
      have hmw : Made w wr := hwr ▸ made_drewP w nd
      have HM := Lib.hid hmw
      clear hwr hmw
      by_cases hlt : k < zs.length
      · have hlt2 : k < ys.length := by have := HE.out; omega
        obtain ⟨x, hx⟩ : ∃ x, zs[k] = x := ⟨_, rfl⟩
        obtain ⟨y, hy⟩ : ∃ y, ys[k] = y := ⟨_, rfl⟩
        obtain ⟨b, o, rfl, c0, c1, c2, c3, c4, c5, c6, c7, c8, c9, c10⟩ := insts_cells (insts_made H1.out HM.out) hlt x hx
        obtain ⟨b2, o2, rfl, d0, d1, d2, d3, d4, d5, d6, d7, d8, d9, d10⟩ := insts_cells (insts_made H2.out HM.out) hlt2 y hy
        have hstep := drop_step hlt hlt2
        rewrite [hat, hx, hy] at hstep
        have HS := Lib.hid hstep
        clear hstep hat hx hy
        by_cases hz : x = y
        · subst hz
          have hop := run_neq_same x
          go_upto_region 6 with (fail)
          go_quiet (fail)
          rename_i nq
          go_wp2
          go_roundw
          case rel => exact ⟨k + 1, nd + nq, by omega, by go_num, by rw [HS.out]; simp, by rw [HW.out]; simp only [World.drewN_drewN]⟩
          case measure => simp [intOf]; omega
        · have hop := fun w => (run_in_neql x y w).trans (by rw [decide_eq_false hz, Bool.not_false])
          have HZ := Lib.hid hz
          clear hz
          go_upto_region 6 with (fail)
          go_quiet (fail)
          go_wp2
          go_ret
          exact ⟨ret_bool (by rw [HS.out, decide_eq_false HZ.out]; rfl), below_drewN HM.out _⟩
      · obtain rfl : k = zs.length := by omega
        have HX := Lib.hid (show decide (zs = ys) = true by rw [← hat, List.drop_length, HE.out, List.drop_length]; rfl)
        clear hat
        go_wp2
        go_ret
        exact ⟨ret_bool HX.out.symm, HM.out⟩
  · have hb : ((zs.length : Int) != (ys.length : Int)) = true := bne_iff_ne.2 (by omega)
    have HX := Lib.hid (far_len he)
    clear he
    go_enter Tryz.func22, Tryz.ntmps22
    go_wp2
    go_ret
    exact ⟨ret_bool HX.out.symm, Made.refl w⟩
end
end
end Go.Proofs.YtanjmoiepmadhaaGreatDoor
