/- How package pack tells two of a row apart, as plain data: the order of its keys is the document's; keyed instructions in memory; no condition but those named. -/
import Derived.Test.YtdghnlbfmaehoaaGreatDoorSortFunc
import Derived.Test.YtdghnlbfmaehoaaGreatDoorPackKey
import Derived.Test.YtdghnlbfmaehoaaGreatDoorGPack
namespace Go.Proofs.YtdghnlbfmaehoaaGreatDoor
open Go.ChangeShapes Go.WideShapes Go.ChangeAt Go.RowKit Go.Sort BigFrame

def cmpE (a b : Ent) : Int := cmpK a.rank a.word a.upper a.ext b.rank b.word b.upper b.ext
def bZ (b : Bool) : Int := if b then 1 else 0
theorem cmp_neg (a b : Ent) : cmpE a b < 0 ↔ a.rank < b.rank ∨ (a.rank = b.rank ∧ (a.word < b.word ∨ (a.word = b.word ∧ (a.upper < b.upper ∨ (a.upper = b.upper ∧ bZ a.ext < bZ b.ext))))) := by
  unfold cmpE cmpK keysB orZ
  rcases sgn_ways a.rank b.rank with ⟨h1, s1⟩ | ⟨h1, s1⟩ | ⟨h1, s1⟩
  · rw [s1, decide_eq_false (show ¬ a.rank = b.rank by omega)]
    simp only [Bool.false_and, Bool.false_eq_true, if_false]
    simp [h1]
  · rw [s1, decide_eq_false (show ¬ a.rank = b.rank by omega)]
    simp only [Bool.false_and, Bool.false_eq_true, if_false]
    simp
    omega
  · rw [s1, decide_eq_true h1]
    rcases sgn_ways a.word b.word with ⟨h2, s2⟩ | ⟨h2, s2⟩ | ⟨h2, s2⟩
    · rw [s2, decide_eq_false (show ¬ a.word = b.word by omega)]
      simp only [Bool.false_and, Bool.and_false, Bool.false_eq_true, if_false]
      simp [h1, h2]
    · rw [s2, decide_eq_false (show ¬ a.word = b.word by omega)]
      simp only [Bool.false_and, Bool.and_false, Bool.false_eq_true, if_false]
      simp
      omega
    · rw [s2, decide_eq_true h2]
      rcases sgn_ways a.upper b.upper with ⟨h3, s3⟩ | ⟨h3, s3⟩ | ⟨h3, s3⟩
      · rw [s3, decide_eq_false (show ¬ a.upper = b.upper by omega)]
        simp only [Bool.false_and, Bool.and_false, Bool.false_eq_true, if_false]
        simp [h1, h2, h3]
      · rw [s3, decide_eq_false (show ¬ a.upper = b.upper by omega)]
        simp only [Bool.false_and, Bool.and_false, Bool.false_eq_true, if_false]
        simp
        omega
      · rw [s3, decide_eq_true h3, h1, h2, h3]
        unfold bZ
        cases a.ext <;> cases b.ext <;> simp
theorem le_cmp (a b : Ent) : leZ cmpE a b = true ↔ a.rank < b.rank ∨ (a.rank = b.rank ∧ (a.word < b.word ∨ (a.word = b.word ∧ (a.upper < b.upper ∨ (a.upper = b.upper ∧ bZ a.ext ≤ bZ b.ext))))) := by
  unfold leZ
  rw [Bool.not_eq_true', decide_eq_false_iff_not, cmp_neg]
  omega
theorem cmp_trans (a b c : Ent) (h1 : leZ cmpE a b = true) (h2 : leZ cmpE b c = true) : leZ cmpE a c = true := by
  rw [le_cmp] at *
  omega
theorem cmp_anti (a b : Ent) (h : cmpE a b < 0) : leZ cmpE a b = true := by
  rw [cmp_neg] at h
  rw [le_cmp]
  omega
/-- An instruction with its key at an address. -/
def entP (pc : Int) (x : In) : Ent := ⟨x, rankZ x.op, wordP x pc, upP x pc, x.ext⟩
theorem le_ent (pc : Int) (a b : In) : leZ cmpE (entP pc a) (entP pc b) = leB pc a b := by
  rw [Bool.eq_iff_iff, le_cmp, le_iff]
  exact Iff.rfl
theorem map_ent (pc : Int) (l : List In) : (l.map (entP pc)).map Ent.x = l := by
  rw [List.map_map]
  exact (List.map_congr_left (g := id) fun x _ => rfl).trans (List.map_id l)
/-- Whatever is sorted by the keys is the row. -/
theorem sorted_row {pc : Int} {l : List In} (hs : Said pc l) {r : List Ent} (hp : r.Perm (l.map (entP pc))) (h : r.Pairwise (fun a b => leZ cmpE a b = true)) : r = (rowP pc l).map (entP pc) := by
  have hk : ∀ e ∈ r, entP pc e.x = e := fun e he => by
    obtain ⟨x, _, rfl⟩ := List.mem_map.1 (hp.mem_iff.1 he)
    rfl
  have e1 : r = (r.map Ent.x).map (entP pc) := by
    rw [List.map_map]
    exact ((List.map_congr_left (g := id) fun e he => hk e he).trans (List.map_id r)).symm
  have hp2 : (r.map Ent.x).Perm l := by
    have := hp.map Ent.x
    rwa [map_ent] at this
  have hs2 : (r.map Ent.x).Pairwise (fun a b => leB pc a b = true) := by
    rw [e1, List.pairwise_map] at h
    exact h.imp fun hab => by rw [← le_ent]; exact hab
  rw [e1, row_one hs hp2 hs2]
/-! Keyed instructions in memory. -/
structure Ents (w : World) (ao : Option Addr) (cap : Nat) (l : List Ent) : Prop where
  room : l.length ≤ cap
  max : cap ≤ maxLen
  bare : ao = none → l = [] ∧ cap = 0
  cell : ∀ t (h : t < l.length), ∃ b o, ao = some ⟨b, o, none⟩ ∧ ∀ r, r < 15 → w.cell? ⟨b, o + t * 15 + r, none⟩ = (l[t].cells)[r]?
theorem ents_made {w w' : World} {ao : Option Addr} {cap : Nat} {l : List Ent} (h : Ents w ao cap l) (hm : Made w w') : Ents w' ao cap l :=
  ⟨h.room, h.max, h.bare, fun t ht => by
    obtain ⟨b, o, e, hcell⟩ := h.cell t ht
    refine ⟨b, o, e, fun r hr => ?_⟩
    have h1 := hcell r hr
    have h2 : r < (l[t].cells).length := hr
    rw [List.getElem?_eq_getElem h2] at h1 ⊢
    exact (World.cell?_of_block (hm.block b (World.block_lt_of_cell? w _ h1))).trans h1⟩
theorem ents_cells {w : World} {ao : Option Addr} {cap : Nat} {l : List Ent} (h : Ents w ao cap l) {t : Nat} (ht : t < l.length) (e : Ent) (he : l[t] = e) : ∃ b o, ao = some ⟨b, o, none⟩ ∧
    w.cell? ⟨b, o + t * 15, none⟩ = some (.int .u8 e.x.op) ∧ w.cell? ⟨b, o + t * 15 + 1, none⟩ = some (.int .u8 e.x.d) ∧ w.cell? ⟨b, o + t * 15 + 2, none⟩ = some (.int .u8 e.x.s) ∧ w.cell? ⟨b, o + t * 15 + 3, none⟩ = some (.int .u8 e.x.t) ∧
    w.cell? ⟨b, o + t * 15 + 4, none⟩ = some (.int .u8 e.x.n) ∧ w.cell? ⟨b, o + t * 15 + 5, none⟩ = some (.int .u8 e.x.pred) ∧ w.cell? ⟨b, o + t * 15 + 6, none⟩ = some (.int .u8 e.x.mode) ∧ w.cell? ⟨b, o + t * 15 + 7, none⟩ = some (.bool e.x.new) ∧
    w.cell? ⟨b, o + t * 15 + 8, none⟩ = some (.bool e.x.ext) ∧ w.cell? ⟨b, o + t * 15 + 9, none⟩ = some (.int .u16 e.x.count) ∧ w.cell? ⟨b, o + t * 15 + 10, none⟩ = some (.int .i64 e.x.imm) ∧
    w.cell? ⟨b, o + t * 15 + 11, none⟩ = some (.int .i64 e.rank) ∧ w.cell? ⟨b, o + t * 15 + 12, none⟩ = some (.int .u32 e.word) ∧ w.cell? ⟨b, o + t * 15 + 13, none⟩ = some (.int .u32 e.upper) ∧ w.cell? ⟨b, o + t * 15 + 14, none⟩ = some (.bool e.ext) := by
  subst he
  obtain ⟨b, o, e, hc⟩ := h.cell t ht
  exact ⟨b, o, e, hc 0 (by omega), hc 1 (by omega), hc 2 (by omega), hc 3 (by omega), hc 4 (by omega), hc 5 (by omega), hc 6 (by omega), hc 7 (by omega), hc 8 (by omega), hc 9 (by omega), hc 10 (by omega), hc 11 (by omega), hc 12 (by omega), hc 13 (by omega), hc 14 (by omega)⟩
theorem owns_ents {w : World} {B : Nat} {v : Value} {n : Nat} {l : List Ent} (h : w.ownsRow B 69 15 v n (flatE l)) : l.length = n ∧ ∃ so cap, v = .slice so n cap ∧ Ents w so cap l := by
  have hl : l.length = n := by have := h.1; rw [flatE_len] at this; omega
  refine ⟨hl, ?_⟩
  rcases h.2 with ⟨rfl, rfl⟩ | ⟨g, cap, cur, rfl, _, hg, hn, hm, _⟩
  · obtain rfl := List.eq_nil_of_length_eq_zero hl
    exact ⟨none, 0, rfl, Nat.le_refl _, Nat.zero_le _, fun _ => ⟨rfl, rfl⟩, fun t ht => absurd ht (Nat.not_lt_zero t)⟩
  · refine ⟨_, cap, rfl, by omega, hm, fun h => by simp at h, fun t ht => ⟨g, 0, rfl, fun r hr => ?_⟩⟩
    rw [Nat.zero_add]
    exact (h.cellAt (t * 15 + r) (by omega)).trans (flatE_at l t r ht hr)
theorem cell_oneE (e : Ent) : ∀ u ∈ e.cells, u.oneCell' = true := by
  intro u hu
  simp only [Ent.cells, List.mem_cons, List.not_mem_nil, or_false] at hu
  rcases hu with rfl | rfl | rfl | rfl | rfl | rfl | rfl | rfl | rfl | rfl | rfl | rfl | rfl | rfl | rfl <;> rfl
theorem flatE_one (l : List Ent) : ∀ u ∈ flatE l, u.oneCell' = true := by
  intro u hu
  obtain ⟨x, _, h⟩ := List.mem_flatMap.1 hu
  exact cell_oneE x u h
theorem flatE_app (a b : List Ent) : flatE (a ++ b) = flatE a ++ flatE b := List.flatMap_append
abbrev zeroE : Ent := ⟨inZero, 0, 0, 0, false⟩
theorem ent_row : (Tryz.prog.info? 69).map (fun i => (i.zero, i.size, i.bytes)) = some (some (Ent.val zeroE), 15, 48) := by kernel_rfl
theorem made_flat {cs : List Value} {n s : Nat} (hs : cs.length = s) (F : List Value) (hF : F.length = n * s) (hat : ∀ t r, t < n → r < s → F[t * s + r]? = cs[r]?) : (madeCells cs.toArray (n * s)).toList = F := by
  refine List.ext_getElem (by rw [Array.length_toList, size_madeCells, hF]) fun j h1 h2 => ?_
  have hj : j < n * s := by rw [← hF]; exact h2
  have hs0 : 0 < s := by
    rcases Nat.eq_zero_or_pos s with h | h
    · subst h; simp at hj
    · exact h
  have hr : j % s < s := Nat.mod_lt _ hs0
  have e := hat (j / s) (j % s) (Nat.div_lt_of_lt_mul (by rwa [Nat.mul_comm] at hj)) hr
  rw [Nat.div_add_mod' j s, List.getElem?_eq_getElem h2, List.getElem?_eq_getElem (by omega)] at e
  rw [Option.some.inj e]
  simp [madeCells, hs, hr]
theorem made_ents (n : Nat) : (madeCells (Ent.val zeroE).cells (n * 15)).toList = flatE (List.replicate n zeroE) :=
  made_flat (cs := zeroE.cells) (s := 15) rfl _ (by rw [flatE_len, List.length_replicate]) fun t r ht hr => by
    rw [flatE_at _ t r (by simpa using ht) hr, List.getElem_replicate]
theorem made_insts (n : Nat) : (madeCells (In.val inZero).cells (n * 11)).toList = flatI (List.replicate n inZero) :=
  made_flat (cs := inZero.cells) (s := 11) rfl _ (by rw [flatI_len, List.length_replicate]) fun t r ht hr => by
    rw [flatI_at _ t r (by simpa using ht) hr, List.getElem_replicate]
/-- What lies in memory, as the cells that an append asks for. -/
theorem ents_olds {w : World} {ao : Option Addr} {cap : Nat} {l : List Ent} (h : Ents w ao cap l) : ∀ ad, ao = some ad → ∀ j u, (flatE l)[j]? = some u → w.cell? (ad.add j) = some u := by
  intro ad had j u hu
  have hj : j < l.length * 15 := by
    have := (List.getElem?_eq_some_iff.1 hu).1
    rwa [flatE_len] at this
  obtain ⟨b, o, e, hc⟩ := h.cell (j / 15) (by omega)
  rw [had] at e
  obtain rfl := Option.some.inj e
  rw [add_plain, show o + j = o + j / 15 * 15 + j % 15 by omega, hc (j % 15) (by omega), ← flatE_at l (j / 15) (j % 15) (by omega) (by omega), show j / 15 * 15 + j % 15 = j by omega]
  exact hu
/-- A part of keyed instructions in memory. -/
theorem ents_part {w : World} {b o cap : Nat} {l : List Ent} (h : Ents w (some ⟨b, o, none⟩) cap l) {p q : Nat} (hpq : p ≤ q) (hq : q ≤ l.length) : Ents w (some ⟨b, o + p * 15, none⟩) (cap - p) ((l.take q).drop p) := by
  have hr := h.room
  refine ⟨by rw [List.length_drop, List.length_take]; omega, Nat.le_trans (Nat.sub_le _ _) h.max, fun h => by simp at h, fun t ht => ?_⟩
  rw [List.length_drop, List.length_take] at ht
  obtain ⟨b', o', e, hc⟩ := h.cell (p + t) (by omega)
  obtain ⟨rfl, rfl⟩ : b = b' ∧ o = o' := by simpa using e
  refine ⟨b, _, rfl, fun r hr => ?_⟩
  rw [show o + p * 15 + t * 15 + r = o + (p + t) * 15 + r by omega, hc r hr, List.getElem_drop, List.getElem_take]
/-! The words of a row, without their parse bits. -/
def oneE (e : Ent) : List Int := if e.ext then [wordZ 0 e.upper 0, e.word] else [e.word]
def bareE (l : List Ent) : List Int := l.flatMap oneE
theorem bareE_ent (pc : Int) (l : List In) : bareE (l.map (entP pc)) = bareW pc l := by
  unfold bareE bareW
  rw [List.flatMap_map]
  rfl
theorem bareE_next (l : List Ent) {k : Nat} (h : k < l.length) (e : Ent) (he : l[k] = e) : bareE (l.take (k + 1)) = bareE (l.take k) ++ oneE e := by
  unfold bareE
  rw [List.take_succ_eq_append_getElem h, List.flatMap_append, he]
  simp
theorem bareE_le : ∀ l : List Ent, (bareE l).length ≤ 2 * l.length
  | [] => by simp [bareE]
  | x :: l => by
    have e : bareE (x :: l) = oneE x ++ bareE l := rfl
    have h2 := bareE_le l
    have h1 : (oneE x).length ≤ 2 := by unfold oneE; split <;> simp
    rw [e, List.length_append, List.length_cons]
    omega
end Go.Proofs.YtdghnlbfmaehoaaGreatDoor
