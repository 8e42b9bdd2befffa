/- RulesRow of the laws of rules returns true, for every packet and any turns, in every world that holds the table of names. -/
import Derived.Test.YtdaildmoodfocaaDoorRulesLaws2
import Derived.Test.YtdaildmoodfocaaDoorNums
import Derived.BigRegion
namespace Go.Proofs.YtdaildmoodfocaaDoor
open Go.ChangeShapes Go.WideShapes Go.ChangeAt Go.RowKit Go.Sort BigFrame

/-- An instruction stored cell by cell. -/
abbrev put11 (w : World) (g o : Nat) (x : In) : World :=
  ((((((((((w.setCell ⟨g, o, none⟩ (.int .u8 x.op)).setCell ⟨g, o + 1, none⟩ (.int .u8 x.d)).setCell ⟨g, o + 2, none⟩ (.int .u8 x.s)).setCell ⟨g, o + 3, none⟩ (.int .u8 x.t)).setCell ⟨g, o + 4, none⟩ (.int .u8 x.n)).setCell ⟨g, o + 5, none⟩ (.int .u8 x.pred)).setCell
    ⟨g, o + 6, none⟩ (.int .u8 x.mode)).setCell ⟨g, o + 7, none⟩ (.bool x.new)).setCell ⟨g, o + 8, none⟩ (.bool x.ext)).setCell ⟨g, o + 9, none⟩ (.int .u16 x.count)).setCell ⟨g, o + 10, none⟩ (.int .i64 x.imm)
theorem flat_set : ∀ (l : List In) (t : Nat) (_ : t < l.length) (x : In),
    (((((((((((flatI l).set (t * 11) (.int .u8 x.op)).set (t * 11 + 1) (.int .u8 x.d)).set (t * 11 + 2) (.int .u8 x.s)).set (t * 11 + 3) (.int .u8 x.t)).set (t * 11 + 4) (.int .u8 x.n)).set (t * 11 + 5) (.int .u8 x.pred)).set
      (t * 11 + 6) (.int .u8 x.mode)).set (t * 11 + 7) (.bool x.new)).set (t * 11 + 8) (.bool x.ext)).set (t * 11 + 9) (.int .u16 x.count)).set (t * 11 + 10) (.int .i64 x.imm) = flatI (l.set t x)
  | y :: l, 0, _, x => by simp [flatI, In.cells]
  | y :: l, t + 1, h, x => by
    have ih := flat_set l t (by simpa using h) x
    have hc : ∀ (L : List Value) (j : Nat) (v : Value), (y.cells ++ L).set ((t + 1) * 11 + j) v = y.cells ++ L.set (t * 11 + j) v := fun L j v => by
      have hl : y.cells.length = 11 := rfl
      rw [List.set_append_right _ _ (by omega), hl, show (t + 1) * 11 + j - 11 = t * 11 + j by omega]
    have hc0 : ∀ (L : List Value) (v : Value), (y.cells ++ L).set ((t + 1) * 11) v = y.cells ++ L.set (t * 11) v := fun L v => hc L 0 v
    have e : flatI (y :: l) = y.cells ++ flatI l := rfl
    have e2 : flatI ((y :: l).set (t + 1) x) = y.cells ++ flatI (l.set t x) := rfl
    rw [e, e2, hc0, hc, hc, hc, hc, hc, hc, hc, hc, hc, hc, ih]
theorem row_put {w : World} {B g n cap : Nat} {l : List In} (h : w.ownsRow B 24 11 (.slice (some ⟨g, 0, none⟩) n cap) n (flatI l)) {t : Nat} (ht : t < l.length) (x : In) :
    (put11 w g (t * 11) x).ownsRow B 24 11 (.slice (some ⟨g, 0, none⟩) n cap) n (flatI (l.set t x)) := by
  rw [← flat_set l t ht x]
  exact ((((((((((((h.stored _ _).1.stored _ _).1.stored _ _).1.stored _ _).1.stored _ _).1.stored _ _).1.stored _ _).1.stored _ _).1.stored _ _).1.stored _ _).1.stored _ _).1)
theorem put_far {w : World} {g o k : Nat} (x : In) (h : k ≠ g) : (put11 w g o x).heap[k]? = w.heap[k]? := by
  unfold put11
  rw [heap_setCell_other _ _ _ _ h, heap_setCell_other _ _ _ _ h, heap_setCell_other _ _ _ _ h, heap_setCell_other _ _ _ _ h, heap_setCell_other _ _ _ _ h, heap_setCell_other _ _ _ _ h, heap_setCell_other _ _ _ _ h, heap_setCell_other _ _ _ _ h, heap_setCell_other _ _ _ _ h, heap_setCell_other _ _ _ _ h, heap_setCell_other _ _ _ _ h]
theorem put_made {W w : World} {g o : Nat} (hm : Made W w) (hg : W.heap.size ≤ g) (x : In) : Made W (put11 w g o x) :=
  ((((((((((Below.setCell (Below.setCell hm (p := ⟨g, o, none⟩) hg _) (p := ⟨g, o + 1, none⟩) hg _).setCell (p := ⟨g, o + 2, none⟩) hg _).setCell (p := ⟨g, o + 3, none⟩) hg _).setCell (p := ⟨g, o + 4, none⟩) hg _).setCell (p := ⟨g, o + 5, none⟩) hg _).setCell
    (p := ⟨g, o + 6, none⟩) hg _).setCell (p := ⟨g, o + 7, none⟩) hg _).setCell (p := ⟨g, o + 8, none⟩) hg _).setCell (p := ⟨g, o + 9, none⟩) hg _).setCell (p := ⟨g, o + 10, none⟩) hg _)
theorem rowI_cells {w : World} {B g n cap : Nat} {l : List In} (h : w.ownsRow B 24 11 (.slice (some ⟨g, 0, none⟩) n cap) n (flatI l)) {t : Nat} (ht : t < l.length) (x : In) (hx : l[t] = x) :
    w.cell? ⟨g, t * 11, none⟩ = some (.int .u8 x.op) ∧ w.cell? ⟨g, t * 11 + 1, none⟩ = some (.int .u8 x.d) ∧ w.cell? ⟨g, t * 11 + 2, none⟩ = some (.int .u8 x.s) ∧ w.cell? ⟨g, t * 11 + 3, none⟩ = some (.int .u8 x.t) ∧
    w.cell? ⟨g, t * 11 + 4, none⟩ = some (.int .u8 x.n) ∧ w.cell? ⟨g, t * 11 + 5, none⟩ = some (.int .u8 x.pred) ∧ w.cell? ⟨g, t * 11 + 6, none⟩ = some (.int .u8 x.mode) ∧ w.cell? ⟨g, t * 11 + 7, none⟩ = some (.bool x.new) ∧
    w.cell? ⟨g, t * 11 + 8, none⟩ = some (.bool x.ext) ∧ w.cell? ⟨g, t * 11 + 9, none⟩ = some (.int .u16 x.count) ∧ w.cell? ⟨g, t * 11 + 10, none⟩ = some (.int .i64 x.imm) := by
  subst hx
  have hl : l.length * 11 = n * 11 := by have := h.1; rw [flatI_len] at this; omega
  have key : ∀ r, r < 11 → w.cell? ⟨g, t * 11 + r, none⟩ = (l[t].cells)[r]? := fun r hr => (h.cellAt (t * 11 + r) (by omega)).trans (flatI_at l t r ht hr)
  exact ⟨key 0 (by omega), key 1 (by omega), key 2 (by omega), key 3 (by omega), key 4 (by omega), key 5 (by omega), key 6 (by omega), key 7 (by omega), key 8 (by omega), key 9 (by omega), key 10 (by omega)⟩
/-- The packet's variable, the other packet's, and its row. -/
structure RowAt (W : World) (B Q : Nat) (cs : List Value) (so : Option Addr) (n cq : Nat) (e0 e1 raw dup : Bool) (l : List In) (w : World) : Prop where
  made : Made W w
  low : W.heap.size ≤ B
  lt : B < Q
  pk : w.heap[B]? = some (.cells cs.toArray 27 (0, 0))
  qk : w.heap[Q]? = some (.cells (pkL so n cq e0 e1 raw dup).toArray 27 (0, 0))
  row : w.ownsRow (Q + 1) 24 11 (.slice so n cq) n (flatI l)
  small : ∀ x ∈ l, x.small
theorem RowAt.next {W w w' : World} {B Q : Nat} {cs : List Value} {so : Option Addr} {n cq : Nat} {e0 e1 raw dup : Bool} {l : List In} (h : RowAt W B Q cs so n cq e0 e1 raw dup l w) (hm : Made w w') : RowAt W B Q cs so n cq e0 e1 raw dup l w' :=
  ⟨Made.trans h.made hm, h.low, h.lt, hm.heap h.pk, hm.heap h.qk, owns_made h.row hm, h.small⟩
theorem RowAt.drew {W w : World} {B Q : Nat} {cs : List Value} {so : Option Addr} {n cq : Nat} {e0 e1 raw dup : Bool} {l : List In} (h : RowAt W B Q cs so n cq e0 e1 raw dup l w) : RowAt W B Q cs so n cq e0 e1 raw dup l w.drew :=
  ⟨made_drew h.made, h.low, h.lt, h.pk, h.qk, h.row.drew, h.small⟩
theorem RowAt.put {W w : World} {B Q g : Nat} {cs : List Value} {n cq : Nat} {e0 e1 raw dup : Bool} {l : List In} (h : RowAt W B Q cs (some ⟨g, 0, none⟩) n cq e0 e1 raw dup l w) {i : Nat} (hi : i < l.length) (y : In) (hy : y.small) :
    RowAt W B Q cs (some ⟨g, 0, none⟩) n cq e0 e1 raw dup (l.set i y) (put11 w g (i * 11) y) := by
  have hg : Q + 1 ≤ g := (h.row.lt g rfl).1
  have hlow := h.low
  have hlt := h.lt
  refine ⟨put_made h.made (show W.heap.size ≤ g by omega) y, hlow, hlt, (put_far y (show B ≠ g by omega)).trans h.pk, (put_far y (show Q ≠ g by omega)).trans h.qk, row_put h.row hi y, ?_⟩
  intro z hz
  rcases List.mem_or_eq_of_mem_set hz with hz2 | rfl
  · exact h.small z hz2
  · exact hy
theorem RowAt.swap {W w : World} {B Q g : Nat} {cs : List Value} {n cq : Nat} {e0 e1 raw dup : Bool} {l : List In} (h : RowAt W B Q cs (some ⟨g, 0, none⟩) n cq e0 e1 raw dup l w) {i j : Nat} (hi : i < l.length) (hj : j < l.length) (x y : In) (hx : l[i] = x) (hy : l[j] = y) :
    RowAt W B Q cs (some ⟨g, 0, none⟩) n cq e0 e1 raw dup ((l.set i y).set j x) (put11 (put11 w g (i * 11) y) g (j * 11) x).drew :=
  ((h.put hi y (h.small _ (hy ▸ List.getElem_mem hj))).put (i := j) (by simpa using hj) x (h.small _ (hx ▸ List.getElem_mem hi))).drew
theorem row_some {w : World} {B n c : Nat} {so : Option Addr} {xs : List Value} (h : w.ownsRow B 24 11 (.slice so n c) n xs) (hn : 0 < n) : ∃ g, so = some ⟨g, 0, none⟩ ∧ n ≤ c := by
  rcases h.2 with ⟨h1, h2⟩ | ⟨g, c2, cur, h1, _, hg, hc, hm, _⟩
  · omega
  · simp only [Value.slice.injEq] at h1
    obtain ⟨rfl, -, rfl⟩ := h1
    exact ⟨g, rfl, hc⟩
/-- The packet's variable and the other packet's. -/
structure PkTwo (W : World) (B : Nat) (cs : List Value) (w : World) : Prop where
  made : Made W w
  low : W.heap.size ≤ B
  pk : w.heap[B]? = some (.cells cs.toArray 27 (0, 0))
  qk : w.heap[B + 1]? = some (.cells cs.toArray 27 (0, 0))
theorem PkTwo.next {W w w' : World} {B : Nat} {cs : List Value} (h : PkTwo W B cs w) (hm : Made w w') : PkTwo W B cs w' := ⟨Made.trans h.made hm, h.low, hm.heap h.pk, hm.heap h.qk⟩
theorem pkTwo_start (W : World) (cs : List Value) : PkTwo W W.heap.size cs ((W.alloc (.cells cs.toArray 27)).alloc (.cells cs.toArray 27)) := by
  have m1 := (Made.refl W).alloc (Nat.le_refl _) (.cells cs.toArray 27)
  have b1 : (W.alloc (.cells cs.toArray 27)).heap[W.heap.size]? = some (.cells cs.toArray 27 (0, 0)) := heap_alloc_new W _
  exact ⟨m1.alloc m1.size _, Nat.le_refl _, (Below.heap_alloc _ _ _ (heap_lt b1)).trans b1, heap_at (by simp)⟩
theorem rowAt_start {W z : World} {B : Nat} {ao : Option Addr} {n cap : Nat} {e0 e1 raw dup : Bool} {l : List In} {so : Option Addr} {c : Nat} (h : PkTwo W B (pkL ao n cap e0 e1 raw dup) z)
    (ho : z.ownsRow (B + 1 + 1) 24 11 (.slice so n c) n (flatI l)) (hs : ∀ x ∈ l, x.small) :
    RowAt W B (B + 1) (pkL ao n cap e0 e1 raw dup) so n c e0 e1 raw dup l (z.setCell ⟨B + 1, 0, none⟩ (.slice so n c)) :=
  have hlow := h.low
  ⟨h.made.setCell (p := ⟨B + 1, 0, none⟩) (show W.heap.size ≤ B + 1 by omega) _, hlow, by omega, (heap_setCell_other z ⟨B + 1, 0, none⟩ B _ (show B ≠ B + 1 by omega)).trans h.pk, heap_setCell_same z (B + 1) 0 _ _ _ h.qk,
    ownsRow_setCell_below ho (show B + 1 < B + 1 + 1 by omega) (a := ⟨B + 1, 0, none⟩) _, hs⟩
namespace rulesRow
section
attribute [local irreducible] World.cell?
set_option maxRecDepth 100000 in
set_option maxHeartbeats 32000000 in
theorem walk (W : World) (hT : Names W) (ao : Option Addr) (cap : Nat) (l : List In) (e0 e1 raw dup : Bool) (tao : Option Addr) (tc : Nat) (ts : List Nat) (hI : Insts W ao cap l) (hN : Nums .u8 W tao tc ts) (hB : ∀ t, ts.getD t 0 < 256) :
    Calls Tryd.prog 6 #[pkV ao l.length cap e0 e1 raw dup, (.slice tao ts.length tc)] W fun e w' => e = .returned (.bool true) ∧ Made W w' := by
  have HA := Lib.hid (awake10_any W hT)
  have K0 := Lib.hid (pk_start (Made.refl W) (pkL ao l.length cap e0 e1 raw dup))
  have H := Lib.hid hI
  have hmax := hI.max
  have hroom := hI.room
  have hmax2 := hN.max
  have hroom2 := hN.room
  have HT := Lib.hid hT
  have HN := Lib.hid hN
  have HBB := Lib.hid hB
  have HB := Lib.hid (show ao = none → l.length = 0 ∧ cap = 0 from fun h => ⟨by rw [(hI.bare h).1]; rfl, (hI.bare h).2⟩)
  have HSM := Lib.hid hI.small
  unfold maxLen at hmax hmax2
  clear hI hT hN hB
  by_cases hlen : 8 < l.length ∨ 20 < ts.length
  · have hway : 8 < l.length ∨ (¬ 8 < l.length ∧ 20 < ts.length) := by omega
    clear hlen
    rcases hway with h8 | ⟨h8, h20⟩
    all_goals
      go_enter Tryd.func6, Tryd.ntmps6
      go_wp2_with (fail)
      refine (HA.out _ K0.out.made).mono ?_
      rintro e w1 ⟨rfl, hm1⟩
      have K1 := Lib.hid hm1
      clear hm1
      go_wp2
      go_ret
      exact ⟨rfl, K1.out⟩
  · have h8 : ¬ 8 < l.length := by omega
    have h20 : ¬ 20 < ts.length := by omega
    clear hlen
    obtain ⟨i0, hi0, hz0, hz1, hz2⟩ := info_parts inst_row
    have hb1 : (0 + l.length) * 24 ≤ 140737488355328 := by omega
    have hx1 : 0 + l.length ≤ maxLen := by unfold maxLen; omega
    have hil := flatI_len l
    go_enter Tryd.func6, Tryd.ntmps6
    go_upto_region 4 with (fail)
    refine name_world (fun u => PkTwo W W.heap.size (pkL ao l.length cap e0 e1 raw dup) u) (pkTwo_start W _) ?_
    intro u hu
    have KU := Lib.hid hu
    clear hu K0
    obtain ⟨p0, p1, p2, p3, p4⟩ := pk5 KU.out.pk
    obtain ⟨q0, q1, q2, q3, q4⟩ := pk5 KU.out.qk
    have lp := heap_lt KU.out.pk
    have lq := heap_lt KU.out.qk
    have m2 := (Made.refl u).alloc (Nat.le_refl _) (.cells #[] 24)
    have hown0 := World.ownsRow_made (e := 24) (size := 11) (base := W.heap.size + 1 + 1) u #[] 0 lq (Nat.zero_le _) rfl
    have H0 := Lib.hid hown0
    have HO := Lib.hid (insts_olds (insts_made H.out (Made.trans KU.out.made m2)))
    have K2 := Lib.hid m2
    have hsz := Lib.hid (show W.heap.size + 1 + 1 ≤ (u.alloc (.cells #[] 24)).heap.size from Nat.le_trans lq m2.size)
    clear m2 hown0
    go_upto_region 5 with (at_builtin; refine wpList_append_each rfl (.tmp 21) (.tmp 23) 25 rfl (W.heap.size + 1 + 1) 24 i0 (In.val inZero) 11 24 Tryd.underlying25 hi0 hz0 hz1 hz2 rfl (by decide) (.slice (some ⟨u.heap.size, 0, none⟩) 0 0) 0 [] rfl H0.out ao l.length cap (flatI l) rfl HB.out hil HO.out (flatI_one l) hx1 hb1 hsz.out ?_; intro v1 w1 hown1 hgr1; rewrite [List.nil_append, Nat.zero_add] at hown1; obtain ⟨-, s1, c1, rfl, -⟩ := owns_insts hown1 HSM.out; have hum : Made u w1 := (Below.grown K2.out hgr1 K2.out.size (fun k hk => (by have h2 : u.heap.size = k := (by simpa [Value.ownBlock] using hk); omega))); have K3 := Lib.hid (KU.out.next hum); have I1 := Lib.hid hown1; have d0 := (pk5 K3.out.qk).1; have f0 := free_of_lit K3.out.qk; clear hown1 hgr1 hum)
    refine name_world (fun u => RowAt W W.heap.size (W.heap.size + 1) (pkL ao l.length cap e0 e1 raw dup) s1 l.length c1 e0 e1 raw dup l u) (rowAt_start K3.out I1.out HSM.out) ?_
    intro u2 hu2
    have R0 := Lib.hid hu2
    clear hu2 p0 p1 p2 p3 p4 q0 q1 q2 q3 q4 lp lq K2 H0 HO hsz KU K3 I1 d0 f0
    have hwl := Lib.hid (Nat.le_refl W.heap.size)
    generalize W.heap.size = B at *
    obtain ⟨q0, q1, q2, q3, q4⟩ := pk5 R0.out.qk
    have lq := heap_lt R0.out.qk
    go_wp2_with (fail)
    go_loopw [7] (fun x wr => ∃ (i : Nat) (l' : List In), i ≤ ts.length ∧ x = .int .i64 i ∧ l'.Perm l ∧ RowAt W B (B + 1) (pkL ao l.length cap e0 e1 raw dup) s1 l.length c1 e0 e1 raw dup l' wr) (fun x _ => ts.length - (intOf x).toNat)
    case atStart => exact ⟨0, l, by omega, rfl, List.Perm.refl _, R0.out⟩
    case round =>
      obtain ⟨i, l', hi, rfl, hP, hR⟩ := hrel
      have KR := Lib.hid hR
      have HP := Lib.hid hP
      have hll : l'.length = l.length := hP.length_eq
      clear hR hP q0 q1 q2 q3 q4 lq R0
      obtain ⟨p0, p1, p2, p3, p4⟩ := pk5 KR.out.pk
      obtain ⟨q0, q1, q2, q3, q4⟩ := pk5 KR.out.qk
      have lp := heap_lt KR.out.pk
      have lq := heap_lt KR.out.qk
      by_cases hlt : i < ts.length ∧ 0 < l.length
      · obtain ⟨hit, hl0⟩ := hlt
        obtain ⟨g, rfl, hnc⟩ := row_some KR.out.row hl0
        obtain ⟨ad, rfl⟩ := HN.out.some hit
        have ct := (HN.out.made KR.out.made).cell ad rfl i hit
        have ht256 := HBB.out i
        generalize ts.getD i 0 = t at *
        have hka : ((i : Int)).tmod (l.length : Int) = ((i % l.length : Nat) : Int) := by rw [Int.tmod_eq_emod_of_nonneg (by omega)]; simp
        have hkb : ((t : Int)).tmod (l.length : Int) = ((t % l.length : Nat) : Int) := by rw [Int.tmod_eq_emod_of_nonneg (by omega)]; simp
        have ha : i % l.length < l.length := Nat.mod_lt _ hl0
        have hb : t % l.length < l.length := Nat.mod_lt _ hl0
        go_upto_region 11 with (fail)
        have hia : (i : Int) % (l.length : Int) = ((i % l.length : Nat) : Int) := by simp
        have hib : (t : Int) % (l.length : Int) = ((t % l.length : Nat) : Int) := by simp
        rewrite [hia, hib]
        clear hia hib hka hkb ct ht256
        generalize i % l.length = a at *
        generalize t % l.length = b at *
        have ha2 : a < l'.length := by omega
        have hb2 : b < l'.length := by omega
        obtain ⟨x, hx⟩ : ∃ x, l'[a] = x := ⟨_, rfl⟩
        obtain ⟨y, hy⟩ : ∃ y, l'[b] = y := ⟨_, rfl⟩
        obtain ⟨c0, c1', c2, c3, c4, c5, c6, c7, c8, c9, c10⟩ := rowI_cells KR.out.row ha2 x hx
        obtain ⟨d0, d1, d2, d3, d4, d5, d6, d7, d8, d9, d10⟩ := rowI_cells KR.out.row hb2 y hy
        have fr := KR.out.row.frozenAt
        have lg := (KR.out.row.lt g rfl).2
        have hne : B + 1 ≠ g := by have := (KR.out.row.lt g rfl).1; omega
        have hne2 : g ≠ B + 1 := fun h => hne h.symm
        have HX := Lib.hid hx
        have HY := Lib.hid hy
        have hfar : a = b ∨ (a ≠ b ∧ b ≠ a ∧ b * 11 ≠ a * 11) := by omega
        have hw := KR.out.swap ha2 hb2 x y hx hy
        have hpm : ((l'.set a y).set b x).Perm l := by
          rw [← hx, ← hy]
          exact (swap_perm l' a b ha2 hb2).trans HP.out
        generalize hl2 : (l'.set a y).set b x = l2 at *
        clear hl2
        have HW := Lib.hid hw
        have HPM := Lib.hid hpm
        have ha3 : a < l2.length := by have := hpm.length_eq; omega
        have hb3 : b < l2.length := by have := hpm.length_eq; omega
        obtain ⟨x2, hx2⟩ : ∃ x, l2[a] = x := ⟨_, rfl⟩
        obtain ⟨y2, hy2⟩ : ∃ y, l2[b] = y := ⟨_, rfl⟩
        have HX2 := Lib.hid hx2
        have HY2 := Lib.hid hy2
        have hsx : x2.small := hw.small _ (hx2 ▸ List.getElem_mem ha3)
        have hsy : y2.small := hw.small _ (hy2 ▸ List.getElem_mem hb3)
        have DB := Lib.hid (show ∀ v, Names v → Makes Tryd.prog v 13 #[x2.val, y2.val] (.bool (clashP x2 y2)) ∧ Makes Tryd.prog v 13 #[y2.val, x2.val] (.bool (clashP x2 y2)) from
          fun v hv => ⟨clash_any v hv x2 y2 hsx hsy, by rw [clashP_comm]; exact clash_any v hv y2 x2 hsy hsx⟩)
        generalize clashP x2 y2 = cb at *
        clear hw hpm hx hy hx2 hy2 hsx hsy
        rcases hfar with rfl | ⟨hab, hba, hfar⟩
        case' inl =>
          obtain rfl : x = y := HX.out.symm.trans HY.out
          obtain rfl : x2 = y2 := HX2.out.symm.trans HY2.out
          go_region
        case' inr => go_region
        all_goals
          go_upto_region 12 with (fail)
          refine name_world (fun u => RowAt W B (B + 1) (pkL ao l.length cap e0 e1 raw dup) (some ⟨g, 0, none⟩) l.length c1 e0 e1 raw dup l2 u) HW.out ?_
          clear HW
          intro u3 hu3
          have KS := Lib.hid hu3
          clear hu3 p0 p1 p2 p3 p4 q0 q1 q2 q3 q4 lp lq c0 c1' c2 c3 c4 c5 c6 c7 c8 c9 c10 d0 d1 d2 d3 d4 d5 d6 d7 d8 d9 d10 fr lg hne hne2 KR HP HX HY
          have q0 := (pk5 KS.out.qk).1
          have lq := heap_lt KS.out.qk
          have lg := (KS.out.row.lt g rfl).2
          obtain ⟨x0', x1', x2', x3', x4', x5', x6', x7', x8', x9', x10'⟩ := rowI_cells KS.out.row ha3 _ HX2.out
          obtain ⟨y0', y1', y2', y3', y4', y5', y6', y7', y8', y9', y10'⟩ := rowI_cells KS.out.row hb3 _ HY2.out
          obtain ⟨D3, D4⟩ := DB.out u3 (HT.out.made KS.out.made)
          have DC := Lib.hid D3
          have DD := Lib.hid D4
          clear D3 D4 HX2 HY2 DB
          have gq0 := fun d os => cell_regrown q0 d os
          have gx0' := fun d os => cell_regrown x0' d os
          have gx1' := fun d os => cell_regrown x1' d os
          have gx2' := fun d os => cell_regrown x2' d os
          have gx3' := fun d os => cell_regrown x3' d os
          have gx4' := fun d os => cell_regrown x4' d os
          have gx5' := fun d os => cell_regrown x5' d os
          have gx6' := fun d os => cell_regrown x6' d os
          have gx7' := fun d os => cell_regrown x7' d os
          have gx8' := fun d os => cell_regrown x8' d os
          have gx9' := fun d os => cell_regrown x9' d os
          have gx10' := fun d os => cell_regrown x10' d os
          have gy0' := fun d os => cell_regrown y0' d os
          have gy1' := fun d os => cell_regrown y1' d os
          have gy2' := fun d os => cell_regrown y2' d os
          have gy3' := fun d os => cell_regrown y3' d os
          have gy4' := fun d os => cell_regrown y4' d os
          have gy5' := fun d os => cell_regrown y5' d os
          have gy6' := fun d os => cell_regrown y6' d os
          have gy7' := fun d os => cell_regrown y7' d os
          have gy8' := fun d os => cell_regrown y8' d os
          have gy9' := fun d os => cell_regrown y9' d os
          have gy10' := fun d os => cell_regrown y10' d os
          have hne : (cb != cb) = false := by simp
          refine wp_region_quiet_below (by kernel_rfl) (by kernel_rfl) ?_
          repeat (go_big_quiet_step ((first
            | (go_at_call 13; with_reducible exact DC.out.again _ _)
            | (go_at_call 13; with_reducible exact DD.out.again _ _))))
          refine wpQuiet_nil ?_
          intro z3 hw9
          have K4 := Lib.hid (KS.out.next (made_regrown hw9))
          clear hw9 gq0 q0 gx0' x0' gx1' x1' gx2' x2' gx3' x3' gx4' x4' gx5' x5' gx6' x6' gx7' x7' gx8' x8' gx9' x9' gx10' x10' gy0' y0' gy1' y1' gy2' y2' gy3' y3' gy4' y4' gy5' y5' gy6' y6' gy7' y7' gy8' y8' gy9' y9' gy10' y10' lq lg DC DD KS
          go_wp2
          go_roundw
          case rel => exact ⟨i + 1, l2, by omega, by go_num, HPM.out, K4.out⟩
          case measure => simp [intOf]; omega
      · have hway : ¬ i < ts.length ∨ (i < ts.length ∧ ¬ 0 < l.length) := by omega
        obtain ⟨-, s3, c3, e3, hI3⟩ := owns_insts KR.out.row KR.out.small
        obtain ⟨rfl, rfl⟩ : s1 = s3 ∧ c1 = c3 := by simpa using e3
        have hcp : checkP ⟨l', e0, e1, raw, dup⟩ = checkP ⟨l, e0, e1, raw, dup⟩ := check_perm HP.out rfl rfl rfl rfl
        have D1 : Makes Tryd.prog wr 10 #[pkV ao l.length cap e0 e1 raw dup] (.int .i64 (checkP ⟨l, e0, e1, raw, dup⟩)) := fun z hz => (check_any ao cap l e0 e1 raw dup z (HT.out.made (Made.trans KR.out.made hz)) (insts_made H.out (Made.trans KR.out.made hz))).mono fun _ _ ⟨he, hm⟩ => ⟨he, Made.trans hz hm⟩
        have D2 : Makes Tryd.prog wr 10 #[pkV s1 l.length c1 e0 e1 raw dup] (.int .i64 (checkP ⟨l, e0, e1, raw, dup⟩)) := fun z hz => by
          have h := check_any s1 c1 l' e0 e1 raw dup z (HT.out.made (Made.trans KR.out.made hz)) (insts_made hI3 hz)
          rw [hll, hcp] at h
          exact h.mono fun _ _ ⟨he, hm⟩ => ⟨he, Made.trans hz hm⟩
        have DA := Lib.hid D1
        have DB := Lib.hid D2
        have DC := Lib.hid (awake10_any wr (HT.out.made KR.out.made))
        clear D1 D2 hcp hI3 e3 hlt HP hll
        generalize checkP ⟨l, e0, e1, raw, dup⟩ = cv at *
        have hne : (cv == cv) = true := by simp
        rcases hway with h1 | ⟨h1, h2⟩
        all_goals
          go_upto_region 14 with (fail)
          have gp0 := fun d os => cell_regrown p0 d os
          have gp1 := fun d os => cell_regrown p1 d os
          have gp2 := fun d os => cell_regrown p2 d os
          have gp3 := fun d os => cell_regrown p3 d os
          have gp4 := fun d os => cell_regrown p4 d os
          have gq0 := fun d os => cell_regrown q0 d os
          have gq1 := fun d os => cell_regrown q1 d os
          have gq2 := fun d os => cell_regrown q2 d os
          have gq3 := fun d os => cell_regrown q3 d os
          have gq4 := fun d os => cell_regrown q4 d os
          refine wp_region_quiet_below (by kernel_rfl) (by kernel_rfl) ?_
          repeat (go_big_quiet_step ((first
            | (go_at_call 10; with_reducible exact DA.out.again _ _)
            | (go_at_call 10; with_reducible exact DB.out.again _ _)
            | (go_at_call 11; with_reducible exact DC.out.again _ _))))
          refine wpQuiet_nil ?_
          intro z3 hw9
          have K4 := Lib.hid (KR.out.next (made_regrown hw9))
          clear hw9 gp0 p0 gp1 p1 gp2 p2 gp3 p3 gp4 p4 gq0 q0 gq1 q1 gq2 q2 gq3 q3 gq4 q4 lp lq DA DB DC KR
          go_wp2
          go_ret
          exact ⟨rfl, K4.out.made⟩
end
end rulesRow
end Go.Proofs.YtdaildmoodfocaaDoor
