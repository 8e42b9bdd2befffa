/- RulesDue of the laws of rules returns true, for every packet and any predicates, in every world that holds the table of names. -/
import Derived.Test.YtdaildmoodfocaaDoorRulesDue
namespace Go.Proofs.YtdaildmoodfocaaDoor
open Go.ChangeShapes Go.WideShapes Go.ChangeAt Go.RowKit Go.Sort BigFrame

/-- Numbers counted in an array. -/
def cntL (n : Nat) (f : Nat → Nat) : List Value := (List.range n).map fun r => Value.int .i64 (f r : Nat)
def updN (f : Nat → Nat) (r v : Nat) : Nat → Nat := fun q => if q = r then v else f q
theorem cnt_at {n : Nat} (f : Nat → Nat) {r : Nat} (h : r < n) : (cntL n f)[r]? = some (.int .i64 (f r : Nat)) := by simp [cntL, h]
theorem cnt_set {n : Nat} (f : Nat → Nat) (r v : Nat) : (cntL n f).toArray.setIfInBounds r (.int .i64 (v : Nat)) = (cntL n (updN f r v)).toArray := by
  rw [List.setIfInBounds_toArray]
  congr 1
  refine List.ext_getElem? fun i => ?_
  rw [List.getElem?_set]
  by_cases hi : i < n
  · rw [cnt_at _ hi, cnt_at _ hi]
    unfold updN
    by_cases h : r = i
    · subst h
      simp [cntL, hi]
    · rw [if_neg h, if_neg (Ne.symm h)]
  · have e1 : ∀ g, (cntL n g)[i]? = none := fun g => List.getElem?_eq_none (by simp [cntL]; omega)
    rw [e1, e1]
    split
    · simp [cntL]; omega
    · rfl
def cntR (l : List In) (old fr : Nat → Bool) (i : Nat) : Nat → Nat := fun r => (l.take i).countP fun x => regB x (r : Int) && dueB x old fr
def cntP (l : List In) (i : Nat) : Nat → Nat := fun q => (l.take i).countP fun x => setB x (q : Int)
theorem cntP_quiet {l : List In} {i : Nat} (h : i < l.length) (hp : (wpredP l[i]).2 = false) : cntP l (i + 1) = cntP l i := by
  funext q
  unfold cntP
  rw [countP_next l _ h, set_quiet hp]
  rfl
theorem cntP_hit {l : List In} {i p : Nat} (h : i < l.length) (hp : wpredP l[i] = ((p : Int), true)) : cntP l (i + 1) = updN (cntP l i) p (cntP l i p + 1) := by
  funext q
  unfold updN cntP
  rw [countP_next l _ h]
  unfold setB bump
  rw [hp]
  by_cases hq : q = p
  · subst hq; simp
  · rw [if_neg hq, if_neg]
    simp only [Bool.true_and, beq_iff_eq]
    omega
theorem cntR_quiet {l : List In} {old fr : Nat → Bool} {i : Nat} (h : i < l.length) (hp : (writesP l[i]).2 = false ∨ dueB l[i] old fr = false) : cntR l old fr (i + 1) = cntR l old fr i := by
  funext q
  unfold cntR
  rw [countP_next l _ h]
  unfold bump
  rw [if_neg]
  rcases hp with hp | hp
  · rw [reg_quiet hp]; simp
  · rw [hp]; simp
theorem cntR_hit {l : List In} {old fr : Nat → Bool} {i r : Nat} (h : i < l.length) (hr : writesP l[i] = ((r : Int), true)) (hd : dueB l[i] old fr = true) : cntR l old fr (i + 1) = updN (cntR l old fr i) r (cntR l old fr i r + 1) := by
  funext q
  unfold updN cntR
  rw [countP_next l _ h]
  unfold regB bump
  rw [hr, hd]
  by_cases hq : q = r
  · subst hq; simp
  · rw [if_neg hq, if_neg]
    simp only [Bool.true_and, Bool.and_true, beq_iff_eq]
    omega
/-- The law's own variables. -/
structure Five (W : World) (B R : Nat) (cs : List Value) (old fr : Nat → Bool) (f g : Nat → Nat) (w : World) : Prop where
  made : Made W w
  low : W.heap.size ≤ R
  pk : w.heap[B]? = some (.cells cs.toArray 27 (0, 0))
  old_ : w.heap[B + 1]? = some (.cells (fourL old).toArray 38 (0, 0))
  fr_ : w.heap[B + 2]? = some (.cells (fourL fr).toArray 38 (0, 0))
  regs : w.heap[R]? = some (.cells (cntL 32 f).toArray 39 (0, 0))
  preds : w.heap[R + 1]? = some (.cells (cntL 4 g).toArray 40 (0, 0))
  ne : B + 2 < R
theorem Five.next {W w w' : World} {B R : Nat} {cs : List Value} {old fr : Nat → Bool} {f g : Nat → Nat} (h : Five W B R cs old fr f g w) (hm : Made w w') : Five W B R cs old fr f g w' :=
  ⟨Made.trans h.made hm, h.low, hm.heap h.pk, hm.heap h.old_, hm.heap h.fr_, hm.heap h.regs, hm.heap h.preds, h.ne⟩
theorem Five.setR {W w : World} {B R : Nat} {cs : List Value} {old fr : Nat → Bool} {f g : Nat → Nat} (h : Five W B R cs old fr f g w) (r v : Nat) : Five W B R cs old fr (updN f r v) g (w.setCell ⟨R, r, none⟩ (.int .i64 (v : Nat))) := by
  have far : ∀ k, k ≠ R → (w.setCell ⟨R, r, none⟩ (.int .i64 (v : Nat))).heap[k]? = w.heap[k]? := fun k hk => heap_setCell_other w ⟨R, r, none⟩ k _ hk
  have hn := h.ne
  exact ⟨h.made.setCell (p := ⟨R, r, none⟩) h.low _, h.low, (far _ (by omega)).trans h.pk, (far _ (by omega)).trans h.old_, (far _ (by omega)).trans h.fr_, (heap_setCell_same w R r _ _ _ h.regs).trans (by rw [cnt_set]), (far _ (by omega)).trans h.preds, hn⟩
theorem Five.setP {W w : World} {B R : Nat} {cs : List Value} {old fr : Nat → Bool} {f g : Nat → Nat} (h : Five W B R cs old fr f g w) (r v : Nat) : Five W B R cs old fr f (updN g r v) (w.setCell ⟨R + 1, r, none⟩ (.int .i64 (v : Nat))) := by
  have far : ∀ k, k ≠ R + 1 → (w.setCell ⟨R + 1, r, none⟩ (.int .i64 (v : Nat))).heap[k]? = w.heap[k]? := fun k hk => heap_setCell_other w ⟨R + 1, r, none⟩ k _ hk
  have hn := h.ne
  have hlow := h.low
  exact ⟨h.made.setCell (p := ⟨R + 1, r, none⟩) (by show W.heap.size ≤ R + 1; omega) _, h.low, (far _ (by omega)).trans h.pk, (far _ (by omega)).trans h.old_, (far _ (by omega)).trans h.fr_, (far _ (by omega)).trans h.regs, (heap_setCell_same w (R + 1) r _ _ _ h.preds).trans (by rw [cnt_set]), hn⟩
theorem Five.setR1 {W w : World} {B R : Nat} {cs : List Value} {old fr : Nat → Bool} {f g : Nat → Nat} (h : Five W B R cs old fr f g w) (r v : Nat) : Five W B R cs old fr (updN f r (v + 1)) g (w.setCell ⟨R, r, none⟩ (.int .i64 ((v : Int) + 1))) := h.setR r (v + 1)
theorem Five.setP1 {W w : World} {B R : Nat} {cs : List Value} {old fr : Nat → Bool} {f g : Nat → Nat} (h : Five W B R cs old fr f g w) (r v : Nat) : Five W B R cs old fr f (updN g r (v + 1)) (w.setCell ⟨R + 1, r, none⟩ (.int .i64 ((v : Int) + 1))) := h.setP r (v + 1)
/-- The packet's and the predicates' variables. -/
structure Box3 (W : World) (B : Nat) (cs : List Value) (old fr : Nat → Bool) (w : World) : Prop where
  made : Made W w
  pk : w.heap[B]? = some (.cells cs.toArray 27 (0, 0))
  old_ : w.heap[B + 1]? = some (.cells (fourL old).toArray 38 (0, 0))
  fr_ : w.heap[B + 2]? = some (.cells (fourL fr).toArray 38 (0, 0))
theorem Box3.next {W w w' : World} {B : Nat} {cs : List Value} {old fr : Nat → Bool} (h : Box3 W B cs old fr w) (hm : Made w w') : Box3 W B cs old fr w' := ⟨Made.trans h.made hm, hm.heap h.pk, hm.heap h.old_, hm.heap h.fr_⟩
theorem box3_start (W : World) (cs : List Value) (old fr : Nat → Bool) : Box3 W W.heap.size cs old fr (((W.alloc (.cells cs.toArray 27)).alloc (.cells (fourL old).toArray 38)).alloc (.cells (fourL fr).toArray 38)) := by
  have m1 := (Made.refl W).alloc (Nat.le_refl _) (.cells cs.toArray 27)
  have m2 := m1.alloc m1.size (.cells (fourL old).toArray 38)
  have b1 : (W.alloc (.cells cs.toArray 27)).heap[W.heap.size]? = some (.cells cs.toArray 27 (0, 0)) := heap_alloc_new W _
  have b2 : ((W.alloc (.cells cs.toArray 27)).alloc (.cells (fourL old).toArray 38)).heap[W.heap.size]? = some (.cells cs.toArray 27 (0, 0)) := (Below.heap_alloc _ _ _ (heap_lt b1)).trans b1
  have b3 : ((W.alloc (.cells cs.toArray 27)).alloc (.cells (fourL old).toArray 38)).heap[W.heap.size + 1]? = some (.cells (fourL old).toArray 38 (0, 0)) := heap_at (by simp)
  exact ⟨m2.alloc m2.size _, (Below.heap_alloc _ _ _ (heap_lt b2)).trans b2, (Below.heap_alloc _ _ _ (heap_lt b3)).trans b3, heap_at (by simp)⟩
theorem five_start {W w : World} {B : Nat} {cs : List Value} {old fr : Nat → Bool} (h : Box3 W B cs old fr w) : Five W B w.heap.size cs old fr (fun _ => 0) (fun _ => 0) ((w.alloc (.cells (cntL 32 fun _ => 0).toArray 39)).alloc (.cells (cntL 4 fun _ => 0).toArray 40)) := by
  have m1 := (Made.refl w).alloc (Nat.le_refl _) (.cells (cntL 32 fun _ => 0).toArray 39)
  have m2 := m1.alloc m1.size (.cells (cntL 4 fun _ => 0).toArray 40)
  have b1 : (w.alloc (.cells (cntL 32 fun _ => 0).toArray 39)).heap[w.heap.size]? = some (.cells (cntL 32 fun _ => 0).toArray 39 (0, 0)) := heap_alloc_new w _
  exact ⟨Made.trans h.made m2, h.made.size, Made.heap m2 h.pk, Made.heap m2 h.old_, Made.heap m2 h.fr_, (Below.heap_alloc _ _ _ (heap_lt b1)).trans b1, heap_at (by simp), heap_lt h.fr_⟩
namespace rulesDue
section
attribute [local irreducible] World.cell?
set_option maxRecDepth 100000 in
set_option maxHeartbeats 32000000 in
theorem walk (W : World) (hT : Names W) (ao : Option Addr) (cap : Nat) (l : List In) (e0 e1 raw dup : Bool) (old fr : Nat → Bool) (hI : Insts W ao cap l) :
    Calls Tryd.prog 5 #[pkV ao l.length cap e0 e1 raw dup, fourV old, fourV fr] W fun e w' => e = .returned (.bool true) ∧ Made W w' := by
  have HA := Lib.hid (awake10_any W hT)
  have K0 := Lib.hid (box3_start W (pkL ao l.length cap e0 e1 raw dup) old fr)
  have H := Lib.hid hI
  have hmax := hI.max
  have hroom := hI.room
  have HT := Lib.hid hT
  unfold maxLen at hmax
  clear hI hT
  by_cases hlen : 8 < l.length
  · go_enter Tryd.func5, Tryd.ntmps5
    go_wp2_with (fail)
    refine (HA.out _ K0.out.made).mono ?_
    rintro e w1 ⟨rfl, hm1⟩
    have K1 := Lib.hid hm1
    clear hm1
    go_wp2
    go_ret
    exact ⟨rfl, K1.out⟩
  · have HOK := Lib.hid (ok_iff ⟨l, e0, e1, raw, dup⟩)
    go_enter Tryd.func5, Tryd.ntmps5
    go_wp2_with (fail)
    refine (check_any ao cap l e0 e1 raw dup _ (HT.out.made K0.out.made) (insts_made H.out K0.out.made)).mono ?_
    rintro e w1 ⟨rfl, h1⟩
    have K1 := Lib.hid (K0.out.next h1)
    clear h1 K0
    generalize checkP ⟨l, e0, e1, raw, dup⟩ = cv at *
    by_cases hc : cv = 0
    · subst hc
      have OK := HOK.out.1 rfl
      have HO := Lib.hid OK
      obtain ⟨f1, f2, -, f4⟩ := (form_iff _).1 OK.form
      have hl4 : l.length ≤ 4 := f2
      have hl0 : 0 < l.length := List.length_pos_iff.2 f1
      have HR := Lib.hid (show ∀ x ∈ l, rightB x = true from f4)
      clear OK f1 f2 f4 HOK hlen
      go_upto_region 5 with (fail)
      refine name_world (fun u => Five W W.heap.size w1.heap.size (pkL ao l.length cap e0 e1 raw dup) old fr (fun _ => 0) (fun _ => 0) u) (five_start K1.out) ?_
      intro u hu
      have KU := Lib.hid hu
      clear hu
      have hf0 : (fun _ => 0) = cntR l old fr 0 := rfl
      have hg0 : (fun _ => 0) = cntP l 0 := rfl
      have KV := Lib.hid (show Five W W.heap.size w1.heap.size (pkL ao l.length cap e0 e1 raw dup) old fr (cntR l old fr 0) (cntP l 0) u from KU.out)
      clear hf0 hg0 KU
      generalize w1.heap.size = R at *
      generalize W.heap.size = B at *
      go_wp2_with (fail)
      go_loopw [9, 10] (fun jv iv wr => ∃ i : Nat, i ≤ l.length ∧ jv = .int .i64 (countC (l.take i) 5 : Nat) ∧ iv = .int .i64 i ∧ Five W B R (pkL ao l.length cap e0 e1 raw dup) old fr (cntR l old fr i) (cntP l i) wr) (fun _ iv _ => l.length - (intOf iv).toNat)
      case atStart => exact ⟨0, by omega, rfl, rfl, KV.out⟩
      case round =>
        obtain ⟨i, hi, rfl, rfl, hF⟩ := hrel
        have KF := Lib.hid hF
        clear hF KV
        have hcl := count_le l 5 i
        obtain ⟨p0, p1, p2, p3, p4⟩ := pk5 KF.out.pk
        have lp := heap_lt KF.out.pk
        by_cases hlt : i < l.length
        · obtain ⟨x, hx⟩ : ∃ x, l[i] = x := ⟨_, rfl⟩
          obtain ⟨b, o, rfl, c0, c1, c2, c3, c4, c5, c6, c7, c8, c9, c10⟩ := insts_cells (insts_made H.out KF.out.made) hlt x hx
          have hsm := H.out.small x (hx ▸ List.getElem_mem hlt)
          have hrx := HR.out x (hx ▸ List.getElem_mem hlt)
          have q1 := fun h => cntP_quiet (i := i) hlt h
          have q2 := fun p h => cntP_hit (i := i) (p := p) hlt h
          have q3 := fun h => cntR_quiet (old := old) (fr := fr) (i := i) hlt h
          have q4 := fun r h1 h2 => cntR_hit (old := old) (fr := fr) (i := i) (r := r) hlt h1 h2
          have q5 := count_next l 5 hlt
          rewrite [hx] at q1 q2 q3 q4 q5
          have Q1 := Lib.hid q1
          have Q2 := Lib.hid q2
          have Q3 := Lib.hid q3
          have Q4 := Lib.hid q4
          have Q5 := Lib.hid q5
          have RR := Lib.hid (fun v (hv : Names v) => right_any v hv x hsm v (Made.refl v))
          have WP := Lib.hid (fun v (hv : Names v) => writesPred_any v hv x hsm v (Made.refl v))
          have CL := Lib.hid (fun v (hv : Names v) => class_any v hv x hsm v (Made.refl v))
          have WR := Lib.hid (fun v (hv : Names v) => writes_any v hv x hsm v (Made.refl v))
          have DU := Lib.hid (fun v => due_any x hsm old fr v v (Made.refl v))
          have hcp : classZ (opN x.op) = classP x := rfl
          rewrite [hrx] at RR
          rewrite [hcp] at CL
          obtain ⟨wr0, wr1⟩ := writes_range hsm
          obtain ⟨pr0, pr1⟩ := wpred_range hsm
          have B0 := Lib.hid (show Five W B R (pkL (some ⟨b, o, none⟩) l.length cap e0 e1 raw dup) old fr (cntR l old fr i) (cntP l i) (wr.alloc (.cells x.cells.toArray 24)) ∧ InAt (wr.alloc (.cells x.cells.toArray 24)) wr.heap.size x from
            ⟨KF.out.next ((Made.refl wr).alloc (Nat.le_refl _) _), heap_alloc_new wr _⟩)
          have hRS : R + 1 < wr.heap.size := heap_lt KF.out.preds
          clear q1 q2 q3 q4 q5 hcp hsm hrx hx
          go_upto_region 10 with (fail)
          refine name_world (fun v => Five W B R (pkL (some ⟨b, o, none⟩) l.length cap e0 e1 raw dup) old fr (cntR l old fr i) (cntP l i) v ∧ InAt v wr.heap.size x) B0.out ?_
          rintro v ⟨hv1, hv2⟩
          have V1 := Lib.hid hv1
          have V2 := Lib.hid hv2
          clear hv1 hv2 B0 c0 c1 c2 c3 c4 c5 c6 c7 c8 c9 c10 p0 p1 p2 p3 p4 lp
          generalize wr.heap.size = S at *
          obtain ⟨a0, a1, a2, a3, a4, a5, a6, a7, a8, a9, a10⟩ := in_cells V2.out
          have la := heap_lt V2.out
          go_wp2_with (fail)
          refine (RR.out _ (HT.out.made V1.out.made)).mono ?_
          rintro e v2 ⟨rfl, h2⟩
          have V3 := Lib.hid (V1.out.next h2)
          have V4 := Lib.hid (Made.heap h2 V2.out)
          clear h2 a0 a1 a2 a3 a4 a5 a6 a7 a8 a9 a10 la V1 V2
          obtain ⟨a0, a1, a2, a3, a4, a5, a6, a7, a8, a9, a10⟩ := in_cells V4.out
          have la := heap_lt V4.out
          go_wp2_with (fail)
          refine (WP.out _ (HT.out.made V3.out.made)).mono ?_
          rintro e v3 ⟨rfl, h3⟩
          have V5 := Lib.hid (V3.out.next h3)
          have V6 := Lib.hid (show InAt v3 S x from Made.heap h3 V4.out)
          clear h3 a0 a1 a2 a3 a4 a5 a6 a7 a8 a9 a10 la V3 V4
          generalize wpredP x = pp at *
          obtain ⟨pz, po⟩ := pp
          obtain ⟨p, rfl⟩ : ∃ p : Nat, pz = p := ⟨pz.toNat, by simp only [] at pr0; omega⟩
          have hp4 : p < 4 := by simp only [] at pr1; omega
          have hle := Nat.le_trans (show cntP l i p ≤ i from countP_le' l _ i) hi
          cases po
          case' false =>
            have HPN := Lib.hid (Q1.out rfl)
            go_upto_region 15 with (fail)
            refine name_world (fun u => Five W B R (pkL (some ⟨b, o, none⟩) l.length cap e0 e1 raw dup) old fr (cntR l old fr i) (cntP l (i + 1)) u ∧ InAt u S x) ⟨by rw [HPN.out]; exact V5.out, V6.out⟩ ?_
          case' true =>
            have HPN := Lib.hid (Q2.out p rfl)
            have cc := (cell_of_lit V5.out.preds p).trans (cnt_at _ hp4)
            have fz := free_of_lit V5.out.preds
            have lq := heap_lt V5.out.preds
            have KS := Lib.hid (show Five W B R (pkL (some ⟨b, o, none⟩) l.length cap e0 e1 raw dup) old fr (cntR l old fr i) (cntP l (i + 1)) (v3.setCell ⟨R + 1, p, none⟩ (.int .i64 ((cntP l i p : Int) + 1))) ∧ InAt (v3.setCell ⟨R + 1, p, none⟩ (.int .i64 ((cntP l i p : Int) + 1))) S x from
              ⟨by rw [HPN.out]; exact V5.out.setP1 p _, (heap_setCell_other v3 ⟨R + 1, p, none⟩ S _ (by show S ≠ R + 1; omega)).trans V6.out⟩)
            generalize cntP l i p = np at *
            go_upto_region 15 with (fail)
            refine name_world (fun u => Five W B R (pkL (some ⟨b, o, none⟩) l.length cap e0 e1 raw dup) old fr (cntR l old fr i) (cntP l (i + 1)) u ∧ InAt u S x) KS.out ?_
            clear KS cc fz lq
          all_goals
            rintro u ⟨hu1, hu2⟩
            have U1 := Lib.hid hu1
            have U2 := Lib.hid hu2
            clear hu1 hu2 V5 V6 HPN Q1 Q2 hle
            obtain ⟨a0, a1, a2, a3, a4, a5, a6, a7, a8, a9, a10⟩ := in_cells U2.out
            have la := heap_lt U2.out
            go_wp2_with (fail)
            refine (CL.out _ (HT.out.made U1.out.made)).mono ?_
            rintro e u2 ⟨rfl, h2⟩
            have U3 := Lib.hid (U1.out.next h2)
            have U4 := Lib.hid (show InAt u2 S x from Made.heap h2 U2.out)
            clear h2 a0 a1 a2 a3 a4 a5 a6 a7 a8 a9 a10 la U1 U2
            obtain ⟨a0, a1, a2, a3, a4, a5, a6, a7, a8, a9, a10⟩ := in_cells U4.out
            have la := heap_lt U4.out
            have hj := Q5.out
            generalize classP x = cx at *
            generalize hn5 : countC (l.take i) 5 = n5 at *
            generalize hn6 : countC (l.take (i + 1)) 5 = n6 at *
            have HN6 := Lib.hid hn6
            clear hn5 hn6 CL Q5
            cases hcx : (cx == 5)
            case' false => have HJ := Lib.hid (show n6 = n5 by rw [hj, hcx]; rfl)
            case' true => have HJ := Lib.hid (show n6 = n5 + 1 by rw [hj, hcx]; rfl)
            all_goals
              clear hj
              go_wp2_with (fail)
              refine (WR.out _ (HT.out.made U3.out.made)).mono ?_
              rintro e u3 ⟨rfl, h3⟩
              have U5 := Lib.hid (U3.out.next h3)
              have U6 := Lib.hid (show InAt u3 S x from Made.heap h3 U4.out)
              clear h3 a0 a1 a2 a3 a4 a5 a6 a7 a8 a9 a10 la U3 U4
              generalize writesP x = ww at *
              obtain ⟨rz, ro⟩ := ww
              obtain ⟨r, rfl⟩ : ∃ r : Nat, rz = r := ⟨rz.toNat, by simp only [] at wr0; omega⟩
              have hr32 : r < 32 := by simp only [] at wr1; omega
              have hle2 := Nat.le_trans (show cntR l old fr i r ≤ i from countP_le' l _ i) hi
              cases ro
              case false =>
                have HRN := Lib.hid (Q3.out (.inl rfl))
                go_wp2
                go_roundw
                case rel => exact ⟨i + 1, by omega, by first | (rw [HN6.out, HJ.out]; done) | (rw [HN6.out, HJ.out]; go_num), by go_num, by rw [HRN.out]; exact U5.out⟩
                case measure => simp [intOf]; omega
              case true =>
                obtain ⟨a0, a1, a2, a3, a4, a5, a6, a7, a8, a9, a10⟩ := in_cells U6.out
                have la := heap_lt U6.out
                have o0 := (cell_of_lit U5.out.old_ 0).trans (four_at old (by omega))
                have o1 := (cell_of_lit U5.out.old_ 1).trans (four_at old (by omega))
                have o2 := (cell_of_lit U5.out.old_ 2).trans (four_at old (by omega))
                have o3 := (cell_of_lit U5.out.old_ 3).trans (four_at old (by omega))
                have t0 := (cell_of_lit U5.out.fr_ 0).trans (four_at fr (by omega))
                have t1 := (cell_of_lit U5.out.fr_ 1).trans (four_at fr (by omega))
                have t2 := (cell_of_lit U5.out.fr_ 2).trans (four_at fr (by omega))
                have t3 := (cell_of_lit U5.out.fr_ 3).trans (four_at fr (by omega))
                have lo := heap_lt U5.out.old_
                have lf := heap_lt U5.out.fr_
                go_wp2_with (fail)
                refine (DU.out _).mono ?_
                rintro e u4 ⟨rfl, h4⟩
                have U7 := Lib.hid (U5.out.next h4)
                clear h4 a0 a1 a2 a3 a4 a5 a6 a7 a8 a9 a10 la o0 o1 o2 o3 t0 t1 t2 t3 lo lf U5 U6
                generalize dueB x old fr = dv at *
                cases dv with
                | false =>
                  have HRN := Lib.hid (Q3.out (.inr rfl))
                  go_wp2
                  go_roundw
                  case rel => exact ⟨i + 1, by omega, by first | (rw [HN6.out, HJ.out]; done) | (rw [HN6.out, HJ.out]; go_num), by go_num, by rw [HRN.out]; exact U7.out⟩
                  case measure => simp [intOf]; omega
                | true =>
                  have HRN := Lib.hid (Q4.out r rfl rfl)
                  have cc := (cell_of_lit U7.out.regs r).trans (cnt_at _ hr32)
                  have fz := free_of_lit U7.out.regs
                  have lq := heap_lt U7.out.regs
                  have KS := Lib.hid (show Five W B R (pkL (some ⟨b, o, none⟩) l.length cap e0 e1 raw dup) old fr (cntR l old fr (i + 1)) (cntP l (i + 1)) (u4.setCell ⟨R, r, none⟩ (.int .i64 ((cntR l old fr i r : Int) + 1))) by rw [HRN.out]; exact U7.out.setR1 r _)
                  clear HRN
                  generalize cntR l old fr i r = nr at *
                  go_wp2
                  go_roundw
                  case rel => exact ⟨i + 1, by omega, by first | (rw [HN6.out, HJ.out]; done) | (rw [HN6.out, HJ.out]; go_num), by go_num, KS.out⟩
                  case measure => simp [intOf]; omega
        · obtain rfl : i = l.length := by omega
          have HD := Lib.hid (show ∀ r, cntR l old fr l.length r ≤ 1 from fun r => by unfold cntR; rw [List.take_length]; exact due_once HO.out old fr r)
          have HP := Lib.hid (show ∀ q, cntP l l.length q ≤ 1 from fun q => by unfold cntP; rw [List.take_length]; exact pred_once HO.out q)
          have hB1 : countC (l.take l.length) 5 ≤ 1 := by rw [List.take_length]; exact HO.out.branch
          generalize countC (l.take l.length) 5 = nj at *
          go_wp2_with (fail)
          clear p0 p1 p2 p3 p4 lp
          go_loopw [16] (fun x w2 => ∃ r : Nat, r ≤ 32 ∧ x = .int .i64 r ∧ w2 = wr) (fun x _ => 32 - (intOf x).toNat)
          case atStart => exact ⟨0, by omega, rfl, rfl⟩
          case round =>
            obtain ⟨r, hr, rfl, rfl⟩ := hrel
            by_cases hlt2 : r < 32
            · have hr4 : r % 4 < 4 := Nat.mod_lt _ (by omega)
              have c1 := (cell_of_lit KF.out.regs r).trans (cnt_at _ hlt2)
              have c2 := (cell_of_lit KF.out.preds (r % 4)).trans (cnt_at _ hr4)
              have d1 := HD.out r
              have d2 := HP.out (r % 4)
              generalize cntR l old fr l.length r = n1 at *
              generalize cntP l l.length (r % 4) = n2 at *
              have l1 := heap_lt KF.out.regs
              have l2 := heap_lt KF.out.preds
              go_wp2
              go_roundw
              case rel => exact ⟨r + 1, by omega, by go_num, trivial⟩
              case measure => simp [intOf]; omega
            · obtain ⟨p0, p1, p2, p3, p4⟩ := pk5 KF.out.pk
              have lp := heap_lt KF.out.pk
              go_wp2_with (fail)
              refine (HA.out _ KF.out.made).mono ?_
              rintro e w3 ⟨rfl, h3⟩
              have K3 := Lib.hid h3
              clear h3
              go_wp2
              go_ret
              exact ⟨rfl, K3.out⟩
    · have hcb : (cv != 0) = true := bne_iff_ne.2 hc
      clear hc
      go_wp2_with (fail)
      refine (HA.out _ K1.out.made).mono ?_
      rintro e w2 ⟨rfl, hm2⟩
      have K2 := Lib.hid hm2
      clear hm2
      go_wp2
      go_ret
      exact ⟨rfl, K2.out⟩
end
end rulesDue
end Go.Proofs.YtdaildmoodfocaaDoor
