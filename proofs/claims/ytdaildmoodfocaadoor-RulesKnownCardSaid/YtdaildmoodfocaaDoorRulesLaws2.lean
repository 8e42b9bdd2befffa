/- What of, add and awake of the laws of rules return; instructions written out in memory. · RulesTells of the laws of rules returns true, for every packet and any two instructions, in every world that holds the table of names. -/
import Derived.Test.YtdaildmoodfocaaDoorRulesCode
import Derived.Test.YtdaildmoodfocaaDoorInstLit
import Derived.Test.YtdaildmoodfocaaDoorLaid
import Derived.Great.BuildSlice
import Derived.Test.YtdaildmoodfocaaDoorRulesRefD
import Derived.Test.YtdaildmoodfocaaDoorInstRows
namespace Go.Proofs.YtdaildmoodfocaaDoor
section
open Go.ChangeShapes Go.WideShapes Go.ChangeAt Go.RowKit Go.Sort BigFrame

abbrev addIn (d mode pred : Int) : In := ⟨2, d, 0, 0, 0, pred, mode, false, false, 0, 0⟩
section
attribute [local irreducible] World.cell?
theorem addI_any (W : World) (d m p : Int) : Makes Tryd.prog W 9 #[.int .u8 d, .int .u8 m, .int .u8 p] (In.val (addIn d m p)) := by
  intro w hm
  have hz := hm.size
  have H0 := Lib.hid hm
  clear hm
  go_enter Tryd.func9, Tryd.ntmps9
  go_wp2
  refine bodyPost_ret (v := In.val (addIn d m p)) (by simp [results, Tryd.results9, go_sem]) rfl ?_
  exact ⟨rfl, H0.out.alloc hz _⟩
theorem ofI_any (W : World) (ao : Option Addr) (n cap : Nat) : Makes Tryd.prog W 8 #[.slice ao n cap] (pkV ao n cap false false false false) := by
  intro w hm
  have hz := hm.size
  have H0 := Lib.hid hm
  clear hm
  go_enter Tryd.func8, Tryd.ntmps8
  go_wp2
  refine bodyPost_ret (v := pkV ao n cap false false false false) (by simp [results, Tryd.results8, go_sem]) rfl ?_
  exact ⟨rfl, H0.out.alloc hz _⟩
end
theorem flat_cell : ∀ (l : List In) (t r : Nat) (h : t < l.length), r < 11 → (l.flatMap In.cells)[t * 11 + r]? = (l[t].cells)[r]?
  | x :: l, 0, r, _, hr => by
    have hl : x.cells.length = 11 := rfl
    simp only [List.flatMap_cons, Nat.zero_mul, Nat.zero_add, List.getElem_cons_zero]
    rw [List.getElem?_append_left (by omega)]
  | x :: l, t + 1, r, h, hr => by
    have hl : x.cells.length = 11 := rfl
    simp only [List.flatMap_cons, List.getElem_cons_succ]
    rw [List.getElem?_append_right (by omega), show (t + 1) * 11 + r - x.cells.length = t * 11 + r by omega]
    exact flat_cell l t r (by simpa using h) hr
/-- Instructions written out in a block. -/
theorem insts_lit {w : World} {b : Nat} {l : List In} {n : Nat} {T : TypeId} (h : w.heap[b]? = some (.cells (l.flatMap In.cells).toArray T (0, 0))) (hn : l.length = n) (hl : n ≤ 1000) (hs : ∀ x ∈ l, x.small) : Insts w (some ⟨b, 0, none⟩) n l := by
  refine ⟨by omega, by unfold maxLen; omega, hs, fun h => by simp at h, fun t ht => ⟨b, 0, rfl, fun r hr => ?_⟩⟩
  rw [Nat.zero_add, cell_of_lit h]
  exact flat_cell l t r ht hr
theorem check_lit (l : List In) (n : Nat) (hn : l.length = n) (hl : n ≤ 1000) (hs : l.all smallB = true) (e0 e1 raw dup : Bool) (v : Int) (hv : checkP ⟨l, e0, e1, raw, dup⟩ = v) (w : World) (hN : Names w) (b : Nat) (T : TypeId)
    (h : w.heap[b]? = some (.cells (l.flatMap In.cells).toArray T (0, 0))) : Makes Tryd.prog w 10 #[pkV (some ⟨b, 0, none⟩) n n e0 e1 raw dup] (.int .i64 v) := by
  intro u hu
  subst hn
  subst hv
  refine (check_any _ _ l e0 e1 raw dup u (hN.made hu) (insts_made (insts_lit h rfl hl fun x hx => small_of (List.all_eq_true.1 hs x hx)) hu)).mono ?_
  rintro e w' ⟨rfl, hm⟩
  exact ⟨rfl, Made.trans hu hm⟩
theorem clash_lit (a b : In) (ha : smallB a = true) (hb : smallB b = true) (v : Bool) (hv : clashP a b = v) (W : World) (hN : Names W) : Makes Tryd.prog W 13 #[a.val, b.val] (.bool v) := by
  subst hv
  exact clash_any W hN a b (small_of ha) (small_of hb)
theorem made_alloc {W w : World} (h : Made W w) (o : Obj) : Made W (w.alloc o) := h.alloc h.size o
section
attribute [local irreducible] World.cell?
set_option maxRecDepth 100000 in
set_option maxHeartbeats 8000000 in
theorem awake10_any (W : World) (hN : Names W) : Makes Tryd.prog W 11 #[] (.bool true) := by
  intro w hm
  have K0 := Lib.hid hm
  clear hm
  go_enter Tryd.func11, Tryd.ntmps11
  go_wp2_with (fail)
  refine (addI_any W 1 0 0 _ K0.out).mono ?_
  rintro e w1 ⟨rfl, h1⟩
  have K1 := Lib.hid h1
  clear h1 K0
  go_wp2_with (fail)
  refine (addI_any W 2 0 0 _ K1.out).mono ?_
  rintro e w2 ⟨rfl, h2⟩
  have K2 := Lib.hid h2
  clear h2 K1
  go_wp2_with (fail)
  refine (ofI_any _ _ _ _ _ (Made.refl _)).mono ?_
  rintro e w3 ⟨rfl, h3⟩
  have B3 := Lib.hid (Made.heap h3 (heap_alloc_new w2 (.cells (([addIn 1 0 0, addIn 2 0 0] : List In).flatMap In.cells).toArray 24)))
  have K3 := Lib.hid (Made.trans (made_alloc K2.out _) h3)
  clear h3 K2
  go_wp2_with (fail)
  refine (check_lit [addIn 1 0 0, addIn 2 0 0] 2 rfl (by omega) (by decide) false false false false 0 (by decide +kernel) w3 (hN.made K3.out) w2.heap.size 24 B3.out w3 (Made.refl _)).mono ?_
  rintro e w4 ⟨rfl, h4⟩
  have K4 := Lib.hid (Made.trans K3.out h4)
  clear h4 K3 B3
  go_wp2_with (fail)
  refine (addI_any W 1 0 0 _ K4.out).mono ?_
  rintro e w5 ⟨rfl, h5⟩
  have K5 := Lib.hid h5
  clear h5 K4
  go_wp2_with (fail)
  refine (addI_any W 1 0 0 _ K5.out).mono ?_
  rintro e w6 ⟨rfl, h6⟩
  have K6 := Lib.hid h6
  clear h6 K5
  go_wp2_with (fail)
  refine (ofI_any _ _ _ _ _ (Made.refl _)).mono ?_
  rintro e w7 ⟨rfl, h7⟩
  have B7 := Lib.hid (Made.heap h7 (heap_alloc_new w6 (.cells (([addIn 1 0 0, addIn 1 0 0] : List In).flatMap In.cells).toArray 24)))
  have K7 := Lib.hid (Made.trans (made_alloc K6.out _) h7)
  clear h7 K6
  go_wp2_with (fail)
  refine (check_lit [addIn 1 0 0, addIn 1 0 0] 2 rfl (by omega) (by decide) false false false false 11 (by decide +kernel) w7 (hN.made K7.out) w6.heap.size 24 B7.out w7 (Made.refl _)).mono ?_
  rintro e w8 ⟨rfl, h8⟩
  have K8 := Lib.hid (Made.trans K7.out h8)
  clear h8 K7 B7
  go_wp2_with (fail)
  refine (addI_any W 1 1 0 _ K8.out).mono ?_
  rintro e w9 ⟨rfl, h9⟩
  have K9 := Lib.hid h9
  clear h9 K8
  go_wp2_with (fail)
  refine (addI_any W 1 2 0 _ K9.out).mono ?_
  rintro e w10 ⟨rfl, h10⟩
  have K10 := Lib.hid h10
  clear h10 K9
  go_wp2_with (fail)
  refine (ofI_any _ _ _ _ _ (Made.refl _)).mono ?_
  rintro e w11 ⟨rfl, h11⟩
  have B11 := Lib.hid (Made.heap h11 (heap_alloc_new w10 (.cells (([addIn 1 1 0, addIn 1 2 0] : List In).flatMap In.cells).toArray 24)))
  have K11 := Lib.hid (Made.trans (made_alloc K10.out _) h11)
  clear h11 K10
  go_wp2_with (fail)
  refine (check_lit [addIn 1 1 0, addIn 1 2 0] 2 rfl (by omega) (by decide) false false false false 0 (by decide +kernel) w11 (hN.made K11.out) w10.heap.size 24 B11.out w11 (Made.refl _)).mono ?_
  rintro e w12 ⟨rfl, h12⟩
  have K12 := Lib.hid (Made.trans K11.out h12)
  clear h12 K11 B11
  go_wp2_with (fail)
  refine (addI_any W 1 0 0 _ K12.out).mono ?_
  rintro e w13 ⟨rfl, h13⟩
  have K13 := Lib.hid h13
  clear h13 K12
  go_wp2_with (fail)
  refine (addI_any W 1 1 0 _ K13.out).mono ?_
  rintro e w14 ⟨rfl, h14⟩
  have K14 := Lib.hid h14
  clear h14 K13
  go_wp2_with (fail)
  refine (clash_lit (addIn 1 0 0) (addIn 1 1 0) (by decide) (by decide) true (by decide +kernel) W hN _ K14.out).mono ?_
  rintro e w15 ⟨rfl, h15⟩
  have K15 := Lib.hid h15
  clear h15 K14
  go_wp2_with (fail)
  refine (addI_any W 1 3 1 _ K15.out).mono ?_
  rintro e w16 ⟨rfl, h16⟩
  have K16 := Lib.hid h16
  clear h16 K15
  go_wp2_with (fail)
  refine (addI_any W 1 4 1 _ K16.out).mono ?_
  rintro e w17 ⟨rfl, h17⟩
  have K17 := Lib.hid h17
  clear h17 K16
  go_wp2_with (fail)
  refine (clash_lit (addIn 1 3 1) (addIn 1 4 1) (by decide) (by decide) false (by decide +kernel) W hN _ K17.out).mono ?_
  rintro e w18 ⟨rfl, h18⟩
  have K18 := Lib.hid h18
  clear h18 K17
  go_wp2
  go_ret
  exact ⟨rfl, K18.out⟩
end
end
section
open Go.ChangeShapes Go.WideShapes Go.ChangeAt Go.RowKit Go.Sort BigFrame

/-- A packet's variable and two instructions', kept. -/
structure Three (W : World) (B : Nat) (cs : List Value) (a b : In) (w : World) : Prop where
  made : Made W w
  pk : w.heap[B]? = some (.cells cs.toArray 27 (0, 0))
  ia : InAt w (B + 1) a
  ib : InAt w (B + 2) b
theorem Three.next {W w w' : World} {B : Nat} {cs : List Value} {a b : In} (h : Three W B cs a b w) (hm : Made w w') : Three W B cs a b w' := ⟨Made.trans h.made hm, hm.heap h.pk, hm.heap h.ia, hm.heap h.ib⟩
theorem three_start (W : World) (cs : List Value) (a b : In) : Three W W.heap.size cs a b (((W.alloc (.cells cs.toArray 27)).alloc (.cells a.cells.toArray 24)).alloc (.cells b.cells.toArray 24)) := by
  have m1 := (Made.refl W).alloc (Nat.le_refl _) (.cells cs.toArray 27)
  have m2 := m1.alloc m1.size (.cells a.cells.toArray 24)
  have b1 : (W.alloc (.cells cs.toArray 27)).heap[W.heap.size]? = some (.cells cs.toArray 27 (0, 0)) := heap_alloc_new W _
  have b2 : ((W.alloc (.cells cs.toArray 27)).alloc (.cells a.cells.toArray 24)).heap[W.heap.size]? = some (.cells cs.toArray 27 (0, 0)) := (Below.heap_alloc _ _ _ (heap_lt b1)).trans b1
  have b3 : ((W.alloc (.cells cs.toArray 27)).alloc (.cells a.cells.toArray 24)).heap[W.heap.size + 1]? = some (.cells a.cells.toArray 24 (0, 0)) := heap_at (by simp)
  exact ⟨m2.alloc m2.size _, (Below.heap_alloc _ _ _ (heap_lt b2)).trans b2, (Below.heap_alloc _ _ _ (heap_lt b3)).trans b3, heap_at (by simp)⟩
theorem pk5 {w : World} {B : Nat} {ao : Option Addr} {n cap : Nat} {e0 e1 raw dup : Bool} (h : w.heap[B]? = some (.cells (pkL ao n cap e0 e1 raw dup).toArray 27 (0, 0))) :
    w.cell? ⟨B, 0, none⟩ = some (.slice ao n cap) ∧ w.cell? ⟨B, 1, none⟩ = some (.bool e0) ∧ w.cell? ⟨B, 2, none⟩ = some (.bool e1) ∧ w.cell? ⟨B, 3, none⟩ = some (.bool raw) ∧ w.cell? ⟨B, 4, none⟩ = some (.bool dup) :=
  ⟨cell_of_lit h 0, cell_of_lit h 1, cell_of_lit h 2, cell_of_lit h 3, cell_of_lit h 4⟩
namespace rulesTells
section
attribute [local irreducible] World.cell?
set_option maxRecDepth 100000 in
set_option maxHeartbeats 16000000 in
theorem walk (W : World) (hT : Names W) (ao : Option Addr) (cap : Nat) (l : List In) (e0 e1 raw dup : Bool) (a b : In) (hI : Insts W ao cap l) (ha : a.small) (hb : b.small) :
    Calls Tryd.prog 4 #[pkV ao l.length cap e0 e1 raw dup, a.val, b.val] W fun e w' => e = .returned (.bool true) ∧ Made W w' := by
  have HA := Lib.hid (awake10_any W hT)
  have K0 := Lib.hid (three_start W (pkL ao l.length cap e0 e1 raw dup) a b)
  have H := Lib.hid hI
  have hmax := hI.max
  have hroom := hI.room
  have HS := Lib.hid hI.small
  have HB := Lib.hid (show ao = none → l.length = 0 ∧ cap = 0 from fun h => ⟨by rw [(hI.bare h).1]; rfl, (hI.bare h).2⟩)
  have HAS := Lib.hid ha
  have HBS := Lib.hid hb
  have HT := Lib.hid hT
  unfold maxLen at hmax
  clear hI ha hb hT
  by_cases hlen : 8 < l.length
  · go_enter Tryd.func4, Tryd.ntmps4
    go_wp2_with (fail)
    refine (HA.out _ K0.out.made).mono ?_
    rintro e w1 ⟨rfl, hm1⟩
    have K1 := Lib.hid hm1
    clear hm1
    go_wp2
    go_ret
    exact ⟨rfl, K1.out⟩
  · obtain ⟨i0, hi0, hz0, hz1, hz2⟩ := info_parts inst_row
    have hb1 : (0 + l.length) * 24 ≤ 140737488355328 := by omega
    have hx1 : 0 + l.length ≤ maxLen := by unfold maxLen; omega
    have hil := flatI_len l
    go_enter Tryd.func4, Tryd.ntmps4
    go_upto_region 3 with (fail)
    refine name_world (fun u => Three W W.heap.size (pkL ao l.length cap e0 e1 raw dup) a b u) K0.out ?_
    intro u hu
    have KU := Lib.hid hu
    clear hu K0
    obtain ⟨p0, p1, p2, p3, p4⟩ := pk5 KU.out.pk
    have lp := heap_lt KU.out.pk
    have m2 := (Made.refl u).alloc (Nat.le_refl _) (.cells #[] 24)
    have hown0 := World.ownsRow_made (e := 24) (size := 11) (base := W.heap.size) u #[] 0 KU.out.made.size (Nat.zero_le _) rfl
    have H0 := Lib.hid hown0
    have HO := Lib.hid (insts_olds (insts_made H.out (Made.trans KU.out.made m2)))
    have K2 := Lib.hid m2
    have hsz := Lib.hid (Made.trans KU.out.made m2).size
    clear m2 hown0
    go_upto_region 4 with (at_builtin; refine wpList_append_each rfl (.tmp 14) (.tmp 16) 25 rfl W.heap.size 24 i0 (In.val inZero) 11 24 Tryd.underlying25 hi0 hz0 hz1 hz2 rfl (by decide) (.slice (some ⟨u.heap.size, 0, none⟩) 0 0) 0 [] rfl H0.out ao l.length cap (flatI l) rfl HB.out hil HO.out (flatI_one l) hx1 hb1 hsz.out ?_; intro v1 w1 hown1 hgr1; rewrite [List.nil_append, Nat.zero_add] at hown1; obtain ⟨-, s1, c1, rfl, hins1⟩ := owns_insts hown1 HS.out)
    have hum : Made u w1 := by
      refine Below.grown K2.out hgr1 K2.out.size (fun k hk => ?_)
      have h2 : u.heap.size = k := by simpa [Value.ownBlock] using hk
      omega
    have K3 := Lib.hid (KU.out.next hum)
    have I1 := Lib.hid hins1
    clear hown1 hgr1 hum hins1 p0 p1 p2 p3 p4 lp K2 H0 HO KU
    obtain ⟨p0, p1, p2, p3, p4⟩ := pk5 K3.out.pk
    obtain ⟨a0, a1, a2, a3, a4, a5, a6, a7, a8, a9, a10⟩ := in_cells K3.out.ia
    obtain ⟨b0, b1, b2, b3, b4, b5, b6, b7, b8, b9, b10⟩ := in_cells K3.out.ib
    have lp := heap_lt K3.out.pk
    have la := heap_lt K3.out.ia
    have lb := heap_lt K3.out.ib
    have D1 : Makes Tryd.prog w1 10 #[pkV ao l.length cap e0 e1 raw dup] (.int .i64 (checkP ⟨l, e0, e1, raw, dup⟩)) := fun z hz => (check_any ao cap l e0 e1 raw dup z (HT.out.made (Made.trans K3.out.made hz)) (insts_made H.out (Made.trans K3.out.made hz))).mono fun _ _ ⟨he, hm⟩ => ⟨he, Made.trans hz hm⟩
    have D2 : Makes Tryd.prog w1 12 #[pkV ao l.length cap e0 e1 raw dup] (.int .i64 (checkP ⟨l, e0, e1, raw, dup⟩)) := fun z hz => (rcheck_any ao cap l e0 e1 raw dup z (insts_made H.out (Made.trans K3.out.made hz))).mono fun _ _ ⟨he, hm⟩ => ⟨he, Made.trans hz hm⟩
    have D3 := clash_any w1 (HT.out.made K3.out.made) a b HAS.out HBS.out
    have D4 := rclash_any a b HAS.out HBS.out w1
    have DA := Lib.hid D1
    have DB := Lib.hid D2
    have DC := Lib.hid D3
    have DD := Lib.hid D4
    clear D1 D2 D3 D4
    generalize checkP ⟨l, e0, e1, raw, dup⟩ = cv at *
    generalize clashP a b = cb at *
    have g0 := fun d os => cell_regrown p0 d os
    have g1 := fun d os => cell_regrown p1 d os
    have g2 := fun d os => cell_regrown p2 d os
    have g3 := fun d os => cell_regrown p3 d os
    have g4 := fun d os => cell_regrown p4 d os
    have r0 := fun d os => cell_regrown a0 d os
    have t0 := fun d os => cell_regrown b0 d os
    have r1 := fun d os => cell_regrown a1 d os
    have t1 := fun d os => cell_regrown b1 d os
    have r2 := fun d os => cell_regrown a2 d os
    have t2 := fun d os => cell_regrown b2 d os
    have r3 := fun d os => cell_regrown a3 d os
    have t3 := fun d os => cell_regrown b3 d os
    have r4 := fun d os => cell_regrown a4 d os
    have t4 := fun d os => cell_regrown b4 d os
    have r5 := fun d os => cell_regrown a5 d os
    have t5 := fun d os => cell_regrown b5 d os
    have r6 := fun d os => cell_regrown a6 d os
    have t6 := fun d os => cell_regrown b6 d os
    have r7 := fun d os => cell_regrown a7 d os
    have t7 := fun d os => cell_regrown b7 d os
    have r8 := fun d os => cell_regrown a8 d os
    have t8 := fun d os => cell_regrown b8 d os
    have r9 := fun d os => cell_regrown a9 d os
    have t9 := fun d os => cell_regrown b9 d os
    have r10 := fun d os => cell_regrown a10 d os
    have t10 := fun d os => cell_regrown b10 d os
    have hne : (cv != cv) = false := by simp
    refine wp_region_quiet_below (by kernel_rfl) (by kernel_rfl) ?_
    repeat (go_big_quiet_step ((first
      | (go_at_call 10; with_reducible exact DA.out.again _ _)
      | (go_at_call 12; with_reducible exact DB.out.again _ _)
      | (go_at_call 13; with_reducible exact DC.out.again _ _)
      | (go_at_call 14; with_reducible exact DD.out.again _ _))))
    refine wpQuiet_nil ?_
    intro z3 hw9
    have K4 := Lib.hid (K3.out.next (made_regrown hw9))
    have I4 := Lib.hid (insts_made I1.out (made_regrown hw9))
    clear hw9 g0 p0 g1 p1 g2 p2 g3 p3 g4 p4 r0 t0 a0 b0 r1 t1 a1 b1 r2 t2 a2 b2 r3 t3 a3 b3 r4 t4 a4 b4 r5 t5 a5 b5 r6 t6 a6 b6 r7 t7 a7 b7 r8 t8 a8 b8 r9 t9 a9 b9 r10 t10 a10 b10 lp la lb hne DA DB DC DD K3 I1
    go_wp2_with (fail)
    go_loopw [8] (fun x wr => ∃ k : Nat, k ≤ l.length ∧ x = .int .i64 k ∧ Made z3 wr) (fun x _ => l.length - (intOf x).toNat)
    case atStart => exact ⟨0, by omega, rfl, Made.refl _⟩
    case round =>
      obtain ⟨k, hk, rfl, hm⟩ := hrel
      have K5 := Lib.hid (K4.out.next hm)
      have I5 := Lib.hid (insts_made I4.out hm)
      have KM := Lib.hid hm
      clear hm
      by_cases hlt : k < l.length
      · obtain ⟨x, hx⟩ : ∃ x, l[k] = x := ⟨_, rfl⟩
        obtain ⟨p0, p1, p2, p3, p4⟩ := pk5 K5.out.pk
        have lp := heap_lt K5.out.pk
        obtain ⟨b, o, rfl, c0, c1, c2, c3, c4, c5, c6, c7, c8, c9, c10⟩ := insts_cells (insts_made H.out K5.out.made) hlt x hx
        obtain ⟨b2, o2, rfl, d0, d1, d2, d3, d4, d5, d6, d7, d8, d9, d10⟩ := insts_cells I5.out hlt x hx
        have hop := run_neq_same x
        clear hx
        go_upto_region 9 with (fail)
        go_quiet (fail)
        rename_i nq
        go_wp2
        go_roundw
        case rel => exact ⟨k + 1, by omega, by go_num, below_drewN KM.out _⟩
        case measure => simp [intOf]; omega
      · go_wp2_with (fail)
        refine (HA.out _ K5.out.made).mono ?_
        rintro e w3 ⟨rfl, hm3⟩
        have K6 := Lib.hid hm3
        clear hm3
        go_wp2
        go_ret
        exact ⟨rfl, K6.out⟩
end
end rulesTells
end
end Go.Proofs.YtdaildmoodfocaaDoor
