/- InstTurned of the laws of inst returns true, for every instruction and every number, in every world that holds the table of names. -/
import Derived.Test.YtkmnndiciihefaaDoorInstLaws
import Derived.Test.YtkmnndiciihefaaDoorInstTurn
import Derived.Deep.RegionHeld3
import Derived.Deep.DrawnRows
import Derived.Deep.CutBlock
import Derived.Deep.CutRange
namespace Go.Proofs.YtkmnndiciihefaaDoor
open Go.ChangeShapes Go.WideShapes Go.ChangeAt Go.RowKit Go.Sort BigFrame

theorem atIn_has (l : List Fd) (low k : Int) : (atIn l low k).isSome = hasB l k := by
  induction l generalizing low with
  | nil => rfl
  | cons f r ih =>
    unfold atIn
    by_cases h : f.kind = k
    · rw [if_pos h]; simp [hasB, h]
    · rw [if_neg h, ih]
      have : (f.kind == k) = false := beq_eq_false_iff_ne.2 h
      simp [hasB, this]
theorem atB_has {op : Int} (h0 : 1 ≤ op) (h1 : op ≤ 31) (k : Int) : atB (opN op) k = hasB (fieldsZ op) k := by
  have : opN op = op := by unfold opN isOp; rw [if_pos (by simp; omega)]
  rw [this]
  exact atIn_has _ _ _
namespace instTurned
def keysL : List Value := [.int .u8 5, .int .u8 6, .int .u8 7, .int .u8 8, .int .u8 11]
/-- What stands in each round: the instruction, the kinds. -/
structure Rel (w : World) (B K : Nat) (x : In) (wr : World) : Prop where
  made : Made w wr
  in_ : InAt wr B x
  keys : ∃ T, wr.heap[K]? = some (.cells keysL.toArray T (0, 0))
theorem Rel.made' {w wr w' : World} {B K : Nat} {x : In} (h : Rel w B K x wr) (hm : Made wr w') : Rel w B K x w' := by
  obtain ⟨h1, h2, T, h3⟩ := h
  exact ⟨Made.trans h1 hm, hm.heap h2, T, hm.heap h3⟩
/-- What the drawn region reads. -/
abbrev Reads (B K k : Nat) (op kd : Int) (w : World) : Prop := w.cell? ⟨B, 0, none⟩ = some (.int .u8 op) ∧ w.cell? ⟨K, k, none⟩ = some (.int .u8 kd)
theorem reads_made {B K k : Nat} {op kd : Int} {w w' : World} (h : Reads B K k op kd w) (hm : Made w w') (hB : B < w.heap.size) (hK : K < w.heap.size) : Reads B K k op kd w' :=
  ⟨((bcell hm).1 B 0 hB).trans h.1, ((bcell hm).1 K k hK).trans h.2⟩
theorem reads_five {B K k F : Nat} {op kd : Int} {w : World} (h : Reads B K k op kd w) (hB : F ≠ B) (hK : F ≠ K) (v0 v1 v2 v3 v4 : Value) :
    Reads B K k op kd (((((w.setCell ⟨F, 0, none⟩ v0).setCell ⟨F, 1, none⟩ v1).setCell ⟨F, 2, none⟩ v2).setCell ⟨F, 3, none⟩ v3).setCell ⟨F, 4, none⟩ v4) := by
  obtain ⟨h0, h1⟩ := h
  constructor
  · rw [World.cell?_setCell_far _ _ _ _ hB, World.cell?_setCell_far _ _ _ _ hB, World.cell?_setCell_far _ _ _ _ hB, World.cell?_setCell_far _ _ _ _ hB, World.cell?_setCell_far _ _ _ _ hB]; exact h0
  · rw [World.cell?_setCell_far _ _ _ _ hK, World.cell?_setCell_far _ _ _ _ hK, World.cell?_setCell_far _ _ _ _ hK, World.cell?_setCell_far _ _ _ _ hK, World.cell?_setCell_far _ _ _ _ hK]; exact h1
/-- What stands behind the switch. -/
def Turned (W w1 wr : World) (x : In) (k : Nat) (wc : World) : Prop :=
  ∃ (y : In) (kd : Int), Rel W W.heap.size w1.heap.size x wc ∧ InAt wc wr.heap.size y ∧ y.small ∧ keysL[k]? = some (.int .u8 kd) ∧ rightB y = (atB (opN x.op) kd || decide (y = x)) ∧ Made wr wc
section
attribute [local irreducible] World.cell?
attribute [local go_sem ↓] Go.wp_at_zero Go.wp_at_succ
set_option maxRecDepth 100000 in
set_option maxHeartbeats 4000000 in
theorem walk (W : World) (hN : Names W) (x : In) (hx0 : x.small) (tv : Int) (ht0 : 0 ≤ tv) (ht1 : tv < 256) : Calls Tryd.prog 6 #[x.val, .int .u8 tv] W fun e w' => e = .returned (.bool true) ∧ Made W w' := by
  have hx := Lib.hid hx0
  have HM := Lib.hid ((Made.refl W).alloc (Nat.le_refl _) (.cells x.cells.toArray 24))
  have hN0 := hN.made HM.out
  have hop0 := hx0.op0
  clear hx0
  go_enter Tryd.func6, Tryd.ntmps6
  go_wp2_with (fail)
  refine (right_any _ hN0 x hx.out _ (Made.refl _)).mono ?_
  rintro e w1 ⟨rfl, h1⟩
  have i1 : InAt w1 W.heap.size x := h1.heap (heap_alloc_new W _)
  obtain ⟨a0, a1, a2, a3, a4, a5, a6, a7, a8, a9, a10⟩ := in_cells i1
  have hl1 := heap_lt i1
  have I1 := Lib.hid i1
  have H1 := Lib.hid (Made.trans HM.out h1)
  clear h1 i1
  generalize hrb : rightB x = rb at *
  cases rb with
  | false =>
    go_wp2_with (fail)
    refine (awake_any _ (hN.made H1.out) _ (Made.refl _)).mono ?_
    rintro e w2 ⟨rfl, h2⟩
    go_wp2
    go_ret
    exact ⟨rfl, Made.trans H1.out h2⟩
  | true =>
    have hr := Lib.hid hrb
    clear hrb
    by_cases hto : tv = 0
    · have z : (tv == 0) = true := beq_iff_eq.2 hto
      go_wp2_with (fail)
      refine (awake_any _ (hN.made H1.out) _ (Made.refl _)).mono ?_
      rintro e w2 ⟨rfl, h2⟩
      go_wp2
      go_ret
      exact ⟨rfl, Made.trans H1.out h2⟩
    · have z : (tv == 0) = false := beq_eq_false_iff_ne.2 hto
      clear hto
      obtain ⟨ho0, ho1⟩ := right_op hr.out
      go_wp2_with (fail)
      go_loopw [6] (fun i wr => ∃ k : Nat, k ≤ 5 ∧ i = .int .i64 k ∧ Rel W W.heap.size w1.heap.size x wr) (fun i _ => 5 - (intOf i).toNat)
      case atStart => exact ⟨0, Nat.zero_le _, rfl, H1.out.alloc H1.out.size _, (Below.heap_alloc w1 _ _ hl1).trans I1.out, 5, heap_alloc_new w1 _⟩
      case round =>
        obtain ⟨k, hk, rfl, hrel⟩ := hrel
        have HR := Lib.hid hrel
        obtain ⟨hm, hin, T, hkeys⟩ := hrel
        have HMr := Lib.hid hm
        have hlr := heap_lt hin
        have hlk := heap_lt hkeys
        have HI := Lib.hid hin
        have HK := Lib.hid hkeys
        obtain ⟨b0, b1, b2, b3, b4, b5, b6, b7, b8, b9, b10⟩ := in_cells hin
        have hkc : ∀ j, wr.cell? ⟨w1.heap.size, j, none⟩ = keysL[j]? := fun j => cell_of_lit hkeys j
        have q0 : wr.cell? ⟨w1.heap.size, 0, none⟩ = some (.int .u8 5) := hkc 0
        have q1 : wr.cell? ⟨w1.heap.size, 1, none⟩ = some (.int .u8 6) := hkc 1
        have q2 : wr.cell? ⟨w1.heap.size, 2, none⟩ = some (.int .u8 7) := hkc 2
        have q3 : wr.cell? ⟨w1.heap.size, 3, none⟩ = some (.int .u8 8) := hkc 3
        have q4 : wr.cell? ⟨w1.heap.size, 4, none⟩ = some (.int .u8 11) := hkc 4
        clear hm hin hkeys hkc
        by_cases hk5 : k = 5
        · subst hk5
          go_wp2_with (fail)
          refine (awake_any _ (hN.made HMr.out) _ (Made.refl _)).mono ?_
          rintro e w2 ⟨rfl, h2⟩
          go_wp2
          go_ret
          exact ⟨rfl, Made.trans HMr.out h2⟩
        · have hkl : k < 5 := by omega
          have hkd : ∃ kd : Int, keysL[k]? = some (.int .u8 kd) := by
            have hcase : k = 0 ∨ k = 1 ∨ k = 2 ∨ k = 3 ∨ k = 4 := by omega
            rcases hcase with rfl | rfl | rfl | rfl | rfl <;> exact ⟨_, rfl⟩
          obtain ⟨kd, hkd⟩ := hkd
          have hkc : wr.cell? ⟨w1.heap.size, k, none⟩ = some (.int .u8 kd) := (cell_of_lit HK.out k).trans hkd
          have HKD := Lib.hid hkd
          clear hkd q0 q1 q2 q3 q4
          have hki : (0 : Int) ≤ (k : Int) := Int.natCast_nonneg _
          have hki5 : (k : Int) < 5 := by omega
          go_upto_block 2 with (fail)
          go_cut [] from 20 to 76 (fun wc => Turned W w1 wr x k wc)
          case first =>
            have hcase : k = 0 ∨ k = 1 ∨ k = 2 ∨ k = 3 ∨ k = 4 := by omega
            rcases hcase with rfl | rfl | rfl | rfl | rfl
            · have hsm := Lib.hid (setS_small hx.out _ (by omega) (by omega) : (setS x (tv % 32)).small)
              have htr := Lib.hid (show rightB (setS x (tv % 32)) = (atB (opN x.op) 5 || decide (setS x (tv % 32) = x)) by rw [atB_has ho0 ho1]; exact turnS x hx.out (tv % 32) (by omega) (by omega) hr.out)
              obtain rfl : kd = 5 := by have := HKD.out; simp [keysL] at this; omega
              go_wp2
              go_meet
              case rel => exact ⟨setS x (tv % 32), 5, HR.out.made' ((Made.refl wr).alloc (Nat.le_refl _) _), heap_alloc_new wr _, hsm.out, rfl, htr.out, (Made.refl wr).alloc (Nat.le_refl _) _⟩
            · have hsm := Lib.hid (setT_small hx.out _ (by omega) (by omega) : (setT x (tv % 32)).small)
              have htr := Lib.hid (show rightB (setT x (tv % 32)) = (atB (opN x.op) 6 || decide (setT x (tv % 32) = x)) by rw [atB_has ho0 ho1]; exact turnT x hx.out (tv % 32) (by omega) (by omega) hr.out)
              obtain rfl : kd = 6 := by have := HKD.out; simp [keysL] at this; omega
              go_wp2
              go_meet
              case rel => exact ⟨setT x (tv % 32), 6, HR.out.made' ((Made.refl wr).alloc (Nat.le_refl _) _), heap_alloc_new wr _, hsm.out, rfl, htr.out, (Made.refl wr).alloc (Nat.le_refl _) _⟩
            · have hsm := Lib.hid (setN_small hx.out _ (by omega) (by omega) : (setN x (tv % 2)).small)
              have htr := Lib.hid (show rightB (setN x (tv % 2)) = (atB (opN x.op) 7 || decide (setN x (tv % 2) = x)) by rw [atB_has ho0 ho1]; exact turnN x hx.out (tv % 2) (by omega) (by omega) hr.out)
              obtain rfl : kd = 7 := by have := HKD.out; simp [keysL] at this; omega
              go_wp2
              go_meet
              case rel => exact ⟨setN x (tv % 2), 7, HR.out.made' ((Made.refl wr).alloc (Nat.le_refl _) _), heap_alloc_new wr _, hsm.out, rfl, htr.out, (Made.refl wr).alloc (Nat.le_refl _) _⟩
            · have hsm := Lib.hid (setNew_small hx.out _ : (setNew x (tv % 2 == 1)).small)
              have htr := Lib.hid (show rightB (setNew x (tv % 2 == 1)) = (atB (opN x.op) 8 || decide (setNew x (tv % 2 == 1) = x)) by rw [atB_has ho0 ho1]; exact turnNew x hx.out (tv % 2 == 1) hr.out)
              obtain rfl : kd = 8 := by have := HKD.out; simp [keysL] at this; omega
              go_wp2
              go_meet
              case rel => exact ⟨setNew x (tv % 2 == 1), 8, HR.out.made' ((Made.refl wr).alloc (Nat.le_refl _) _), heap_alloc_new wr _, hsm.out, rfl, htr.out, (Made.refl wr).alloc (Nat.le_refl _) _⟩
            · have hsm := Lib.hid (setCount_small hx.out _ (by omega) (by omega) : (setCount x tv).small)
              have htr := Lib.hid (show rightB (setCount x tv) = (atB (opN x.op) 11 || decide (setCount x tv = x)) by rw [atB_has ho0 ho1]; exact turnCount x hx.out tv (by omega) (by omega) hr.out)
              obtain rfl : kd = 11 := by have := HKD.out; simp [keysL] at this; omega
              go_wp2
              go_meet
              case rel => exact ⟨setCount x tv, 11, HR.out.made' ((Made.refl wr).alloc (Nat.le_refl _) _), heap_alloc_new wr _, hsm.out, rfl, htr.out, (Made.refl wr).alloc (Nat.le_refl _) _⟩
          case rest =>
            obtain ⟨y, kd2, hrel2, hiy, hsm, hkd2, htr, hmu⟩ := hcut
            obtain rfl : kd2 = kd := by have := hkd2.symm.trans HKD.out; simpa using this
            generalize wc = u at *
            have HR2 := Lib.hid hrel2
            have HIY := Lib.hid hiy
            have HSm := Lib.hid hsm
            have HTr := Lib.hid htr
            have HMu := Lib.hid hmu
            have hlu := heap_lt hrel2.in_
            have hly := heap_lt hiy
            obtain ⟨T2, hkeys2⟩ := hrel2.keys
            have hlk2 := heap_lt hkeys2
            have hS : Reads W.heap.size w1.heap.size k x.op kd2 u := ⟨(in_cells hrel2.in_).1, (cell_of_lit hkeys2 k).trans hkd2⟩
            have sd : Reads W.heap.size w1.heap.size k x.op kd2 u.drew := reads_made hS (Made.refl u).drew hlu hlk2
            have sa : Reads W.heap.size w1.heap.size k x.op kd2 (u.alloc (.cells fZero.cells.toArray 43)).drew := reads_made hS ((Made.refl u).alloc (Nat.le_refl _) _).drew hlu hlk2
            have SD := Lib.hid sd
            have SA := Lib.hid sa
            have HAt := Lib.hid (fun w' (hm : Made u w') => at_any w' (hN.made (Made.trans HR2.out.made hm)) x.op kd2 hop0 w' (Made.refl w'))
            clear hrel2 hiy hkeys2 hS sd sa hkd2 htr hmu hsm
            go_wp2_with (fail)
            go_region_held3 (fun w' => w'.cell? ⟨W.heap.size, 0, none⟩ = some (.int .u8 x.op) ∧ w'.cell? ⟨w1.heap.size, k, none⟩ = some (.int .u8 kd2))
              ((first
                | exact reads_five ⟨y0, y1⟩ (by omega) (by omega) _ _ _ _ _
                | exact reads_made ⟨y0, y1⟩ ((Made.refl w5).alloc (Nat.le_refl _) _) g1 g2
                | exact ⟨y0, y1⟩
                | exact SD.out
                | exact SA.out
                | go_keep))
              ((first
                | (go_at_call 24; refine (HAt.out u.drew (Made.refl u).drew).mono ?_; intro e w5 h; obtain ⟨rfl, h5⟩ := (show _ ∧ Made _ w5 from h); have hz5 : u.heap.size ≤ w5.heap.size := h5.size; have g1 : W.heap.size < w5.heap.size := (by omega); have g2 : w1.heap.size < w5.heap.size := (by omega); have y0 : w5.cell? ⟨W.heap.size, 0, none⟩ = some (.int .u8 x.op) := ((bcell h5).1 _ 0 hlu).trans SD.out.1; have y1 : w5.cell? ⟨w1.heap.size, k, none⟩ = some (.int .u8 kd2) := ((bcell h5).1 _ k hlk2).trans SD.out.2)
                | (go_at_call 24; refine (HAt.out (u.alloc (.cells fZero.cells.toArray 43)).drew ((Made.refl u).alloc (Nat.le_refl _) _).drew).mono ?_; intro e w5 h; obtain ⟨rfl, h5⟩ := (show _ ∧ Made _ w5 from h); have hz5 : u.heap.size + 1 ≤ w5.heap.size := Nat.le_trans (by simp) h5.size; have g1 : W.heap.size < w5.heap.size := (by omega); have g2 : w1.heap.size < w5.heap.size := (by omega); have y0 : w5.cell? ⟨W.heap.size, 0, none⟩ = some (.int .u8 x.op) := ((bcell h5).1 _ 0 (by simp only [World.size_drew, World.size_alloc]; omega)).trans SA.out.1; have y1 : w5.cell? ⟨w1.heap.size, k, none⟩ = some (.int .u8 kd2) := ((bcell h5).1 _ k (by simp only [World.size_drew, World.size_alloc]; omega)).trans SA.out.2; have hb5 := h5.heap (show ((u.alloc (.cells fZero.cells.toArray 43)).drew).heap[u.heap.size]? = _ from heap_alloc_new u _); obtain ⟨v0, v1, v2, v3, v4⟩ := row_cells hb5; have vz := free_of_lit hb5; have vl := heap_lt hb5)))
            all_goals
              go_upto_region 20 with (fail)
              refine name_world (fun uF => Made u uF) (by
                first
                  | exact (Made.trans (Made.refl u).drew h5).alloc hz5 _
                  | exact vrow_close (Made.trans ((Made.refl u).alloc (Nat.le_refl _) _).drew h5) (Nat.le_refl _) _ _ _ _ _) ?_
              clear h5 hz5 g1 g2 y0 y1
              rintro uF hF
              have iy := hF.heap HIY.out
              have ix := hF.heap HR2.out.in_
              obtain ⟨m0, m1, m2, m3, m4, m5, m6, m7, m8, m9, m10⟩ := in_cells iy
              obtain ⟨n0, n1, n2, n3, n4, n5, n6, n7, n8, n9, n10⟩ := in_cells ix
              have ly := heap_lt iy
              have lx := heap_lt ix
              have IY := Lib.hid iy
              have IX := Lib.hid ix
              have MF := Lib.hid (Made.trans HR2.out.made hF)
              have hRt := right_any uF (hN.made MF.out) y HSm.out uF (Made.refl _)
              rewrite [HTr.out] at hRt
              have hop := run_in_eql y x
              generalize decide (y = x) = d at *
              generalize atB (opN x.op) kd2 = hs at *
              have HRt := Lib.hid hRt
              have HF := Lib.hid hF
              clear iy ix hRt hF
              go_wp2_with (fail)
              refine HRt.out.mono ?_
              rintro e w6 ⟨rfl, h6⟩
              have iy6 := h6.heap IY.out
              have ix6 := h6.heap IX.out
              obtain ⟨o0, o1, o2, o3, o4, o5, o6, o7, o8, o9, o10⟩ := in_cells iy6
              obtain ⟨p0, p1, p2, p3, p4, p5, p6, p7, p8, p9, p10⟩ := in_cells ix6
              have ly6 := heap_lt iy6
              have lx6 := heap_lt ix6
              have H6 := Lib.hid h6
              clear h6 iy6 ix6
              cases hs <;> cases d
              all_goals
                go_wp2
                go_roundw
                case rel => exact ⟨k + 1, by omega, by go_num, HR2.out.made' (Made.trans HF.out H6.out)⟩
                case measure => simp [intOf]; omega
end
end instTurned
end Go.Proofs.YtkmnndiciihefaaDoor
