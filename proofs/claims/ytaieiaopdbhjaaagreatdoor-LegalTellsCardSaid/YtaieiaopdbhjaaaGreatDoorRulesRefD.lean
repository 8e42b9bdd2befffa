/- What excludes of the document's answer for rules returns; two instructions of a call's own. · What Clash of the document's answer for rules returns, for any two instructions. · What count and form of the document's answer for rules return, for any instructions in memory. · What fresh of the document's answer for rules returns, for any instructions in memory. · What Check of the document's answer for rules returns, for any packet. -/
import Derived.Test.YtaieiaopdbhjaaaGreatDoorGRef
import Derived.Test.YtaieiaopdbhjaaaGreatDoorGRules
import Derived.Test.YtaieiaopdbhjaaaGreatDoorGRefB
namespace Go.Proofs.YtaieiaopdbhjaaaGreatDoor
section
open Go.ChangeShapes Go.WideShapes Go.ChangeAt Go.RowKit Go.Sort BigFrame

theorem pair_start {W w : World} (hm : Made W w) (x y : In) : refRight.Two W w.heap.size x y ((w.alloc (.cells x.cells.toArray 34)).alloc (.cells y.cells.toArray 34)) := by
  have m1 := hm.alloc hm.size (.cells x.cells.toArray 34)
  have b1 : (w.alloc (.cells x.cells.toArray 34)).heap[w.heap.size]? = some (.cells x.cells.toArray 34 (0, 0)) := heap_alloc_new w _
  exact ⟨m1.alloc m1.size _, hm.size, (Below.heap_alloc _ _ _ (heap_lt b1)).trans b1, heap_at (by simp)⟩
theorem mode_parts (m : Int) : m = 1 ∨ m = 2 ∨ m = 3 ∨ m = 4 ∨ ((m == 1) = false ∧ (m == 2) = false ∧ (m == 3) = false ∧ (m == 4) = false) := by
  by_cases h1 : m = 1
  · exact .inl h1
  · by_cases h2 : m = 2
    · exact .inr (.inl h2)
    · by_cases h3 : m = 3
      · exact .inr (.inr (.inl h3))
      · by_cases h4 : m = 4
        · exact .inr (.inr (.inr (.inl h4)))
        · exact .inr (.inr (.inr (.inr ⟨beq_eq_false_iff_ne.2 h1, beq_eq_false_iff_ne.2 h2, beq_eq_false_iff_ne.2 h3, beq_eq_false_iff_ne.2 h4⟩)))
section
attribute [local irreducible] World.cell?
set_option maxRecDepth 100000 in
set_option maxHeartbeats 4000000 in
theorem rexcl_any (a b : In) (W : World) : Makes Tryz.prog W 65 #[a.val, b.val] (.bool (exclB a b)) := by
  intro w hm
  have K := Lib.hid (pair_start hm a b)
  obtain ⟨a0, a1, a2, a3, a4, ap, am, a7, a8, a9, a10⟩ := a
  obtain ⟨b0, b1, b2, b3, b4, bp, bm, b7, b8, b9, b10⟩ := b
  clear hm
  rcases mode_parts am with rfl | rfl | rfl | rfl | ⟨h1, h2, h3, h4⟩
  case' inl =>
    by_cases hb : (bm == 2) = true
    case' neg => have hb := Bool.eq_false_iff.2 hb
  case' inr.inl =>
    by_cases hb : (bm == 1) = true
    case' neg => have hb := Bool.eq_false_iff.2 hb
  case' inr.inr.inl =>
    by_cases hb : (bm == 4) = true
    case' neg => have hb := Bool.eq_false_iff.2 hb
  case' inr.inr.inr.inl =>
    by_cases hb : (bm == 3) = true
    case' neg => have hb := Bool.eq_false_iff.2 hb
  all_goals
    go_enter Tryz.func65, Tryz.ntmps65
    go_wp2
    go_ret
    exact ⟨ret_bool (by simp [exclB, *]), K.out.made⟩
end
end
section
open Go.ChangeShapes Go.WideShapes Go.ChangeAt Go.RowKit Go.Sort BigFrame

/-- The instruction writes the register. -/
theorem hit_none {x : Int × Bool} {k : Nat} (h : x.2 = false) : (x.2 && x.1 == (k : Int)) = false := by rw [h]; rfl
/-- Both write one number, at or behind k. -/
def bothB (x y : Int × Bool) (k : Nat) : Bool := x.2 && (y.2 && y.1 == x.1) && decide ((k : Int) ≤ x.1)
theorem both_end {x y : Int × Bool} {k : Nat} (h : x.1 < (k : Int)) : bothB x y k = false := by unfold bothB; rw [decide_eq_false (by omega)]; simp
theorem both_start {x y : Int × Bool} (h : 0 ≤ x.1) : bothB x y 0 = (x.2 && (y.2 && y.1 == x.1)) := by unfold bothB; rw [decide_eq_true (by omega)]; simp
theorem both_next {x y : Int × Bool} {k : Nat} (h : ¬ (x.2 = true ∧ y.2 = true ∧ x.1 = k ∧ y.1 = k)) : bothB x y (k + 1) = bothB x y k := by
  unfold bothB
  by_cases h1 : x.2 = true
  · by_cases h2 : y.2 = true
    · by_cases h3 : y.1 = x.1
      · have h4 : x.1 ≠ k := fun e => h ⟨h1, h2, e, h3.trans e⟩
        by_cases h5 : (k : Int) ≤ x.1
        · rw [decide_eq_true h5, decide_eq_true (by omega)]
        · rw [decide_eq_false h5, decide_eq_false (by omega)]
      · rw [beq_eq_false_iff_ne.2 h3]; simp
    · rw [Bool.eq_false_iff.2 h2]; simp
  · rw [Bool.eq_false_iff.2 h1]; simp
section
attribute [local irreducible] World.cell?
set_option maxRecDepth 100000 in
set_option maxHeartbeats 8000000 in
theorem rclash_any (a b : In) (ha : a.small) (hb : b.small) (W : World) : Makes Tryz.prog W 41 #[a.val, b.val] (.bool (clashP a b)) := by
  intro w hm
  have K := Lib.hid (pair_start hm a b)
  have hBW := hm.size
  have RA := Lib.hid (fun u => rwrites_any a ha u u (Made.refl u))
  have RB := Lib.hid (fun u => rwrites_any b hb u u (Made.refl u))
  have PA := Lib.hid (fun u => rwritesPred_any a ha u u (Made.refl u))
  have PB := Lib.hid (fun u => rwritesPred_any b hb u u (Made.refl u))
  have XX := Lib.hid (fun u => rexcl_any a b u u (Made.refl u))
  have HV := Lib.hid (show clashP a b = ((bothB (writesP a) (writesP b) 0 && !exclB a b) || bothB (wpredP a) (wpredP b) 0) by
    rw [both_start (writes_range ha).1, both_start (wpred_range ha).1]; rfl)
  obtain ⟨wr0, wr1⟩ := writes_range ha
  obtain ⟨pr0, pr1⟩ := wpred_range ha
  generalize writesP a = xa at *
  generalize writesP b = xb at *
  generalize wpredP a = pa at *
  generalize wpredP b = pb at *
  generalize exclB a b = ex at *
  obtain ⟨x, xo⟩ := xa
  obtain ⟨y, yo⟩ := xb
  obtain ⟨p, po⟩ := pa
  obtain ⟨q, qo⟩ := pb
  simp only [] at wr0 wr1 pr0 pr1
  clear hm ha hb
  go_enter Tryz.func41, Tryz.ntmps41
  go_wp2_with (fail)
  go_loopw [5] (fun v wr => ∃ k : Nat, k ≤ 32 ∧ v = .int .u8 k ∧ refRight.Two W w.heap.size a b wr ∧ (bothB (x, xo) (y, yo) k && !ex) = (bothB (x, xo) (y, yo) 0 && !ex)) (fun v _ => 32 - (intOf v).toNat)
  case atStart => exact ⟨0, by omega, rfl, K.out, rfl⟩
  case round =>
    obtain ⟨k, hk, rfl, hT, hbo⟩ := hrel
    have KT := Lib.hid hT
    have KB := Lib.hid hbo
    clear hT hbo K
    obtain ⟨a0, a1, a2, a3, a4, a5, a6, a7, a8, a9, a10⟩ := in_cells KT.out.in_
    have la := heap_lt KT.out.in_
    by_cases hlt : k < 32
    · go_wp2_with (fail)
      refine (RA.out _).mono ?_
      rintro e w1 ⟨rfl, h1⟩
      have K1 := Lib.hid (KT.out.next h1)
      clear h1 a0 a1 a2 a3 a4 a5 a6 a7 a8 a9 a10
      obtain ⟨b0, b1, b2, b3, b4, b5, b6, b7, b8, b9, b10⟩ := in_cells K1.out.is_
      have lb := heap_lt K1.out.is_
      go_wp2_with (fail)
      refine (RB.out _).mono ?_
      rintro e w2 ⟨rfl, h2⟩
      have K2 := Lib.hid (K1.out.next h2)
      clear h2 b0 b1 b2 b3 b4 b5 b6 b7 b8 b9 b10 K1
      cases xo with
      | false =>
        have KN := Lib.hid (show (bothB (x, false) (y, yo) (k + 1) && !ex) = (bothB (x, false) (y, yo) 0 && !ex) by rw [both_next (by simp)]; exact KB.out)
        go_wp2
        go_roundw
        case rel => exact ⟨k + 1, by omega, by go_num, K2.out, KN.out⟩
        case measure => simp [intOf]; omega
      | true =>
        cases yo with
        | false =>
          have KN := Lib.hid (show (bothB (x, true) (y, false) (k + 1) && !ex) = (bothB (x, true) (y, false) 0 && !ex) by rw [both_next (by simp)]; exact KB.out)
          go_wp2
          go_roundw
          case rel => exact ⟨k + 1, by omega, by go_num, K2.out, KN.out⟩
          case measure => simp [intOf]; omega
        | true =>
          by_cases hx : x = (k : Int)
          · by_cases hy : y = (k : Int)
            · have hxb : (x == (k : Int)) = true := beq_iff_eq.2 hx
              have hyb : (y == (k : Int)) = true := beq_iff_eq.2 hy
              have HB := Lib.hid (show bothB (x, true) (y, true) k = true by unfold bothB; simp [hx, hy])
              obtain ⟨a0, a1, a2, a3, a4, a5, a6, a7, a8, a9, a10⟩ := in_cells K2.out.in_
              obtain ⟨b0, b1, b2, b3, b4, b5, b6, b7, b8, b9, b10⟩ := in_cells K2.out.is_
              have la := heap_lt K2.out.in_
              have lb := heap_lt K2.out.is_
              clear hx hy
              go_wp2_with (fail)
              refine (XX.out _).mono ?_
              rintro e w3 ⟨rfl, h3⟩
              have K3 := Lib.hid (K2.out.next h3)
              clear h3 a0 a1 a2 a3 a4 a5 a6 a7 a8 a9 a10 b0 b1 b2 b3 b4 b5 b6 b7 b8 b9 b10
              cases ex with
              | true =>
                have KN := Lib.hid (show (bothB (x, true) (y, true) (k + 1) && !true) = (bothB (x, true) (y, true) 0 && !true) by simp)
                go_wp2
                go_roundw
                case rel => exact ⟨k + 1, by omega, by go_num, K3.out, KN.out⟩
                case measure => simp [intOf]; omega
              | false =>
                have KR := Lib.hid (show clashP a b = true by
                  have h := KB.out
                  rw [HB.out] at h
                  rw [HV.out, ← h]
                  rfl)
                go_wp2
                go_ret
                exact ⟨ret_bool KR.out.symm, K3.out.made⟩
            · have KN := Lib.hid (show (bothB (x, true) (y, true) (k + 1) && !ex) = (bothB (x, true) (y, true) 0 && !ex) by rw [both_next (fun h => hy h.2.2.2)]; exact KB.out)
              have hxb : (x == (k : Int)) = true := beq_iff_eq.2 hx
              have hyb : (y == (k : Int)) = false := beq_eq_false_iff_ne.2 hy
              clear hx hy
              go_wp2
              go_roundw
              case rel => exact ⟨k + 1, by omega, by go_num, K2.out, KN.out⟩
              case measure => simp [intOf]; omega
          · have KN := Lib.hid (show (bothB (x, true) (y, true) (k + 1) && !ex) = (bothB (x, true) (y, true) 0 && !ex) by rw [both_next (fun h => hx h.2.2.1)]; exact KB.out)
            have hxb : (x == (k : Int)) = false := beq_eq_false_iff_ne.2 hx
            clear hx
            go_wp2
            go_roundw
            case rel => exact ⟨k + 1, by omega, by go_num, K2.out, KN.out⟩
            case measure => simp [intOf]; omega
    · have hk32 : 32 ≤ k := by omega
      have HV2 := Lib.hid (show clashP a b = bothB (p, po) (q, qo) 0 by
        have h := KB.out
        rw [both_end (show x < (k : Int) by omega)] at h
        rw [HV.out, ← h]
        simp)
      clear a0 a1 a2 a3 a4 a5 a6 a7 a8 a9 a10 la
      go_wp2_with (fail)
      go_loopw [10] (fun v wr => ∃ k : Nat, k ≤ 4 ∧ v = .int .u8 k ∧ refRight.Two W w.heap.size a b wr ∧ bothB (p, po) (q, qo) k = bothB (p, po) (q, qo) 0) (fun v _ => 4 - (intOf v).toNat)
      case atStart => exact ⟨0, by omega, rfl, KT.out, rfl⟩
      case round =>
        obtain ⟨k, hk, rfl, hT, hbo⟩ := hrel
        have KT := Lib.hid hT
        have KB := Lib.hid hbo
        clear hT hbo
        by_cases hlt : k < 4
        · obtain ⟨a0, a1, a2, a3, a4, a5, a6, a7, a8, a9, a10⟩ := in_cells KT.out.in_
          have la := heap_lt KT.out.in_
          go_wp2_with (fail)
          refine (PA.out _).mono ?_
          rintro e w1 ⟨rfl, h1⟩
          have K1 := Lib.hid (KT.out.next h1)
          clear h1 a0 a1 a2 a3 a4 a5 a6 a7 a8 a9 a10 la
          obtain ⟨b0, b1, b2, b3, b4, b5, b6, b7, b8, b9, b10⟩ := in_cells K1.out.is_
          have lb := heap_lt K1.out.is_
          go_wp2_with (fail)
          refine (PB.out _).mono ?_
          rintro e w2 ⟨rfl, h2⟩
          have K2 := Lib.hid (K1.out.next h2)
          clear h2 b0 b1 b2 b3 b4 b5 b6 b7 b8 b9 b10 K1 lb
          cases po with
          | false =>
            have KN := Lib.hid (show bothB (p, false) (q, qo) (k + 1) = bothB (p, false) (q, qo) 0 by rw [both_next (by simp)]; exact KB.out)
            go_wp2
            go_roundw
            case rel => exact ⟨k + 1, by omega, by go_num, K2.out, KN.out⟩
            case measure => simp [intOf]; omega
          | true =>
            cases qo with
            | false =>
              have KN := Lib.hid (show bothB (p, true) (q, false) (k + 1) = bothB (p, true) (q, false) 0 by rw [both_next (by simp)]; exact KB.out)
              go_wp2
              go_roundw
              case rel => exact ⟨k + 1, by omega, by go_num, K2.out, KN.out⟩
              case measure => simp [intOf]; omega
            | true =>
              by_cases hx : p = (k : Int)
              · by_cases hy : q = (k : Int)
                · have hxb : (p == (k : Int)) = true := beq_iff_eq.2 hx
                  have hyb : (q == (k : Int)) = true := beq_iff_eq.2 hy
                  have HB := Lib.hid (show bothB (p, true) (q, true) k = true by unfold bothB; simp [hx, hy])
                  have KR := Lib.hid (show clashP a b = true by rw [HV2.out, ← KB.out, HB.out])
                  clear hx hy
                  go_wp2
                  go_ret
                  exact ⟨ret_bool KR.out.symm, K2.out.made⟩
                · have KN := Lib.hid (show bothB (p, true) (q, true) (k + 1) = bothB (p, true) (q, true) 0 by rw [both_next (fun h => hy h.2.2.2)]; exact KB.out)
                  have hxb : (p == (k : Int)) = true := beq_iff_eq.2 hx
                  have hyb : (q == (k : Int)) = false := beq_eq_false_iff_ne.2 hy
                  clear hx hy
                  go_wp2
                  go_roundw
                  case rel => exact ⟨k + 1, by omega, by go_num, K2.out, KN.out⟩
                  case measure => simp [intOf]; omega
              · have KN := Lib.hid (show bothB (p, true) (q, true) (k + 1) = bothB (p, true) (q, true) 0 by rw [both_next (fun h => hx h.2.2.1)]; exact KB.out)
                have hxb : (p == (k : Int)) = false := beq_eq_false_iff_ne.2 hx
                clear hx
                go_wp2
                go_roundw
                case rel => exact ⟨k + 1, by omega, by go_num, K2.out, KN.out⟩
                case measure => simp [intOf]; omega
        · obtain rfl : k = 4 := by omega
          have KR := Lib.hid (show clashP a b = false by rw [HV2.out, ← KB.out, both_end (by exact pr1)])
          go_wp2
          go_ret
          exact ⟨ret_bool KR.out.symm, KT.out.made⟩
end
end
section
open Go.ChangeShapes Go.WideShapes Go.ChangeAt Go.RowKit Go.Sort BigFrame

theorem count_next (l : List In) (c : Int) {k : Nat} (h : k < l.length) : countC (l.take (k + 1)) c = countC (l.take k) c + if classP l[k] == c then 1 else 0 := by
  unfold countC
  rw [List.take_succ_eq_append_getElem h, List.countP_append]
  simp [List.countP_cons]
theorem count_le (l : List In) (c : Int) (k : Nat) : countC (l.take k) c ≤ k := Nat.le_trans List.countP_le_length (by rw [List.length_take]; omega)
section
attribute [local irreducible] World.cell?
set_option maxRecDepth 100000 in
set_option maxHeartbeats 2000000 in
theorem rcount_any (ao : Option Addr) (cap : Nat) (l : List In) (c : Int) (w : World) (hI : Insts w ao cap l) (hl : l.length ≤ 1000) :
    Calls Tryz.prog 40 #[.slice ao l.length cap, .int .u8 c] w fun e w' => e = .returned (.int .i64 (countC l c : Nat)) ∧ w = w' := by
  go_enter Tryz.func40, Tryz.ntmps40
  go_wp2_with (fail)
  go_loopw [5, 6] (fun n i wr => ∃ k : Nat, k ≤ l.length ∧ n = .int .i64 (countC (l.take k) c : Nat) ∧ i = .int .i64 k ∧ wr = w) (fun _ i _ => l.length - (intOf i).toNat)
  case atStart => exact ⟨0, Nat.zero_le _, rfl, rfl, rfl⟩
  case round =>
    obtain ⟨k, hk, rfl, rfl, rfl⟩ := hrel
    have hcl := count_le l c k
    by_cases hlt : k < l.length
    · obtain ⟨x, hx⟩ : ∃ x, l[k] = x := ⟨_, rfl⟩
      obtain ⟨b, o, rfl, c0, -⟩ := insts_cells hI hlt x hx
      have hsm := hI.small x (hx ▸ List.getElem_mem hlt)
      have CC := Lib.hid (class_ref x.op hsm.op0 hsm.op1)
      have hn := count_next l c hlt
      rewrite [hx] at hn
      have HN := Lib.hid (show countC (l.take (k + 1)) c = countC (l.take k) c + if classP x == c then 1 else 0 from hn)
      have hcp : classZ (opN x.op) = classP x := rfl
      rewrite [hcp] at CC
      clear hn hcp hx hsm
      generalize countC (l.take k) c = n at *
      cases hh : (classP x == c) with
      | true =>
        have HN2 := Lib.hid (show countC (l.take (k + 1)) c = n + 1 by rw [HN.out, hh]; rfl)
        clear HN
        go_wp2_with (go_at_call 54; refine (CC.out _).mono ?_; rintro e w' ⟨rfl, rfl⟩)
        go_roundw
        case rel => exact ⟨k + 1, by omega, by rw [HN2.out]; go_num, by go_num, trivial⟩
        case measure => simp [intOf]; omega
      | false =>
        have HN2 := Lib.hid (show countC (l.take (k + 1)) c = n by rw [HN.out, hh]; rfl)
        clear HN
        go_wp2_with (go_at_call 54; refine (CC.out _).mono ?_; rintro e w' ⟨rfl, rfl⟩)
        go_roundw
        case rel => exact ⟨k + 1, by omega, by rw [HN2.out], by go_num, trivial⟩
        case measure => simp [intOf]; omega
    · obtain rfl : k = l.length := by omega
      have e := List.take_length (l := l)
      have HE := Lib.hid e
      clear e
      go_wp2
      go_ret
      exact ⟨ret_int (by rw [HE.out]), rfl⟩
end
/-- A packet's variable, kept. -/
structure PkAt (W : World) (B : Nat) (cs : List Value) (w : World) : Prop where
  made : Made W w
  at_ : w.heap[B]? = some (.cells cs.toArray 24 (0, 0))
theorem PkAt.next {W w w' : World} {B : Nat} {cs : List Value} (h : PkAt W B cs w) (hm : Made w w') : PkAt W B cs w' := ⟨Made.trans h.made hm, hm.heap h.at_⟩
theorem pk_start {W w : World} (hm : Made W w) (cs : List Value) : PkAt W w.heap.size cs (w.alloc (.cells cs.toArray 24)) := ⟨hm.alloc hm.size _, heap_alloc_new w _⟩
abbrev pkL (ao : Option Addr) (n cap : Nat) (e0 e1 raw dup : Bool) : List Value := [.slice ao n cap, .bool e0, .bool e1, .bool raw, .bool dup]
theorem pk_cells {W w : World} {B : Nat} {ao : Option Addr} {n cap : Nat} {e0 e1 raw dup : Bool} (h : PkAt W B (pkL ao n cap e0 e1 raw dup) w) :
    w.cell? ⟨B, 0, none⟩ = some (.slice ao n cap) ∧ w.cell? ⟨B, 1, none⟩ = some (.bool e0) ∧ w.cell? ⟨B, 2, none⟩ = some (.bool e1) ∧ w.cell? ⟨B, 3, none⟩ = some (.bool raw) ∧ w.cell? ⟨B, 4, none⟩ = some (.bool dup) :=
  ⟨cell_of_lit h.at_ 0, cell_of_lit h.at_ 1, cell_of_lit h.at_ 2, cell_of_lit h.at_ 3, cell_of_lit h.at_ 4⟩
theorem all_next (l : List In) (f : In → Bool) {k : Nat} (h : k < l.length) : (l.take (k + 1)).all f = ((l.take k).all f && f l[k]) := by
  rw [List.take_succ_eq_append_getElem h, List.all_append]
  simp
theorem all_false (l : List In) (f : In → Bool) {k : Nat} (h : k < l.length) (hf : f l[k] = false) : l.all f = false := by
  rw [List.all_eq_false]
  exact ⟨l[k], List.getElem_mem h, by rw [hf]; simp⟩
section
attribute [local irreducible] World.cell?
set_option maxRecDepth 100000 in
set_option maxHeartbeats 4000000 in
theorem rform_any (ao : Option Addr) (cap : Nat) (l : List In) (e0 e1 raw dup : Bool) (w : World) (hI : Insts w ao cap l) :
    Calls Tryz.prog 39 #[pkV ao l.length cap e0 e1 raw dup] w fun e w' => e = .returned (.bool (formB ⟨l, e0, e1, raw, dup⟩)) ∧ Made w w' := by
  have K := Lib.hid (pk_start (Made.refl w) (pkL ao l.length cap e0 e1 raw dup))
  have hmax := hI.max
  have hroom := hI.room
  unfold maxLen at hmax
  have H := Lib.hid hI
  have HV := Lib.hid (show formB ⟨l, e0, e1, raw, dup⟩ = (l.length != 0 && decide (l.length ≤ 4) && !(raw && dup) && l.all rightB) from rfl)
  clear hI
  by_cases h0 : l.length = 0
  · have hb : ((l.length : Int) == 0) = true := beq_iff_eq.2 (by omega)
    have HR := Lib.hid (show formB ⟨l, e0, e1, raw, dup⟩ = false by rw [HV.out, h0]; rfl)
    clear h0
    go_enter Tryz.func39, Tryz.ntmps39
    go_wp2
    go_ret
    exact ⟨ret_bool HR.out.symm, K.out.made⟩
  · have hb : ((l.length : Int) == 0) = false := beq_eq_false_iff_ne.2 (by omega)
    by_cases h4 : 4 < l.length
    · have HR := Lib.hid (show formB ⟨l, e0, e1, raw, dup⟩ = false by rw [HV.out, decide_eq_false (show ¬ l.length ≤ 4 by omega)]; simp)
      clear h0
      go_enter Tryz.func39, Tryz.ntmps39
      go_wp2
      go_ret
      exact ⟨ret_bool HR.out.symm, K.out.made⟩
    · cases hrd : (raw && dup) with
      | true =>
        have HR := Lib.hid (show formB ⟨l, e0, e1, raw, dup⟩ = false by rw [HV.out, hrd]; simp)
        simp only [Bool.and_eq_true] at hrd
        obtain ⟨rfl, rfl⟩ := hrd
        clear h0
        go_enter Tryz.func39, Tryz.ntmps39
        go_wp2
        go_ret
        exact ⟨ret_bool HR.out.symm, K.out.made⟩
      | false =>
        have HR := Lib.hid (show formB ⟨l, e0, e1, raw, dup⟩ = l.all rightB by
          rw [HV.out, hrd, decide_eq_true (show l.length ≤ 4 by omega), bne_iff_ne.2 h0]; rfl)
        have hroad : ∀ Q : Prop, (raw = false → Q) → (raw = true → dup = false → Q) → Q := fun Q h1 h2 => by
          cases raw with
          | false => exact h1 rfl
          | true => exact h2 rfl (by simpa using hrd)
        clear h0 hrd
        refine hroad _ (fun hr => ?_) (fun hr hd => ?_)
        all_goals
          subst hr
          try subst hd
          clear hroad
          go_enter Tryz.func39, Tryz.ntmps39
          go_wp2_with (fail)
          go_loopw [3] (fun x wr => ∃ k : Nat, k ≤ l.length ∧ x = .int .i64 k ∧ (l.take k).all rightB = true ∧ PkAt w w.heap.size (pkL ao l.length cap e0 e1 _ _) wr) (fun x _ => l.length - (intOf x).toNat)
          case atStart => exact ⟨0, by omega, rfl, by simp, K.out⟩
          case round =>
            obtain ⟨k, hk, rfl, hall, hP⟩ := hrel
            have KP := Lib.hid hP
            have KA := Lib.hid hall
            clear hP hall
            obtain ⟨p0, p1, p2, p3, p4⟩ := pk_cells KP.out
            have lp := heap_lt KP.out.at_
            by_cases hlt : k < l.length
            · obtain ⟨x, hx⟩ : ∃ x, l[k] = x := ⟨_, rfl⟩
              obtain ⟨b, o, rfl, c0, c1, c2, c3, c4, c5, c6, c7, c8, c9, c10⟩ := insts_cells (insts_made H.out KP.out.made) hlt x hx
              have HRx := Lib.hid (rright_any x (H.out.small x (hx ▸ List.getElem_mem hlt)) wr wr (Made.refl wr))
              have HA2 := Lib.hid (all_next l rightB hlt)
              have HF := Lib.hid (fun h => all_false l rightB hlt h)
              rewrite [hx] at HA2 HF
              clear hx
              go_wp2_with (fail)
              refine HRx.out.mono ?_
              rintro e w2 ⟨rfl, h2⟩
              have K2 := Lib.hid (KP.out.next h2)
              clear h2 p0 p1 p2 p3 p4 lp c0 c1 c2 c3 c4 c5 c6 c7 c8 c9 c10
              cases hrx : rightB x with
              | true =>
                have KN := Lib.hid (show (l.take (k + 1)).all rightB = true by rw [HA2.out, KA.out, hrx]; rfl)
                clear hrx
                go_wp2
                go_roundw
                case rel => exact ⟨k + 1, by omega, by go_num, KN.out, K2.out⟩
                case measure => simp [intOf]; omega
              | false =>
                have KN := Lib.hid (HF.out hrx)
                clear hrx
                go_wp2
                go_ret
                exact ⟨ret_bool (by rw [HR.out, KN.out]), K2.out.made⟩
            · obtain rfl : k = l.length := by omega
              have KN := Lib.hid (show l.all rightB = true by have h := KA.out; rwa [List.take_length] at h)
              go_wp2
              go_ret
              exact ⟨ret_bool (by rw [HR.out, KN.out]), KP.out.made⟩
end
end
section
open Go.ChangeShapes Go.WideShapes Go.ChangeAt Go.RowKit Go.Sort BigFrame

def bump (n : Nat) (b : Bool) : Nat := if b then n + 1 else n
theorem countP_next (l : List In) (f : In → Bool) {k : Nat} (h : k < l.length) : (l.take (k + 1)).countP f = bump ((l.take k).countP f) (f l[k]) := by
  rw [List.take_succ_eq_append_getElem h, List.countP_append]
  unfold bump
  cases hf : f l[k] <;> simp [hf]
theorem countP_le' (l : List In) (f : In → Bool) (k : Nat) : (l.take k).countP f ≤ k := Nat.le_trans List.countP_le_length (by rw [List.length_take]; omega)
theorem three (a b : Bool) : a = false ∨ (a = true ∧ b = false) ∨ (a = true ∧ b = true) := by cases a <;> cases b <;> simp
theorem sets_count (l : List In) (p : Int) : setsB l p = ((l.countP fun y => setB y p) != 0) := by
  unfold setsB
  cases h : l.any fun y => setB y p with
  | true =>
    obtain ⟨y, hy, hs⟩ := List.any_eq_true.1 h
    have := (List.countP_pos_iff (p := fun y => setB y p)).2 ⟨y, hy, hs⟩
    exact (bne_iff_ne.2 (by omega)).symm
  | false =>
    have h0 : (l.countP fun y => setB y p) = 0 := by
      rw [List.countP_eq_zero]
      intro y hy hs
      rw [List.any_eq_false] at h
      exact h y hy hs
    rw [h0]; rfl
section
attribute [local irreducible] World.cell?
set_option maxRecDepth 100000 in
set_option maxHeartbeats 16000000 in
theorem rfresh_any (ao : Option Addr) (cap : Nat) (l : List In) (w : World) (hI : Insts w ao cap l) (hl : l.length ≤ 1000) :
    Calls Tryz.prog 42 #[.slice ao l.length cap] w fun e w' => e = .returned (.bool (freshB l)) ∧ Made w w' := by
  have H := Lib.hid hI
  clear hI
  go_enter Tryz.func42, Tryz.ntmps42
  go_wp2_with (fail)
  go_loopw [3] (fun x wr => ∃ i : Nat, i ≤ l.length ∧ x = .int .i64 i ∧ (l.take i).all (freshOne l) = true ∧ Made w wr) (fun x _ => l.length - (intOf x).toNat)
  case atStart => exact ⟨0, by omega, rfl, by simp, Made.refl w⟩
  case round =>
    obtain ⟨i, hi, rfl, hall, hm⟩ := hrel
    have KA := Lib.hid hall
    have KM := Lib.hid hm
    clear hall hm
    by_cases hlt : i < l.length
    · obtain ⟨x, hx⟩ : ∃ x, l[i] = x := ⟨_, rfl⟩
      obtain ⟨b, o, rfl, c0, c1, c2, c3, c4, c5, c6, c7, c8, c9, c10⟩ := insts_cells (insts_made H.out KM.out) hlt x hx
      have HA2 := Lib.hid (all_next l (freshOne l) hlt)
      have HF := Lib.hid (fun h => all_false l (freshOne l) hlt h)
      rewrite [hx] at HA2 HF
      have K0 := Lib.hid (show Own w wr.heap.size x (wr.alloc (.cells x.cells.toArray 34)) from ⟨KM.out.alloc KM.out.size _, heap_alloc_new wr _⟩)
      have hBB : w.heap.size ≤ wr.heap.size := KM.out.size
      generalize hB : wr.heap.size = B at *
      clear hx
      go_upto_region 9 with (fail)
      refine name_world (fun u => Own w B x u) K0.out ?_
      intro u hu
      have KU := Lib.hid hu
      clear hu K0 c0 c1 c2 c3 c4 c5 c6 c7 c8 c9 c10 hB
      go_loopw [5, 6, 7, 8] (fun p1 p2 p3 p4 w2 => ∃ k : Nat, k ≤ l.length ∧ p1 = .int .i64 ((l.take k).countP fun y => setB y x.pred : Nat) ∧ p2 = .int .i64 ((l.take k).countP fun y => regB y x.t : Nat) ∧ p3 = .int .i64 ((l.take k).countP fun y => goodB y x.t : Nat) ∧ p4 = .int .i64 k ∧ Own w B x w2) (fun _ _ _ p4 _ => l.length - (intOf p4).toNat)
      case atStart => exact ⟨0, by omega, rfl, rfl, rfl, rfl, KU.out⟩
      case round =>
        obtain ⟨k, hk, rfl, rfl, rfl, rfl, hown⟩ := hrel
        have KO := Lib.hid hown
        clear hown KU
        have q1 := countP_le' l (fun y => setB y x.pred) k
        have q2 := countP_le' l (fun y => regB y x.t) k
        have q3 := countP_le' l (fun y => goodB y x.t) k
        by_cases hlt2 : k < l.length
        · obtain ⟨y, hy⟩ : ∃ y, l[k] = y := ⟨_, rfl⟩
          have hsm := H.out.small y (hy ▸ List.getElem_mem hlt2)
          have HY := Lib.hid (fun v (hv : Made w v) => insts_cells (insts_made H.out hv) hlt2 y hy)
          have WP := Lib.hid (fun v => rwritesPred_any y hsm v v (Made.refl v))
          have WR := Lib.hid (fun v => rwrites_any y hsm v v (Made.refl v))
          have CL := Lib.hid (fun v => class_ref y.op hsm.op0 hsm.op1 v)
          have n1 := countP_next l (fun y => setB y x.pred) hlt2
          have n2 := countP_next l (fun y => regB y x.t) hlt2
          have n3 := countP_next l (fun y => goodB y x.t) hlt2
          rewrite [hy] at n1 n2 n3
          have HN1 := Lib.hid (show ((l.take (k + 1)).countP fun y => setB y x.pred) = bump ((l.take k).countP fun y => setB y x.pred) ((wpredP y).2 && (wpredP y).1 == x.pred) from n1)
          have HN2 := Lib.hid (show ((l.take (k + 1)).countP fun y => regB y x.t) = bump ((l.take k).countP fun y => regB y x.t) ((writesP y).2 && (writesP y).1 == x.t) from n2)
          have HN3 := Lib.hid (show ((l.take (k + 1)).countP fun y => goodB y x.t) = bump ((l.take k).countP fun y => goodB y x.t) ((writesP y).2 && (writesP y).1 == x.t && (classP y == 1 || classP y == 2) && y.mode == 0) from n3)
          have hcp : classZ (opN y.op) = classP y := rfl
          rewrite [hcp] at CL
          clear n1 n2 n3 hcp hsm hy
          generalize wpredP y = pp at *
          generalize writesP y = ww at *
          generalize classP y = cc at *
          generalize (l.take k).countP (fun y => setB y x.pred) = P at *
          generalize (l.take k).countP (fun y => regB y x.t) = R at *
          generalize (l.take k).countP (fun y => goodB y x.t) = G at *
          obtain ⟨p, po⟩ := pp
          obtain ⟨r, ro⟩ := ww
          obtain ⟨b2, o2, e2, d0, d1, d2, d3, d4, d5, d6, d7, d8, d9, d10⟩ := HY.out _ KO.out.made
          obtain ⟨rfl, rfl⟩ : b = b2 ∧ o = o2 := by simpa using e2
          go_wp2_with (fail)
          refine (WP.out _).mono ?_
          rintro e w3 ⟨rfl, h3⟩
          have K3 := Lib.hid (KO.out.next h3)
          clear h3 e2 d0 d1 d2 d3 d4 d5 d6 d7 d8 d9 d10
          have hw1 := three po (p == x.pred)
          have hw2 := three ro (r == x.t)
          have hw3 : (cc == 1) = true ∨ ((cc == 1) = false ∧ (cc == 2) = true) ∨ ((cc == 1) = false ∧ (cc == 2) = false) := by cases (cc == 1) <;> cases (cc == 2) <;> simp
          have hw4 : (y.mode == 0) = true ∨ (y.mode == 0) = false := by cases (y.mode == 0) <;> simp
          rcases hw1 with rfl | ⟨rfl, hpq⟩ | ⟨rfl, hpq⟩ <;> rcases hw2 with rfl | ⟨rfl, hrq⟩ | ⟨rfl, hrq⟩
          all_goals try (have hq : (r == x.t) = true := by assumption
                         rcases hw3 with hw3 | ⟨hw3, hw5⟩ | ⟨hw3, hw5⟩ <;> rcases hw4 with hw4 | hw4)
          all_goals
            obtain ⟨x0, x1, x2, x3, x4, x5, x6, x7, x8, x9, x10⟩ := in_cells K3.out.in_
            have lx := heap_lt K3.out.in_
            obtain ⟨b2, o2, e2, d0, d1, d2, d3, d4, d5, d6, d7, d8, d9, d10⟩ := HY.out _ K3.out.made
            obtain ⟨rfl, rfl⟩ : b = b2 ∧ o = o2 := by simpa using e2
            go_wp2_with (fail)
            refine (WR.out _).mono ?_
            rintro e w4 ⟨rfl, h4⟩
            have K4 := Lib.hid (K3.out.next h4)
            clear h4 e2 d0 d1 d2 d3 d4 d5 d6 d7 d8 d9 d10 x0 x1 x2 x3 x4 x5 x6 x7 x8 x9 x10 lx
            obtain ⟨x0, x1, x2, x3, x4, x5, x6, x7, x8, x9, x10⟩ := in_cells K4.out.in_
            have lx := heap_lt K4.out.in_
            obtain ⟨b2, o2, e2, d0, d1, d2, d3, d4, d5, d6, d7, d8, d9, d10⟩ := HY.out _ K4.out.made
            obtain ⟨rfl, rfl⟩ : b = b2 ∧ o = o2 := by simpa using e2
            go_wp2_with (go_at_call 54; refine (CL.out _).mono ?_; rintro e w' ⟨rfl, rfl⟩)
            go_roundw
            case rel => exact ⟨k + 1, by omega, by rw [HN1.out]; simp [bump, *], by rw [HN2.out]; simp [bump, *], by rw [HN3.out]; simp [bump, *], by go_num, K4.out⟩
            case measure => simp [intOf]; omega
        · obtain rfl : k = l.length := by omega
          have e := List.take_length (l := l)
          rewrite [e] at q1 q2 q3 ⊢
          clear e
          have HFO := Lib.hid (show freshOne l x = ((decide (x.mode ≤ 2) || ((l.countP fun y => setB y x.pred) != 0)) && (!x.new || ((l.countP fun y => regB y x.t) == 1 && (l.countP fun y => goodB y x.t) == 1))) by
            unfold freshOne; rw [sets_count]; rfl)
          generalize l.countP (fun y => setB y x.pred) = P at *
          generalize l.countP (fun y => regB y x.t) = R at *
          generalize l.countP (fun y => goodB y x.t) = G at *
          have hA : (decide (x.mode ≤ 2) = true ∧ decide (2 < x.mode) = false) ∨ (decide (x.mode ≤ 2) = false ∧ decide (2 < x.mode) = true ∧ (P != 0) = false ∧ ((P : Int) == 0) = true) ∨ (decide (x.mode ≤ 2) = false ∧ decide (2 < x.mode) = true ∧ (P != 0) = true ∧ ((P : Int) == 0) = false) := by
            by_cases h1 : x.mode ≤ 2
            · exact .inl ⟨decide_eq_true h1, decide_eq_false (by omega)⟩
            · by_cases h2 : P = 0
              · exact .inr (.inl ⟨decide_eq_false h1, decide_eq_true (by omega), by rw [h2]; rfl, by rw [h2]; rfl⟩)
              · exact .inr (.inr ⟨decide_eq_false h1, decide_eq_true (by omega), bne_iff_ne.2 h2, beq_eq_false_iff_ne.2 (by omega)⟩)
          have hB : x.new = false ∨ (x.new = true ∧ (R == 1) = false ∧ ((R : Int) != 1) = true) ∨ (x.new = true ∧ ((R == 1) = true ∧ ((R : Int) != 1) = false) ∧ (G == 1) = false ∧ ((G : Int) != 1) = true) ∨ (x.new = true ∧ ((R == 1) = true ∧ ((R : Int) != 1) = false) ∧ (G == 1) = true ∧ ((G : Int) != 1) = false) := by
            cases x.new with
            | false => exact .inl rfl
            | true =>
              by_cases h1 : R = 1
              · have k1 : (R == 1) = true ∧ ((R : Int) != 1) = false := by rw [h1]; exact ⟨rfl, rfl⟩
                by_cases h2 : G = 1
                · exact .inr (.inr (.inr ⟨rfl, k1, by rw [h2]; exact ⟨rfl, rfl⟩⟩))
                · exact .inr (.inr (.inl ⟨rfl, k1, beq_eq_false_iff_ne.2 h2, bne_iff_ne.2 (by omega)⟩))
              · exact .inr (.inl ⟨rfl, beq_eq_false_iff_ne.2 h1, bne_iff_ne.2 (by omega)⟩)
          obtain ⟨x0, x1, x2, x3, x4, x5, x6, x7, x8, x9, x10⟩ := in_cells KO.out.in_
          have lx := heap_lt KO.out.in_
          rcases hA with ⟨m1, m2⟩ | ⟨m1, m2, m3, m4⟩ | ⟨m1, m2, m3, m4⟩
          · rcases hB with hn | ⟨hn, hR⟩ | ⟨hn, hR, hG⟩ | ⟨hn, hR, hG⟩
            · have KN := Lib.hid (show (l.take (i + 1)).all (freshOne l) = true by rw [HA2.out, KA.out, HFO.out]; simp [*])
              go_wp2
              go_roundw
              case rel => exact ⟨i + 1, by omega, by go_num, KN.out, KO.out.made⟩
              case measure => simp [intOf]; omega
            · have KN := Lib.hid (show freshB l = false from HF.out (by rw [HFO.out]; simp [*]))
              go_wp2
              go_ret
              exact ⟨ret_bool KN.out.symm, KO.out.made⟩
            · have KN := Lib.hid (show freshB l = false from HF.out (by rw [HFO.out]; simp [*]))
              go_wp2
              go_ret
              exact ⟨ret_bool KN.out.symm, KO.out.made⟩
            · have KN := Lib.hid (show (l.take (i + 1)).all (freshOne l) = true by rw [HA2.out, KA.out, HFO.out]; simp [*])
              go_wp2
              go_roundw
              case rel => exact ⟨i + 1, by omega, by go_num, KN.out, KO.out.made⟩
              case measure => simp [intOf]; omega
          · rcases hB with hn | ⟨hn, hR⟩ | ⟨hn, hR, hG⟩ | ⟨hn, hR, hG⟩
            · have KN := Lib.hid (show freshB l = false from HF.out (by rw [HFO.out]; simp [*]))
              go_wp2
              go_ret
              exact ⟨ret_bool KN.out.symm, KO.out.made⟩
            · have KN := Lib.hid (show freshB l = false from HF.out (by rw [HFO.out]; simp [*]))
              go_wp2
              go_ret
              exact ⟨ret_bool KN.out.symm, KO.out.made⟩
            · have KN := Lib.hid (show freshB l = false from HF.out (by rw [HFO.out]; simp [*]))
              go_wp2
              go_ret
              exact ⟨ret_bool KN.out.symm, KO.out.made⟩
            · have KN := Lib.hid (show freshB l = false from HF.out (by rw [HFO.out]; simp [*]))
              go_wp2
              go_ret
              exact ⟨ret_bool KN.out.symm, KO.out.made⟩
          · rcases hB with hn | ⟨hn, hR⟩ | ⟨hn, hR, hG⟩ | ⟨hn, hR, hG⟩
            · have KN := Lib.hid (show (l.take (i + 1)).all (freshOne l) = true by rw [HA2.out, KA.out, HFO.out]; simp [*])
              go_wp2
              go_roundw
              case rel => exact ⟨i + 1, by omega, by go_num, KN.out, KO.out.made⟩
              case measure => simp [intOf]; omega
            · have KN := Lib.hid (show freshB l = false from HF.out (by rw [HFO.out]; simp [*]))
              go_wp2
              go_ret
              exact ⟨ret_bool KN.out.symm, KO.out.made⟩
            · have KN := Lib.hid (show freshB l = false from HF.out (by rw [HFO.out]; simp [*]))
              go_wp2
              go_ret
              exact ⟨ret_bool KN.out.symm, KO.out.made⟩
            · have KN := Lib.hid (show (l.take (i + 1)).all (freshOne l) = true by rw [HA2.out, KA.out, HFO.out]; simp [*])
              go_wp2
              go_roundw
              case rel => exact ⟨i + 1, by omega, by go_num, KN.out, KO.out.made⟩
              case measure => simp [intOf]; omega
    · obtain rfl : i = l.length := by omega
      have KN := Lib.hid (show freshB l = true by have h := KA.out; rwa [List.take_length] at h)
      go_wp2
      go_ret
      exact ⟨ret_bool KN.out.symm, KM.out⟩
end
end
section
open Go.ChangeShapes Go.WideShapes Go.ChangeAt Go.RowKit Go.Sort BigFrame

theorem clash_snoc : ∀ (l : List In) (x : In), clashL (l ++ [x]) = (clashL l || l.any fun y => clashP y x)
  | [], x => rfl
  | a :: r, x => by
    have e : clashL (a :: r ++ [x]) = ((r ++ [x]).any (clashP a) || clashL (r ++ [x])) := rfl
    have e2 : clashL (a :: r) = (r.any (clashP a) || clashL r) := rfl
    rw [e, e2, clash_snoc r x, List.any_append]
    simp only [List.any_cons, List.any_nil, Bool.or_false]
    cases r.any (clashP a) <;> cases clashP a x <;> cases clashL r <;> simp
theorem clash_next (l : List In) {i : Nat} (h : i < l.length) : clashL (l.take (i + 1)) = (clashL (l.take i) || (l.take i).any fun y => clashP y l[i]) := by
  rw [List.take_succ_eq_append_getElem h, clash_snoc]
theorem any_next (l : List In) (f : In → Bool) {k : Nat} (h : k < l.length) : (l.take (k + 1)).any f = ((l.take k).any f || f l[k]) := by
  rw [List.take_succ_eq_append_getElem h, List.any_append]
  simp
theorem clash_hit (l : List In) {k i : Nat} (hk : k < i) (hi : i < l.length) (h : clashP l[k] l[i] = true) : clashL l = true := by
  cases h1 : clashL l with
  | true => rfl
  | false =>
    have h2 := List.pairwise_iff_getElem.1 ((clashL_iff l).1 h1) k i (by omega) hi hk
    rw [h] at h2
    exact absurd h2 (by simp)
theorem again_calls {P : Program} {w : World} {f : FuncId} {args : Array Value} {v : Value} (h : ∀ u, Calls P f args u fun e u' => e = .returned v ∧ Made u u') : Makes P w f args v := fun u hu => (h u).mono fun _ _ ⟨he, hm⟩ => ⟨he, Made.trans hu hm⟩
section
attribute [local irreducible] World.cell?
set_option maxRecDepth 100000 in
set_option maxHeartbeats 16000000 in
theorem rcheck_any (ao : Option Addr) (cap : Nat) (l : List In) (e0 e1 raw dup : Bool) (w : World) (hI : Insts w ao cap l) :
    Calls Tryz.prog 22 #[pkV ao l.length cap e0 e1 raw dup] w fun e w' => e = .returned (.int .i64 (checkP ⟨l, e0, e1, raw, dup⟩)) ∧ Made w w' := by
  have K := Lib.hid (pk_start (Made.refl w) (pkL ao l.length cap e0 e1 raw dup))
  have H := Lib.hid hI
  have HV := Lib.hid (show checkP ⟨l, e0, e1, raw, dup⟩ = if !formB ⟨l, e0, e1, raw, dup⟩ then 8 else if 1 < countC l 5 then 14 else if clashL l then 11 else if !freshB l then 12 else if ((e0 || e1) && decide (0 < countC l 5 + countC l 6)) then 13 else 0 from rfl)
  have HFI := Lib.hid (fun h => ((form_iff ⟨l, e0, e1, raw, dup⟩).1 h).2.1)
  clear hI
  go_enter Tryz.func22, Tryz.ntmps22
  go_wp2_with (fail)
  refine (rform_any ao cap l e0 e1 raw dup _ (insts_made H.out K.out.made)).mono ?_
  rintro e w1 ⟨rfl, h1⟩
  have K1 := Lib.hid (K.out.next h1)
  clear h1 K
  cases hfm : formB ⟨l, e0, e1, raw, dup⟩ with
  | false =>
    have HR := Lib.hid (show checkP ⟨l, e0, e1, raw, dup⟩ = 8 by rw [HV.out, hfm]; rfl)
    clear hfm
    go_wp2
    go_ret
    exact ⟨ret_int HR.out.symm, K1.out.made⟩
  | true =>
    have hl4 : l.length ≤ 4 := HFI.out hfm
    have HV1 := Lib.hid (show checkP ⟨l, e0, e1, raw, dup⟩ = if 1 < countC l 5 then 14 else if clashL l then 11 else if !freshB l then 12 else if ((e0 || e1) && decide (0 < countC l 5 + countC l 6)) then 13 else 0 by rw [HV.out, hfm]; rfl)
    clear hfm HFI HV
    have hc5 : countC l 5 ≤ 4 := Nat.le_trans List.countP_le_length hl4
    have hc6 : countC l 6 ≤ 4 := Nat.le_trans List.countP_le_length hl4
    go_wp2_with (fail)
    refine (rcount_any ao cap l 5 _ (insts_made H.out K1.out.made) (by omega)).mono ?_
    rintro e w' ⟨rfl, rfl⟩
    have C5 := Lib.hid (fun v (hv : Made w v) => rcount_any ao cap l 5 v (insts_made H.out hv) (by omega))
    have C6 := Lib.hid (fun v (hv : Made w v) => rcount_any ao cap l 6 v (insts_made H.out hv) (by omega))
    generalize countC l 5 = n5 at *
    generalize countC l 6 = n6 at *
    by_cases h5 : 1 < n5
    · have HR := Lib.hid (show checkP ⟨l, e0, e1, raw, dup⟩ = 14 by rw [HV1.out, if_pos h5])
      go_wp2
      go_ret
      exact ⟨ret_int HR.out.symm, K1.out.made⟩
    · have HV2 := Lib.hid (show checkP ⟨l, e0, e1, raw, dup⟩ = if clashL l then 11 else if !freshB l then 12 else if ((e0 || e1) && decide (0 < n5 + n6)) then 13 else 0 by rw [HV1.out, if_neg h5])
      clear HV1
      go_wp2_with (fail)
      go_loopw [4] (fun x wr => ∃ i : Nat, i ≤ l.length ∧ x = .int .i64 i ∧ clashL (l.take i) = false ∧ PkAt w w.heap.size (pkL ao l.length cap e0 e1 raw dup) wr) (fun x _ => l.length - (intOf x).toNat)
      case atStart => exact ⟨0, by omega, rfl, rfl, K1.out⟩
      case round =>
        obtain ⟨i, hi, rfl, hcl, hP⟩ := hrel
        have KP := Lib.hid hP
        have KC := Lib.hid hcl
        clear hP hcl K1
        by_cases hlt : i < l.length
        · obtain ⟨y, hy⟩ : ∃ y, l[i] = y := ⟨_, rfl⟩
          have HY := Lib.hid hy
          have hsy := H.out.small y (hy ▸ List.getElem_mem hlt)
          have HYS := Lib.hid hsy
          have HCN := Lib.hid (clash_next l hlt)
          rewrite [hy] at HCN
          clear hy hsy
          go_upto_region 10 with (fail)
          go_loopw [5] (fun x w2 => ∃ k : Nat, k ≤ i ∧ x = .int .i64 k ∧ (l.take k).any (fun z => clashP z y) = false ∧ PkAt w w.heap.size (pkL ao l.length cap e0 e1 raw dup) w2) (fun x _ => i - (intOf x).toNat)
          case atStart => exact ⟨0, by omega, rfl, rfl, KP.out⟩
          case round =>
            obtain ⟨k, hk, rfl, han, hP⟩ := hrel
            have KQ := Lib.hid hP
            have KN := Lib.hid han
            clear hP han KP
            by_cases hlt2 : k < i
            · have hlk : k < l.length := by omega
              obtain ⟨x, hx⟩ : ∃ x, l[k] = x := ⟨_, rfl⟩
              have HX := Lib.hid hx
              have hsx := H.out.small x (hx ▸ List.getElem_mem hlk)
              have hI2 := insts_made H.out KQ.out.made
              obtain ⟨b, o, rfl, c0, c1, c2, c3, c4, c5, c6, c7, c8, c9, c10⟩ := insts_cells hI2 hlk x hx
              obtain ⟨b2, o2, e2, d0, d1, d2, d3, d4, d5, d6, d7, d8, d9, d10⟩ := insts_cells hI2 hlt y HY.out
              obtain ⟨rfl, rfl⟩ : b = b2 ∧ o = o2 := by simpa using e2
              have D := Lib.hid (rclash_any x y hsx HYS.out)
              have HAN := Lib.hid (any_next l (fun z => clashP z y) hlk)
              have HIT := Lib.hid (fun h => clash_hit l hlt2 hlt h)
              rewrite [hx] at HAN HIT
              rewrite [HY.out] at HIT
              clear hx hsx e2 hI2
              go_upto_region 12 with (fail)
              have D2 := D.out wr
              have g0 := fun d os => cell_regrown c0 d os
              have q0 := fun d os => cell_regrown d0 d os
              have g1 := fun d os => cell_regrown c1 d os
              have q1 := fun d os => cell_regrown d1 d os
              have g2 := fun d os => cell_regrown c2 d os
              have q2 := fun d os => cell_regrown d2 d os
              have g3 := fun d os => cell_regrown c3 d os
              have q3 := fun d os => cell_regrown d3 d os
              have g4 := fun d os => cell_regrown c4 d os
              have q4 := fun d os => cell_regrown d4 d os
              have g5 := fun d os => cell_regrown c5 d os
              have q5 := fun d os => cell_regrown d5 d os
              have g6 := fun d os => cell_regrown c6 d os
              have q6 := fun d os => cell_regrown d6 d os
              have g7 := fun d os => cell_regrown c7 d os
              have q7 := fun d os => cell_regrown d7 d os
              have g8 := fun d os => cell_regrown c8 d os
              have q8 := fun d os => cell_regrown d8 d os
              have g9 := fun d os => cell_regrown c9 d os
              have q9 := fun d os => cell_regrown d9 d os
              have g10 := fun d os => cell_regrown c10 d os
              have q10 := fun d os => cell_regrown d10 d os
              refine wp_region_quiet_below (by kernel_rfl) (by kernel_rfl) ?_
              repeat (go_big_quiet_step ((go_at_call 41; with_reducible exact D2.again _ _)))
              refine wpQuiet_nil ?_
              intro z3 hw9
              have K3 := Lib.hid (KQ.out.next (made_regrown hw9))
              clear hw9 D2 g0 q0 c0 d0 g1 q1 c1 d1 g2 q2 c2 d2 g3 q3 c3 d3 g4 q4 c4 d4 g5 q5 c5 d5 g6 q6 c6 d6 g7 q7 c7 d7 g8 q8 c8 d8 g9 q9 c9 d9 g10 q10 c10 d10
              cases hc : clashP x y with
              | true =>
                have HR := Lib.hid (show checkP ⟨l, e0, e1, raw, dup⟩ = 11 by rw [HV2.out, HIT.out hc]; rfl)
                clear hc
                go_wp2
                go_ret
                exact ⟨ret_int HR.out.symm, K3.out.made⟩
              | false =>
                have KX := Lib.hid (show (l.take (k + 1)).any (fun z => clashP z y) = false by rw [HAN.out, KN.out, hc]; rfl)
                clear hc
                go_wp2
                go_roundw
                case rel => exact ⟨k + 1, by omega, by go_num, KX.out, K3.out⟩
                case measure => simp [intOf]; omega
            · obtain rfl : k = i := by omega
              have KX := Lib.hid (show clashL (l.take (k + 1)) = false by rw [HCN.out, KC.out, KN.out]; rfl)
              go_wp2
              go_roundw
              case rel => exact ⟨k + 1, by omega, by go_num, KX.out, KQ.out⟩
              case measure => simp [intOf]; omega
        · obtain rfl : i = l.length := by omega
          have HV3 := Lib.hid (show checkP ⟨l, e0, e1, raw, dup⟩ = if !freshB l then 12 else if ((e0 || e1) && decide (0 < n5 + n6)) then 13 else 0 by
            have h := KC.out
            rw [List.take_length] at h
            rw [HV2.out, h]; rfl)
          go_wp2_with (fail)
          refine (rfresh_any ao cap l _ (insts_made H.out KP.out.made) (by omega)).mono ?_
          rintro e w3 ⟨rfl, h3⟩
          have K3 := Lib.hid (KP.out.next h3)
          clear h3
          cases hf : freshB l with
          | false =>
            have HR := Lib.hid (show checkP ⟨l, e0, e1, raw, dup⟩ = 12 by rw [HV3.out, hf]; rfl)
            clear hf
            go_wp2
            go_ret
            exact ⟨ret_int HR.out.symm, K3.out.made⟩
          | true =>
            have HV4 := Lib.hid (show checkP ⟨l, e0, e1, raw, dup⟩ = if ((e0 || e1) && decide (0 < n5 + n6)) then 13 else 0 by rw [HV3.out, hf]; rfl)
            clear hf
            obtain ⟨p0, p1, p2, p3, p4⟩ := pk_cells K3.out
            have lp := heap_lt K3.out.at_
            have hbe : (e0 = false ∧ e1 = false) ∨ e0 = true ∨ (e0 = false ∧ e1 = true) := by cases e0 <;> cases e1 <;> simp
            have hn : (0 < n5 + n6 ∧ decide ((0 : Int) < (n5 : Int) + (n6 : Int)) = true) ∨ (¬ 0 < n5 + n6 ∧ decide ((0 : Int) < (n5 : Int) + (n6 : Int)) = false) := by
              by_cases h : 0 < n5 + n6
              · exact .inl ⟨h, decide_eq_true (by omega)⟩
              · exact .inr ⟨h, decide_eq_false (by omega)⟩
            rcases hbe with ⟨rfl, rfl⟩ | rfl | ⟨rfl, rfl⟩
            · have HR := Lib.hid (show checkP ⟨l, false, false, raw, dup⟩ = 0 by rw [HV4.out]; rfl)
              go_wp2
              go_ret
              exact ⟨ret_int HR.out.symm, K3.out.made⟩
            all_goals
              rcases hn with ⟨hn1, hn2⟩ | ⟨hn1, hn2⟩
              all_goals
                go_wp2_with (first | (go_at_call 40; with_reducible refine (C5.out _ K3.out.made).mono ?_; rintro e w' ⟨rfl, rfl⟩) | (go_at_call 40; with_reducible refine (C6.out _ K3.out.made).mono ?_; rintro e w' ⟨rfl, rfl⟩))
                go_ret
                exact ⟨ret_int (by rw [HV4.out]; simp [hn1]), K3.out.made⟩
end
end
end Go.Proofs.YtaieiaopdbhjaaaGreatDoor
