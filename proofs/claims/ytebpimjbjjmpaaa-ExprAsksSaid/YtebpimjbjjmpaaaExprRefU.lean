/- What Used of the document's answer for expr returns, of an expression; no condition but that on the number of terms. -/
import Derived.Test.YtebpimjbjjmpaaaExprVal2
import Derived.Test.YtebpimjbjjmpaaaExprRefA
import Derived.Laws.MakeOwn
import Derived.Laws.OwnMore
namespace Go.Proofs.Ytebpimjbjjmpaaa
open Go.ChangeShapes Go.WideShapes Go.ChangeAt Go.RowKit Go.Sort BigFrame

def boolC (f : Nat → Bool) (n : Nat) : List Value := (List.range n).map fun j => .bool (f j)
theorem boolC_len (f : Nat → Bool) (n : Nat) : (boolC f n).length = n := by simp [boolC]
theorem boolC_at (f : Nat → Bool) {n j : Nat} (h : j < n) : (boolC f n)[j]? = some (.bool (f j)) := by
  unfold boolC
  rw [List.getElem?_map, List.getElem?_range h]
  rfl
theorem boolC_set (f : Nat → Bool) (n j : Nat) : (boolC f n).toArray.setIfInBounds j (.bool true) = (boolC (fun i => f i || decide (i = j)) n).toArray := by
  rw [List.setIfInBounds_toArray]
  congr 1
  refine List.ext_getElem? fun i => ?_
  rcases Nat.lt_or_ge i n with h | h
  · rw [boolC_at _ h]
    by_cases hij : i = j
    · subst hij
      rw [List.getElem?_set_self (by rw [boolC_len]; exact h)]
      simp
    · rw [List.getElem?_set_ne (Ne.symm hij), boolC_at _ h]
      simp [hij]
  · rw [List.getElem?_eq_none (by rw [List.length_set, boolC_len]; exact h), List.getElem?_eq_none (by rw [boolC_len]; exact h)]
theorem boolC_congr {f g : Nat → Bool} {n : Nat} (h : ∀ j, j < n → f j = g j) : boolC f n = boolC g n := by
  unfold boolC
  refine List.map_congr_left fun j hj => ?_
  rw [h j (List.mem_range.1 hj)]
/-- A row of marks of the call's own. -/
structure UAt (W : World) (g : Nat) (f : Nat → Bool) (n : Nat) (u : World) : Prop where
  made : Made W u
  blk : u.heap[g]? = some (.cells (boolC f n).toArray 4 (0, 0))
  low : W.heap.size ≤ g
theorem UAt.next {W u u1 : World} {g n : Nat} {f : Nat → Bool} (h : UAt W g f n u) (hm : Made u u1) : UAt W g f n u1 := ⟨Made.trans h.made hm, hm.heap h.blk, h.low⟩
theorem UAt.set {W u : World} {g n : Nat} {f : Nat → Bool} (h : UAt W g f n u) (j : Nat) : UAt W g (fun i => f i || decide (i = j)) n (u.setCell ⟨g, j, none⟩ (.bool true)) := by
  refine ⟨Below.setCell h.made (p := ⟨g, j, none⟩) h.low _, ?_, h.low⟩
  have := heap_setCell_same u g j (boolC f n).toArray 4 (.bool true) h.blk
  rwa [boolC_set] at this
theorem UAt.cell {W u : World} {g n : Nat} {f : Nat → Bool} (h : UAt W g f n u) {j : Nat} (hj : j < n) : u.cell? ⟨g, j, none⟩ = some (.bool (f j)) := (cell_of_lit h.blk j).trans (boolC_at f hj)
theorem UAt.turn {W u : World} {g n : Nat} {f f' : Nat → Bool} (h : UAt W g f n u) (he : ∀ j, j < n → f j = f' j) : UAt W g f' n u := ⟨h.made, by rw [← boolC_congr he]; exact h.blk, h.low⟩
/-- What Used tells. -/
def UsedSays (W : World) (e : List Tm) (x : Ending) (w' : World) : Prop := ∃ g, x = .returned (.slice (some ⟨g, 0, none⟩) e.length e.length) ∧ UAt W g (usedB e) e.length w'
theorem bool_row : (Try.prog.info? 4).map (fun i => (i.zero, i.size, i.bytes)) = some (some (Value.bool false), 1, 1) := by kernel_rfl
theorem usedK_step (e : List Tm) (k : Nat) {i : Nat} (hi : i + k + 1 = e.length) (t : Tm) (ht : e[i]? = some t) (j : Nat) :
    usedK e (k + 1) j = ((usedK e k j || (decide (k = 0) && decide (j + 1 = e.length))) || ((usedK e k i || (decide (k = 0) && decide (i + 1 = e.length))) && refsB t j)) := by
  have h1 : e.length - 1 - k = i := by omega
  simp only [usedK, h1, ht]
/-- What is marked by the term at i, the last one marked ahead. -/
def markF (e : List Tm) (k j : Nat) : Bool := usedK e k j || (decide (k = 0) && decide (j + 1 = e.length))
theorem ok_refs {t : Tm} {i : Nat} (h : okT t i = true) : (3 ≤ t.kind → 0 ≤ t.a ∧ t.a < i) ∧ (3 ≤ t.kind → t.kind < 6 → 0 ≤ t.b ∧ t.b < i) := by
  unfold okT at h
  split at h
  · exact ⟨fun _ => by omega, fun _ => by omega⟩
  split at h
  · exact ⟨fun _ => by omega, fun _ => by omega⟩
  split at h
  · have := of_decide_eq_true h
    exact ⟨fun _ => ⟨this.1, this.2.1⟩, fun _ _ => ⟨this.2.2.1, this.2.2.2.1⟩⟩
  split at h
  · have := of_decide_eq_true h
    exact ⟨fun _ => ⟨this.1, this.2.1⟩, fun _ _ => by omega⟩
  · cases h
theorem refs_low {t : Tm} (h : t.kind < 3) (j : Nat) : refsB t j = false := by
  unfold refsB
  rw [decide_eq_false (by omega)]
  rfl
theorem refs_two {t : Tm} (h : 3 ≤ t.kind) (h2 : t.kind < 6) {a b : Nat} (ha : t.a = a) (hb : t.b = b) (j : Nat) : refsB t j = (decide (j = a) || decide (j = b)) := by
  unfold refsB
  rw [decide_eq_true h, decide_eq_true h2, ha, hb, Bool.true_and, Bool.true_and, Bool.true_and, Bool.eq_iff_iff]
  simp only [Bool.or_eq_true, decide_eq_true_eq]
  omega
theorem refs_one {t : Tm} (h : 3 ≤ t.kind) (h2 : ¬ t.kind < 6) {a : Nat} (ha : t.a = a) (j : Nat) : refsB t j = decide (j = a) := by
  unfold refsB
  rw [decide_eq_true h, decide_eq_false h2, ha, Bool.true_and, Bool.and_false, Bool.false_and, Bool.or_false, Bool.eq_iff_iff]
  simp only [decide_eq_true_eq]
  omega
section
attribute [local irreducible] World.cell?
set_option maxRecDepth 100000 in
set_option maxHeartbeats 16000000 in
theorem rused_any (W : World) (ao : Option Addr) (cap : Nat) (e : List Tm) (hT : Tms W ao cap e) (hl : e.length ≤ 100000) (hok : okFrom 0 e = true) (w : World) (hm : Made W w) : Calls Try.prog 37 #[.slice ao e.length cap] w (UsedSays W e) := by
  have HT := Lib.hid hT
  have HOK := Lib.hid hok
  obtain ⟨i0, hi0, hz0, hz1, hz2⟩ := info_parts bool_row
  obtain ⟨M, hM⟩ : ∃ M, M = madeCells (Value.bool false).cells (((e.length : Nat) : Int).toNat * i0.size) := ⟨_, rfl⟩
  have hMl : M = (boolC (usedK e 0) e.length).toArray := by
    rw [hM, hz1, Nat.mul_one, Int.toNat_natCast]
    apply Array.toList_inj.1
    rw [show (Value.bool false).cells = #[Value.bool false] from rfl, toList_madeCells_one]
    unfold boolC
    refine List.ext_getElem (by simp) fun i h1 h2 => ?_
    simp [usedK]
  have hmk : ∀ u : World, (Instr.makeSlice 66 (.int .i64 (e.length : Int)) (.int .i64 (e.length : Int))).run Try.prog u = .ok (.slice (some ⟨u.heap.size, 0, none⟩) e.length e.length) (u.alloc (.cells M 4)) := fun u => by
    have h := run_make (P := Try.prog) u 66 4 i0 (.bool false) Try.underlying66 hi0 hz0 .i64 .i64 (e.length : Int) (e.length : Int) (by omega) (by omega) (by rw [hz2]; omega) (by omega)
    rw [← hM] at h
    simpa using h
  have HX := Lib.hid (show UAt W w.heap.size (usedK e 0) e.length (w.alloc (.cells M 4)) from ⟨hm.alloc hm.size _, by rw [hMl]; exact heap_alloc_new w _, hm.size⟩)
  clear hM hMl hT hok hm hi0 hz0 hz1 hz2
  go_enter Try.func37, Try.ntmps37
  go_wp2_with (fail)
  clear hmk
  go_loopw [4] (fun iv wr => ∃ k : Nat, k ≤ e.length ∧ iv = .int .i64 ((e.length : Int) - 1 - k) ∧ UAt W w.heap.size (usedK e k) e.length wr) (fun iv _ => (intOf iv + 1).toNat)
  case atStart => exact ⟨0, Nat.zero_le _, by go_num, HX.out⟩
  case round =>
    clear HX
    obtain ⟨k, hk, rfl, hU⟩ := hrel
    have KU := Lib.hid hU
    clear hU
    generalize w.heap.size = g at *
    by_cases hlt : k < e.length
    rotate_left
    · obtain rfl : k = e.length := by omega
      have hneg : (e.length : Int) - 1 - (e.length : Int) < 0 := by omega
      go_wp2
      go_ret
      exact ⟨g, rfl, KU.out⟩
    · obtain ⟨i, hi⟩ : ∃ i : Nat, i + k + 1 = e.length := ⟨e.length - 1 - k, by omega⟩
      have hie : (e.length : Int) - 1 - k = (i : Int) := by omega
      have hil : i < e.length := by omega
      obtain ⟨t, ht⟩ : ∃ t, e[i] = t := ⟨_, rfl⟩
      have HTM := Lib.hid (fun u (hu : Made W u) => tms_cells (HT.out.made tm_len hu) hil t ht)
      have HST := Lib.hid (usedK_step e k hi t (by rw [List.getElem?_eq_getElem hil, ht]))
      have hokt := ok_at e 0 i HOK.out hil
      rw [Nat.zero_add, ht] at hokt
      have HKT := Lib.hid hokt
      have HI := Lib.hid hi
      rewrite [hie]
      have hi1 : (i : Int) < (e.length : Int) := by omega
      have hi2 : (e.length : Int) ≤ 100000 := by omega
      have HM := Lib.hid (show (k = 0 ∧ ((i : Int) == (e.length : Int) - 1) = true) ∨ (k ≠ 0 ∧ ((i : Int) == (e.length : Int) - 1) = false) from by
        by_cases h0 : k = 0
        · exact .inl ⟨h0, beq_iff_eq.2 (by omega)⟩
        · exact .inr ⟨h0, beq_eq_false_iff_ne.2 (by omega)⟩)
      clear ht hi hie hokt hlt
      have ft0 := free_of_lit KU.out.blk
      have lt0 := heap_lt KU.out.blk
      have c0 := KU.out.cell hil
      rcases HM.out with ⟨hk0, hg⟩ | ⟨hk0, hg⟩
      · have KM := Lib.hid ((KU.out.set i).turn (f' := markF e k) fun j hj => by
          unfold markF
          rw [decide_eq_true hk0, Bool.true_and]
          have := HI.out
          have e9 : decide (j = i) = decide (j + 1 = e.length) := by rw [Bool.eq_iff_iff]; simp only [decide_eq_true_eq]; omega
          rw [e9])
        go_upto_region 7 with (fail)
        refine world_named (fun u => UAt W g (markF e k) e.length u) KM.out ?_
        intro u hu
        have KV := Lib.hid hu
        clear hu KU ft0 lt0 c0 HM hg hk0
        have ft := free_of_lit KV.out.blk
        have lt := heap_lt KV.out.blk
        have cm := KV.out.cell hil
        obtain ⟨b, o, rfl, e0, e1, e2, e3, e4⟩ := HTM.out u KV.out.made
        obtain ⟨tk, tv, tn, ta, tb⟩ := t
        cases hd : markF e k i with
        | false =>
          rewrite [hd] at cm
          have HN := Lib.hid (KV.out.turn (f' := usedK e (k + 1)) fun j hj => by rw [HST.out j]; show markF e k j = (markF e k j || (markF e k i && _)); rw [hd, Bool.false_and, Bool.or_false])
          clear hd
          go_wp2
          go_roundw
          case rel => exact ⟨k + 1, by have := HI.out; omega, by have := HI.out; simp only [Value.int.injEq, true_and]; omega, HN.out⟩
          case measure => simp [intOf] <;> omega
        | true =>
          rewrite [hd] at cm
          have HMK := Lib.hid (show ∀ j, usedK e (k + 1) j = (markF e k j || refsB ⟨tk, tv, tn, ta, tb⟩ j) from fun j => by rw [HST.out j]; show (markF e k j || (markF e k i && _)) = _; rw [hd, Bool.true_and])
          clear hd
          by_cases hk3 : tk < 3
          · have HN := Lib.hid (KV.out.turn (f' := usedK e (k + 1)) fun j hj => by rw [HMK.out j, refs_low hk3, Bool.or_false])
            go_wp2
            go_roundw
            case rel => exact ⟨k + 1, by have := HI.out; omega, by have := HI.out; simp only [Value.int.injEq, true_and]; omega, HN.out⟩
            case measure => simp [intOf] <;> omega
          · have hk4 : 3 ≤ tk := by omega
            obtain ⟨ha0, ha1⟩ := (ok_refs HKT.out).1 hk4
            obtain ⟨a, rfl⟩ := Int.eq_ofNat_of_zero_le (show 0 ≤ ta from ha0)
            have hae : (a : Int) < (e.length : Int) := by have h9 : (a : Int) < i := ha1; omega
            have hal : a < e.length := by omega
            have ca := KV.out.cell hal
            have KA := Lib.hid (KV.out.set a)
            clear ha0 ha1
            go_upto_region 9 with (fail)
            refine world_named (fun u => UAt W g (fun j => markF e k j || decide (j = a)) e.length u) KA.out ?_
            intro u2 hu2
            have K2 := Lib.hid hu2
            clear hu2 KA KV ft lt cm ca e0 e1 e2 e3 e4
            have ft := free_of_lit K2.out.blk
            have lt := heap_lt K2.out.blk
            obtain ⟨b', o', e', e0, e1, e2, e3, e4⟩ := HTM.out u2 K2.out.made
            obtain ⟨rfl, rfl⟩ : b = b' ∧ o = o' := by simpa using e'
            clear e'
            by_cases hk6 : tk < 6
            · obtain ⟨hb0, hb1⟩ := (ok_refs HKT.out).2 hk4 hk6
              obtain ⟨b2, rfl⟩ := Int.eq_ofNat_of_zero_le (show 0 ≤ tb from hb0)
              have hbe : (b2 : Int) < (e.length : Int) := by have h9 : (b2 : Int) < i := hb1; omega
              have hbl : b2 < e.length := by omega
              have cb := K2.out.cell hbl
              have KB := Lib.hid ((K2.out.set b2).turn (f' := usedK e (k + 1)) fun j hj => by rw [HMK.out j, refs_two hk4 hk6 rfl rfl, Bool.or_assoc])
              clear hb0 hb1
              go_wp2
              go_roundw
              case rel => exact ⟨k + 1, by have := HI.out; omega, by have := HI.out; simp only [Value.int.injEq, true_and]; omega, KB.out⟩
              case measure => simp [intOf] <;> omega
            · have hk7 : 6 ≤ tk := by omega
              have KB := Lib.hid (K2.out.turn (f' := usedK e (k + 1)) fun j hj => by rw [HMK.out j, refs_one hk4 hk6 rfl])
              go_wp2
              go_roundw
              case rel => exact ⟨k + 1, by have := HI.out; omega, by have := HI.out; simp only [Value.int.injEq, true_and]; omega, KB.out⟩
              case measure => simp [intOf] <;> omega
      · have KM := Lib.hid (KU.out.turn (f' := markF e k) fun j hj => by
          unfold markF
          rw [decide_eq_false hk0, Bool.false_and, Bool.or_false])
        go_upto_region 7 with (fail)
        refine world_named (fun u => UAt W g (markF e k) e.length u) KM.out ?_
        intro u hu
        have KV := Lib.hid hu
        clear hu KU ft0 lt0 c0 HM hg hk0
        have ft := free_of_lit KV.out.blk
        have lt := heap_lt KV.out.blk
        have cm := KV.out.cell hil
        obtain ⟨b, o, rfl, e0, e1, e2, e3, e4⟩ := HTM.out u KV.out.made
        obtain ⟨tk, tv, tn, ta, tb⟩ := t
        cases hd : markF e k i with
        | false =>
          rewrite [hd] at cm
          have HN := Lib.hid (KV.out.turn (f' := usedK e (k + 1)) fun j hj => by rw [HST.out j]; show markF e k j = (markF e k j || (markF e k i && _)); rw [hd, Bool.false_and, Bool.or_false])
          clear hd
          go_wp2
          go_roundw
          case rel => exact ⟨k + 1, by have := HI.out; omega, by have := HI.out; simp only [Value.int.injEq, true_and]; omega, HN.out⟩
          case measure => simp [intOf] <;> omega
        | true =>
          rewrite [hd] at cm
          have HMK := Lib.hid (show ∀ j, usedK e (k + 1) j = (markF e k j || refsB ⟨tk, tv, tn, ta, tb⟩ j) from fun j => by rw [HST.out j]; show (markF e k j || (markF e k i && _)) = _; rw [hd, Bool.true_and])
          clear hd
          by_cases hk3 : tk < 3
          · have HN := Lib.hid (KV.out.turn (f' := usedK e (k + 1)) fun j hj => by rw [HMK.out j, refs_low hk3, Bool.or_false])
            go_wp2
            go_roundw
            case rel => exact ⟨k + 1, by have := HI.out; omega, by have := HI.out; simp only [Value.int.injEq, true_and]; omega, HN.out⟩
            case measure => simp [intOf] <;> omega
          · have hk4 : 3 ≤ tk := by omega
            obtain ⟨ha0, ha1⟩ := (ok_refs HKT.out).1 hk4
            obtain ⟨a, rfl⟩ := Int.eq_ofNat_of_zero_le (show 0 ≤ ta from ha0)
            have hae : (a : Int) < (e.length : Int) := by have h9 : (a : Int) < i := ha1; omega
            have hal : a < e.length := by omega
            have ca := KV.out.cell hal
            have KA := Lib.hid (KV.out.set a)
            clear ha0 ha1
            go_upto_region 9 with (fail)
            refine world_named (fun u => UAt W g (fun j => markF e k j || decide (j = a)) e.length u) KA.out ?_
            intro u2 hu2
            have K2 := Lib.hid hu2
            clear hu2 KA KV ft lt cm ca e0 e1 e2 e3 e4
            have ft := free_of_lit K2.out.blk
            have lt := heap_lt K2.out.blk
            obtain ⟨b', o', e', e0, e1, e2, e3, e4⟩ := HTM.out u2 K2.out.made
            obtain ⟨rfl, rfl⟩ : b = b' ∧ o = o' := by simpa using e'
            clear e'
            by_cases hk6 : tk < 6
            · obtain ⟨hb0, hb1⟩ := (ok_refs HKT.out).2 hk4 hk6
              obtain ⟨b2, rfl⟩ := Int.eq_ofNat_of_zero_le (show 0 ≤ tb from hb0)
              have hbe : (b2 : Int) < (e.length : Int) := by have h9 : (b2 : Int) < i := hb1; omega
              have hbl : b2 < e.length := by omega
              have cb := K2.out.cell hbl
              have KB := Lib.hid ((K2.out.set b2).turn (f' := usedK e (k + 1)) fun j hj => by rw [HMK.out j, refs_two hk4 hk6 rfl rfl, Bool.or_assoc])
              clear hb0 hb1
              go_wp2
              go_roundw
              case rel => exact ⟨k + 1, by have := HI.out; omega, by have := HI.out; simp only [Value.int.injEq, true_and]; omega, KB.out⟩
              case measure => simp [intOf] <;> omega
            · have hk7 : 6 ≤ tk := by omega
              have KB := Lib.hid (K2.out.turn (f' := usedK e (k + 1)) fun j hj => by rw [HMK.out j, refs_one hk4 hk6 rfl])
              go_wp2
              go_roundw
              case rel => exact ⟨k + 1, by have := HI.out; omega, by have := HI.out; simp only [Value.int.injEq, true_and]; omega, KB.out⟩
              case measure => simp [intOf] <;> omega
end
end Go.Proofs.Ytebpimjbjjmpaaa
