/- What may and fits of the document's answer for legal return, for any instructions in memory, any slots that are free. -/
import Derived.Test.YtdghnlbfmaehoaaGreatDoorGRefB
import Derived.Test.YtdghnlbfmaehoaaGreatDoorGLegal
import Derived.Test.YtdghnlbfmaehoaaGreatDoorGRules
namespace Go.Proofs.YtdghnlbfmaehoaaGreatDoor
open Go.ChangeShapes Go.WideShapes Go.ChangeAt Go.RowKit Go.Sort BigFrame

theorem class_tab : ((List.range 32).all fun n => decide (0 ≤ classZ (n : Nat)) && decide (classZ (n : Nat) ≤ 6)) = true := by decide +kernel
theorem class_le (x : In) : 0 ≤ classP x ∧ classP x ≤ 6 := by
  unfold classP
  have h : ∃ n : Nat, n < 32 ∧ (if isOp x.op then x.op else 0) = (n : Int) := by
    by_cases h : isOp x.op = true
    · have h1 : 1 ≤ x.op ∧ x.op ≤ 31 := by simpa [isOp] using h
      exact ⟨x.op.toNat, by omega, by rw [if_pos h]; omega⟩
    · exact ⟨0, by omega, by rw [if_neg h]; rfl⟩
  obtain ⟨n, hn, e⟩ := h
  rw [e]
  have := List.all_eq_true.1 class_tab n (List.mem_range.2 hn)
  simpa using this
def mayB (c : Int) (s : Nat) : Bool := hasN (slotsZ c).toNat s
section
attribute [local irreducible] World.cell?
set_option maxRecDepth 100000 in
set_option maxHeartbeats 4000000 in
theorem may_any (x : In) (hx : x.small) (s : Nat) (hs : s < 4) (W : World) : Makes Tryz.prog W 99 #[x.val, .int .i64 s] (.bool (mayB (classP x) s)) := by
  intro w hm
  have hz := hm.size
  have HM := Lib.hid (hm.alloc hz (.cells x.cells.toArray 42))
  have CC := class_ref x.op hx.op0 hx.op1
  have hcp : classZ (opN x.op) = classP x := rfl
  rewrite [hcp] at CC
  obtain ⟨h0, h6⟩ := class_le x
  clear hx hm hcp
  generalize classP x = c at *
  have hc : c = 0 ∨ c = 1 ∨ c = 2 ∨ c = 3 ∨ c = 4 ∨ c = 5 ∨ c = 6 := by omega
  have hs' : s = 0 ∨ s = 1 ∨ s = 2 ∨ s = 3 := by omega
  have HC := Lib.hid CC
  clear CC h0 h6 hs
  rcases hc with rfl | rfl | rfl | rfl | rfl | rfl | rfl <;> rcases hs' with rfl | rfl | rfl | rfl
  all_goals
    go_enter Tryz.func99, Tryz.ntmps99
    go_wp2_with (go_at_call 142; refine (HC.out _).mono ?_; rintro e w' ⟨rfl, rfl⟩)
    go_ret
    exact ⟨rfl, HM.out⟩
end
/-! fits. -/
def freeL (u : Nat) : List Value := [.bool (!hasN u 0), .bool (!hasN u 1), .bool (!hasN u 2), .bool (!hasN u 3)]
abbrev freeV (u : Nat) : Value := .agg #[.bool (!hasN u 0), .bool (!hasN u 1), .bool (!hasN u 2), .bool (!hasN u 3)]
def hitB (m u : Nat) (r : List Nat) (s : Nat) : Bool := hasN m s && !hasN u s && searchN r (u + 2 ^ s)
def triesB (m u : Nat) (r : List Nat) (k : Nat) : Bool := (List.range k).any (hitB m u r)
theorem tries_next (m u : Nat) (r : List Nat) (k : Nat) : triesB m u r (k + 1) = (triesB m u r k || hitB m u r k) := by
  unfold triesB
  rw [List.range_succ, List.any_append]
  simp
theorem tries_all (m u : Nat) (r : List Nat) : triesB m u r 4 = searchN (m :: r) u := by
  refine bool_iff ?_
  rw [searchN_step]
  unfold triesB
  simp only [List.any_eq_true, List.mem_range, hitB, Bool.and_eq_true, Bool.not_eq_true']
  exact ⟨fun ⟨s, hs, ⟨h1, h2⟩, h3⟩ => ⟨s, hs, h1, h2, h3⟩, fun ⟨s, hs, h1, h2, h3⟩ => ⟨s, hs, ⟨h1, h2⟩, h3⟩⟩
theorem tries_hit (m u : Nat) (r : List Nat) (s : Nat) (hs : s < 4) (h : hitB m u r s = true) : searchN (m :: r) u = true := by
  rw [← tries_all]
  exact List.any_eq_true.2 ⟨s, List.mem_range.2 hs, h⟩
theorem free_0 {u : Nat} (hu : u < 16) (h : hasN u 0 = false) : freeV (u + 2 ^ 0) = .agg #[.bool false, .bool (!hasN u 1), .bool (!hasN u 2), .bool (!hasN u 3)] := by
  have hb := (bit_add u hu 0 (by omega) h).2
  simp only [freeV, hb 0 (by omega), hb 1 (by omega), hb 2 (by omega), hb 3 (by omega)]
  simp
theorem free_1 {u : Nat} (hu : u < 16) (h : hasN u 1 = false) : freeV (u + 2 ^ 1) = .agg #[.bool (!hasN u 0), .bool false, .bool (!hasN u 2), .bool (!hasN u 3)] := by
  have hb := (bit_add u hu 1 (by omega) h).2
  simp only [freeV, hb 0 (by omega), hb 1 (by omega), hb 2 (by omega), hb 3 (by omega)]
  simp
theorem free_2 {u : Nat} (hu : u < 16) (h : hasN u 2 = false) : freeV (u + 2 ^ 2) = .agg #[.bool (!hasN u 0), .bool (!hasN u 1), .bool false, .bool (!hasN u 3)] := by
  have hb := (bit_add u hu 2 (by omega) h).2
  simp only [freeV, hb 0 (by omega), hb 1 (by omega), hb 2 (by omega), hb 3 (by omega)]
  simp
theorem free_3 {u : Nat} (hu : u < 16) (h : hasN u 3 = false) : freeV (u + 2 ^ 3) = .agg #[.bool (!hasN u 0), .bool (!hasN u 1), .bool (!hasN u 2), .bool false] := by
  have hb := (bit_add u hu 3 (by omega) h).2
  simp only [freeV, hb 0 (by omega), hb 1 (by omega), hb 2 (by omega), hb 3 (by omega)]
  simp
/-- The slots' variable. -/
structure FreeAt (W : World) (B u : Nat) (w : World) : Prop where
  made : Made W w
  at_ : w.heap[B]? = some (.cells (freeL u).toArray 99 (0, 0))
theorem FreeAt.next {W w w' : World} {B u : Nat} (h : FreeAt W B u w) (hm : Made w w') : FreeAt W B u w' := ⟨Made.trans h.made hm, hm.heap h.at_⟩
theorem free_cells {W w : World} {B u : Nat} (h : FreeAt W B u w) : w.cell? ⟨B, 0, none⟩ = some (.bool (!hasN u 0)) ∧ w.cell? ⟨B, 1, none⟩ = some (.bool (!hasN u 1)) ∧ w.cell? ⟨B, 2, none⟩ = some (.bool (!hasN u 2)) ∧ w.cell? ⟨B, 3, none⟩ = some (.bool (!hasN u 3)) :=
  ⟨cell_of_lit h.at_ 0, cell_of_lit h.at_ 1, cell_of_lit h.at_ 2, cell_of_lit h.at_ 3⟩
section
attribute [local irreducible] World.cell?
set_option maxRecDepth 100000 in
set_option maxHeartbeats 16000000 in
theorem rfits_any (ao : Option Addr) (cap : Nat) (l : List In) (hl : l.length ≤ 1000) : ∀ (n at_ u : Nat) (w : World), Insts w ao cap l → l.length - at_ = n → at_ ≤ l.length → u < 16 →
    Calls Tryz.prog 62 #[.slice ao l.length cap, .int .i64 at_, freeV u] w fun e w' => e = .returned (.bool (searchN ((l.drop at_).map slotN) u)) ∧ Made w w' := by
  intro n
  induction n with
  | zero =>
    intro at_ u w hI hn ha hu
    obtain rfl : at_ = l.length := by omega
    have hm := Made.refl w
    have hz := hm.size
    have HM := Lib.hid (hm.alloc hz (.cells (freeL u).toArray 99))
    have HV := Lib.hid (show searchN ((l.drop l.length).map slotN) u = true by rw [List.drop_length]; rfl)
    have hb : ((l.length : Int) == l.length) = true := by simp
    clear hm hn ha hI
    go_enter Tryz.func62, Tryz.ntmps62
    go_wp2
    go_ret
    exact ⟨ret_bool HV.out.symm, HM.out⟩
  | succ n ih =>
    intro at_ u w hI hn ha hu
    have hlt : at_ < l.length := by omega
    have hm := Made.refl w
    have hz := hm.size
    have HF := Lib.hid (show FreeAt w w.heap.size u (w.alloc (.cells (freeL u).toArray 99)) from ⟨hm.alloc hz _, heap_alloc_new w _⟩)
    have H := Lib.hid hI
    have HMw := Lib.hid hm
    have HIH := Lib.hid (show ∀ v : Nat, v < 16 → ∀ z, Made w z → Calls Tryz.prog 62 #[.slice ao l.length cap, .int .i64 ((at_ : Int) + 1), freeV v] z fun e w' => e = .returned (.bool (searchN ((l.drop (at_ + 1)).map slotN) v)) ∧ Made z w' from fun v hv z hz => ih (at_ + 1) v z (insts_made hI hz) (by omega) (by omega) hv)
    obtain ⟨x, hx⟩ : ∃ x, l[at_] = x := ⟨_, rfl⟩
    have hsm := H.out.small x (hx ▸ List.getElem_mem hlt)
    have hmap : (l.drop at_).map slotN = slotN x :: (l.drop (at_ + 1)).map slotN := by rw [List.drop_eq_getElem_cons hlt, hx]; rfl
    have HX := Lib.hid hx
    have HR := Lib.hid (fun v => rright_any x hsm v v (Made.refl v))
    have HMY := Lib.hid (fun v (s : Nat) (hs : s < 4) => may_any x hsm s hs v v (Made.refl v))
    have hroom := hI.room
    have hmax := hI.max
    unfold maxLen at hmax
    rewrite [hmap]
    generalize (l.drop (at_ + 1)).map slotN = r at *
    have hne : ((at_ : Int) == (l.length : Int)) = false := beq_eq_false_iff_ne.2 (by omega)
    clear hm ih hI hx hmap hsm hn hz
    obtain ⟨b, o, rfl, c0, c1, c2, c3, c4, c5, c6, c7, c8, c9, c10⟩ := insts_cells (insts_made H.out HMw.out) hlt x HX.out
    have lb0 := World.block_lt_of_cell? w _ c0
    cases hr : rightB x with
    | false =>
      have HV := Lib.hid (show searchN (slotN x :: r) u = false by
        have h0 : slotN x = 0 := by unfold slotN; rw [hr]; rfl
        rw [h0]
        cases h : searchN (0 :: r) u with
        | false => rfl
        | true =>
          obtain ⟨s, _, h1, _⟩ := (searchN_step _ _ _).1 h
          simp [hasN] at h1)
      have HR2 := Lib.hid (show ∀ v, Calls Tryz.prog 98 #[x.val] v fun e w' => e = .returned (.bool false) ∧ Made v w' from fun v => by have := HR.out v; rw [hr] at this; exact this)
      clear hr HR HMY
      go_enter Tryz.func62, Tryz.ntmps62
      go_wp2_with (fail)
      refine (HR2.out _).mono ?_
      rintro e w1 ⟨rfl, h1⟩
      have M1 := Lib.hid (Made.trans HF.out.made h1)
      clear h1
      go_wp2
      go_ret
      exact ⟨ret_bool HV.out.symm, M1.out⟩
    | true =>
      have HR2 := Lib.hid (show ∀ v, Calls Tryz.prog 98 #[x.val] v fun e w' => e = .returned (.bool true) ∧ Made v w' from fun v => by have := HR.out v; rw [hr] at this; exact this)
      have hsn : ∀ s, mayB (classP x) s = hasN (slotN x) s := fun s => by unfold mayB slotN; rw [if_pos hr]
      have HM2 := Lib.hid (show ∀ v (s : Nat), s < 4 → Calls Tryz.prog 99 #[x.val, .int .i64 s] v fun e w' => e = .returned (.bool (hasN (slotN x) s)) ∧ Made v w' from fun v s hs => by
        have := HMY.out v s hs; rw [hsn] at this; exact this)
      clear hr HR HMY hsn
      generalize slotN x = m at *
      go_enter Tryz.func62, Tryz.ntmps62
      go_wp2_with (fail)
      refine (HR2.out _).mono ?_
      rintro e w1 ⟨rfl, h1⟩
      have F1 := Lib.hid (HF.out.next h1)
      clear h1 c0 c1 c2 c3 c4 c5 c6 c7 c8 c9 c10 HF lb0
      generalize w.heap.size = B at *
      go_wp2_with (fail)
      go_loopw [7] (fun s wr => ∃ k : Nat, k ≤ 4 ∧ s = .int .i64 k ∧ triesB m u r k = false ∧ FreeAt w B u wr) (fun s _ => 4 - (intOf s).toNat)
      case atStart => exact ⟨0, by omega, rfl, rfl, F1.out⟩
      case round =>
        obtain ⟨k, hk, rfl, htr, hfr⟩ := hrel
        have FR := Lib.hid hfr
        have TR := Lib.hid htr
        have lb := heap_lt hfr.at_
        obtain ⟨f0, f1, f2, f3⟩ := free_cells hfr
        clear hfr htr
        obtain ⟨b', o', e', c0, c1, c2, c3, c4, c5, c6, c7, c8, c9, c10⟩ := insts_cells (insts_made H.out FR.out.made) hlt x HX.out
        obtain ⟨rfl, rfl⟩ : b = b' ∧ o = o' := by simpa using e'
        clear e'
        have hway : k = 0 ∨ k = 1 ∨ k = 2 ∨ k = 3 ∨ k = 4 := by omega
        rcases hway with rfl | rfl | rfl | rfl | rfl
        · cases hu' : hasN u 0 with
          | true =>
            have TN := Lib.hid (show triesB m u r (0 + 1) = false by rw [tries_next, TR.out]; simp [hitB, hu'])
            rewrite [hu'] at f0
            clear hu'
            go_wp2
            go_roundw
            case rel => exact ⟨0 + 1, by omega, by go_num, TN.out, FR.out⟩
            case measure => simp [intOf]
          | false =>
            have HC := HIH.out (u + 2 ^ 0) (bit_add u hu 0 (by omega) hu').1
            rewrite [free_0 hu hu'] at HC
            have HCC := Lib.hid HC
            have HU := Lib.hid hu'
            rewrite [hu'] at f0
            clear hu' HC
            go_wp2_with (fail)
            refine (HM2.out _ 0 (by omega)).mono ?_
            rintro e w2 ⟨rfl, h2⟩
            have F2 := Lib.hid (FR.out.next h2)
            clear h2 f0 f1 f2 f3 lb c0 c1 c2 c3 c4 c5 c6 c7 c8 c9 c10 FR
            cases hm' : hasN m 0 with
            | false =>
              have TN := Lib.hid (show triesB m u r (0 + 1) = false by rw [tries_next, TR.out]; simp [hitB, hm'])
              clear hm'
              go_wp2
              go_roundw
              case rel => exact ⟨0 + 1, by omega, by go_num, TN.out, F2.out⟩
              case measure => simp [intOf]
            | true =>
              have HMM := Lib.hid hm'
              clear hm'
              obtain ⟨f0, f1, f2, f3⟩ := free_cells F2.out
              have lb := heap_lt F2.out.at_
              rewrite [HU.out] at f0
              have hz2 := F2.out.made.size
              have hw1 : IntKind.i64.wrap ((at_ : Int) + 1) = (at_ : Int) + 1 := by rw [IntKind.wrap_i64]; omega
              go_wp2_with (fail)
              refine (HCC.out _ (F2.out.made.alloc hz2 _)).mono ?_
              rintro e w3 ⟨rfl, h3⟩
              have F3 := Lib.hid (F2.out.next (Made.trans ((Made.refl w2).alloc (Nat.le_refl _) _) h3))
              clear h3 f0 f1 f2 f3 lb HCC
              cases hs : searchN r (u + 2 ^ 0) with
              | true =>
                have HV := Lib.hid (tries_hit m u r 0 (by omega) (by simp only [hitB, HMM.out, HU.out, hs]; rfl))
                clear hs
                go_wp2
                go_ret
                exact ⟨ret_bool HV.out.symm, F3.out.made⟩
              | false =>
                have TN := Lib.hid (show triesB m u r (0 + 1) = false by rw [tries_next, TR.out]; simp only [hitB, HMM.out, HU.out, hs]; rfl)
                clear hs
                go_wp2
                go_roundw
                case rel => exact ⟨0 + 1, by omega, by go_num, TN.out, F3.out⟩
                case measure => simp [intOf]
        · cases hu' : hasN u 1 with
          | true =>
            have TN := Lib.hid (show triesB m u r (1 + 1) = false by rw [tries_next, TR.out]; simp [hitB, hu'])
            rewrite [hu'] at f1
            clear hu'
            go_wp2
            go_roundw
            case rel => exact ⟨1 + 1, by omega, by go_num, TN.out, FR.out⟩
            case measure => simp [intOf]
          | false =>
            have HC := HIH.out (u + 2 ^ 1) (bit_add u hu 1 (by omega) hu').1
            rewrite [free_1 hu hu'] at HC
            have HCC := Lib.hid HC
            have HU := Lib.hid hu'
            rewrite [hu'] at f1
            clear hu' HC
            go_wp2_with (fail)
            refine (HM2.out _ 1 (by omega)).mono ?_
            rintro e w2 ⟨rfl, h2⟩
            have F2 := Lib.hid (FR.out.next h2)
            clear h2 f0 f1 f2 f3 lb c0 c1 c2 c3 c4 c5 c6 c7 c8 c9 c10 FR
            cases hm' : hasN m 1 with
            | false =>
              have TN := Lib.hid (show triesB m u r (1 + 1) = false by rw [tries_next, TR.out]; simp [hitB, hm'])
              clear hm'
              go_wp2
              go_roundw
              case rel => exact ⟨1 + 1, by omega, by go_num, TN.out, F2.out⟩
              case measure => simp [intOf]
            | true =>
              have HMM := Lib.hid hm'
              clear hm'
              obtain ⟨f0, f1, f2, f3⟩ := free_cells F2.out
              have lb := heap_lt F2.out.at_
              rewrite [HU.out] at f1
              have hz2 := F2.out.made.size
              have hw1 : IntKind.i64.wrap ((at_ : Int) + 1) = (at_ : Int) + 1 := by rw [IntKind.wrap_i64]; omega
              go_wp2_with (fail)
              refine (HCC.out _ (F2.out.made.alloc hz2 _)).mono ?_
              rintro e w3 ⟨rfl, h3⟩
              have F3 := Lib.hid (F2.out.next (Made.trans ((Made.refl w2).alloc (Nat.le_refl _) _) h3))
              clear h3 f0 f1 f2 f3 lb HCC
              cases hs : searchN r (u + 2 ^ 1) with
              | true =>
                have HV := Lib.hid (tries_hit m u r 1 (by omega) (by simp only [hitB, HMM.out, HU.out, hs]; rfl))
                clear hs
                go_wp2
                go_ret
                exact ⟨ret_bool HV.out.symm, F3.out.made⟩
              | false =>
                have TN := Lib.hid (show triesB m u r (1 + 1) = false by rw [tries_next, TR.out]; simp only [hitB, HMM.out, HU.out, hs]; rfl)
                clear hs
                go_wp2
                go_roundw
                case rel => exact ⟨1 + 1, by omega, by go_num, TN.out, F3.out⟩
                case measure => simp [intOf]
        · cases hu' : hasN u 2 with
          | true =>
            have TN := Lib.hid (show triesB m u r (2 + 1) = false by rw [tries_next, TR.out]; simp [hitB, hu'])
            rewrite [hu'] at f2
            clear hu'
            go_wp2
            go_roundw
            case rel => exact ⟨2 + 1, by omega, by go_num, TN.out, FR.out⟩
            case measure => simp [intOf]
          | false =>
            have HC := HIH.out (u + 2 ^ 2) (bit_add u hu 2 (by omega) hu').1
            rewrite [free_2 hu hu'] at HC
            have HCC := Lib.hid HC
            have HU := Lib.hid hu'
            rewrite [hu'] at f2
            clear hu' HC
            go_wp2_with (fail)
            refine (HM2.out _ 2 (by omega)).mono ?_
            rintro e w2 ⟨rfl, h2⟩
            have F2 := Lib.hid (FR.out.next h2)
            clear h2 f0 f1 f2 f3 lb c0 c1 c2 c3 c4 c5 c6 c7 c8 c9 c10 FR
            cases hm' : hasN m 2 with
            | false =>
              have TN := Lib.hid (show triesB m u r (2 + 1) = false by rw [tries_next, TR.out]; simp [hitB, hm'])
              clear hm'
              go_wp2
              go_roundw
              case rel => exact ⟨2 + 1, by omega, by go_num, TN.out, F2.out⟩
              case measure => simp [intOf]
            | true =>
              have HMM := Lib.hid hm'
              clear hm'
              obtain ⟨f0, f1, f2, f3⟩ := free_cells F2.out
              have lb := heap_lt F2.out.at_
              rewrite [HU.out] at f2
              have hz2 := F2.out.made.size
              have hw1 : IntKind.i64.wrap ((at_ : Int) + 1) = (at_ : Int) + 1 := by rw [IntKind.wrap_i64]; omega
              go_wp2_with (fail)
              refine (HCC.out _ (F2.out.made.alloc hz2 _)).mono ?_
              rintro e w3 ⟨rfl, h3⟩
              have F3 := Lib.hid (F2.out.next (Made.trans ((Made.refl w2).alloc (Nat.le_refl _) _) h3))
              clear h3 f0 f1 f2 f3 lb HCC
              cases hs : searchN r (u + 2 ^ 2) with
              | true =>
                have HV := Lib.hid (tries_hit m u r 2 (by omega) (by simp only [hitB, HMM.out, HU.out, hs]; rfl))
                clear hs
                go_wp2
                go_ret
                exact ⟨ret_bool HV.out.symm, F3.out.made⟩
              | false =>
                have TN := Lib.hid (show triesB m u r (2 + 1) = false by rw [tries_next, TR.out]; simp only [hitB, HMM.out, HU.out, hs]; rfl)
                clear hs
                go_wp2
                go_roundw
                case rel => exact ⟨2 + 1, by omega, by go_num, TN.out, F3.out⟩
                case measure => simp [intOf]
        · cases hu' : hasN u 3 with
          | true =>
            have TN := Lib.hid (show triesB m u r (3 + 1) = false by rw [tries_next, TR.out]; simp [hitB, hu'])
            rewrite [hu'] at f3
            clear hu'
            go_wp2
            go_roundw
            case rel => exact ⟨3 + 1, by omega, by go_num, TN.out, FR.out⟩
            case measure => simp [intOf]
          | false =>
            have HC := HIH.out (u + 2 ^ 3) (bit_add u hu 3 (by omega) hu').1
            rewrite [free_3 hu hu'] at HC
            have HCC := Lib.hid HC
            have HU := Lib.hid hu'
            rewrite [hu'] at f3
            clear hu' HC
            go_wp2_with (fail)
            refine (HM2.out _ 3 (by omega)).mono ?_
            rintro e w2 ⟨rfl, h2⟩
            have F2 := Lib.hid (FR.out.next h2)
            clear h2 f0 f1 f2 f3 lb c0 c1 c2 c3 c4 c5 c6 c7 c8 c9 c10 FR
            cases hm' : hasN m 3 with
            | false =>
              have TN := Lib.hid (show triesB m u r (3 + 1) = false by rw [tries_next, TR.out]; simp [hitB, hm'])
              clear hm'
              go_wp2
              go_roundw
              case rel => exact ⟨3 + 1, by omega, by go_num, TN.out, F2.out⟩
              case measure => simp [intOf]
            | true =>
              have HMM := Lib.hid hm'
              clear hm'
              obtain ⟨f0, f1, f2, f3⟩ := free_cells F2.out
              have lb := heap_lt F2.out.at_
              rewrite [HU.out] at f3
              have hz2 := F2.out.made.size
              have hw1 : IntKind.i64.wrap ((at_ : Int) + 1) = (at_ : Int) + 1 := by rw [IntKind.wrap_i64]; omega
              go_wp2_with (fail)
              refine (HCC.out _ (F2.out.made.alloc hz2 _)).mono ?_
              rintro e w3 ⟨rfl, h3⟩
              have F3 := Lib.hid (F2.out.next (Made.trans ((Made.refl w2).alloc (Nat.le_refl _) _) h3))
              clear h3 f0 f1 f2 f3 lb HCC
              cases hs : searchN r (u + 2 ^ 3) with
              | true =>
                have HV := Lib.hid (tries_hit m u r 3 (by omega) (by simp only [hitB, HMM.out, HU.out, hs]; rfl))
                clear hs
                go_wp2
                go_ret
                exact ⟨ret_bool HV.out.symm, F3.out.made⟩
              | false =>
                have TN := Lib.hid (show triesB m u r (3 + 1) = false by rw [tries_next, TR.out]; simp only [hitB, HMM.out, HU.out, hs]; rfl)
                clear hs
                go_wp2
                go_roundw
                case rel => exact ⟨3 + 1, by omega, by go_num, TN.out, F3.out⟩
                case measure => simp [intOf]
        · have HV := Lib.hid (show searchN (m :: r) u = false by rw [← tries_all]; exact TR.out)
          go_wp2
          go_ret
          exact ⟨ret_bool HV.out.symm, FR.out.made⟩
end
end Go.Proofs.YtdghnlbfmaehoaaGreatDoor
