/- What Reads of package inst returns, for every instruction, in every world that has grown out of one that holds the table of names. -/
import Derived.Test.YtkmnndiciihefaaDoorInstFns
import Derived.Test.YtkmnndiciihefaaDoorInstSort
import Derived.Deep.CutBlock
import Derived.Deep.CutRange
namespace Go.Proofs.YtkmnndiciihefaaDoor
open Go.ChangeShapes Go.WideShapes Go.ChangeAt Go.RowKit Go.Sort BigFrame

def regsL (a b : Bool) (s t : Int) : List Int :=
  match a, b with
  | false, false => []
  | true, false => [s]
  | false, true => [t]
  | true, true => if s = t then [s] else [min s t, max s t]
def readsL (x : In) : List Int := if rightB x then regsL (hasB (fieldsZ x.op) 5) (hasB (fieldsZ x.op) 6 && !x.new) x.s x.t else []
def IsRegs (W : World) (l : List Int) (e : Ending) (w' : World) : Prop := ∃ (p : Option Addr) (cap : Nat), e = .returned (.slice p l.length cap) ∧ Made W w' ∧
  (l = [] ∨ ∃ b, p = some ⟨b, 0, none⟩ ∧ b < w'.heap.size ∧ l.length ≤ cap ∧ cap ≤ maxLen ∧ ∀ j (h : j < l.length), w'.cell? ⟨b, j, none⟩ = some (.int .u8 l[j]))
theorem info_u8 : (Tryd.prog.info? 5).map (fun i => (i.zero, i.size, i.bytes)) = some (some (.int .u8 0), 1, 1) := by kernel_rfl
theorem owns_u8 {w : World} {B : Nat} {v : Value} {n : Nat} {xs : List Value} {E : TypeId} (h : w.ownsRow B E 1 v n xs) (hn : 0 < n) :
    ∃ g cap, v = .slice (some ⟨g, 0, none⟩) n cap ∧ B ≤ g ∧ g < w.heap.size ∧ n ≤ cap ∧ cap ≤ maxLen ∧ (∀ j, j < n → w.cell? ⟨g, j, none⟩ = xs[j]?) ∧ (∀ j, w.frozen? ⟨g, j, none⟩ = false) := by
  rcases h.2 with ⟨_, h0⟩ | ⟨g, cap, cur, hv, hb, hg, hnc, hcm, _, _⟩
  · omega
  · subst hv
    exact ⟨g, cap, rfl, hb, heap_lt hg, hnc, hcm, fun j hj => h.cellAt j (by omega), fun j => free_of_lit hg j⟩
theorem owns_base {w : World} {B : Nat} {v : Value} {n : Nat} {xs : List Value} {E : TypeId} (h : w.ownsRow B E 1 v n xs) : ∀ k, v.ownBlock = some k → B ≤ k := by
  intro k hk
  rcases h.2 with ⟨hv, _⟩ | ⟨g, cap, cur, hv, hb, _⟩
  · subst hv; cases hk
  · subst hv; cases hk; exact hb
theorem owns_zero {w : World} {B : Nat} {v : Value} {xs : List Value} {E : TypeId} (h : w.ownsRow B E 1 v 0 xs) : ∃ p cap, v = .slice p 0 cap := by
  rcases h.2 with ⟨hv, _⟩ | ⟨g, cap, cur, hv, _⟩
  · exact ⟨_, _, hv⟩
  · exact ⟨_, _, hv⟩
def bytesV (l : List Int) : List Value := l.map fun z => .int .u8 z
/-- What stands while the list is made: the call owns it. -/
def Stage (w2 : World) (l : List Int) (v : Value) (wc : World) : Prop := Made w2 wc ∧ wc.ownsRow w2.heap.size 5 1 v l.length (bytesV l)
def oneL (b : Bool) (s : Int) : List Int := if b then [s] else []
set_option maxRecDepth 100000 in
set_option maxHeartbeats 2000000 in
theorem reads_any (W : World) (hN : Names W) (x : In) (hx : x.small) (w : World) (hm : Made W w) : Calls Tryd.prog 8 #[x.val] w (IsRegs W (readsL x)) := by
  have hz := hm.size
  obtain ⟨i0, hi, q0, q1, q2⟩ := info_parts info_u8
  have HM := Lib.hid (hm.alloc hz (.cells x.cells.toArray 24))
  have HV := Lib.hid (validRow_any _ (hN.made HM.out) x hx _ (Made.refl _))
  clear hx hm
  go_enter Tryd.func8, Tryd.ntmps8
  go_wp2_with (fail)
  refine HV.out.mono ?_
  rintro e w1 ⟨o, nm, c, s, p, n, cap, fs, rfl, h1, hh, hfs⟩
  have hin : InAt w1 w.heap.size x := h1.heap (heap_alloc_new w _)
  obtain ⟨a0, a1, a2, a3, a4, a5, a6, a7, a8, a9, a10⟩ := in_cells hin
  have hl0 := heap_lt hin
  have HIN := Lib.hid hin
  have M1 := Lib.hid (Made.trans HM.out h1)
  have hz1 := M1.out.size
  have HH := Lib.hid hh
  have HFS := Lib.hid hfs
  clear h1 hin hh hfs
  generalize hrb : rightB x = rb at *
  have HRB := Lib.hid hrb
  clear hrb
  cases rb with
  | false =>
    have hw : readsL x = [] := by unfold readsL; rw [HRB.out]; rfl
    have HW := Lib.hid hw
    clear hw
    go_wp2
    go_ret
    rw [HW.out]
    exact ⟨none, 0, rfl, M1.out.alloc hz1 _, .inl rfl⟩
  | true =>
    have hw : readsL x = regsL (hasB fs 5) (hasB fs 6 && !x.new) x.s x.t := by unfold readsL; rw [HRB.out, ← HFS.out rfl]; rfl
    have HW := Lib.hid hw
    clear hw
    go_wp2_with (fail)
    refine (has_any o c s 5 nm p n cap fs _ (HH.out.made ((Made.refl w1).alloc (Nat.le_refl _) _))).mono ?_
    rintro e w2 ⟨rfl, h2⟩
    have hin2 := keep HIN.out h2
    have hrow2 := h2.heap (heap_alloc_new w1 _)
    have HIN2 := Lib.hid hin2
    have HROW2 := Lib.hid hrow2
    obtain ⟨b0, b1, b2, b3, b4, b5, b6, b7, b8, b9, b10⟩ := in_cells hin2
    obtain ⟨r0, r1, r2, r3, r4⟩ := row_cells hrow2
    have hl2 := lt_next hl0 h2
    have hlr := heap_lt hrow2
    have M12 := Lib.hid (Made.trans ((Made.refl w1).alloc (Nat.le_refl _) _) h2)
    have M2 := Lib.hid (Made.trans (M1.out.alloc hz1 _) h2)
    have hz2' := M2.out.size
    generalize hhb : hasB fs 5 = ha at *
    clear h2 hhb hin2 hrow2
    go_upto_if 14 with (fail)
    go_cut [5] from 15 to 19 (fun v wc => Stage w2 (oneL ha x.s) v wc)
    case first =>
      cases ha with
      | false =>
        go_wp2
        go_meet
        case rel => exact ⟨Made.refl _, World.ownsRow_nil _ _ _ _⟩
      | true =>
        go_wp2_with (at_builtin; refine wpList_append_own _ rfl (.tmp 15) (.tmp 18) 27 rfl w2.heap.size 5 i0 _ 1 1 Tryd.underlying27 hi q0 q1 q2 rfl (by decide) (.slice none 0 0) 0 [] rfl ?c1 ⟨w2.heap.size, 0, none⟩ 1 1 [.int .u8 x.s] rfl ?c2 ?c3 ?c4 ?c5 ?c6 ?c7 ?_)
        case c1 => exact World.ownsRow_nil _ _ _ _
        case c2 => rfl
        case c3 => exact fun j u hj => cells_of_lit (cs := [.int .u8 x.s]) (heap_alloc_new w2 _) j u hj
        case c4 => intro u hu; simp at hu; subst hu; rfl
        case c5 => unfold maxLen; omega
        case c6 => omega
        case c7 => simp
        intro v' w3 hown hgr _
        have hS : Stage w2 [x.s] v' w3 := ⟨((Made.refl w2).alloc (Nat.le_refl _) _).grown hgr (by simp) (by intro k hk; cases hk), hown⟩
        have HS := Lib.hid hS
        clear hown hgr hS
        go_wp2
        go_meet
        case rel => exact HS.out
    case rest =>
      obtain ⟨h3, hown⟩ := hcut
      generalize wc = w3 at *
      have hin3 := h3.heap HIN2.out
      have hrow3 := h3.heap HROW2.out
      have HIN3 := Lib.hid hin3
      have H3 := Lib.hid h3
      have HO := Lib.hid hown
      obtain ⟨c0, c1, c2, c3, c4, c5, c6, c7, c8, c9, c10⟩ := in_cells hin3
      obtain ⟨d0, d1, d2, d3, d4⟩ := row_cells hrow3
      have hl3 := heap_lt hin3
      have hl4 := heap_lt hrow3
      clear h3 hown hin3 hrow3
      go_upto_region 7 with (fail)
      go_cut [26] from 20 to 26 (fun g wc => g = .bool (hasB fs 6 && !x.new) ∧ Made w3 wc)
      case first =>
        go_wp2_with (fail)
        refine (has_any o c s 6 nm p n cap fs _ (HH.out.made (Made.trans M12.out H3.out))).mono ?_
        rintro e w4 ⟨rfl, h4⟩
        have hin4 := h4.heap HIN3.out
        obtain ⟨e0, e1, e2, e3, e4, e5, e6, e7, e8, e9, e10⟩ := in_cells hin4
        have hl5 := heap_lt hin4
        have H4 := Lib.hid h4
        clear h4 hin4
        cases hhb : hasB fs 6 with
        | false =>
          have HB := Lib.hid hhb
          clear hhb
          go_wp2
          go_meet
          case rel => exact ⟨by rw [HB.out]; rfl, H4.out⟩
        | true =>
          have HB := Lib.hid hhb
          clear hhb
          go_wp2
          go_meet
          case rel => exact ⟨by rw [HB.out]; simp, H4.out⟩
      case rest =>
        obtain ⟨rfl, h4⟩ := hcut
        generalize wc = w4 at *
        generalize hgb : (hasB fs 6 && !x.new) = hb at *
        have hin4 := h4.heap HIN3.out
        obtain ⟨e0, e1, e2, e3, e4, e5, e6, e7, e8, e9, e10⟩ := in_cells hin4
        have hl5 := heap_lt hin4
        have H4 := Lib.hid (Made.trans H3.out h4)
        have hz4 := H4.out.size
        have HO4 := Lib.hid (owns_made HO.out h4)
        clear h4 hin4 hgb
        go_upto_if 26 with (fail)
        go_cut [5] from 27 to 31 (fun v wc => Stage w2 (oneL ha x.s ++ oneL hb x.t) v wc)
        case first =>
          cases hb with
          | false =>
            go_wp2
            go_meet
            case rel => exact ⟨H4.out, by rw [show oneL ha x.s ++ oneL false x.t = oneL ha x.s from List.append_nil _]; exact HO4.out⟩
          | true =>
            go_wp2_with (at_builtin; refine wpList_append_own _ rfl (.tmp 27) (.tmp 30) 27 rfl w2.heap.size 5 i0 _ 1 1 Tryd.underlying27 hi q0 q1 q2 rfl (by decide) _ (oneL ha x.s).length (bytesV (oneL ha x.s)) rfl ?c1 ⟨w4.heap.size, 0, none⟩ 1 1 [.int .u8 x.t] rfl ?c2 ?c3 ?c4 ?c5 ?c6 ?c7 ?_)
            case c1 => exact owns_made HO4.out ((Made.refl w4).alloc (Nat.le_refl _) _)
            case c2 => rfl
            case c3 => exact fun j u hj => cells_of_lit (cs := [.int .u8 x.t]) (heap_alloc_new w4 _) j u hj
            case c4 => intro u hu; simp at hu; subst hu; rfl
            case c5 => unfold maxLen; cases ha <;> simp [oneL]
            case c6 => cases ha <;> simp [oneL]
            case c7 => simp; omega
            intro v' w5 hown hgr _
            have hS : Stage w2 (oneL ha x.s ++ oneL true x.t) v' w5 := ⟨(H4.out.alloc hz4 _).grown hgr (by simp; omega) (owns_base HO4.out), by simpa [bytesV, oneL] using hown⟩
            have HS := Lib.hid hS
            clear hown hgr hS
            go_wp2
            go_meet
            case rel => exact HS.out
        case rest =>
          obtain ⟨h5, hown⟩ := hcut
          generalize wc = w5 at *
          have M5 := Lib.hid (Made.trans M2.out h5)
          have hz5 := M5.out.size
          cases ha with
          | false =>
            cases hb with
            | false =>
              replace hown : w5.ownsRow w2.heap.size 5 1 _ 0 [] := hown
              obtain ⟨p', cap', rfl⟩ := owns_zero hown
              clear hown h5
              go_wp2_with (fail)
              refine (sort_few p' 0 cap' (by decide) _).mono ?_
              rintro e w6 ⟨rfl, rfl⟩
              go_wp2_with (fail)
              refine (compact_few p' 0 cap' (by decide) _).mono ?_
              rintro e w6 ⟨rfl, rfl⟩
              go_wp2
              go_ret
              rw [HW.out]
              exact ⟨p', cap', rfl, M5.out, .inl rfl⟩
            | true =>
              replace hown : w5.ownsRow w2.heap.size 5 1 _ 1 [.int .u8 x.t] := hown
              obtain ⟨g, cap', rfl, hB, hg, hnc, hcm, hcell, hfz⟩ := owns_u8 hown (by decide)
              have HC := Lib.hid (hcell 0 (by decide))
              have HCM := Lib.hid hcm
              clear hown hfz hcell h5 hcm
              go_wp2_with (fail)
              refine (sort_few (some ⟨g, 0, none⟩) 1 cap' (by decide) _).mono ?_
              rintro e w6 ⟨rfl, rfl⟩
              go_wp2_with (fail)
              refine (compact_few (some ⟨g, 0, none⟩) 1 cap' (by decide) _).mono ?_
              rintro e w6 ⟨rfl, rfl⟩
              go_wp2
              go_ret
              rw [HW.out]
              refine ⟨_, _, rfl, M5.out, .inr ⟨g, rfl, hg, hnc, HCM.out, fun j h => ?_⟩⟩
              obtain rfl : j = 0 := by simpa [regsL] using h
              exact HC.out
          | true =>
            cases hb with
            | false =>
              replace hown : w5.ownsRow w2.heap.size 5 1 _ 1 [.int .u8 x.s] := hown
              obtain ⟨g, cap', rfl, hB, hg, hnc, hcm, hcell, hfz⟩ := owns_u8 hown (by decide)
              have HC := Lib.hid (hcell 0 (by decide))
              have HCM := Lib.hid hcm
              clear hown hfz hcell h5 hcm
              go_wp2_with (fail)
              refine (sort_few (some ⟨g, 0, none⟩) 1 cap' (by decide) _).mono ?_
              rintro e w6 ⟨rfl, rfl⟩
              go_wp2_with (fail)
              refine (compact_few (some ⟨g, 0, none⟩) 1 cap' (by decide) _).mono ?_
              rintro e w6 ⟨rfl, rfl⟩
              go_wp2
              go_ret
              rw [HW.out]
              refine ⟨_, _, rfl, M5.out, .inr ⟨g, rfl, hg, hnc, HCM.out, fun j h => ?_⟩⟩
              obtain rfl : j = 0 := by simpa [regsL] using h
              exact HC.out
            | true =>
              replace hown : w5.ownsRow w2.heap.size 5 1 _ 2 [.int .u8 x.s, .int .u8 x.t] := hown
              obtain ⟨g, cap', rfl, hB, hg, hnc, hcm, hcell, hfz⟩ := owns_u8 hown (by decide)
              have HCM := Lib.hid hcm
              have HT := Lib.hid (sort_two g cap' x.s x.t w5 (hcell 0 (by decide)) (hcell 1 (by decide)) hfz)
              clear hown hfz hcell h5 hcm
              go_wp2_with (fail)
              refine HT.out.mono ?_
              rintro e w6 ⟨rfl, h6⟩
              have M6 := Lib.hid (h6.made W (by omega) M5.out)
              have hg6 : g < w6.heap.size := by rw [h6.size]; exact hg
              by_cases hst : x.s = x.t
              · have m0 : min x.s x.t = x.s := by omega
                have m1 : max x.s x.t = x.s := by omega
                have HE := Lib.hid (compact_eq g cap' hnc HCM.out x.s w6 (h6.c0.trans (by rw [m0])) (h6.c1.trans (by rw [m1])) h6.fz)
                have HW2 := Lib.hid (show readsL x = [x.s] by rw [HW.out]; exact if_pos hst)
                clear h6 m0 m1 hst
                go_wp2_with (fail)
                refine HE.out.mono ?_
                rintro e w7 ⟨rfl, h7⟩
                have M7 := Lib.hid (h7.made W (by omega) M6.out)
                have C7 := Lib.hid h7.c0
                have hg7 : g < w7.heap.size := by rw [h7.size]; exact hg6
                clear h7
                go_wp2
                go_ret
                rw [HW2.out]
                refine ⟨_, _, rfl, M7.out, .inr ⟨g, rfl, hg7, Nat.le_trans (show 1 ≤ 2 by decide) hnc, HCM.out, fun j h => ?_⟩⟩
                obtain rfl : j = 0 := by simpa using h
                exact C7.out
              · have hne : min x.s x.t ≠ max x.s x.t := by omega
                have HE := Lib.hid (compact_ne g cap' (min x.s x.t) (max x.s x.t) w6 h6.c0 h6.c1 hne)
                have HW2 := Lib.hid (show readsL x = [min x.s x.t, max x.s x.t] by rw [HW.out]; exact if_neg hst)
                have C0 := Lib.hid h6.c0
                have C1 := Lib.hid h6.c1
                clear h6 hne hst
                go_wp2_with (fail)
                refine HE.out.mono ?_
                rintro e w7 ⟨rfl, k7, rfl⟩
                go_wp2
                go_ret
                rw [HW2.out]
                refine ⟨_, _, rfl, below_drewN M6.out _, .inr ⟨g, rfl, hg6, hnc, HCM.out, fun j h => ?_⟩⟩
                have hj : j = 0 ∨ j = 1 := by simp at h; omega
                rcases hj with rfl | rfl
                · exact C0.out
                · exact C1.out
end Go.Proofs.YtkmnndiciihefaaDoor
