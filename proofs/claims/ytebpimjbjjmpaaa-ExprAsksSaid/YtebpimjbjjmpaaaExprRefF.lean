/- What Eval of the document's answer for expr returns; no condition but those on the numbers of terms and names. -/
import Derived.Test.YtebpimjbjjmpaaaExprRefE
import Derived.Test.YtebpimjbjjmpaaaExprInt
import Derived.Test.YtebpimjbjjmpaaaFloatBig
import Derived.Test.YtebpimjbjjmpaaaCplxOps2
import Derived.Laws.FloatArith
import Derived.Laws.Cover2
namespace Go.Proofs.Ytebpimjbjjmpaaa
open Go.ChangeShapes Go.WideShapes Go.ChangeAt Go.RowKit Go.Sort BigFrame

def cTop : Nat := 4791830003522207744
def cBot : Nat := 14015202040376983552
theorem FI_top : FI cTop (2199023255552 * U) := FI_const (s := false) (m := 4503599627370496) (c := 2199023255552) (d := 11) (by decide) (by decide +kernel) (by decide) (by decide)
theorem FI_bot : FI cBot (-2199023255552 * U) := FI_const (s := true) (m := 4503599627370496) (c := 2199023255552) (d := 11) (by decide) (by decide +kernel) (by decide) (by decide)
theorem cmp_gt (x y : Int) : ((some (compare x y) : Option Ordering) == some .gt) = decide (y < x) := by
  rw [Int.compare_eq_ite_lt]
  by_cases h1 : x < y
  · rw [if_pos h1, decide_eq_false (by omega)]
    rfl
  · rw [if_neg h1]
    by_cases h2 : y < x
    · rw [if_pos h2, decide_eq_true h2]
      rfl
    · rw [if_neg h2, decide_eq_false h2]
      rfl
theorem cmp_lt (x y : Int) : ((some (compare x y) : Option Ordering) == some .lt) = decide (x < y) := by
  rw [Int.compare_eq_ite_lt]
  by_cases h1 : x < y
  · rw [if_pos h1, decide_eq_true h1]
    rfl
  · rw [if_neg h1, decide_eq_false h1]
    by_cases h2 : y < x
    · rw [if_pos h2]
      rfl
    · rw [if_neg h2]
      rfl
/-- What the float of a product tells of it. -/
theorem prod_float (a b : Int) (ha : -1099511627776 ≤ a ∧ a ≤ 1099511627776) (hb : -1099511627776 ≤ b ∧ b ≤ 1099511627776) : ∃ r, floatBits .mul .f64 (floatOfInt .f64 a) (floatOfInt .f64 b) = some r ∧
    (FloatKind.f64.format.order r cTop == some .gt) = decide (2199023255552 < a * b) ∧ (FloatKind.f64.format.order r cBot == some .lt) = decide (a * b < -2199023255552) := by
  have fa : FI (floatOfInt .f64 a) (a * U) := nearest_FI a (by omega)
  have fb : FI (floatOfInt .f64 b) (b * U) := nearest_FI b (by omega)
  have hU : (0 : Int) < (U : Int) := by have := U_pos; omega
  rcases Nat.lt_or_ge (a * b).natAbs (2 ^ 53) with h | h
  · obtain ⟨r, hr, hf⟩ := mul_FI fa fb h
    refine ⟨r, hr, ?_, ?_⟩
    · rw [order_FI hf FI_top, compare_scale _ _ _ hU, cmp_gt]
    · rw [order_FI hf FI_bot, compare_scale _ _ _ hU, cmp_lt]
  · have h90 : (a * b).natAbs < 2 ^ 90 := by
      rw [Int.natAbs_mul]
      have h1 : a.natAbs ≤ 2 ^ 40 := by omega
      have h2 : b.natAbs ≤ 2 ^ 40 := by omega
      calc a.natAbs * b.natAbs ≤ 2 ^ 40 * 2 ^ 40 := Nat.mul_le_mul h1 h2
        _ < 2 ^ 90 := by decide
    obtain ⟨r, v, hr, hf, hv⟩ := mul_big fa fb h h90
    refine ⟨r, hr, ?_, ?_⟩
    · rw [order_FI hf FI_top, cmp_gt]
      generalize hp : a * b = p at *
      have hv2 : (9007199254740992 : Int) * (U : Int) ≤ (v : Int) := by
        have := Int.ofNat_le.2 hv
        simpa using this
      generalize (U : Int) = q at *
      rw [Bool.eq_iff_iff, decide_eq_true_iff, decide_eq_true_iff]
      by_cases hn : p < 0
      · rw [decide_eq_true hn]
        simp only [sg, if_true]
        omega
      · rw [decide_eq_false hn]
        simp only [sg]
        rw [if_neg (by decide)]
        omega
    · rw [order_FI hf FI_bot, cmp_lt]
      generalize hp : a * b = p at *
      have hv2 : (9007199254740992 : Int) * (U : Int) ≤ (v : Int) := by
        have := Int.ofNat_le.2 hv
        simpa using this
      generalize (U : Int) = q at *
      rw [Bool.eq_iff_iff, decide_eq_true_iff, decide_eq_true_iff]
      by_cases hn : p < 0
      · rw [decide_eq_true hn]
        simp only [sg, if_true]
        omega
      · rw [decide_eq_false hn]
        simp only [sg]
        rw [if_neg (by decide)]
        omega
section
attribute [local irreducible] World.cell?
set_option maxRecDepth 100000 in
set_option maxHeartbeats 64000000 in
theorem reval_any (W : World) (ao : Option Addr) (cap : Nat) (e : List Tm) (hT : Tms W ao cap e) (hl : e.length ≤ 10000) (no : Option Addr) (nc : Nat) (l : List Nm) (hN : Nms W no nc l) (hln : l.length ≤ 10000) (hv64 : ∀ s, -9223372036854775808 ≤ (askL l s).1 ∧ (askL l s).1 ≤ 9223372036854775807) :
    Makes Try.prog W 21 #[.slice ao e.length cap, .slice no l.length nc] (.tuple #[.int .i64 (evL (askL l) e).1, .int .i64 (evL (askL l) e).2]) := by
  intro w hm
  have HT := Lib.hid hT
  have HN := Lib.hid hN
  have HM := Lib.hid hm
  have HRT := Lib.hid (fun u (hu : Made W u) => rright_any W ao cap e hT (by omega) u hu)
  have HFD := Lib.hid (fun s u (hu : Made W u) => rfind_any u no nc l (hN.made nm_len hu) (by omega) s u (Made.refl u))
  have H64 := Lib.hid hv64
  cases hr : rightB e with
  | false =>
    have HR := Lib.hid (show evL (askL l) e = (0, 1) by unfold evL; rw [hr]; rfl)
    rewrite [hr] at HRT
    clear hr hT hN hm hv64
    go_enter Try.func21, Try.ntmps21
    go_wp2_with (fail)
    refine (HRT.out _ HM.out).mono ?_
    rintro x w1 ⟨rfl, hm1⟩
    go_wp2
    refine bodyPost_ret (v := .tuple #[.int .i64 0, .int .i64 1]) (by simp [results, Try.results21, go_sem]) rfl ?_
    exact ⟨by rw [HR.out], hm1⟩
  | true =>
    have hok : okFrom 0 e = true ∧ e ≠ [] := by
      have h9 := hr
      unfold rightB at h9
      rw [Bool.and_eq_true, decide_eq_true_iff] at h9
      exact h9
    have HEL := Lib.hid (show evL (askL l) e = evF (askL l) e e.length 0 [] by unfold evL; rw [hr]; rfl)
    have HUS := Lib.hid (fun u (hu : Made W u) => rused_any W ao cap e hT (by omega) hok.1 u hu)
    have HRB := Lib.hid hok.1
    have hn0 : 0 < e.length := List.length_pos_iff.2 hok.2
    obtain ⟨i0, hi0, hz0, hz1, hz2⟩ := info_parts long_row
    obtain ⟨M, hM⟩ : ∃ M, M = madeCells (Value.int .i64 0).cells (((e.length : Nat) : Int).toNat * i0.size) := ⟨_, rfl⟩
    have hMl : M = (intC [] e.length).toArray := by
      rw [hM, hz1, Nat.mul_one, Int.toNat_natCast]
      apply Array.toList_inj.1
      rw [show (Value.int .i64 0).cells = #[Value.int .i64 0] from rfl, toList_madeCells_one]
      unfold intC
      refine List.ext_getElem (by simp) fun i h1 h2 => ?_
      simp
    have hmk : ∀ u : World, (Instr.makeSlice 68 (.int .i64 (e.length : Int)) (.int .i64 (e.length : Int))).run Try.prog u = .ok (.slice (some ⟨u.heap.size, 0, none⟩) e.length e.length) (u.alloc (.cells M 2)) := fun u => by
      have h := run_make (P := Try.prog) u 68 2 i0 (.int .i64 0) Try.underlying68 hi0 hz0 .i64 .i64 (e.length : Int) (e.length : Int) (by omega) (by omega) (by rw [hz2]; omega) (by omega)
      rw [← hM] at h
      simpa using h
    have HML := Lib.hid hMl
    rewrite [hr] at HRT
    clear hr hT hN hm hok hM hMl hi0 hz0 hz1 hz2 hv64
    go_enter Try.func21, Try.ntmps21
    go_wp2_with (fail)
    refine (HRT.out _ HM.out).mono ?_
    rintro x w1 ⟨rfl, hm1⟩
    have M1 := Lib.hid hm1
    clear hm1 HM
    go_wp2_with (fail)
    refine (HUS.out _ M1.out).mono ?_
    rintro x w2 ⟨g, rfl, hU⟩
    have K0 := Lib.hid (show EAt W g w2.heap.size (usedB e) e.length [] (w2.alloc (.cells M 2)) from ⟨hU.made.alloc hU.made.size _, Made.heap (W := w2) ((Made.refl w2).alloc (Nat.le_refl _) (.cells M 2)) hU.blk, by rw [HML.out]; exact heap_alloc_new w2 _, hU.made.size, by have := heap_lt hU.blk; omega⟩)
    clear hU M1 HRT HUS HML
    go_wp2_with (fail)
    clear hmk
    go_loopw [8] (fun iv wr => ∃ (k : Nat) (vals : List Int), k ≤ e.length ∧ iv = .int .i64 k ∧ vals.length = k ∧ (∀ v ∈ vals, inR v = true) ∧ EAt W g w2.heap.size (usedB e) e.length vals wr ∧ evF (askL l) e (e.length - k) k vals = evF (askL l) e e.length 0 []) (fun iv _ => e.length - (intOf iv).toNat)
    case atStart => exact ⟨0, [], Nat.zero_le _, rfl, rfl, (fun _ h => by cases h), K0.out, rfl⟩
    case round =>
      clear K0
      obtain ⟨k, vals, hk, rfl, hvl, hin, hE, hev⟩ := hrel
      have KE := Lib.hid hE
      have HVL := Lib.hid hvl
      have HIN := Lib.hid hin
      have HOK := Lib.hid hev
      clear hE hin hev hvl
      generalize w2.heap.size = q at *
      clear w2
      by_cases hk1 : k < e.length
      rotate_left
      · obtain rfl : k = e.length := by omega
        have cq := KE.out.val (show e.length - 1 < e.length by omega)
        have HR := Lib.hid (show evL (askL l) e = (vals.getD (e.length - 1) 0, 0) by
          rw [HEL.out, ← HOK.out, Nat.sub_self]
          show (vals.getLastD 0, 0) = _
          rw [List.getLastD_eq_getLast?, List.getLast?_eq_getElem?, List.getD_eq_getElem?_getD, HVL.out])
        obtain ⟨n1, hn1⟩ : ∃ n1 : Nat, n1 = e.length - 1 := ⟨_, rfl⟩
        have hn2 : (e.length : Int) - 1 = (n1 : Int) := by omega
        rewrite [← hn1] at cq HR
        have hn3 : (n1 : Int) < (e.length : Int) := by omega
        clear hn1
        generalize vals.getD n1 0 = z at *
        go_wp2
        refine bodyPost_ret (v := .tuple #[.int .i64 z, .int .i64 0]) (by simp [results, Try.results21, go_sem]) rfl ?_
        exact ⟨by rw [HR.out], KE.out.made⟩
      · obtain ⟨t, ht⟩ : ∃ t, e[k] = t := ⟨_, rfl⟩
        obtain ⟨tb, o, rfl, c0, c1, c2, c3, c4⟩ := tms_cells (HT.out.made tm_len KE.out.made) hk1 t ht
        have hokt := ok_at e 0 k HRB.out hk1
        rw [Nat.zero_add, ht] at hokt
        have HKT := Lib.hid hokt
        have hki : (k : Int) < (e.length : Int) := by omega
        have hen : (e.length : Int) ≤ 10000 := by omega
        have cm := KE.out.mark hk1
        have hstep : ∀ b, usedB e k = b → evF (askL l) e (e.length - k) k vals = if b = true then (if (capV (valT (askL l) t vals)).2 = 0 then evF (askL l) e (e.length - (k + 1)) (k + 1) (vals ++ [(capV (valT (askL l) t vals)).1]) else capV (valT (askL l) t vals)) else evF (askL l) e (e.length - (k + 1)) (k + 1) (vals ++ [0]) := by
          intro b hb
          rw [show e.length - k = (e.length - (k + 1)) + 1 by omega]
          simp only [evF, List.getElem?_eq_getElem hk1, ht, hb]
        cases hu : usedB e k with
        | false =>
          rewrite [hu] at cm
          have HNX := Lib.hid (show evF (askL l) e (e.length - (k + 1)) (k + 1) (vals ++ [0]) = evF (askL l) e e.length 0 [] by rw [← HOK.out, hstep false hu]; rfl)
          clear hu hstep ht hokt
          go_wp2
          go_roundw
          case rel => exact ⟨k + 1, vals ++ [0], by omega, by go_num, by rw [List.length_append, HVL.out]; rfl, fun v hv => by
            rcases List.mem_append.1 hv with hv | hv
            · exact HIN.out v hv
            · rw [List.mem_singleton] at hv
              subst hv
              rfl, KE.out.skip, HNX.out⟩
          case measure => simp [intOf]; omega
        | true =>
          rewrite [hu] at cm
          have hs2 := hstep true hu
          rw [if_pos rfl] at hs2
          have HEV := Lib.hid hs2
          have hkd := kind_of hokt
          clear hu hstep ht hokt hs2
          obtain ⟨tk, tv, tn, ta, tbb⟩ := t
          simp only [] at hkd
          rcases hkd with hkd | hkd | hkd | hkd | hkd | hkd
          · have g2 : (tk == 2) = false := by rw [hkd]; rfl
            have g3 : (tk == 3) = false := by rw [hkd]; rfl
            have g4 : (tk == 4) = false := by rw [hkd]; rfl
            have g5 : (tk == 5) = false := by rw [hkd]; rfl
            have g6 : (tk == 6) = false := by rw [hkd]; rfl
            obtain ⟨x, hx⟩ : ∃ x, x = tv := ⟨_, rfl⟩
            have HXV := Lib.hid (show valT (askL l) ⟨tk, tv, tn, ta, tbb⟩ vals = (x, 0) by
              rw [hx]
              unfold valT
              simp only [hkd]
              rfl)
            subst hx
            clear hkd HKT
            rcases (show (-1099511627776 ≤ x ∧ x ≤ 1099511627776) ∨ 1099511627776 < x ∨ x < -1099511627776 by omega) with ⟨hx0, hx1⟩ | hx0 | hx0
            · have HN := Lib.hid (show evF (askL l) e (e.length - (k + 1)) (k + 1) (vals ++ [x]) = evF (askL l) e e.length 0 [] by
                have h9 := HEV.out
                rw [HXV.out, cap_in hx0 hx1, if_pos rfl] at h9
                exact h9.symm.trans HOK.out)
              have HB := Lib.hid (show ∀ v ∈ vals ++ [x], inR v = true from fun v hv => by
                rcases List.mem_append.1 hv with hv | hv
                · exact HIN.out v hv
                · rw [List.mem_singleton] at hv
                  subst hv
                  unfold inR
                  rw [decide_eq_true hx0, decide_eq_true hx1]
                  rfl)
              have KN := Lib.hid (KE.out.store x)
              rewrite [HVL.out] at KN
              have fq := free_of_lit KE.out.vblk
              have lq := heap_lt KE.out.vblk
              have cq := KE.out.val hk1
              go_wp2
              go_roundw
              case rel => exact ⟨k + 1, vals ++ [x], by omega, by go_num, by rw [List.length_append, HVL.out]; rfl, HB.out, KN.out, HN.out⟩
              case measure => simp [intOf]; omega
            · have HR := Lib.hid (show evL (askL l) e = (0, 6) by
                rw [HEL.out, ← HOK.out, HEV.out, HXV.out, cap_out (.inr hx0), if_neg (by decide)])
              go_wp2
              refine bodyPost_ret (v := .tuple #[.int .i64 0, .int .i64 6]) (by simp [results, Try.results21, go_sem]) rfl ?_
              exact ⟨by rw [HR.out], KE.out.made⟩
            · have HR := Lib.hid (show evL (askL l) e = (0, 6) by
                rw [HEL.out, ← HOK.out, HEV.out, HXV.out, cap_out (.inl hx0), if_neg (by decide)])
              go_wp2
              refine bodyPost_ret (v := .tuple #[.int .i64 0, .int .i64 6]) (by simp [results, Try.results21, go_sem]) rfl ?_
              exact ⟨by rw [HR.out], KE.out.made⟩
          · have g2 : (tk == 2) = true := by rw [hkd]; rfl
            have HXV0 := Lib.hid (show valT (askL l) ⟨tk, tv, tn, ta, tbb⟩ vals = (if (askL l tn).2 = 0 then ((askL l tn).1, 0) else (0, (askL l tn).2)) by
              unfold valT
              simp only [hkd]
              rfl)
            have HF := Lib.hid (HFD.out tn)
            have H6 := Lib.hid (H64.out tn)
            generalize askL l tn = r at *
            obtain ⟨x, er⟩ := r
            obtain ⟨hx64, hx65⟩ := H6.out
            simp only [] at hx64 hx65
            clear hkd HKT H6
            by_cases he : er = 0
            · have ge : (er != 0) = false := by rw [he]; rfl
              have HXV := Lib.hid (show valT (askL l) ⟨tk, tv, tn, ta, tbb⟩ vals = (x, 0) by rw [HXV0.out]; exact if_pos he)
              clear he
              go_wp2_with (fail)
              refine (HF.out _ KE.out.made).mono ?_
              rintro y w3 ⟨rfl, hm3⟩
              have KD := Lib.hid (KE.out.next hm3)
              clear hm3
              rcases (show (-1099511627776 ≤ x ∧ x ≤ 1099511627776) ∨ 1099511627776 < x ∨ x < -1099511627776 by omega) with ⟨hx0, hx1⟩ | hx0 | hx0
              · have HN := Lib.hid (show evF (askL l) e (e.length - (k + 1)) (k + 1) (vals ++ [x]) = evF (askL l) e e.length 0 [] by
                  have h9 := HEV.out
                  rw [HXV.out, cap_in hx0 hx1, if_pos rfl] at h9
                  exact h9.symm.trans HOK.out)
                have HB := Lib.hid (show ∀ v ∈ vals ++ [x], inR v = true from fun v hv => by
                  rcases List.mem_append.1 hv with hv | hv
                  · exact HIN.out v hv
                  · rw [List.mem_singleton] at hv
                    subst hv
                    unfold inR
                    rw [decide_eq_true hx0, decide_eq_true hx1]
                    rfl)
                have KN := Lib.hid (KD.out.store x)
                rewrite [HVL.out] at KN
                have fq := free_of_lit KD.out.vblk
                have lq := heap_lt KD.out.vblk
                have cq := KD.out.val hk1
                go_wp2
                go_roundw
                case rel => exact ⟨k + 1, vals ++ [x], by omega, by go_num, by rw [List.length_append, HVL.out]; rfl, HB.out, KN.out, HN.out⟩
                case measure => simp [intOf]; omega
              · have HR := Lib.hid (show evL (askL l) e = (0, 6) by
                  rw [HEL.out, ← HOK.out, HEV.out, HXV.out, cap_out (.inr hx0), if_neg (by decide)])
                go_wp2
                refine bodyPost_ret (v := .tuple #[.int .i64 0, .int .i64 6]) (by simp [results, Try.results21, go_sem]) rfl ?_
                exact ⟨by rw [HR.out], KD.out.made⟩
              · have HR := Lib.hid (show evL (askL l) e = (0, 6) by
                  rw [HEL.out, ← HOK.out, HEV.out, HXV.out, cap_out (.inl hx0), if_neg (by decide)])
                go_wp2
                refine bodyPost_ret (v := .tuple #[.int .i64 0, .int .i64 6]) (by simp [results, Try.results21, go_sem]) rfl ?_
                exact ⟨by rw [HR.out], KD.out.made⟩
            · have ge : (er != 0) = true := bne_iff_ne.2 he
              have HR := Lib.hid (show evL (askL l) e = (0, er) by
                rw [HEL.out, ← HOK.out, HEV.out, HXV0.out]
                simp only [if_neg he, cap_bad he])
              clear he
              go_wp2_with (fail)
              refine (HF.out _ KE.out.made).mono ?_
              rintro y w3 ⟨rfl, hm3⟩
              have KD := Lib.hid (KE.out.next hm3)
              clear hm3
              go_wp2
              refine bodyPost_ret (v := .tuple #[.int .i64 0, .int .i64 er]) (by simp [results, Try.results21, go_sem]) rfl ?_
              exact ⟨by rw [HR.out], KD.out.made⟩
          · have g2 : (tk == 2) = false := by rw [hkd]; rfl
            have g3 : (tk == 3) = true := by rw [hkd]; rfl
            obtain ⟨ha0, ha1⟩ := (ok_refs HKT.out).1 (by show (3 : Int) ≤ tk; omega)
            obtain ⟨a, rfl⟩ := Int.eq_ofNat_of_zero_le (show 0 ≤ ta from ha0)
            have hal : a < e.length := by have h9 : (a : Int) < k := ha1; omega
            have hae : (a : Int) < (e.length : Int) := by omega
            have ca := KE.out.val hal
            have hai := getD_in HIN.out a
            obtain ⟨hb0, hb1⟩ := (ok_refs HKT.out).2 (by show (3 : Int) ≤ tk; omega) (by show tk < 6; omega)
            obtain ⟨b, rfl⟩ := Int.eq_ofNat_of_zero_le (show 0 ≤ tbb from hb0)
            have hbl : b < e.length := by have h9 : (b : Int) < k := hb1; omega
            have hbe : (b : Int) < (e.length : Int) := by omega
            have cb := KE.out.val hbl
            have hbi := getD_in HIN.out b
            obtain ⟨x, hx⟩ : ∃ x, x = vals.getD a 0 + vals.getD b 0 := ⟨_, rfl⟩
            have HXV := Lib.hid (show valT (askL l) ⟨tk, tv, tn, a, b⟩ vals = (x, 0) by
              rw [hx]
              unfold valT
              simp only [hkd, Int.toNat_natCast]
              rfl)
            have hxl : -2199023255552 ≤ x ∧ x ≤ 2199023255552 := by omega
            generalize vals.getD a 0 = va at *
            generalize vals.getD b 0 = vb at *
            clear ha0 ha1 hb0 hb1 hkd HKT
            go_upto_region 17 with (fail)
            go_quiet (fail)
            rewrite [← hx]
            have KD := Lib.hid (KE.out.next (below_drewN (Made.refl _) nq))
            clear hx hai hbi ca cb
            rcases (show (-1099511627776 ≤ x ∧ x ≤ 1099511627776) ∨ 1099511627776 < x ∨ x < -1099511627776 by omega) with ⟨hx0, hx1⟩ | hx0 | hx0
            · have HN := Lib.hid (show evF (askL l) e (e.length - (k + 1)) (k + 1) (vals ++ [x]) = evF (askL l) e e.length 0 [] by
                have h9 := HEV.out
                rw [HXV.out, cap_in hx0 hx1, if_pos rfl] at h9
                exact h9.symm.trans HOK.out)
              have HB := Lib.hid (show ∀ v ∈ vals ++ [x], inR v = true from fun v hv => by
                rcases List.mem_append.1 hv with hv | hv
                · exact HIN.out v hv
                · rw [List.mem_singleton] at hv
                  subst hv
                  unfold inR
                  rw [decide_eq_true hx0, decide_eq_true hx1]
                  rfl)
              have KN := Lib.hid (KD.out.store x)
              rewrite [HVL.out] at KN
              have fq := free_of_lit KD.out.vblk
              have lq := heap_lt KD.out.vblk
              have cq := KD.out.val hk1
              go_wp2
              go_roundw
              case rel => exact ⟨k + 1, vals ++ [x], by omega, by go_num, by rw [List.length_append, HVL.out]; rfl, HB.out, KN.out, HN.out⟩
              case measure => simp [intOf]; omega
            · have HR := Lib.hid (show evL (askL l) e = (0, 6) by
                rw [HEL.out, ← HOK.out, HEV.out, HXV.out, cap_out (.inr hx0), if_neg (by decide)])
              go_wp2
              refine bodyPost_ret (v := .tuple #[.int .i64 0, .int .i64 6]) (by simp [results, Try.results21, go_sem]) rfl ?_
              exact ⟨by rw [HR.out], KD.out.made⟩
            · have HR := Lib.hid (show evL (askL l) e = (0, 6) by
                rw [HEL.out, ← HOK.out, HEV.out, HXV.out, cap_out (.inl hx0), if_neg (by decide)])
              go_wp2
              refine bodyPost_ret (v := .tuple #[.int .i64 0, .int .i64 6]) (by simp [results, Try.results21, go_sem]) rfl ?_
              exact ⟨by rw [HR.out], KD.out.made⟩
          · have g2 : (tk == 2) = false := by rw [hkd]; rfl
            have g3 : (tk == 3) = false := by rw [hkd]; rfl
            have g4 : (tk == 4) = true := by rw [hkd]; rfl
            obtain ⟨ha0, ha1⟩ := (ok_refs HKT.out).1 (by show (3 : Int) ≤ tk; omega)
            obtain ⟨a, rfl⟩ := Int.eq_ofNat_of_zero_le (show 0 ≤ ta from ha0)
            have hal : a < e.length := by have h9 : (a : Int) < k := ha1; omega
            have hae : (a : Int) < (e.length : Int) := by omega
            have ca := KE.out.val hal
            have hai := getD_in HIN.out a
            obtain ⟨hb0, hb1⟩ := (ok_refs HKT.out).2 (by show (3 : Int) ≤ tk; omega) (by show tk < 6; omega)
            obtain ⟨b, rfl⟩ := Int.eq_ofNat_of_zero_le (show 0 ≤ tbb from hb0)
            have hbl : b < e.length := by have h9 : (b : Int) < k := hb1; omega
            have hbe : (b : Int) < (e.length : Int) := by omega
            have cb := KE.out.val hbl
            have hbi := getD_in HIN.out b
            obtain ⟨x, hx⟩ : ∃ x, x = vals.getD a 0 - vals.getD b 0 := ⟨_, rfl⟩
            have HXV := Lib.hid (show valT (askL l) ⟨tk, tv, tn, a, b⟩ vals = (x, 0) by
              rw [hx]
              unfold valT
              simp only [hkd, Int.toNat_natCast]
              rfl)
            have hxl : -2199023255552 ≤ x ∧ x ≤ 2199023255552 := by omega
            generalize vals.getD a 0 = va at *
            generalize vals.getD b 0 = vb at *
            clear ha0 ha1 hb0 hb1 hkd HKT
            go_upto_region 19 with (fail)
            go_quiet (fail)
            rewrite [← hx]
            have KD := Lib.hid (KE.out.next (below_drewN (Made.refl _) nq))
            clear hx hai hbi ca cb
            rcases (show (-1099511627776 ≤ x ∧ x ≤ 1099511627776) ∨ 1099511627776 < x ∨ x < -1099511627776 by omega) with ⟨hx0, hx1⟩ | hx0 | hx0
            · have HN := Lib.hid (show evF (askL l) e (e.length - (k + 1)) (k + 1) (vals ++ [x]) = evF (askL l) e e.length 0 [] by
                have h9 := HEV.out
                rw [HXV.out, cap_in hx0 hx1, if_pos rfl] at h9
                exact h9.symm.trans HOK.out)
              have HB := Lib.hid (show ∀ v ∈ vals ++ [x], inR v = true from fun v hv => by
                rcases List.mem_append.1 hv with hv | hv
                · exact HIN.out v hv
                · rw [List.mem_singleton] at hv
                  subst hv
                  unfold inR
                  rw [decide_eq_true hx0, decide_eq_true hx1]
                  rfl)
              have KN := Lib.hid (KD.out.store x)
              rewrite [HVL.out] at KN
              have fq := free_of_lit KD.out.vblk
              have lq := heap_lt KD.out.vblk
              have cq := KD.out.val hk1
              go_wp2
              go_roundw
              case rel => exact ⟨k + 1, vals ++ [x], by omega, by go_num, by rw [List.length_append, HVL.out]; rfl, HB.out, KN.out, HN.out⟩
              case measure => simp [intOf]; omega
            · have HR := Lib.hid (show evL (askL l) e = (0, 6) by
                rw [HEL.out, ← HOK.out, HEV.out, HXV.out, cap_out (.inr hx0), if_neg (by decide)])
              go_wp2
              refine bodyPost_ret (v := .tuple #[.int .i64 0, .int .i64 6]) (by simp [results, Try.results21, go_sem]) rfl ?_
              exact ⟨by rw [HR.out], KD.out.made⟩
            · have HR := Lib.hid (show evL (askL l) e = (0, 6) by
                rw [HEL.out, ← HOK.out, HEV.out, HXV.out, cap_out (.inl hx0), if_neg (by decide)])
              go_wp2
              refine bodyPost_ret (v := .tuple #[.int .i64 0, .int .i64 6]) (by simp [results, Try.results21, go_sem]) rfl ?_
              exact ⟨by rw [HR.out], KD.out.made⟩
          · have g2 : (tk == 2) = false := by rw [hkd]; rfl
            have g3 : (tk == 3) = false := by rw [hkd]; rfl
            have g4 : (tk == 4) = false := by rw [hkd]; rfl
            have g5 : (tk == 5) = true := by rw [hkd]; rfl
            obtain ⟨ha0, ha1⟩ := (ok_refs HKT.out).1 (by show (3 : Int) ≤ tk; omega)
            obtain ⟨a, rfl⟩ := Int.eq_ofNat_of_zero_le (show 0 ≤ ta from ha0)
            have hal : a < e.length := by have h9 : (a : Int) < k := ha1; omega
            have hae : (a : Int) < (e.length : Int) := by omega
            have ca := KE.out.val hal
            have hai := getD_in HIN.out a
            obtain ⟨hb0, hb1⟩ := (ok_refs HKT.out).2 (by show (3 : Int) ≤ tk; omega) (by show tk < 6; omega)
            obtain ⟨b, rfl⟩ := Int.eq_ofNat_of_zero_le (show 0 ≤ tbb from hb0)
            have hbl : b < e.length := by have h9 : (b : Int) < k := hb1; omega
            have hbe : (b : Int) < (e.length : Int) := by omega
            have cb := KE.out.val hbl
            have hbi := getD_in HIN.out b
            obtain ⟨x, hx⟩ : ∃ x, x = vals.getD a 0 * vals.getD b 0 := ⟨_, rfl⟩
            have HXV := Lib.hid (show valT (askL l) ⟨tk, tv, tn, a, b⟩ vals = (x, 0) by
              rw [hx]
              unfold valT
              simp only [hkd, Int.toNat_natCast]
              rfl)
            obtain ⟨r, hr, hgt, hlt⟩ := prod_float (vals.getD a 0) (vals.getD b 0) hai hbi
            rewrite [← hx] at hgt hlt
            generalize vals.getD a 0 = va at *
            generalize vals.getD b 0 = vb at *
            have hop := fun t (w : World) => run_float_arith (P := Try.prog) w .mul t .f64 _ _ _ hr
            have hgt2 : (FloatKind.f64.format.order r 4791830003522207744 == some .gt) = decide (2199023255552 < x) := hgt
            have hlt2 : (FloatKind.f64.format.order r 14015202040376983552 == some .lt) = decide (x < -2199023255552) := hlt
            have hcva := fun (w : World) => run_convert_int_float (P := Try.prog) w 2 83 .i64 .f64 va (by kernel_rfl) Try.underlying83
            have hcvb := fun (w : World) => run_convert_int_float (P := Try.prog) w 2 83 .i64 .f64 vb (by kernel_rfl) Try.underlying83
            have HXX := Lib.hid hx
            clear ha0 ha1 hb0 hb1 hkd HKT hgt hlt hr hx
            generalize floatOfInt .f64 va = fa at *
            generalize floatOfInt .f64 vb = fb at *
            rcases (show 2199023255552 < x ∨ x < -2199023255552 ∨ (-2199023255552 ≤ x ∧ x ≤ 2199023255552) by omega) with hb1 | hb1 | ⟨hb1, hb2⟩
            · have HR := Lib.hid (show evL (askL l) e = (0, 6) by
                rw [HEL.out, ← HOK.out, HEV.out, HXV.out, cap_out (.inr (by omega)), if_neg (by decide)])
              rewrite [decide_eq_true hb1] at hgt2
              clear hlt2 hb1
              go_upto_region 21 with (fail)
              go_quiet (fail)
              go_wp2
              refine bodyPost_ret (v := .tuple #[.int .i64 0, .int .i64 6]) (by simp [results, Try.results21, go_sem]) rfl ?_
              exact ⟨by rw [HR.out], below_drewN KE.out.made _⟩
            · have HR := Lib.hid (show evL (askL l) e = (0, 6) by
                rw [HEL.out, ← HOK.out, HEV.out, HXV.out, cap_out (.inl (by omega)), if_neg (by decide)])
              rewrite [decide_eq_false (by omega)] at hgt2
              rewrite [decide_eq_true hb1] at hlt2
              clear hb1
              go_upto_region 21 with (fail)
              go_quiet (fail)
              go_wp2
              refine bodyPost_ret (v := .tuple #[.int .i64 0, .int .i64 6]) (by simp [results, Try.results21, go_sem]) rfl ?_
              exact ⟨by rw [HR.out], below_drewN KE.out.made _⟩
            · rewrite [decide_eq_false (by omega)] at hgt2
              rewrite [decide_eq_false (by omega)] at hlt2
              have hw : wrap64 (va * vb) = x := by
                rw [← HXX.out]
                unfold wrap64
                omega
              go_upto_region 21 with (fail)
              go_quiet (fail)
              go_wp2_with (fail)
              obtain ⟨n1, rfl⟩ : ∃ n1, n1 = nq := ⟨nq, rfl⟩
              go_quiet (fail)
              rewrite [hw, World.drewN_drewN]
              have KD := Lib.hid (KE.out.next (below_drewN (Made.refl _) (n1 + nq)))
              clear hw hgt2 hlt2 hop hcva hcvb hai hbi ca cb
              rcases (show (-1099511627776 ≤ x ∧ x ≤ 1099511627776) ∨ 1099511627776 < x ∨ x < -1099511627776 by omega) with ⟨hx0, hx1⟩ | hx0 | hx0
              · have HN := Lib.hid (show evF (askL l) e (e.length - (k + 1)) (k + 1) (vals ++ [x]) = evF (askL l) e e.length 0 [] by
                  have h9 := HEV.out
                  rw [HXV.out, cap_in hx0 hx1, if_pos rfl] at h9
                  exact h9.symm.trans HOK.out)
                have HB := Lib.hid (show ∀ v ∈ vals ++ [x], inR v = true from fun v hv => by
                  rcases List.mem_append.1 hv with hv | hv
                  · exact HIN.out v hv
                  · rw [List.mem_singleton] at hv
                    subst hv
                    unfold inR
                    rw [decide_eq_true hx0, decide_eq_true hx1]
                    rfl)
                have KN := Lib.hid (KD.out.store x)
                rewrite [HVL.out] at KN
                have fq := free_of_lit KD.out.vblk
                have lq := heap_lt KD.out.vblk
                have cq := KD.out.val hk1
                go_wp2
                go_roundw
                case rel => exact ⟨k + 1, vals ++ [x], by omega, by go_num, by rw [List.length_append, HVL.out]; rfl, HB.out, KN.out, HN.out⟩
                case measure => simp [intOf]; omega
              · have HR := Lib.hid (show evL (askL l) e = (0, 6) by
                  rw [HEL.out, ← HOK.out, HEV.out, HXV.out, cap_out (.inr hx0), if_neg (by decide)])
                go_wp2
                refine bodyPost_ret (v := .tuple #[.int .i64 0, .int .i64 6]) (by simp [results, Try.results21, go_sem]) rfl ?_
                exact ⟨by rw [HR.out], KD.out.made⟩
              · have HR := Lib.hid (show evL (askL l) e = (0, 6) by
                  rw [HEL.out, ← HOK.out, HEV.out, HXV.out, cap_out (.inl hx0), if_neg (by decide)])
                go_wp2
                refine bodyPost_ret (v := .tuple #[.int .i64 0, .int .i64 6]) (by simp [results, Try.results21, go_sem]) rfl ?_
                exact ⟨by rw [HR.out], KD.out.made⟩
          · have g2 : (tk == 2) = false := by rw [hkd]; rfl
            have g3 : (tk == 3) = false := by rw [hkd]; rfl
            have g4 : (tk == 4) = false := by rw [hkd]; rfl
            have g5 : (tk == 5) = false := by rw [hkd]; rfl
            have g6 : (tk == 6) = true := by rw [hkd]; rfl
            obtain ⟨ha0, ha1⟩ := (ok_refs HKT.out).1 (by show (3 : Int) ≤ tk; omega)
            obtain ⟨a, rfl⟩ := Int.eq_ofNat_of_zero_le (show 0 ≤ ta from ha0)
            have hal : a < e.length := by have h9 : (a : Int) < k := ha1; omega
            have hae : (a : Int) < (e.length : Int) := by omega
            have ca := KE.out.val hal
            have hai := getD_in HIN.out a
            obtain ⟨x, hx⟩ : ∃ x, x = - vals.getD a 0 := ⟨_, rfl⟩
            have HXV := Lib.hid (show valT (askL l) ⟨tk, tv, tn, a, tbb⟩ vals = (x, 0) by
              rw [hx]
              unfold valT
              simp only [hkd, Int.toNat_natCast]
              rfl)
            have hxl : -2199023255552 ≤ x ∧ x ≤ 2199023255552 := by omega
            generalize vals.getD a 0 = va at *
            obtain rfl : va = -x := by omega
            clear ha0 ha1 hkd HKT hx
            obtain ⟨hx0, hx1⟩ : -1099511627776 ≤ x ∧ x ≤ 1099511627776 := by omega
            have HN := Lib.hid (show evF (askL l) e (e.length - (k + 1)) (k + 1) (vals ++ [x]) = evF (askL l) e e.length 0 [] by
              have h9 := HEV.out
              rw [HXV.out, cap_in hx0 hx1, if_pos rfl] at h9
              exact h9.symm.trans HOK.out)
            have HB := Lib.hid (show ∀ v ∈ vals ++ [x], inR v = true from fun v hv => by
              rcases List.mem_append.1 hv with hv | hv
              · exact HIN.out v hv
              · rw [List.mem_singleton] at hv
                subst hv
                unfold inR
                rw [decide_eq_true hx0, decide_eq_true hx1]
                rfl)
            have KN := Lib.hid (KE.out.store x)
            rewrite [HVL.out] at KN
            have fq := free_of_lit KE.out.vblk
            have lq := heap_lt KE.out.vblk
            have cq := KE.out.val hk1
            go_wp2
            go_roundw
            case rel => exact ⟨k + 1, vals ++ [x], by omega, by go_num, by rw [List.length_append, HVL.out]; rfl, HB.out, KN.out, HN.out⟩
            case measure => simp [intOf]; omega
end
end Go.Proofs.Ytebpimjbjjmpaaa
