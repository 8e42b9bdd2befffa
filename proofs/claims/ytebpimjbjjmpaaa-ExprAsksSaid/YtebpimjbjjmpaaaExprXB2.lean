/- What Eval of package expr returns, with a function value that is asked at most so often; no condition but that on the number of terms. -/
import Derived.Test.YtebpimjbjjmpaaaGExprXV
namespace Go.Proofs.Ytebpimjbjjmpaaa
open Go.ChangeShapes Go.WideShapes Go.ChangeAt Go.RowKit Go.Sort BigFrame

/-- A function value K, asked not too often: with captured cells is asked: it tells ask; R: what it has been asked, its own blocks F, the world; W: the world in which the asking begins. -/
structure AsksB (W : World) (K : FuncId) (caps : Array Value) (ask : List UInt8 → Int × Int) (R : List (List UInt8) → (Nat → Prop) → World → Prop) : Prop where
  enters : EntersX K
  keep : ∀ acc F u u', R acc F u → (∀ g, F g ∨ g < W.heap.size → u'.heap[g]? = u.heap[g]?) → u'.os = u.os → u'.tape = u.tape → u'.output = u.output → u.heap.size ≤ u'.heap.size → R acc F u'
  fits : ∀ acc F u, R acc F u → ∀ g, F g → g < u.heap.size
  ask : ∀ acc F u s, acc.length ≤ 100000 → R acc F u → Calls Try.prog K (#[.string (strOf s)] ++ caps) u fun x u' => x = .returned (.tuple #[.int .i64 (ask s).1, .int .i64 (ask s).2]) ∧ ∃ F', R (acc ++ [s]) F' u' ∧ (∀ g, F' g → F g ∨ u.heap.size ≤ g) ∧ Out F u u'
theorem asks_madeB {W u u' : World} {K : FuncId} {caps : Array Value} {ask : List UInt8 → Int × Int} {R : List (List UInt8) → (Nat → Prop) → World → Prop} {acc : List (List UInt8)} {F : Nat → Prop} (hA : AsksB W K caps ask R) (hR : R acc F u) (hW : W.heap.size ≤ u.heap.size) (hm : Made u u') : R acc F u' :=
  hA.keep acc F u u' hR (fun g hg => hm.block g (by rcases hg with hg | hg; exact hA.fits acc F u hR g hg; omega)) hm.os hm.tape hm.output hm.size
theorem wsays_madeB {W u u' : World} {K : FuncId} {caps : Array Value} {ask : List UInt8 → Int × Int} {R : List (List UInt8) → (Nat → Prop) → World → Prop} {acc : List (List UInt8)} {F : Nat → Prop} {t : Tm} {vals : List Int} {x : Ending} {v : Int}
    (hA : AsksB W K caps ask R) (hR : R acc F u) (hW : W.heap.size ≤ u.heap.size) (hm : Made u u') (hk : t.kind ≠ 2) (hv : valT ask t vals = (v, 0)) (hx : x = .returned (.tuple #[.int .i64 (capV (v, 0)).1, .int .i64 (capV (v, 0)).2])) : WSays u F ask t vals R acc x u' :=
  ⟨by rw [hv]; exact hx, F, by rw [if_neg hk, List.append_nil]; exact asks_madeB hA hR hW hm, fun g h => .inl h, Out.made hm⟩
section
attribute [local irreducible] World.cell?
set_option maxRecDepth 100000 in
set_option maxHeartbeats 32000000 in
theorem worthB_any (W : World) (K : FuncId) (caps : Array Value) (ask : List UInt8 → Int × Int) (R : List (List UInt8) → (Nat → Prop) → World → Prop) (hA : AsksB W K caps ask R) (t : Tm) (i n : Nat) (hok : okT t i = true) (hin : i < n) (vals : List Int) (hb : ∀ v ∈ vals, inR v = true)
    (h64 : ∀ s, -9223372036854775808 ≤ (ask s).1 ∧ (ask s).1 ≤ 9223372036854775807) (q : Nat) (acc : List (List UInt8)) (hac : acc.length ≤ 100000) (F : Nat → Prop) (u : World) (hR : R acc F u) (hW : W.heap.size ≤ u.heap.size) (hq : u.heap[q]? = some (.cells (intC vals n).toArray 2 (0, 0))) :
    Calls Try.prog 32 #[t.val, .slice (some ⟨q, 0, none⟩) n n, .func (.func K) #[] caps] u (WSays u F ask t vals R acc) := by
  have HA := Lib.hid hA
  have HR := Lib.hid hR
  have hke := hA.enters
  have HK := Lib.hid (ok_refs hok)
  have hkd := kind_of hok
  obtain ⟨tk, tv, tn, ta, tb⟩ := t
  simp only [] at hkd
  have HX := Lib.hid (show Made u (u.alloc (.cells (Tm.cells ⟨tk, tv, tn, ta, tb⟩).toArray TE)) ∧ (u.alloc (.cells (Tm.cells ⟨tk, tv, tn, ta, tb⟩).toArray TE)).heap[u.heap.size]? = some (.cells (Tm.cells ⟨tk, tv, tn, ta, tb⟩).toArray TE (0, 0)) from ⟨(Made.refl u).alloc (Nat.le_refl _) _, heap_alloc_new u _⟩)
  have HQ := Lib.hid hq
  have H64 := Lib.hid h64
  have HB := Lib.hid hb
  clear hR hA hok hq h64 hb
  go_enter Try.func32, Try.ntmps32
  go_upto_region 2 with (fail)
  refine world_named (fun y => Made u y ∧ y.heap[u.heap.size]? = some (.cells (Tm.cells ⟨tk, tv, tn, ta, tb⟩).toArray TE (0, 0))) HX.out ?_
  rintro y ⟨hm, hbx⟩
  have HM := Lib.hid hm
  have c0 : y.cell? ⟨u.heap.size, 0, none⟩ = some (.int .u8 tk) := cell_of_lit hbx 0
  have c1 : y.cell? ⟨u.heap.size, 1, none⟩ = some (.int .i64 tv) := cell_of_lit hbx 1
  have c2 : y.cell? ⟨u.heap.size, 2, none⟩ = some (.string (strOf tn)) := cell_of_lit hbx 2
  have c3 : y.cell? ⟨u.heap.size, 3, none⟩ = some (.int .i64 ta) := cell_of_lit hbx 3
  have c4 : y.cell? ⟨u.heap.size, 4, none⟩ = some (.int .i64 tb) := cell_of_lit hbx 4
  have HQY := Lib.hid (hm.heap HQ.out)
  have hsz := hm.size
  clear hm hbx HX
  rcases hkd with hkd | hkd | hkd | hkd | hkd | hkd
  · have g1 : (tk == 1) = true := by rw [hkd]; rfl
    have HV := Lib.hid (isValue_any tv)
    have HXV := Lib.hid (show valT ask ⟨tk, tv, tn, ta, tb⟩ vals = (tv, 0) by unfold valT; simp only [hkd]; rfl)
    have HKN := Lib.hid (show tk ≠ 2 by omega)
    obtain ⟨d, hd⟩ : ∃ d, inR tv = d := ⟨_, rfl⟩
    rewrite [hd] at HV
    have HD := Lib.hid hd
    clear hkd hd
    cases d with
    | true =>
      go_wp2_with ((go_at_call 45; with_reducible refine (HV.out _).mono ?_; rintro e w' ⟨rfl, rfl⟩))
      refine bodyPost_ret (v := .tuple #[.int .i64 tv, .int .i64 0]) (by simp [results, Try.results32, go_sem]) rfl ?_
      exact wsays_madeB HA.out HR.out hW HM.out HKN.out HXV.out (by rw [capV_in HD.out])
    | false =>
      go_wp2_with ((go_at_call 45; with_reducible refine (HV.out _).mono ?_; rintro e w' ⟨rfl, rfl⟩))
      refine bodyPost_ret (v := .tuple #[.int .i64 0, .int .i64 6]) (by simp [results, Try.results32, go_sem]) rfl ?_
      exact wsays_madeB HA.out HR.out hW HM.out HKN.out HXV.out (by rw [capV_out HD.out])
  · have g1 : (tk == 1) = false := by rw [hkd]; rfl
    have g2 : (tk == 2) = true := by rw [hkd]; rfl
    have HXV := Lib.hid (show valT ask ⟨tk, tv, tn, ta, tb⟩ vals = (if (ask tn).2 = 0 then ((ask tn).1, 0) else (0, (ask tn).2)) by unfold valT; simp only [hkd]; rfl)
    have HKN := Lib.hid hkd
    have HCALL := Lib.hid (HA.out.ask acc F y tn hac (asks_madeB HA.out HR.out hW HM.out))
    have H6 := H64.out tn
    clear hkd
    obtain ⟨v, hv⟩ : ∃ v, (ask tn).1 = v := ⟨_, rfl⟩
    obtain ⟨er, her⟩ : ∃ er, (ask tn).2 = er := ⟨_, rfl⟩
    rewrite [hv, her] at HXV HCALL
    rewrite [hv] at H6
    obtain ⟨hv0, hv1⟩ := H6
    clear hv her
    go_wp2_with (fail)
    refine HCALL.out.mono ?_
    rintro x y2 ⟨rfl, F2, hR2, hF2, hO2⟩
    have HEND := Lib.hid (show ∀ x, x = .returned (.tuple #[.int .i64 (capV (valT ask ⟨tk, tv, tn, ta, tb⟩ vals)).1, .int .i64 (capV (valT ask ⟨tk, tv, tn, ta, tb⟩ vals)).2]) → WSays u F ask ⟨tk, tv, tn, ta, tb⟩ vals R acc x y2 from fun x hx =>
      ⟨hx, F2, by rw [if_pos HKN.out]; exact hR2, fun g hg => (hF2 g hg).imp id (fun h => by have := HM.out.size; omega), by
        have hM := HM.out
        exact ⟨hO2.os.trans hM.os, hO2.tape.trans hM.tape, hO2.output.trans hM.output, Nat.le_trans hM.size hO2.size, fun g hg hnf => (hO2.block g (by have := hM.size; omega) hnf).trans (hM.block g hg)⟩⟩)
    clear hR2 hF2 hO2 HCALL c0 c1 c2 c3 c4
    by_cases he : er = 0
    · subst he
      have HXV2 := Lib.hid (show valT ask ⟨tk, tv, tn, ta, tb⟩ vals = (v, 0) by rw [HXV.out]; rfl)
      have HV := Lib.hid (isValue_any v)
      obtain ⟨d, hd⟩ : ∃ d, inR v = d := ⟨_, rfl⟩
      rewrite [hd] at HV
      have HD := Lib.hid hd
      clear hd HXV
      cases d with
      | true =>
        go_wp2_with ((go_at_call 45; with_reducible refine (HV.out _).mono ?_; rintro e w' ⟨rfl, rfl⟩))
        refine bodyPost_ret (v := .tuple #[.int .i64 v, .int .i64 0]) (by simp [results, Try.results32, go_sem]) rfl ?_
        exact HEND.out _ (by rw [HXV2.out, capV_in HD.out])
      | false =>
        go_wp2_with ((go_at_call 45; with_reducible refine (HV.out _).mono ?_; rintro e w' ⟨rfl, rfl⟩))
        refine bodyPost_ret (v := .tuple #[.int .i64 0, .int .i64 6]) (by simp [results, Try.results32, go_sem]) rfl ?_
        exact HEND.out _ (by rw [HXV2.out, capV_out HD.out])
    · have ge : (er != 0) = true := bne_iff_ne.2 he
      have HXV2 := Lib.hid (show capV (valT ask ⟨tk, tv, tn, ta, tb⟩ vals) = (0, er) by rw [HXV.out, if_neg he]; exact if_pos he)
      clear he
      go_wp2_with (fail)
      refine bodyPost_ret (v := .tuple #[.int .i64 0, .int .i64 er]) (by simp [results, Try.results32, go_sem]) rfl ?_
      exact HEND.out _ (by rw [HXV2.out])
  · have g1 : (tk == 1) = false := by rw [hkd]; rfl
    have g2 : (tk == 2) = false := by rw [hkd]; rfl
    have g3 : (tk == 3) = true := by rw [hkd]; rfl
    obtain ⟨⟨ha0, ha1⟩, hb0, hb1⟩ : (0 ≤ ta ∧ ta < i) ∧ 0 ≤ tb ∧ tb < i := ⟨HK.out.1 (show 3 ≤ tk by omega), HK.out.2 (show 3 ≤ tk by omega) (show tk < 6 by omega)⟩
    obtain ⟨a, rfl⟩ := Int.eq_ofNat_of_zero_le ha0
    obtain ⟨b, rfl⟩ := Int.eq_ofNat_of_zero_le hb0
    have hai : (a : Int) < (n : Int) := by omega
    have hbi : (b : Int) < (n : Int) := by omega
    have ca := (cell_of_lit HQY.out a).trans (intC_at vals (show a < n by omega))
    have cb := (cell_of_lit HQY.out b).trans (intC_at vals (show b < n by omega))
    have hna := getD_in HB.out a
    have hnb := getD_in HB.out b
    have hvt : valT ask ⟨tk, tv, tn, (a : Int), (b : Int)⟩ vals = (vals.getD a 0 + vals.getD b 0, 0) := by unfold valT; simp only [hkd]; rfl
    have HKN := Lib.hid (show tk ≠ 2 by omega)
    generalize vals.getD a 0 = x at *
    generalize vals.getD b 0 = z at *
    obtain ⟨hx0, hx1⟩ := hna
    obtain ⟨hz0, hz1⟩ := hnb
    have HXV := Lib.hid hvt
    clear hkd HK HQ HQY hvt ha0 ha1 hb0 hb1
    have HV := Lib.hid (isValue_any (x + z))
    obtain ⟨d, hd⟩ : ∃ d, inR (x + z) = d := ⟨_, rfl⟩
    rewrite [hd] at HV
    have HD := Lib.hid hd
    clear hd
    cases d with
    | true =>
      go_upto_region 11 with (fail)
      go_quiet (fail)
      go_wp2_with ((go_at_call 45; with_reducible refine (HV.out _).mono ?_; rintro e w' ⟨rfl, rfl⟩))
      refine bodyPost_ret (v := .tuple #[.int .i64 (x + z), .int .i64 0]) (by simp [results, Try.results32, go_sem]) rfl ?_
      exact wsays_madeB HA.out HR.out hW (below_drewN HM.out _) HKN.out HXV.out (by rw [capV_in HD.out])
    | false =>
      go_upto_region 11 with (fail)
      go_quiet (fail)
      go_wp2_with ((go_at_call 45; with_reducible refine (HV.out _).mono ?_; rintro e w' ⟨rfl, rfl⟩))
      refine bodyPost_ret (v := .tuple #[.int .i64 0, .int .i64 6]) (by simp [results, Try.results32, go_sem]) rfl ?_
      exact wsays_madeB HA.out HR.out hW (below_drewN HM.out _) HKN.out HXV.out (by rw [capV_out HD.out])
  · have g1 : (tk == 1) = false := by rw [hkd]; rfl
    have g2 : (tk == 2) = false := by rw [hkd]; rfl
    have g3 : (tk == 3) = false := by rw [hkd]; rfl
    have g4 : (tk == 4) = true := by rw [hkd]; rfl
    obtain ⟨⟨ha0, ha1⟩, hb0, hb1⟩ : (0 ≤ ta ∧ ta < i) ∧ 0 ≤ tb ∧ tb < i := ⟨HK.out.1 (show 3 ≤ tk by omega), HK.out.2 (show 3 ≤ tk by omega) (show tk < 6 by omega)⟩
    obtain ⟨a, rfl⟩ := Int.eq_ofNat_of_zero_le ha0
    obtain ⟨b, rfl⟩ := Int.eq_ofNat_of_zero_le hb0
    have hai : (a : Int) < (n : Int) := by omega
    have hbi : (b : Int) < (n : Int) := by omega
    have ca := (cell_of_lit HQY.out a).trans (intC_at vals (show a < n by omega))
    have cb := (cell_of_lit HQY.out b).trans (intC_at vals (show b < n by omega))
    have hna := getD_in HB.out a
    have hnb := getD_in HB.out b
    have hvt : valT ask ⟨tk, tv, tn, (a : Int), (b : Int)⟩ vals = (vals.getD a 0 - vals.getD b 0, 0) := by unfold valT; simp only [hkd]; rfl
    have HKN := Lib.hid (show tk ≠ 2 by omega)
    generalize vals.getD a 0 = x at *
    generalize vals.getD b 0 = z at *
    obtain ⟨hx0, hx1⟩ := hna
    obtain ⟨hz0, hz1⟩ := hnb
    have HXV := Lib.hid hvt
    clear hkd HK HQ HQY hvt ha0 ha1 hb0 hb1
    have HV := Lib.hid (isValue_any (x - z))
    obtain ⟨d, hd⟩ : ∃ d, inR (x - z) = d := ⟨_, rfl⟩
    rewrite [hd] at HV
    have HD := Lib.hid hd
    clear hd
    cases d with
    | true =>
      go_upto_region 13 with (fail)
      go_quiet (fail)
      go_wp2_with ((go_at_call 45; with_reducible refine (HV.out _).mono ?_; rintro e w' ⟨rfl, rfl⟩))
      refine bodyPost_ret (v := .tuple #[.int .i64 (x - z), .int .i64 0]) (by simp [results, Try.results32, go_sem]) rfl ?_
      exact wsays_madeB HA.out HR.out hW (below_drewN HM.out _) HKN.out HXV.out (by rw [capV_in HD.out])
    | false =>
      go_upto_region 13 with (fail)
      go_quiet (fail)
      go_wp2_with ((go_at_call 45; with_reducible refine (HV.out _).mono ?_; rintro e w' ⟨rfl, rfl⟩))
      refine bodyPost_ret (v := .tuple #[.int .i64 0, .int .i64 6]) (by simp [results, Try.results32, go_sem]) rfl ?_
      exact wsays_madeB HA.out HR.out hW (below_drewN HM.out _) HKN.out HXV.out (by rw [capV_out HD.out])
  · have g1 : (tk == 1) = false := by rw [hkd]; rfl
    have g2 : (tk == 2) = false := by rw [hkd]; rfl
    have g3 : (tk == 3) = false := by rw [hkd]; rfl
    have g4 : (tk == 4) = false := by rw [hkd]; rfl
    have g5 : (tk == 5) = true := by rw [hkd]; rfl
    obtain ⟨⟨ha0, ha1⟩, hb0, hb1⟩ : (0 ≤ ta ∧ ta < i) ∧ 0 ≤ tb ∧ tb < i := ⟨HK.out.1 (show 3 ≤ tk by omega), HK.out.2 (show 3 ≤ tk by omega) (show tk < 6 by omega)⟩
    obtain ⟨a, rfl⟩ := Int.eq_ofNat_of_zero_le ha0
    obtain ⟨b, rfl⟩ := Int.eq_ofNat_of_zero_le hb0
    have hai : (a : Int) < (n : Int) := by omega
    have hbi : (b : Int) < (n : Int) := by omega
    have ca := (cell_of_lit HQY.out a).trans (intC_at vals (show a < n by omega))
    have cb := (cell_of_lit HQY.out b).trans (intC_at vals (show b < n by omega))
    have hna := getD_in HB.out a
    have hnb := getD_in HB.out b
    have hvt : valT ask ⟨tk, tv, tn, (a : Int), (b : Int)⟩ vals = (vals.getD a 0 * vals.getD b 0, 0) := by unfold valT; simp only [hkd]; rfl
    have HKN := Lib.hid (show tk ≠ 2 by omega)
    generalize vals.getD a 0 = x at *
    generalize vals.getD b 0 = z at *
    obtain ⟨hx0, hx1⟩ := hna
    obtain ⟨hz0, hz1⟩ := hnb
    have HXV := Lib.hid hvt
    clear hkd HK HQ HQY hvt ha0 ha1 hb0 hb1
    have HMU := Lib.hid (multiply_any x z ⟨hx0, hx1⟩ ⟨hz0, hz1⟩)
    obtain ⟨hmi, hme⟩ := inR_mul x z
    have HV := Lib.hid (isValue_any (mulZ x z))
    obtain ⟨d, hd⟩ : ∃ d, inR (x * z) = d := ⟨_, rfl⟩
    rewrite [hmi, hd] at HV
    have HD := Lib.hid hd
    have HME := Lib.hid (fun h => hme (hd.trans h))
    clear hd hmi hme
    cases d with
    | true =>
      go_upto_region 15 with (fail)
      go_quiet ((go_at_call 44; exact (HMU.out _).mono fun e w' ⟨he, hw⟩ => ⟨he, _, hw.symm⟩))
      go_wp2_with ((go_at_call 45; with_reducible refine (HV.out _).mono ?_; rintro e w' ⟨rfl, rfl⟩))
      refine bodyPost_ret (v := .tuple #[.int .i64 (mulZ x z), .int .i64 0]) (by simp [results, Try.results32, go_sem]) rfl ?_
      exact wsays_madeB HA.out HR.out hW (below_drewN HM.out _) HKN.out HXV.out (by rw [capV_in HD.out, HME.out (by trivial)])
    | false =>
      go_upto_region 15 with (fail)
      go_quiet ((go_at_call 44; exact (HMU.out _).mono fun e w' ⟨he, hw⟩ => ⟨he, _, hw.symm⟩))
      go_wp2_with ((go_at_call 45; with_reducible refine (HV.out _).mono ?_; rintro e w' ⟨rfl, rfl⟩))
      refine bodyPost_ret (v := .tuple #[.int .i64 0, .int .i64 6]) (by simp [results, Try.results32, go_sem]) rfl ?_
      exact wsays_madeB HA.out HR.out hW (below_drewN HM.out _) HKN.out HXV.out (by rw [capV_out HD.out])
  · have g1 : (tk == 1) = false := by rw [hkd]; rfl
    have g2 : (tk == 2) = false := by rw [hkd]; rfl
    have g3 : (tk == 3) = false := by rw [hkd]; rfl
    have g4 : (tk == 4) = false := by rw [hkd]; rfl
    have g5 : (tk == 5) = false := by rw [hkd]; rfl
    have g6 : (tk == 6) = true := by rw [hkd]; rfl
    obtain ⟨ha0, ha1⟩ : 0 ≤ ta ∧ ta < i := HK.out.1 (show 3 ≤ tk by omega)
    obtain ⟨a, rfl⟩ := Int.eq_ofNat_of_zero_le ha0
    have hai : (a : Int) < (n : Int) := by omega
    have ca := (cell_of_lit HQY.out a).trans (intC_at vals (show a < n by omega))
    have hna := getD_in HB.out a
    have hvt : valT ask ⟨tk, tv, tn, (a : Int), tb⟩ vals = (- vals.getD a 0, 0) := by unfold valT; simp only [hkd]; rfl
    have HKN := Lib.hid (show tk ≠ 2 by omega)
    generalize vals.getD a 0 = x at *
    obtain ⟨hx0, hx1⟩ := hna
    have HXV := Lib.hid hvt
    clear hkd HK HQ HQY hvt ha0 ha1
    have HV := Lib.hid (isValue_any (-x))
    obtain ⟨d, hd⟩ : ∃ d, inR (-x) = d := ⟨_, rfl⟩
    rewrite [hd] at HV
    have HD := Lib.hid hd
    clear hd
    cases d with
    | true =>
      go_wp2_with ((go_at_call 45; with_reducible refine (HV.out _).mono ?_; rintro e w' ⟨rfl, rfl⟩))
      refine bodyPost_ret (v := .tuple #[.int .i64 (-x), .int .i64 0]) (by simp [results, Try.results32, go_sem]) rfl ?_
      exact wsays_madeB HA.out HR.out hW HM.out HKN.out HXV.out (by rw [capV_in HD.out])
    | false =>
      go_wp2_with ((go_at_call 45; with_reducible refine (HV.out _).mono ?_; rintro e w' ⟨rfl, rfl⟩))
      refine bodyPost_ret (v := .tuple #[.int .i64 0, .int .i64 6]) (by simp [results, Try.results32, go_sem]) rfl ?_
      exact wsays_madeB HA.out HR.out hW HM.out HKN.out HXV.out (by rw [capV_out HD.out])
end
section
variable {w wc u u1 : World} {F : Nat → Prop} {R : List (List UInt8) → (Nat → Prop) → World → Prop} {cb g q n : Nat} {f : Nat → Bool} {vals : List Int} {acc : List (List UInt8)} {K : FuncId} {caps : Array Value} {ask : List UInt8 → Int × Int}
theorem EX.madeB (hA : AsksB w K caps ask R) (h : EX w wc F R cb g q f n vals acc u) (hm : Made u u1) : EX w wc F R cb g q f n vals acc u1 := by
  obtain ⟨F', h1, h2⟩ := h.asked
  exact ⟨hm.heap h.marks, hm.heap h.vblk, (hm.block cb h.lt).trans h.trm, h.ne, h.low, Nat.lt_of_lt_of_le h.lt hm.size, ⟨F', asks_madeB hA h1 h.out.size hm, h2⟩, h.out.step hm⟩
theorem EX.storeB (hA : AsksB w K caps ask R) (h : EX w wc F R cb g q f n vals acc u) (x : Int) : EX w wc F R cb g q f n (vals ++ [x]) acc (u.setCell ⟨q, vals.length, none⟩ (.int .i64 x)) := by
  obtain ⟨F', h1, h2, h3, h4, h5⟩ := h.asked
  have ho : ∀ b, b ≠ q → (u.setCell ⟨q, vals.length, none⟩ (.int .i64 x)).heap[b]? = u.heap[b]? := fun b hb => heap_setCell_other u ⟨q, vals.length, none⟩ b (.int .i64 x) hb
  refine ⟨(ho g h.ne.1).trans h.marks, ?_, (ho cb h.ne.2).trans h.trm, h.ne, h.low, by simpa using h.lt, ⟨F', hA.keep acc F' u _ h1 (fun b hb => ho b ?_) rfl rfl rfl (by simp), h2, h3, h4, h5⟩, ?_⟩
  · have := heap_setCell_same u q vals.length (intC vals n).toArray 2 (.int .i64 x) h.vblk
    rwa [intC_set] at this
  · rintro rfl
    rcases hb with hb | hb
    · exact h5 hb
    · have := h.low.2.2; omega
  · exact ⟨h.out.os, h.out.tape, h.out.output, by simpa using h.out.size, fun b hb hf => (ho b (by have := h.low.2.2; omega)).trans (h.out.block b hb hf)⟩
end
section
attribute [local irreducible] World.cell?
set_option maxRecDepth 100000 in
set_option maxHeartbeats 32000000 in
theorem xevalB_any (w : World) (ao : Option Addr) (cap : Nat) (e : List Tm) (hT : Tms w ao cap e) (hl : e.length ≤ 10000) (K : FuncId) (caps : Array Value) (ask : List UInt8 → Int × Int) (R : List (List UInt8) → (Nat → Prop) → World → Prop) (F : Nat → Prop)
    (hA : AsksB w K caps ask R) (hR : R [] F w) (h64 : ∀ s, -9223372036854775808 ≤ (ask s).1 ∧ (ask s).1 ≤ 9223372036854775807) :
    Calls Try.prog 12 #[.slice ao e.length cap, .func (.func K) #[] caps] w (EvSays w F ask e R) := by
  have HA := Lib.hid hA
  have HRR := Lib.hid hR
  have HRT := Lib.hid (xright_any w ao cap e hT hl w (Made.refl w))
  have H64 := Lib.hid h64
  have hop := fun u => run_func_nil u (.func K) #[] caps
  cases hr : rightB e with
  | false =>
    have HR := Lib.hid (show evL ask e = (0, 1) ∧ askedL ask e = [] by unfold evL askedL; rw [hr]; exact ⟨rfl, rfl⟩)
    rewrite [hr] at HRT
    clear hr hT h64 hA hR
    go_enter Try.func12, Try.ntmps12
    go_wp2_with (fail)
    refine HRT.out.mono ?_
    rintro x w1 ⟨rfl, hm1⟩
    have M1 := Lib.hid hm1
    clear hm1
    go_wp2
    refine bodyPost_ret (v := .tuple #[.int .i64 0, .int .i64 1]) (by simp [results, Try.results12, go_sem]) rfl ?_
    exact ⟨by rw [HR.out.1], F, by rw [HR.out.2]; exact asks_madeB HA.out HRR.out (Nat.le_refl _) M1.out, fun b hb => .inl hb, Out.made M1.out⟩
  | true =>
    have hok : okFrom 0 e = true ∧ e ≠ [] := by
      have h9 := hr
      unfold rightB at h9
      rw [Bool.and_eq_true, decide_eq_true_iff] at h9
      exact h9
    have HEL := Lib.hid (show evL ask e = evF ask e e.length 0 [] ∧ askedL ask e = askF ask e e.length 0 [] by unfold evL askedL; rw [hr]; exact ⟨rfl, rfl⟩)
    have HRB := Lib.hid hok.1
    have hn0 : 0 < e.length := List.length_pos_iff.2 hok.2
    have HCL := Lib.hid (fun u (hu : Made w u) => cloneT_any u ao cap e (hT.made tm_len hu) hl hn0)
    have HUS := Lib.hid (fun W2 (so : Option Addr) (c2 : Nat) (h2 : Tms W2 so c2 e) => xused_any W2 so c2 e h2 hl hr W2 (Made.refl W2))
    obtain ⟨i0, hi0, hz0, hz1, hz2⟩ := info_parts long_row
    obtain ⟨M, hM⟩ : ∃ M, M = madeCells (Value.int .i64 0).cells (((e.length : Nat) : Int).toNat * i0.size) := ⟨_, rfl⟩
    have hMl : M = (intC [] e.length).toArray := by
      rw [hM, hz1, Nat.mul_one, Int.toNat_natCast]
      apply Array.toList_inj.1
      rw [show (Value.int .i64 0).cells = #[Value.int .i64 0] from rfl, toList_madeCells_one]
      unfold intC
      refine List.ext_getElem (by simp) fun i h1 h2 => ?_
      simp
    have hmk : ∀ u : World, (Instr.makeSlice 68 (.int .i64 (e.length : Int)) (.int .i64 (e.length : Int))).run Try.prog u = .ok (.slice (some ⟨u.heap.size, 0, none⟩) e.length e.length) (u.alloc (.cells M 2)) := fun u => by
      have h := run_make (P := Try.prog) u 68 2 i0 (.int .i64 0) Try.underlying68 hi0 hz0 .i64 .i64 (e.length : Int) (e.length : Int) (by omega) (by omega) (by rw [hz2]; omega) (by omega)
      rw [← hM] at h
      simpa using h
    have HML := Lib.hid hMl
    rewrite [hr] at HRT
    clear hr hT hok hM hMl hi0 hz0 hz1 hz2 h64 hA hR
    go_enter Try.func12, Try.ntmps12
    go_wp2_with (fail)
    refine HRT.out.mono ?_
    rintro x w1 ⟨rfl, hm1⟩
    have M1 := Lib.hid hm1
    clear hm1
    go_wp2_with (fail)
    refine (HCL.out _ M1.out).mono ?_
    rintro x w2 ⟨cb, cap2, rfl, hlo, hcb, hT2, hm2⟩
    have M2 := Lib.hid (Made.trans M1.out hm2)
    have HT2 := Lib.hid hT2
    have HLO := Lib.hid (Nat.le_trans M1.out.size hlo)
    clear hlo hm2 hT2 HCL M1
    go_wp2_with (fail)
    refine (HUS.out w2 _ _ HT2.out).mono ?_
    rintro x w3 ⟨g, rfl, hU⟩
    have K0 := Lib.hid (show EX w w2 F R cb g w3.heap.size (usedB e) e.length [] [] (w3.alloc (.cells M 2)) from by
      have m3 : Made w3 (w3.alloc (.cells M 2)) := (Made.refl w3).alloc (Nat.le_refl _) _
      have hall : Made w (w3.alloc (.cells M 2)) := Made.trans M2.out (Made.trans hU.made m3)
      have hg := heap_lt hU.blk
      have h23 := hU.made.size
      have hw2 := M2.out.size
      have hlow := hU.low
      refine ⟨m3.heap hU.blk, by rw [HML.out]; exact heap_alloc_new w3 _, ?_, ⟨by omega, by omega⟩, ⟨HLO.out, by omega, by omega⟩, by simp only [World.size_alloc]; omega, ⟨F, asks_madeB HA.out HRR.out (Nat.le_refl _) hall, fun b hb => .inl hb, fun hb => ?_, fun hb => ?_, fun hb => ?_⟩, Out.made hall⟩
      · exact (m3.block cb (by omega)).trans (hU.made.block cb hcb)
      · have := HA.out.fits [] F w HRR.out cb hb; have := HLO.out; omega
      · have := HA.out.fits [] F w HRR.out g hb; omega
      · have := HA.out.fits [] F w HRR.out _ hb; omega)
    clear hU HRT HUS HML
    go_wp2_with (fail)
    clear hmk
    go_loopw [28] (fun iv wr => ∃ (k : Nat) (vals : List Int) (acc : List (List UInt8)), k ≤ e.length ∧ acc.length ≤ k ∧ iv = .int .i64 k ∧ vals.length = k ∧ (∀ v ∈ vals, inR v = true) ∧ EX w w2 F R cb g w3.heap.size (usedB e) e.length vals acc wr ∧ evF ask e (e.length - k) k vals = evF ask e e.length 0 [] ∧ acc ++ askF ask e (e.length - k) k vals = askF ask e e.length 0 []) (fun iv _ => e.length - (intOf iv).toNat)
    case atStart => exact ⟨0, [], [], Nat.zero_le _, Nat.le_refl _, rfl, rfl, (fun _ h => by cases h), K0.out, rfl, rfl⟩
    case round =>
      clear K0
      obtain ⟨k, vals, acc, hk, hacc, rfl, hvl, hin, hE, hev, has⟩ := hrel
      have KE := Lib.hid hE
      have HVL := Lib.hid hvl
      have HIN := Lib.hid hin
      have HOK := Lib.hid hev
      have HAS := Lib.hid has
      clear hE hin hev hvl has
      generalize w3.heap.size = q at *
      clear w3
      by_cases hk1 : k < e.length
      rotate_left
      · obtain rfl : k = e.length := by omega
        have cq := KE.out.val (show e.length - 1 < e.length by omega)
        have HR := Lib.hid (show evL ask e = (vals.getD (e.length - 1) 0, 0) by
          rw [HEL.out.1, ← HOK.out, Nat.sub_self]
          show (vals.getLastD 0, 0) = _
          rw [List.getLastD_eq_getLast?, List.getLast?_eq_getElem?, List.getD_eq_getElem?_getD, HVL.out])
        have HR2 := Lib.hid (show askedL ask e = acc by
          rw [HEL.out.2, ← HAS.out, Nat.sub_self]
          show acc ++ [] = acc
          exact List.append_nil _)
        obtain ⟨n1, hn1⟩ : ∃ n1 : Nat, n1 = e.length - 1 := ⟨_, rfl⟩
        have hn2 : (e.length : Int) - 1 = (n1 : Int) := by omega
        rewrite [← hn1] at cq HR
        have hn3 : (n1 : Int) < (e.length : Int) := by omega
        clear hn1
        generalize vals.getD n1 0 = z at *
        go_wp2
        refine bodyPost_ret (v := .tuple #[.int .i64 z, .int .i64 0]) (by simp [results, Try.results12, go_sem]) rfl ?_
        obtain ⟨F', h1, h2, -⟩ := KE.out.asked
        exact ⟨by rw [HR.out], F', by rw [HR2.out]; exact h1, h2, KE.out.out⟩
      · obtain ⟨t, ht⟩ : ∃ t, e[k] = t := ⟨_, rfl⟩
        obtain ⟨b9, o9, he9, c0, c1, c2, c3, c4⟩ := tms_cells (recs_same HT2.out KE.out.trm) hk1 t ht
        obtain ⟨rfl, rfl⟩ : cb = b9 ∧ 0 = o9 := by simpa using he9
        rewrite [Nat.zero_add] at c0 c1 c2 c3 c4
        have hokt := ok_at e 0 k HRB.out hk1
        rw [Nat.zero_add, ht] at hokt
        have HKT := Lib.hid hokt
        have hki : (k : Int) < (e.length : Int) := by omega
        have hen : (e.length : Int) ≤ 10000 := by omega
        have hstep : ∀ b, usedB e k = b → (evF ask e (e.length - k) k vals = if b = true then (if (capV (valT ask t vals)).2 = 0 then evF ask e (e.length - (k + 1)) (k + 1) (vals ++ [(capV (valT ask t vals)).1]) else capV (valT ask t vals)) else evF ask e (e.length - (k + 1)) (k + 1) (vals ++ [0])) ∧
            (askF ask e (e.length - k) k vals = if b = true then (if t.kind = 2 then [t.name] else []) ++ (if (capV (valT ask t vals)).2 = 0 then askF ask e (e.length - (k + 1)) (k + 1) (vals ++ [(capV (valT ask t vals)).1]) else []) else askF ask e (e.length - (k + 1)) (k + 1) (vals ++ [0])) := by
          intro b hb
          rw [show e.length - k = (e.length - (k + 1)) + 1 by omega]
          simp only [evF, askF, List.getElem?_eq_getElem hk1, ht, hb]
          exact ⟨trivial, trivial⟩
        have HSTEP := Lib.hid hstep
        have hz := KE.out.out.size
        clear ht hokt hstep he9
        have HX := Lib.hid (show EX w w2 F R cb g q (usedB e) e.length vals acc (wr.alloc (.cells t.cells.toArray TE)) ∧ (wr.alloc (.cells t.cells.toArray TE)).heap[wr.heap.size]? = some (.cells t.cells.toArray TE (0, 0)) from ⟨KE.out.madeB HA.out ((Made.refl wr).alloc (Nat.le_refl _) _), heap_alloc_new wr _⟩)
        obtain ⟨tk, tv, tn, ta, tbb⟩ := t
        go_upto_region 9 with (fail)
        refine world_named (fun u => EX w w2 F R cb g q (usedB e) e.length vals acc u ∧ u.heap[wr.heap.size]? = some (.cells (Tm.cells ⟨tk, tv, tn, ta, tbb⟩).toArray TE (0, 0))) HX.out ?_
        rintro u ⟨hu, hb⟩
        have KU := Lib.hid hu
        clear c0 c1 c2 c3 c4 HX KE
        have c0 : u.cell? ⟨wr.heap.size, 0, none⟩ = some (.int .u8 tk) := cell_of_lit hb 0
        have c1 : u.cell? ⟨wr.heap.size, 1, none⟩ = some (.int .i64 tv) := cell_of_lit hb 1
        have c2 : u.cell? ⟨wr.heap.size, 2, none⟩ = some (.string (strOf tn)) := cell_of_lit hb 2
        have c3 : u.cell? ⟨wr.heap.size, 3, none⟩ = some (.int .i64 ta) := cell_of_lit hb 3
        have c4 : u.cell? ⟨wr.heap.size, 4, none⟩ = some (.int .i64 tbb) := cell_of_lit hb 4
        have cm := KU.out.mark hk1
        clear hu hb hz
        cases hu : usedB e k with
        | false =>
          rewrite [hu] at cm
          have hs2 := HSTEP.out false hu
          have HNX := Lib.hid (show evF ask e (e.length - (k + 1)) (k + 1) (vals ++ [0]) = evF ask e e.length 0 [] by rw [← HOK.out, hs2.1]; rfl)
          have HNY := Lib.hid (show acc ++ askF ask e (e.length - (k + 1)) (k + 1) (vals ++ [0]) = askF ask e e.length 0 [] by rw [← HAS.out, hs2.2]; rfl)
          clear hu hs2
          go_wp2
          go_roundw
          case rel => exact ⟨k + 1, vals ++ [0], acc, by omega, by omega, by go_num, by rw [List.length_append, HVL.out]; rfl, fun v hv => by
            rcases List.mem_append.1 hv with hv | hv
            · exact HIN.out v hv
            · rw [List.mem_singleton] at hv
              subst hv
              rfl, KU.out.skip, HNX.out, HNY.out⟩
          case measure => simp [intOf]; omega
        | true =>
          rewrite [hu] at cm
          have hs2 := HSTEP.out true hu
          rw [if_pos rfl, if_pos rfl] at hs2
          have HEV := Lib.hid hs2
          obtain ⟨F', h1, h2, h3, h4, h5⟩ := KU.out.asked
          have HWO := Lib.hid (worthB_any w K caps ask R HA.out ⟨tk, tv, tn, ta, tbb⟩ k e.length HKT.out hk1 vals HIN.out H64.out q acc (by omega) F' u h1 KU.out.out.size KU.out.vblk)
          have HF := Lib.hid (And.intro h2 (And.intro h3 (And.intro h4 h5)))
          obtain ⟨z, er, hze⟩ : ∃ z er, capV (valT ask ⟨tk, tv, tn, ta, tbb⟩ vals) = (z, er) := ⟨_, _, rfl⟩
          have HZE := Lib.hid hze
          clear hu hs2 h1 h2 h3 h4 h5 hze
          go_wp2_with (fail)
          refine HWO.out.mono ?_
          rintro x u2 ⟨hx, F2, hR2, hF2, hO2⟩
          rewrite [HZE.out] at hx
          subst hx
          have KV := Lib.hid (KU.out.worth HF.out.1 HF.out.2.1 HF.out.2.2.1 HF.out.2.2.2 hR2 hF2 hO2)
          clear hR2 hF2 hO2 HWO c0 c1 c2 c3 c4 cm
          by_cases he : er = 0
          · have ge : (er != 0) = false := by rw [he]; rfl
            have hev := HEV.out
            rw [HZE.out] at hev
            simp only [he] at hev
            rw [if_pos trivial, if_pos trivial] at hev
            have HNX := Lib.hid (show evF ask e (e.length - (k + 1)) (k + 1) (vals ++ [z]) = evF ask e e.length 0 [] from hev.1.symm.trans HOK.out)
            have HNY := Lib.hid (show (acc ++ (if tk = 2 then [tn] else [])) ++ askF ask e (e.length - (k + 1)) (k + 1) (vals ++ [z]) = askF ask e e.length 0 [] by rw [← HAS.out, hev.2, List.append_assoc])
            have HB := Lib.hid (show ∀ v ∈ vals ++ [z], inR v = true from fun v hv => by
              rcases List.mem_append.1 hv with hv | hv
              · exact HIN.out v hv
              · rw [List.mem_singleton] at hv
                subst hv
                exact capV_ok (by rw [HZE.out, he]))
            have KN := Lib.hid (KV.out.storeB HA.out z)
            rewrite [HVL.out] at KN
            have fq := free_of_lit KV.out.vblk
            have lq := heap_lt KV.out.vblk
            have cq := KV.out.val hk1
            clear he hev
            go_wp2
            go_roundw
            case rel => exact ⟨k + 1, vals ++ [z], _, by omega, by rw [List.length_append]; split <;> simp <;> omega, by go_num, by rw [List.length_append, HVL.out]; rfl, HB.out, KN.out, HNX.out, HNY.out⟩
            case measure => simp [intOf]; omega
          · have ge : (er != 0) = true := bne_iff_ne.2 he
            have hev := HEV.out
            rw [HZE.out] at hev
            simp only [] at hev
            rw [if_neg he, if_neg he, List.append_nil] at hev
            have HR := Lib.hid (show evL ask e = (0, er) by rw [HEL.out.1, ← HOK.out, hev.1]; exact capV_bad HZE.out he)
            have HR2 := Lib.hid (show askedL ask e = acc ++ (if tk = 2 then [tn] else []) by rw [HEL.out.2, ← HAS.out, hev.2])
            clear he hev
            go_wp2
            refine bodyPost_ret (v := .tuple #[.int .i64 0, .int .i64 er]) (by simp [results, Try.results12, go_sem]) rfl ?_
            obtain ⟨F3, h1, h2, -⟩ := KV.out.asked
            exact ⟨by rw [HR.out], F3, by rw [HR2.out]; exact h1, h2, KV.out.out⟩
end
end Go.Proofs.Ytebpimjbjjmpaaa
