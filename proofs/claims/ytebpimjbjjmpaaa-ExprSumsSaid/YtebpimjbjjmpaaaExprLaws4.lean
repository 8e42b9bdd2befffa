/- ExprSums walked, of any two texts; no condition. -/
import Derived.Test.YtebpimjbjjmpaaaExprFew
import Derived.Test.YtebpimjbjjmpaaaExprLaws3
namespace Go.Proofs.Ytebpimjbjjmpaaa
open Go.ChangeShapes Go.WideShapes Go.ChangeAt Go.RowKit Go.Sort BigFrame

theorem xcap_in (x : Int × Int) (h : (capV x).2 = 0) : inR (capV x).1 = true := by
  unfold capV at h ⊢
  split at h
  · exact absurd h (by assumption)
  · rename_i h0
    rw [if_neg h0]
    split
    · assumption
    · rename_i hr
      rw [if_neg hr] at h
      exact absurd h (by decide)
theorem evT_in (ask : List UInt8 → Int × Int) : ∀ t : Ex, (evT ask t).2 = 0 → inR (evT ask t).1 = true
  | .num v, h => xcap_in _ h
  | .nam s, h => xcap_in _ h
  | .bin k a b, h => by
    simp only [evT] at h ⊢
    split
    · rename_i h1
      rw [if_pos h1] at h
      split
      · rename_i h2
        rw [if_pos h2] at h
        exact xcap_in _ h
      · rename_i h2
        rw [if_neg h2] at h
        exact absurd h h2
    · rename_i h1
      rw [if_neg h1] at h
      exact absurd h h1
  | .neg a, h => by
    simp only [evT] at h ⊢
    split
    · rename_i h1
      rw [if_pos h1] at h
      exact xcap_in _ h
    · rename_i h1
      rw [if_neg h1] at h
      exact absurd h h1
theorem inR_le {x : Int} (h : inR x = true) : -1099511627776 ≤ x ∧ x ≤ 1099511627776 := by
  simp only [inR, maxV, Bool.and_eq_true, decide_eq_true_eq] at h
  exact h
theorem cap_of {x : Int} (h : inR x = true) : capV (x, 0) = (x, 0) := by
  simp [capV, h]
theorem inR_neg {x : Int} (h : inR x = true) : inR (-x) = true := by
  simp only [inR, maxV, Bool.and_eq_true, decide_eq_true_eq] at h ⊢
  omega
/-- What is told without an error is a whole text's value. -/
theorem of_ok {res : Rs} (h : (ofV res).2 = 0) : ∃ a, res = .ok a [] ∧ ofV res = evT (askL names31) a := by
  match res, h with
  | .ok a [], _ => exact ⟨a, rfl, rfl⟩
  | .ok a (t :: r), h => exact absurd h (show ¬ ((8 : Int) = 0) by decide)
  | .bad r w, h => exact absurd h (show ¬ ((8 : Int) = 0) by decide)
theorem mul_in {a b : Int} (h1 : -1048576 ≤ a) (h2 : a ≤ 1048576) (h3 : -1048576 ≤ b) (h4 : b ≤ 1048576) : -1099511627776 ≤ a * b ∧ a * b ≤ 1099511627776 := by
  have h5 : (a * b).natAbs ≤ 1048576 * 1048576 := by
    rw [Int.natAbs_mul]
    exact Nat.mul_le_mul (by omega) (by omega)
  omega
abbrev OfSays (v : Int × Int) (w : World) (x : Ending) (w' : World) : Prop := x = .returned (.tuple #[.int .i64 v.1, .int .i64 v.2]) ∧ Made w w'
theorem of_two {S T : ByteArray} {s t : List UInt8} (hS : IsStr S s) (hT : IsStr T t) (l1 : s.length ≤ 300) (l2 : t.length ≤ 300) (x : UInt8) (hx : isOp x) (p1 : Plain s) (p2 : Plain t) (a : Ex) (hR : Rd .sum 0 (sgT 40 :: (Ts s ++ sgT 41 :: sgT x :: sgT 40 :: (Ts t ++ [sgT 41]))) (.ok a [])) (w : World) :
    Calls Try.prog 11 #[.string (⟨#[40]⟩ ++ S ++ ⟨#[41, x, 40]⟩ ++ T ++ ⟨#[41]⟩)] w (OfSays (evT (askL names31) a) w) := by
  have h1 : IsStr (⟨#[40]⟩ ++ S ++ ⟨#[41, x, 40]⟩ ++ T ++ ⟨#[41]⟩) (40 :: (s ++ 41 :: x :: 40 :: (t ++ [41]))) := by
    have h2 := str_cat (str_cat (str_cat (str_cat (S := ⟨#[40]⟩) (a := [40]) rfl hS) (T := ⟨#[41, x, 40]⟩) (b := [41, x, 40]) rfl) hT) (T := ⟨#[41]⟩) (b := [41]) rfl
    simpa using h2
  exact of_any _ _ h1 (by simp; omega) (.ok a []) (by rw [ts_two p1 p2 hx]; exact hR) w
theorem of_one {S : ByteArray} {s : List UInt8} (hS : IsStr S s) (l1 : s.length ≤ 300) (p1 : Plain s) (a : Ex) (hR : Rd .sum 0 (sgT 40 :: (Ts s ++ [sgT 41])) (.ok a [])) (w : World) :
    Calls Try.prog 11 #[.string (⟨#[40]⟩ ++ S ++ ⟨#[41]⟩)] w (OfSays (evT (askL names31) a) w) := by
  have h1 : IsStr (⟨#[40]⟩ ++ S ++ ⟨#[41]⟩) (40 :: (s ++ [41])) := by
    have h2 := str_cat (str_cat (S := ⟨#[40]⟩) (a := [40]) rfl hS) (T := ⟨#[41]⟩) (b := [41]) rfl
    simpa using h2
  exact of_any _ _ h1 (by simp; omega) (.ok a []) (by rw [ts_paren p1]; exact hR) w
theorem of_neg {S : ByteArray} {s : List UInt8} (hS : IsStr S s) (l1 : s.length ≤ 300) (p1 : Plain s) (res : Rs) (hR : Rd .sum 0 (sgT 45 :: sgT 40 :: (Ts s ++ [sgT 41])) res) (w : World) :
    Calls Try.prog 11 #[.string (⟨#[45, 40]⟩ ++ S ++ ⟨#[41]⟩)] w (OfSays (ofV res) w) := by
  have h1 : IsStr (⟨#[45, 40]⟩ ++ S ++ ⟨#[41]⟩) (45 :: 40 :: (s ++ [41])) := by
    have h2 := str_cat (str_cat (S := ⟨#[45, 40]⟩) (a := [45, 40]) rfl hS) (T := ⟨#[41]⟩) (b := [41]) rfl
    simpa using h2
  exact of_any _ _ h1 (by simp; omega) res (by rw [ts_minus p1]; exact hR) w
namespace exprSums
section
attribute [local irreducible] World.cell?
set_option maxRecDepth 100000 in
set_option maxHeartbeats 64000000 in
theorem walk (W : World) (a0 a1 : ByteArray) (w0 : a0.size ≤ maxLen) (w1 : a1.size ≤ maxLen) : Calls Try.prog 6 #[.string a0, .string a1] W fun e w' => e = .returned (.bool true) ∧ Made W w' := by
  have HA := Lib.hid (fun (u : World) (hu : Made W u) => awake15_any W u hu)
  unfold maxLen at w0 w1
  obtain ⟨S, s, hS, hls, hways1⟩ := xcut_text a0 300
  obtain ⟨T, t, hT, hlt, hways2⟩ := xcut_text a1 300
  obtain ⟨r1, hr1⟩ := rd_total (Ts s)
  obtain ⟨r2, hr2⟩ := rd_total (Ts t)
  obtain ⟨⟨va, ea⟩, hv1⟩ : ∃ p, p = ofV r1 := ⟨_, rfl⟩
  obtain ⟨⟨vb, eb⟩, hv2⟩ : ∃ p, p = ofV r2 := ⟨_, rfl⟩
  obtain ⟨da, hda⟩ : ∃ d, d = min (deepN s) 100 := ⟨_, rfl⟩
  obtain ⟨db, hdb⟩ : ∃ d, d = min (deepN t) 100 := ⟨_, rfl⟩
  obtain ⟨na, hna⟩ : ∃ d, d = endsB s := ⟨_, rfl⟩
  obtain ⟨nb, hnb⟩ : ∃ d, d = endsB t := ⟨_, rfl⟩
  have HO1 := Lib.hid (show ∀ u, Calls Try.prog 11 #[.string S] u (OfSays (va, ea) u) from fun u => hv1 ▸ of_any S s hS (by omega) r1 hr1 u)
  have HO2 := Lib.hid (show ∀ u, Calls Try.prog 11 #[.string T] u (OfSays (vb, eb) u) from fun u => hv2 ▸ of_any T t hT (by omega) r2 hr2 u)
  have HD1 := Lib.hid (show Still Try.prog 25 #[.string S] (.int .i64 (da : Int)) from hda ▸ deep_any S s hS (by omega))
  have HD2 := Lib.hid (show Still Try.prog 25 #[.string T] (.int .i64 (db : Int)) from hdb ▸ deep_any T t hT (by omega))
  have HN1 := Lib.hid (show Still Try.prog 26 #[.string S] (.bool na) from hna ▸ ends_any S s hS (by omega))
  have HN2 := Lib.hid (show Still Try.prog 26 #[.string T] (.bool nb) from hnb ▸ ends_any T t hT (by omega))
  have HR := Lib.hid (And.intro hr1 hr2)
  have HV := Lib.hid (And.intro hv1 hv2)
  have HDD := Lib.hid (And.intro hda hdb)
  have HNN := Lib.hid (And.intro hna hnb)
  have HSS := Lib.hid (And.intro hS hT)
  have hzs : S.size ≤ 300 := by rw [str_size hS]; exact hls
  have hzt : T.size ≤ 300 := by rw [str_size hT]; exact hlt
  have hcut1 : ((a0.size : Int) ≤ 300 ∧ S = a0) ∨ ((300 : Int) < (a0.size : Int) ∧ S = a0.extract 0 300) := by
    rcases hways1 with ⟨h1, h2⟩ | ⟨h1, h2⟩
    · exact .inl ⟨h2, h1⟩
    · exact .inr ⟨h2, h1⟩
  have hcut2 : ((a1.size : Int) ≤ 300 ∧ T = a1) ∨ ((300 : Int) < (a1.size : Int) ∧ T = a1.extract 0 300) := by
    rcases hways2 with ⟨h1, h2⟩ | ⟨h1, h2⟩
    · exact .inl ⟨h2, h1⟩
    · exact .inr ⟨h2, h1⟩
  have HC2 := Lib.hid hcut2
  have da0 : (0 : Int) ≤ (da : Int) := by omega
  have db0 : (0 : Int) ≤ (db : Int) := by omega
  have hda1 : da ≤ 100 := by omega
  have hdb1 : db ≤ 100 := by omega
  clear hways1 hways2 hr1 hr2 hv1 hv2 hda hdb hna hnb hS hT hcut2
  go_enter Try.func6, Try.ntmps6
  go_upto_if 21 with (fail)
  go_cut [0] from 22 to 23 (fun v wc => v = .string S ∧ W = wc)
  case first =>
    rcases hcut1 with ⟨hs, rfl⟩ | ⟨hs, rfl⟩
    · go_wp2
      go_meet
      case rel => exact ⟨rfl, rfl⟩
    · go_wp2
      go_meet
      case rel => exact ⟨rfl, rfl⟩
  case rest =>
    obtain ⟨rfl, rfl⟩ := hcut
    clear hcut1
    go_upto_if 26 with (fail)
    go_cut [1] from 27 to 28 (fun v wc => v = .string T ∧ W = wc)
    case first =>
      rcases HC2.out with ⟨hs, rfl⟩ | ⟨hs, rfl⟩
      · clear HC2
        go_wp2
        go_meet
        case rel => exact ⟨rfl, rfl⟩
      · clear HC2
        go_wp2
        go_meet
        case rel => exact ⟨rfl, rfl⟩
    case rest =>
      obtain ⟨rfl, rfl⟩ := hcut
      clear HC2
      go_wp2_with (fail)
      refine (HO1.out _).mono ?_
      rintro x u1 ⟨rfl, h1⟩
      have M1 := Lib.hid h1
      clear h1
      go_wp2_with (fail)
      refine (HO2.out _).mono ?_
      rintro x u2 ⟨rfl, h1⟩
      have M2 := Lib.hid (Made.trans M1.out h1)
      clear h1 M1
      by_cases hea : ea = 0
      rotate_left
      · have g : (ea != 0) = true := bne_iff_ne.2 hea
        clear hea
        go_wp2_with (fail)
        refine (HA.out _ M2.out).mono ?_
        rintro x wz ⟨rfl, hmz⟩
        have MZ := Lib.hid hmz
        clear hmz
        go_wp2
        go_ret
        exact ⟨rfl, MZ.out⟩
      subst hea
      by_cases heb : eb = 0
      rotate_left
      · have g : (eb != 0) = true := bne_iff_ne.2 heb
        clear heb
        go_wp2_with (fail)
        refine (HA.out _ M2.out).mono ?_
        rintro x wz ⟨rfl, hmz⟩
        have MZ := Lib.hid hmz
        clear hmz
        go_wp2
        go_ret
        exact ⟨rfl, MZ.out⟩
      subst heb
      go_wp2_with (fail)
      refine (HD1.out _).mono ?_
      rintro x wq ⟨rfl, rfl⟩
      by_cases hda2 : 15 < da
      · have g : (15 : Int) < (da : Int) := by omega
        go_wp2_with (fail)
        refine (HA.out _ M2.out).mono ?_
        rintro x wz ⟨rfl, hmz⟩
        have MZ := Lib.hid hmz
        clear hmz
        go_wp2
        go_ret
        exact ⟨rfl, MZ.out⟩
      have gda : (da : Int) ≤ 15 := by omega
      go_wp2_with (fail)
      refine (HD2.out _).mono ?_
      rintro x wq ⟨rfl, rfl⟩
      by_cases hdb2 : 15 < db
      · have g : (15 : Int) < (db : Int) := by omega
        go_wp2_with (fail)
        refine (HA.out _ M2.out).mono ?_
        rintro x wz ⟨rfl, hmz⟩
        have MZ := Lib.hid hmz
        clear hmz
        go_wp2
        go_ret
        exact ⟨rfl, MZ.out⟩
      have gdb : (db : Int) ≤ 15 := by omega
      go_wp2_with (fail)
      refine (HN1.out _).mono ?_
      rintro x wq ⟨rfl, rfl⟩
      cases na with
      | true =>
        go_wp2_with (fail)
        refine (HA.out _ M2.out).mono ?_
        rintro x wz ⟨rfl, hmz⟩
        have MZ := Lib.hid hmz
        clear hmz
        go_wp2
        go_ret
        exact ⟨rfl, MZ.out⟩
      | false =>
        go_wp2_with (fail)
        refine (HN2.out _).mono ?_
        rintro x wq ⟨rfl, rfl⟩
        cases nb with
        | true =>
          go_wp2_with (fail)
          refine (HA.out _ M2.out).mono ?_
          rintro x wz ⟨rfl, hmz⟩
          have MZ := Lib.hid hmz
          clear hmz
          go_wp2
          go_ret
          exact ⟨rfl, MZ.out⟩
        | false =>
          obtain ⟨A, hA, hvA⟩ := of_ok (res := r1) (by rw [← HV.out.1])
          obtain ⟨B, hB, hvB⟩ := of_ok (res := r2) (by rw [← HV.out.2])
          subst hA hB
          have eA : evT (askL names31) A = (va, 0) := hvA.symm.trans HV.out.1.symm
          have eB : evT (askL names31) B = (vb, 0) := hvB.symm.trans HV.out.2.symm
          have iA : inR va = true := by have := evT_in (askL names31) A (by rw [eA]); rwa [eA] at this
          have iB : inR vb = true := by have := evT_in (askL names31) B (by rw [eB]); rwa [eB] at this
          have pA := plain_of HNN.out.1.symm
          have pB := plain_of HNN.out.2.symm
          have qA : cntQ (Ts s) ≤ da := by have := ts_deep pA; have := HDD.out.1; omega
          have qB : cntQ (Ts t) ≤ db := by have := ts_deep pB; have := HDD.out.2; omega
          have hS := HSS.out.1
          have hT := HSS.out.2
          have C1 := Lib.hid (show ∀ u, Calls Try.prog 11 #[.string (⟨#[40]⟩ ++ S ++ ⟨#[41, 43, 40]⟩ ++ T ++ ⟨#[41]⟩)] u (OfSays (capV (va + vb, 0)) u) from fun u => by
            have h := of_two hS hT hls hlt 43 (by simp [isOp]) pA pB _ (rd_plus HR.out.1 HR.out.2 (by omega) (by omega)) u
            simpa only [evT, eA, eB, opV, if_true] using h)
          have C2 := Lib.hid (show ∀ u, Calls Try.prog 11 #[.string (⟨#[40]⟩ ++ S ++ ⟨#[41, 45, 40]⟩ ++ T ++ ⟨#[41]⟩)] u (OfSays (capV (va - vb, 0)) u) from fun u => by
            have h := of_two hS hT hls hlt 45 (by simp [isOp]) pA pB _ (rd_minus HR.out.1 HR.out.2 (by omega) (by omega)) u
            simpa only [evT, eA, eB, opV, if_true, show ¬ ((4 : Int) = 3) by decide, if_false] using h)
          have C3 := Lib.hid (show ∀ u, Calls Try.prog 11 #[.string (⟨#[40]⟩ ++ S ++ ⟨#[41, 42, 40]⟩ ++ T ++ ⟨#[41]⟩)] u (OfSays (capV (va * vb, 0)) u) from fun u => by
            have h := of_two hS hT hls hlt 42 (by simp [isOp]) pA pB _ (rd_times HR.out.1 HR.out.2 (by omega) (by omega)) u
            simpa only [evT, eA, eB, opV, if_true, show ¬ ((5 : Int) = 3) by decide, show ¬ ((5 : Int) = 4) by decide, if_false] using h)
          have C4 := Lib.hid (show ∀ u, Calls Try.prog 11 #[.string (⟨#[40]⟩ ++ S ++ ⟨#[41]⟩)] u (OfSays (va, 0) u) from fun u => by
            have h := of_one hS hls pA _ (rd_paren HR.out.1 (by omega)) u
            simpa only [eA] using h)
          have C5 : ∃ vm em, (da < 15 → vm = -va ∧ em = 0) ∧ ∀ u, Calls Try.prog 11 #[.string (⟨#[45, 40]⟩ ++ S ++ ⟨#[41]⟩)] u (OfSays (vm, em) u) := by
            by_cases h15 : da < 15
            · refine ⟨-va, 0, fun _ => ⟨rfl, rfl⟩, fun u => ?_⟩
              have h := of_neg hS hls pA _ (rd_minus1 HR.out.1 (by omega)) u
              simpa only [ofV, evT, eA, if_true, cap_of (inR_neg iA)] using h
            · obtain ⟨r, hr⟩ := rd_total (sgT 45 :: sgT 40 :: (Ts s ++ [sgT 41]))
              exact ⟨(ofV r).1, (ofV r).2, fun h => absurd h h15, fun u => of_neg hS hls pA r hr u⟩
          obtain ⟨vm, em, hvm, hc5⟩ := C5
          have C5 := Lib.hid hc5
          have HVM := Lib.hid hvm
          obtain ⟨la1, la2⟩ := inR_le iA
          obtain ⟨lb1, lb2⟩ := inR_le iB
          have z1 : (⟨#[40]⟩ : ByteArray).size = 1 := rfl
          have z2 : ∀ x : UInt8, (⟨#[41, x, 40]⟩ : ByteArray).size = 3 := fun _ => rfl
          have z3 : (⟨#[45, 40]⟩ : ByteArray).size = 2 := rfl
          have s1 := str_add ⟨#[40]⟩ S (by omega)
          have s2 := fun x : UInt8 => str_add (⟨#[40]⟩ ++ S) ⟨#[41, x, 40]⟩ (by rw [ByteArray.size_append, z1, z2]; omega)
          have s3 := fun x : UInt8 => str_add (⟨#[40]⟩ ++ S ++ ⟨#[41, x, 40]⟩) T (by rw [ByteArray.size_append, ByteArray.size_append, z1, z2]; omega)
          have s4 := fun x : UInt8 => str_add (⟨#[40]⟩ ++ S ++ ⟨#[41, x, 40]⟩ ++ T) ⟨#[41]⟩ (by rw [ByteArray.size_append, ByteArray.size_append, ByteArray.size_append, z1, z2]; show _ + 1 ≤ _; omega)
          have s5 := str_add ⟨#[45, 40]⟩ S (by omega)
          have s6 := str_add (⟨#[45, 40]⟩ ++ S) ⟨#[41]⟩ (by rw [ByteArray.size_append, z3]; show _ + 1 ≤ _; omega)
          have s7 := str_add (⟨#[40]⟩ ++ S) ⟨#[41]⟩ (by rw [ByteArray.size_append, z1]; show _ + 1 ≤ _; omega)
          have F1 := Lib.hid (fits15_any (va + vb))
          have F2 := Lib.hid (fits15_any (va - vb))
          have F3 := Lib.hid (fits15_any (va * vb))
          clear eA eB iA iB pA pB qA qB hS hT hvA hvB hvm hc5 HR HV HNN HSS HDD z1 z2 z3 hda2 hdb2 HO1 HO2
          go_wp2_with (fail)
          refine (C1.out _).mono ?_
          rintro x u3 ⟨rfl, h1⟩
          have U3 := Lib.hid (Made.trans M2.out h1)
          clear h1
          go_wp2_with (fail)
          refine (C2.out _).mono ?_
          rintro x u4 ⟨rfl, h1⟩
          have U4 := Lib.hid (Made.trans U3.out h1)
          clear h1
          go_wp2_with (fail)
          refine (C5.out _).mono ?_
          rintro x u5 ⟨rfl, h1⟩
          have U5 := Lib.hid (Made.trans U4.out h1)
          clear h1
          go_wp2_with (fail)
          refine (C4.out _).mono ?_
          rintro x u6 ⟨rfl, h1⟩
          have U6 := Lib.hid (Made.trans U5.out h1)
          clear h1
          go_wp2_with (fail)
          refine (F1.out _).mono ?_
          rintro x wq ⟨rfl, rfl⟩
          go_wp2_with (fail)
          refine (F2.out _).mono ?_
          rintro x wq ⟨rfl, rfl⟩
          go_wp2_with (fail)
          refine (HD1.out _).mono ?_
          rintro x wq ⟨rfl, rfl⟩
          have gmul : True := trivial
          by_cases h15 : da < 15
          · have g15 : (da : Int) < 15 := by omega
            obtain ⟨rfl, rfl⟩ := HVM.out h15
            clear h15
            by_cases ha1 : 1048576 < va
            · clear gmul
              go_wp2_with (fail)
              refine (HA.out _ U6.out).mono ?_
              rintro x wz ⟨rfl, hmz⟩
              have MZ := Lib.hid hmz
              clear hmz
              go_wp2
              go_ret
              exact ⟨rfl, MZ.out⟩
            have ha2 : va ≤ 1048576 := by omega
            by_cases ha3 : va < -1048576
            · clear gmul
              go_wp2_with (fail)
              refine (HA.out _ U6.out).mono ?_
              rintro x wz ⟨rfl, hmz⟩
              have MZ := Lib.hid hmz
              clear hmz
              go_wp2
              go_ret
              exact ⟨rfl, MZ.out⟩
            have ha4 : -1048576 ≤ va := by omega
            by_cases hb1 : 1048576 < vb
            · clear gmul
              go_wp2_with (fail)
              refine (HA.out _ U6.out).mono ?_
              rintro x wz ⟨rfl, hmz⟩
              have MZ := Lib.hid hmz
              clear hmz
              go_wp2
              go_ret
              exact ⟨rfl, MZ.out⟩
            have hb2 : vb ≤ 1048576 := by omega
            by_cases hb3 : vb < -1048576
            · clear gmul
              go_wp2_with (fail)
              refine (HA.out _ U6.out).mono ?_
              rintro x wz ⟨rfl, hmz⟩
              have MZ := Lib.hid hmz
              clear hmz
              go_wp2
              go_ret
              exact ⟨rfl, MZ.out⟩
            have hb4 : -1048576 ≤ vb := by omega
            obtain ⟨gm1, gm2⟩ := mul_in ha4 ha2 hb4 hb2
            clear ha1 ha3 hb1 hb3
            go_wp2_with (fail)
            refine (C3.out _).mono ?_
            rintro x u7 ⟨rfl, h1⟩
            have U7 := Lib.hid (Made.trans U6.out h1)
            clear h1
            go_wp2_with (fail)
            refine (F3.out _).mono ?_
            rintro x wq ⟨rfl, rfl⟩
            go_wp2_with (fail)
            refine (HA.out _ U7.out).mono ?_
            rintro x wz ⟨rfl, hmz⟩
            have MZ := Lib.hid hmz
            clear hmz
            go_wp2
            go_ret
            exact ⟨rfl, MZ.out⟩
          · obtain rfl : da = 15 := by omega
            by_cases ha1 : 1048576 < va
            · clear gmul
              go_wp2_with (fail)
              refine (HA.out _ U6.out).mono ?_
              rintro x wz ⟨rfl, hmz⟩
              have MZ := Lib.hid hmz
              clear hmz
              go_wp2
              go_ret
              exact ⟨rfl, MZ.out⟩
            have ha2 : va ≤ 1048576 := by omega
            by_cases ha3 : va < -1048576
            · clear gmul
              go_wp2_with (fail)
              refine (HA.out _ U6.out).mono ?_
              rintro x wz ⟨rfl, hmz⟩
              have MZ := Lib.hid hmz
              clear hmz
              go_wp2
              go_ret
              exact ⟨rfl, MZ.out⟩
            have ha4 : -1048576 ≤ va := by omega
            by_cases hb1 : 1048576 < vb
            · clear gmul
              go_wp2_with (fail)
              refine (HA.out _ U6.out).mono ?_
              rintro x wz ⟨rfl, hmz⟩
              have MZ := Lib.hid hmz
              clear hmz
              go_wp2
              go_ret
              exact ⟨rfl, MZ.out⟩
            have hb2 : vb ≤ 1048576 := by omega
            by_cases hb3 : vb < -1048576
            · clear gmul
              go_wp2_with (fail)
              refine (HA.out _ U6.out).mono ?_
              rintro x wz ⟨rfl, hmz⟩
              have MZ := Lib.hid hmz
              clear hmz
              go_wp2
              go_ret
              exact ⟨rfl, MZ.out⟩
            have hb4 : -1048576 ≤ vb := by omega
            obtain ⟨gm1, gm2⟩ := mul_in ha4 ha2 hb4 hb2
            clear ha1 ha3 hb1 hb3
            go_wp2_with (fail)
            refine (C3.out _).mono ?_
            rintro x u7 ⟨rfl, h1⟩
            have U7 := Lib.hid (Made.trans U6.out h1)
            clear h1
            go_wp2_with (fail)
            refine (F3.out _).mono ?_
            rintro x wq ⟨rfl, rfl⟩
            go_wp2_with (fail)
            refine (HA.out _ U7.out).mono ?_
            rintro x wz ⟨rfl, hmz⟩
            have MZ := Lib.hid hmz
            clear hmz
            go_wp2
            go_ret
            exact ⟨rfl, MZ.out⟩
end
end exprSums
end Go.Proofs.Ytebpimjbjjmpaaa
