/- ParseNames of the laws of parse returns true, for every name; conditions: the table of names and strconv's errors stand where their variables lie. -/
import Derived.Test.YtnfmlmamgkpocaaGreatDoorParAwake
import Derived.Test.YtnfmlmamgkpocaaGreatDoorGParM
namespace Go.Proofs.YtnfmlmamgkpocaaGreatDoor
open Go.ChangeShapes Go.WideShapes Go.ChangeAt Go.RowKit Go.Sort BigFrame

theorem cut_text16 (a : ByteArray) (N : Nat) : ∃ (T : ByteArray) (l : List UInt8), IsStr T l ∧ l.length ≤ N ∧ ((T = a ∧ (a.size : Int) ≤ N) ∨ (T = a.extract 0 N ∧ (N : Int) < (a.size : Int))) := by
  by_cases h : a.size ≤ N
  · exact ⟨a, a.data.toList, rfl, by rw [← str_size (S := a) rfl]; exact h, .inl ⟨rfl, by omega⟩⟩
  · refine ⟨a.extract 0 N, _, str_part (S := a) rfl 0 N, ?_, .inr ⟨rfl, by omega⟩⟩
    rw [List.length_take]
    omega
theorem nameB_ways {c : UInt8} {n : Nat} (hn : c.toNat = n) (h : nameB c = true) : (97 ≤ n ∧ n ≤ 122) ∨ (48 ≤ n ∧ n ≤ 57) ∨ n = 46 := by
  unfold nameB at h
  simp only [Bool.or_eq_true, Bool.and_eq_true, decide_eq_true_eq] at h
  omega
/-- A register or a predicate, in numbers. -/
theorem regN_is {l : List UInt8} {a b : UInt8} {r : List UInt8} (hl : l = a :: b :: r) : regN l = (decide (l.length < 4) && (decide (a.toNat = 114) || decide (a.toNat = 112)) && (decide (48 ≤ b.toNat) && decide (b.toNat ≤ 57))) := by
  subst hl
  have h1 : (a == 114) = decide (a.toNat = 114) := by
    by_cases h : a = 114
    · subst h; rfl
    · rw [beq_eq_false_iff_ne.2 h, decide_eq_false]
      intro e; exact h (UInt8.toNat_inj.1 e)
  have h2 : (a == 112) = decide (a.toNat = 112) := by
    by_cases h : a = 112
    · subst h; rfl
    · rw [beq_eq_false_iff_ne.2 h, decide_eq_false]
      intro e; exact h (UInt8.toNat_inj.1 e)
  unfold regN
  simp [h1, h2]
theorem regN_one {l : List UInt8} (hl : l.length ≤ 1) : regN l = false := by
  unfold regN
  rw [show decide (1 < l.length) = false from decide_eq_false (by omega)]
  rfl
namespace parseNames
section
attribute [local irreducible] World.cell?
set_option maxRecDepth 100000 in
set_option maxHeartbeats 16000000 in
theorem walk (W : World) (hN : Names W) (hE : Errs W) (a0 : ByteArray) (w0 : a0.size ≤ maxLen) : Calls Tryz.prog 7 #[.string a0] W fun e w' => e = .returned (.bool true) ∧ Made W w' := by
  have HA := Lib.hid (fun (u : World) (hu : Made W u) => awake16_any W hN hE u hu)
  unfold maxLen at w0
  obtain ⟨S, l, hS, hl, hways⟩ := cut_text16 a0 60
  have hsz := str_size hS
  have HZ := Lib.hid hsz
  have HS := Lib.hid hS
  have HR := Lib.hid (fun (u : World) (hu : Made W u) => (by have h := reserved_any l (by omega) W hE u hu; rw [← str_of hS] at h; exact h : Calls Tryz.prog 16 #[.string S] u _))
  have HR2 := Lib.hid (fun (u : World) (hu : Made W u) => (by have h := reserved_any (l ++ [46, 110, 101, 119]) (by rw [List.length_append]; have : [46, 110, 101, 119].length = 4 := rfl; omega) W hE u hu; rw [← str_of (str_cat hS (strOf_is [46, 110, 101, 119]))] at h; exact h : Calls Tryz.prog 16 #[.string (S ++ strOf [46, 110, 101, 119])] u _))
  have hadd := fun w => str_add S (strOf [46, 110, 101, 119]) (by have h4 : (strOf [46, 110, 101, 119]).size = 4 := rfl; omega) w
  have hsl : S.size ≤ 60 := by omega
  have hcut : ((a0.size : Int) ≤ 60 ∧ S = a0) ∨ ((60 : Int) < (a0.size : Int) ∧ S = a0.extract 0 60) := by
    rcases hways with ⟨h1, h2⟩ | ⟨h1, h2⟩
    · exact .inl ⟨h2, h1⟩
    · exact .inr ⟨h2, h1⟩
  clear hways hS hN hE hsz
  go_enter Tryz.func7, Tryz.ntmps7
  go_upto_if 8 with (fail)
  go_cut [0] from 9 to 10 (fun v wc => v = .string S ∧ W = wc)
  case first =>
    rcases hcut with ⟨hs, rfl⟩ | ⟨hs, rfl⟩
    · go_wp2
      go_meet
      case rel => exact ⟨rfl, rfl⟩
    · go_wp2
      go_meet
      case rel => exact ⟨rfl, rfl⟩
  case rest =>
    obtain ⟨rfl, rfl⟩ := hcut
    clear hcut
    go_wp2_with (fail)
    refine (HR.out _ (Made.refl _)).mono ?_
    rintro e w1 ⟨rfl, m1⟩
    have M1 := Lib.hid m1
    clear m1 HR
    by_cases hres : resP l = true
    · obtain ⟨h1, h2, h3, h4⟩ := res_ok hres
      rewrite [hres]
      have HB := Lib.hid h1
      have H3 := Lib.hid h3
      obtain ⟨b, hb⟩ : ∃ b, regN l = b := ⟨_, rfl⟩
      rewrite [h4, hb] at HR2
      have HRG := Lib.hid hb
      clear h1 h3 h4 hb hres
      go_wp2_with (fail)
      go_loopw [3] (fun iv wr => ∃ k : Nat, k ≤ S.size ∧ iv = .int .i64 k ∧ w1 = wr) (fun iv _ => S.size - (intOf iv).toNat)
      case atStart => exact ⟨0, Nat.zero_le _, rfl, rfl⟩
      case round =>
        obtain ⟨k, hk, rfl, rfl⟩ := hrel
        by_cases hlt : k < S.size
        · have hkl : k < l.length := by have := HZ.out; omega
          obtain ⟨c, hc⟩ : ∃ c, l[k] = c := ⟨_, rfl⟩
          have hidx := str_at (w := w1) HS.out hkl c hc
          have hway := HB.out c (hc ▸ List.getElem_mem hkl)
          obtain ⟨n, hn⟩ : ∃ n, c.toNat = n := ⟨_, rfl⟩
          have hw3 := nameB_ways hn hway
          rewrite [hn] at hidx
          clear hc hway
          rcases hw3 with ⟨g1, g2⟩ | ⟨g1, g2⟩ | g1
          · have f1 : (97 : Int) ≤ (n : Int) := by omega
            have f2 : (n : Int) ≤ 122 := by omega
            go_wp2
            go_roundw
            case rel => exact ⟨k + 1, by omega, by go_num, trivial⟩
            case measure => simp [intOf]; omega
          · have f1 : (n : Int) < 97 := by omega
            have f2 : (48 : Int) ≤ (n : Int) := by omega
            have f3 : (n : Int) ≤ 57 := by omega
            go_wp2
            go_roundw
            case rel => exact ⟨k + 1, by omega, by go_num, trivial⟩
            case measure => simp [intOf]; omega
          · subst g1
            go_wp2
            go_roundw
            case rel => exact ⟨k + 1, by omega, by go_num, trivial⟩
            case measure => simp [intOf]; omega
        · obtain rfl : k = S.size := by omega
          go_upto_region 11 with (fail)
          go_cut [5] from 43 to 70 (fun v wc => v = .bool b ∧ w1 = wc)
          case first =>
            have HRN := HRG.out
            by_cases h1 : l.length ≤ 1
            · have hc : (S.size : Int) ≤ 1 := by have := HZ.out; omega
              rw [regN_one h1] at HRN
              subst HRN
              go_wp2
              go_meet
              case rel => exact ⟨rfl, rfl⟩
            · obtain ⟨x, y, r, hxy⟩ : ∃ x y r, l = x :: y :: r := by
                rcases l with _ | ⟨x, _ | ⟨y, r⟩⟩
                · simp at h1
                · simp at h1
                · exact ⟨x, y, r, rfl⟩
              rw [regN_is hxy] at HRN
              have k1 : 1 < l.length := by omega
              have f1 : (1 : Int) < (S.size : Int) := by have := HZ.out; omega
              rewrite [← HZ.out] at HRN
              obtain ⟨m, hm⟩ : ∃ m, x.toNat = m := ⟨_, rfl⟩
              obtain ⟨n, hn⟩ : ∃ n, y.toNat = n := ⟨_, rfl⟩
              rewrite [hm, hn] at HRN
              have hi0 : (Instr.index 9 (.string S) (.int .i64 0)).run Tryz.prog w1 = .ok (.int .u8 m) w1 := by rw [← hm]; exact str_at (w := w1) HS.out h2 x (by subst hxy; rfl)
              have hi1 : (Instr.index 9 (.string S) (.int .i64 1)).run Tryz.prog w1 = .ok (.int .u8 n) w1 := by rw [← hn]; exact str_at (w := w1) HS.out k1 y (by subst hxy; rfl)
              clear hm hn hxy h1
              by_cases h4 : S.size < 4
              · have f4 : (S.size : Int) < 4 := by omega
                by_cases hr : m = 114
                · subst hr
                  by_cases ha : 48 ≤ n
                  · have fa : (48 : Int) ≤ (n : Int) := by omega
                    by_cases hb : n ≤ 57
                    · have fb : (n : Int) ≤ 57 := by omega
                      simp only [h4, ha, hb, Bool.true_or, Bool.and_true, decide_eq_true] at HRN
                      subst HRN
                      go_wp2
                      go_meet
                      case rel => exact ⟨rfl, rfl⟩
                    · have fb : (57 : Int) < (n : Int) := by omega
                      simp only [h4, ha, hb, decide_true, decide_false, Bool.true_or, Bool.and_true, Bool.and_false] at HRN
                      subst HRN
                      go_wp2
                      go_meet
                      case rel => exact ⟨by rw [decide_eq_false (by omega)], rfl⟩
                  · have fa : (n : Int) < 48 := by omega
                    simp only [h4, ha, decide_true, decide_false, Bool.true_or, Bool.and_true, Bool.false_and, Bool.and_false] at HRN
                    subst HRN
                    go_wp2
                    go_meet
                    case rel => exact ⟨rfl, rfl⟩
                · have fr : ((m : Int) == 114) = false := beq_eq_false_iff_ne.2 (by omega)
                  by_cases hp : m = 112
                  · subst hp
                    by_cases ha : 48 ≤ n
                    · have fa : (48 : Int) ≤ (n : Int) := by omega
                      by_cases hb : n ≤ 57
                      · have fb : (n : Int) ≤ 57 := by omega
                        simp only [h4, ha, hb, decide_true, Bool.or_true, Bool.and_true] at HRN
                        subst HRN
                        go_wp2
                        go_meet
                        case rel => exact ⟨rfl, rfl⟩
                      · have fb : (57 : Int) < (n : Int) := by omega
                        simp only [h4, ha, hb, decide_true, decide_false, Bool.or_true, Bool.and_true, Bool.and_false] at HRN
                        subst HRN
                        go_wp2
                        go_meet
                        case rel => exact ⟨by rw [decide_eq_false (by omega)], rfl⟩
                    · have fa : (n : Int) < 48 := by omega
                      simp only [h4, ha, decide_true, decide_false, Bool.or_true, Bool.and_true, Bool.false_and, Bool.and_false] at HRN
                      subst HRN
                      go_wp2
                      go_meet
                      case rel => exact ⟨rfl, rfl⟩
                  · have fp : ((m : Int) == 112) = false := beq_eq_false_iff_ne.2 (by omega)
                    simp only [hr, hp, decide_false, Bool.or_false, Bool.and_false, Bool.false_and] at HRN
                    subst HRN
                    go_wp2
                    go_meet
                    case rel => exact ⟨rfl, rfl⟩
              · have f4 : (4 : Int) ≤ (S.size : Int) := by omega
                simp only [h4, decide_false, Bool.false_and] at HRN
                subst HRN
                go_wp2
                go_meet
                case rel => exact ⟨rfl, rfl⟩
          case rest =>
            obtain ⟨rfl, rfl⟩ := hcut
            obtain ⟨x, hx⟩ : ∃ x, l[0] = x := ⟨_, rfl⟩
            have hidx : (Instr.index 9 (.string S) (.int .i64 0)).run Tryz.prog w1 = .ok (.int .u8 x.toNat) w1 := str_at (w := w1) HS.out h2 x hx
            have hx46 : ((x.toNat : Int) != 46) = true := by
              refine bne_iff_ne.2 fun e => H3.out ?_
              rw [List.getElem?_eq_getElem h2, hx]
              congr 1
              exact UInt8.toNat_inj.1 (by show x.toNat = 46; omega)
            have hpos : (0 : Int) < (S.size : Int) := by have := HZ.out; omega
            have hbb : (b == b) = true := by cases b <;> rfl
            clear hx
            go_wp2_with (fail)
            refine (HR2.out _ M1.out).mono ?_
            rintro e w2 ⟨rfl, m2⟩
            have M2 := Lib.hid m2
            clear m2
            go_wp2_with (fail)
            refine (HA.out _ M2.out).mono ?_
            rintro e w3 ⟨rfl, m3⟩
            have M3 := Lib.hid m3
            clear m3
            go_wp2
            go_ret
            exact ⟨rfl, M3.out⟩
    · rewrite [eq_false_of_ne_true hres]
      go_wp2_with (fail)
      refine (HA.out _ M1.out).mono ?_
      rintro e w2 ⟨rfl, m2⟩
      have M2 := Lib.hid m2
      clear m2
      go_wp2
      go_ret
      exact ⟨rfl, M2.out⟩
end
end parseNames
end Go.Proofs.YtnfmlmamgkpocaaGreatDoor
