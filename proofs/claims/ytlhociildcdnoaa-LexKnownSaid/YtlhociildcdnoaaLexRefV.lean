/- What value and number of the document's answer for lex return; no condition but those named. -/
import Derived.Test.YtlhociildcdnoaaLexRef
import Derived.Deep.Cut
namespace Go.Proofs.Ytlhociildcdnoaa
open Go.ChangeShapes Go.WideShapes Go.ChangeAt Go.RowKit Go.Sort BigFrame

theorem low_range (b : UInt8) : 0 ≤ lowB b ∧ lowB b ≤ 255 := by
  have := b.toNat_lt
  unfold lowB
  split
  · omega
  · omega
section
attribute [local irreducible] World.cell?
set_option maxRecDepth 100000 in
set_option maxHeartbeats 16000000 in
theorem rvalue_any (S : ByteArray) (l : List UInt8) (h : IsStr S l) (hl : l.length ≤ 100000) (base : Nat) (hbase : base = 10 ∨ base = 16) : Still Try.prog 37 #[.string S, .int .i64 base] (.int .i64 (lxWord base l)) := by
  intro w
  have hz := str_size h
  have H := Lib.hid h
  have hsz : S.size ≤ 100000 := by omega
  have HZ := Lib.hid hz
  have hb1 : base ≤ 16 := by omega
  have hb0 : 10 ≤ base := by omega
  clear h hz hbase
  by_cases h0 : S.size = 0
  · have HL := Lib.hid (show lxWord base l = -1 by
      have : l = [] := List.eq_nil_of_length_eq_zero (by have := HZ.out; omega)
      rw [this]
      exact word_nil _)
    have hg : ((S.size : Int) == 0) = true := by rw [h0]; rfl
    clear h0
    go_enter Try.func37, Try.ntmps37
    go_wp2
    go_ret
    exact ⟨ret_int HL.out.symm, rfl⟩
  have hg : ((S.size : Int) == 0) = false := beq_eq_false_iff_ne.2 (by omega)
  have HNE := Lib.hid (show l ≠ [] from fun e => h0 (by have := HZ.out; rw [e] at this; exact this))
  clear h0
  go_enter Try.func37, Try.ntmps37
  go_wp2_with (fail)
  go_loopw [5, 6, 7] (fun vv gv iv wr => ∃ (k : Nat) (v : Int) (great : Bool), k ≤ S.size ∧ vv = .int .i64 v ∧ gv = .bool great ∧ iv = .int .i64 k ∧ ValAt base l k v great ∧ w = wr) (fun _ _ iv _ => S.size - (intOf iv).toNat)
  case atStart => exact ⟨0, 0, false, Nat.zero_le _, rfl, rfl, rfl, valAt_begin _ _, rfl⟩
  case round =>
    obtain ⟨k, v, great, hk, rfl, rfl, rfl, hva, rfl⟩ := hrel
    have HV := Lib.hid hva
    have hv0 := hva.low
    have hv1 := hva.max
    clear hva
    by_cases hlt : k < S.size
    · have hkl : k < l.length := by have := HZ.out; omega
      obtain ⟨b, hb⟩ : ∃ b, l[k] = b := ⟨_, rfl⟩
      have hidx := str_at H.out hkl b hb
      have HNX := Lib.hid (fun hd => valAt_next (show (1 : Int) ≤ base by omega) HV.out hkl b hb hd)
      have HBAD := Lib.hid (fun hd => word_bad (base := base) hkl b hb hd)
      have hlow : (65 ≤ b.toNat ∧ b.toNat ≤ 70 ∧ lowB b = (b.toNat : Int) + 32) ∨ (¬ (65 ≤ b.toNat ∧ b.toNat ≤ 70) ∧ lowB b = b.toNat) := by
        unfold lowB
        by_cases h : 65 ≤ b.toNat ∧ b.toNat ≤ 70
        · rw [if_pos h]; exact .inl ⟨h.1, h.2, rfl⟩
        · rw [if_neg h]; exact .inr ⟨h, rfl⟩
      have hrng := hex_range b
      have HSN := Lib.hid (seen_next b)
      have HRG := Lib.hid hrng
      clear hb hrng
      have hways : ∃ d : Int, 0 ≤ d ∧ d ≤ 255 ∧ d = lowB b := ⟨lowB b, (low_range b).1, (low_range b).2, rfl⟩
      obtain ⟨d, d0, d1, hd⟩ := hways
      rewrite [← hd] at hlow
      have HROW := Lib.hid (fun j hj r hr => by have := row_hex b j hj r hr; rwa [← hd] at this)
      have hbt := b.toNat_lt
      clear hd
      have hlow3 : ((65 : Int) ≤ (b.toNat : Int) ∧ (b.toNat : Int) ≤ 70 ∧ d = (b.toNat : Int) + 32) ∨ ((b.toNat : Int) < 65 ∧ d = b.toNat) ∨ ((65 : Int) ≤ (b.toNat : Int) ∧ (70 : Int) < (b.toNat : Int) ∧ d = b.toNat) := by omega
      clear hlow
      rcases hlow3 with ⟨h1, h2, h3⟩ | ⟨h1, h3⟩ | ⟨h1, h2, h3⟩
      all_goals
        have HD := Lib.hid h3
        clear h3
        go_upto_region 12 with (fail)
        rewrite [← HD.out]
        clear h1 HD hidx
        try clear h2
        go_wp2_with (fail)
        go_loopw [8, 10] (fun xv jv wq => ∃ (j : Nat) (x : Int), j ≤ base ∧ xv = .int .i64 x ∧ jv = .int .i64 j ∧ x = seenZ b j ∧ w = wq) (fun _ jv _ => base - (intOf jv).toNat)
        case atStart => exact ⟨0, -1, Nat.zero_le _, rfl, rfl, by unfold seenZ; rw [if_neg (by omega)], rfl⟩
        case round =>
          obtain ⟨j, x, hj, rfl, rfl, hx, rfl⟩ := hrel
          have HX := Lib.hid hx
          clear hx
          by_cases hjl : j < base
          · have hj16 : j < 16 := by omega
            obtain ⟨r, hr⟩ : ∃ r, rowL[j]'(by show j < 16; exact hj16) = r := ⟨_, rfl⟩
            have hrx : (Instr.index 9 (.string ⟨#[48, 49, 50, 51, 52, 53, 54, 55, 56, 57, 97, 98, 99, 100, 101, 102]⟩) (.int .i64 j)).run Try.prog w = .ok (.int .u8 r.toNat) w := str_at (l := rowL) rfl (by show j < 16; exact hj16) r hr w
            have hbe := HROW.out j hj16 r hr
            have hsn := HSN.out j
            clear hr
            by_cases he : hexZ b = j
            · rewrite [decide_eq_true he] at hbe
              rewrite [if_pos he] at hsn
              have HN := Lib.hid hsn
              clear he hsn
              go_wp2
              go_roundw
              case rel => exact ⟨j + 1, j, by omega, rfl, by go_num, HN.out.symm, trivial⟩
              case measure => simp [intOf]; omega
            · rewrite [decide_eq_false he] at hbe
              rewrite [if_neg he] at hsn
              have HN := Lib.hid hsn
              clear he hsn
              go_wp2
              go_roundw
              case rel => exact ⟨j + 1, x, by omega, rfl, by go_num, by rw [HN.out]; exact HX.out, trivial⟩
              case measure => simp [intOf]; omega
          · obtain rfl : j = base := by omega
            cases hdg : lxDig j b with
            | false =>
              obtain rfl : x = -1 := HX.out.trans (seen_none hdg)
              have HR := Lib.hid (HBAD.out hdg)
              clear hdg
              go_wp2
              go_ret
              exact ⟨ret_int HR.out.symm, rfl⟩
            | true =>
              obtain ⟨e1, e2, e3⟩ := seen_dig hdg
              have hxe : x = hexZ b := HX.out.trans e1
              have HN := HNX.out hdg
              rewrite [← hxe] at HN e2 e3
              have HNL := Lib.hid HN.1
              have HNG := Lib.hid HN.2
              have m0 : 0 ≤ v * (j : Int) := Int.mul_nonneg hv0 (by omega)
              have m1 : v * (j : Int) ≤ 17592186044416 := by
                have h7 : v * (j : Int) ≤ 1099511627776 * 16 := Int.mul_le_mul hv1 (by omega) (by omega) (by omega)
                omega
              clear hxe HN e1 hdg HX HNX HBAD HSN HROW
              generalize hm : v * (j : Int) = vm at *
              have hw : wrap64 (v * (j : Int)) = vm := by
                rw [hm]
                unfold wrap64
                omega
              clear hm
              by_cases hgt : 1099511627776 < vm + x
              · have HVN := Lib.hid (HNG.out hgt)
                clear HNL HNG
                go_wp2
                go_roundw
                case rel => exact ⟨k + 1, 0, true, by omega, rfl, rfl, by go_num, HVN.out, trivial⟩
                case measure => simp [intOf]; omega
              · have HVN := Lib.hid (HNL.out (by omega))
                have hle : vm + x ≤ 1099511627776 := by omega
                clear HNL HNG hgt
                go_wp2
                go_roundw
                case rel => exact ⟨k + 1, vm + x, great, by omega, by go_num, rfl, by go_num, HVN.out, trivial⟩
                case measure => simp [intOf]; omega
    · obtain rfl : k = S.size := by omega
      have hva := HV.out
      rewrite [HZ.out] at hva
      have HR := Lib.hid (word_all HNE.out hva)
      clear hva HV
      cases great with
      | true =>
        have HR2 := Lib.hid (show lxWord base l = -2 by rw [HR.out]; rfl)
        clear HR
        go_wp2
        go_ret
        exact ⟨ret_int HR2.out.symm, rfl⟩
      | false =>
        have HR2 := Lib.hid (show lxWord base l = v by rw [HR.out]; rfl)
        clear HR
        go_wp2
        go_ret
        exact ⟨ret_int HR2.out.symm, rfl⟩
end
end Go.Proofs.Ytlhociildcdnoaa
