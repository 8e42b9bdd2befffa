/- What deep, ends and fits of the laws of expr return; no condition but those on lengths. -/
import Derived.Test.YtebpimjbjjmpaaaExprSame
import Derived.Test.YtebpimjbjjmpaaaLexStr
namespace Go.Proofs.Ytebpimjbjjmpaaa
open Go.ChangeShapes Go.WideShapes Go.ChangeAt Go.RowKit Go.Sort BigFrame

theorem deep_next {l : List UInt8} {k : Nat} (h : k < l.length) (b : UInt8) (hb : l[k] = b) : deepN (l.take (k + 1)) = deepN (l.take k) + if b = 40 ∨ b = 45 then 1 else 0 := by
  subst hb
  unfold deepN
  rw [List.take_succ_eq_append_getElem h, List.countP_append, List.countP_singleton]
  congr 1
  by_cases h1 : l[k] = 40
  · simp [h1]
  · by_cases h2 : l[k] = 45 <;> simp [h1, h2]
theorem deep_le (l : List UInt8) : deepN l ≤ l.length := by
  unfold deepN
  exact List.countP_le_length
theorem byteIs {b c : UInt8} {n : Int} (hc : (c.toNat : Int) = n) : ((b.toNat : Int) == n) = decide (b = c) := by
  subst hc
  rw [Bool.eq_iff_iff, beq_iff_eq, decide_eq_true_eq]
  exact ⟨fun h => UInt8.toNat_inj.1 (by omega), fun h => by rw [h]⟩
/-- Has a text a comment or more than one line? -/
def endsB (l : List UInt8) : Bool := l.any fun b => decide (b = 10) || decide (b = 47)
theorem plain_of {l : List UInt8} (h : endsB l = false) : Plain l := by
  refine ⟨fun b hb => ?_⟩
  have h1 := List.any_eq_false.1 h b hb
  simp only [Bool.or_eq_true, decide_eq_true_eq, not_or] at h1
  exact ⟨fun e => h1.1 (UInt8.toNat_inj.1 e), fun e => h1.2 (UInt8.toNat_inj.1 e)⟩
theorem ends_next {l : List UInt8} {k : Nat} (h : k < l.length) (b : UInt8) (hb : l[k] = b) : endsB (l.drop k) = (decide (b = 10) || decide (b = 47) || endsB (l.drop (k + 1))) := by
  subst hb
  unfold endsB
  rw [List.drop_eq_getElem_cons h, List.any_cons]
section
attribute [local irreducible] World.cell?
set_option maxRecDepth 100000 in
set_option maxHeartbeats 8000000 in
theorem deep_any (S : ByteArray) (l : List UInt8) (h : IsStr S l) (hl : l.length ≤ 100000) : Still Try.prog 25 #[.string S] (.int .i64 (min (deepN l) 100 : Nat)) := by
  intro w
  have HS := Lib.hid h
  have HZ := Lib.hid (str_size h)
  have hsz : S.size ≤ 100000 := by rw [str_size h]; exact hl
  clear h hl
  go_enter Try.func25, Try.ntmps25
  go_wp2_with (fail)
  go_loopw [3, 4] (fun nv iv wr => ∃ k c : Nat, k ≤ S.size ∧ nv = .int .i64 c ∧ iv = .int .i64 k ∧ c = deepN (l.take k) ∧ c ≤ k ∧ wr = w) (fun _ iv _ => S.size - (intOf iv).toNat)
  case atStart => exact ⟨0, 0, Nat.zero_le _, rfl, rfl, rfl, Nat.le_refl _, rfl⟩
  case round =>
    obtain ⟨k, c, hk, rfl, rfl, hc, hck, rfl⟩ := hrel
    have HC := Lib.hid hc
    clear hc
    by_cases hlt : k < S.size
    · have hkl : k < l.length := by have := HZ.out; omega
      obtain ⟨b, hb⟩ : ∃ b, l[k] = b := ⟨_, rfl⟩
      have hidx := str_at (w := wr) HS.out hkl b hb
      have HD := Lib.hid (deep_next hkl b hb)
      clear hb
      by_cases h1 : b = 40
      · have g1 : ((b.toNat : Int) == 40) = true := by rw [byteIs (c := 40) (n := 40) rfl]; simpa using h1
        have HN := Lib.hid (show c + 1 = deepN (l.take (k + 1)) by rw [HD.out, if_pos (.inl h1), HC.out])
        clear h1
        go_wp2
        go_roundw
        case rel => exact ⟨k + 1, c + 1, by omega, by go_num, by go_num, HN.out, by omega, trivial⟩
        case measure => simp [intOf]; omega
      · have g1 : ((b.toNat : Int) == 40) = false := by rw [byteIs (c := 40) (n := 40) rfl]; simpa using h1
        by_cases h2 : b = 45
        · have g2 : ((b.toNat : Int) == 45) = true := by rw [byteIs (c := 45) (n := 45) rfl]; simpa using h2
          have HN := Lib.hid (show c + 1 = deepN (l.take (k + 1)) by rw [HD.out, if_pos (.inr h2), HC.out])
          clear h1 h2
          go_wp2
          go_roundw
          case rel => exact ⟨k + 1, c + 1, by omega, by go_num, by go_num, HN.out, by omega, trivial⟩
          case measure => simp [intOf]; omega
        · have g2 : ((b.toNat : Int) == 45) = false := by rw [byteIs (c := 45) (n := 45) rfl]; simpa using h2
          have HN := Lib.hid (show c = deepN (l.take (k + 1)) by rw [HD.out, if_neg (by simp [h1, h2]), Nat.add_zero]; exact HC.out)
          clear h1 h2
          go_wp2
          go_roundw
          case rel => exact ⟨k + 1, c, by omega, rfl, by go_num, HN.out, by omega, trivial⟩
          case measure => simp [intOf]; omega
    · obtain rfl : k = S.size := by omega
      have HE := Lib.hid (show c = deepN l by rw [HC.out, HZ.out, List.take_length])
      have hmin : ((min c 100 : Nat) : Int) = min (c : Int) 100 := by omega
      have HM := Lib.hid hmin
      clear hmin
      go_wp2
      go_ret
      refine ⟨?_, rfl⟩
      rw [← HE.out, HM.out]
      rfl
set_option maxRecDepth 100000 in
set_option maxHeartbeats 8000000 in
theorem ends_any (S : ByteArray) (l : List UInt8) (h : IsStr S l) (hl : l.length ≤ 100000) : Still Try.prog 26 #[.string S] (.bool (endsB l)) := by
  intro w
  have HS := Lib.hid h
  have HZ := Lib.hid (str_size h)
  have hsz : S.size ≤ 100000 := by rw [str_size h]; exact hl
  clear h hl
  go_enter Try.func26, Try.ntmps26
  go_wp2_with (fail)
  go_loopw [3] (fun iv wr => ∃ k : Nat, k ≤ S.size ∧ iv = .int .i64 k ∧ endsB (l.drop k) = endsB l ∧ wr = w) (fun iv _ => S.size - (intOf iv).toNat)
  case atStart => exact ⟨0, Nat.zero_le _, rfl, rfl, rfl⟩
  case round =>
    obtain ⟨k, hk, rfl, hc, rfl⟩ := hrel
    have HC := Lib.hid hc
    clear hc
    by_cases hlt : k < S.size
    · have hkl : k < l.length := by have := HZ.out; omega
      obtain ⟨b, hb⟩ : ∃ b, l[k] = b := ⟨_, rfl⟩
      have hidx := str_at (w := wr) HS.out hkl b hb
      have HD := Lib.hid (ends_next hkl b hb)
      clear hb
      by_cases h1 : b = 10
      · have g1 : ((b.toNat : Int) == 10) = true := by rw [byteIs (c := 10) (n := 10) rfl]; simpa using h1
        have HN := Lib.hid (show endsB l = true by rw [← HC.out, HD.out]; simp [h1])
        clear h1
        go_wp2
        go_ret
        exact ⟨by rw [HN.out]; rfl, rfl⟩
      · have g1 : ((b.toNat : Int) == 10) = false := by rw [byteIs (c := 10) (n := 10) rfl]; simpa using h1
        by_cases h2 : b = 47
        · have g2 : ((b.toNat : Int) == 47) = true := by rw [byteIs (c := 47) (n := 47) rfl]; simpa using h2
          have HN := Lib.hid (show endsB l = true by rw [← HC.out, HD.out]; simp [h2])
          clear h1 h2
          go_wp2
          go_ret
          exact ⟨by rw [HN.out]; rfl, rfl⟩
        · have g2 : ((b.toNat : Int) == 47) = false := by rw [byteIs (c := 47) (n := 47) rfl]; simpa using h2
          have HN := Lib.hid (show endsB (l.drop (k + 1)) = endsB l by rw [← HC.out, HD.out]; simp [h1, h2])
          clear h1 h2
          go_wp2
          go_roundw
          case rel => exact ⟨k + 1, by omega, by go_num, HN.out, trivial⟩
          case measure => simp [intOf]; omega
    · obtain rfl : k = S.size := by omega
      have HE := Lib.hid (show endsB l = false by rw [← HC.out, HZ.out, List.drop_length]; rfl)
      go_wp2
      go_ret
      exact ⟨by rw [HE.out]; rfl, rfl⟩
set_option maxRecDepth 100000 in
set_option maxHeartbeats 8000000 in
theorem fits15_any (x : Int) : Still Try.prog 27 #[.int .i64 x, .int .i64 (capV (x, 0)).1, .int .i64 (capV (x, 0)).2] (.bool true) := by
  intro w
  by_cases h1 : 1099511627776 < x
  · have hv : capV (x, 0) = (0, 6) := by simp [capV, inR, maxV]; omega
    rewrite [hv]
    clear hv
    go_enter Try.func27, Try.ntmps27
    go_wp2
    go_ret
    exact ⟨rfl, rfl⟩
  · have g1 : x ≤ 1099511627776 := by omega
    clear h1
    by_cases h2 : x < -1099511627776
    · have hv : capV (x, 0) = (0, 6) := by simp [capV, inR, maxV]; omega
      rewrite [hv]
      clear hv
      go_enter Try.func27, Try.ntmps27
      go_wp2
      go_ret
      exact ⟨rfl, rfl⟩
    · have g2 : -1099511627776 ≤ x := by omega
      have hv : capV (x, 0) = (x, 0) := by simp [capV, inR, maxV]; omega
      rewrite [hv]
      clear hv h2
      go_enter Try.func27, Try.ntmps27
      go_wp2
      go_ret
      exact ⟨rfl, rfl⟩
end
end Go.Proofs.Ytebpimjbjjmpaaa
