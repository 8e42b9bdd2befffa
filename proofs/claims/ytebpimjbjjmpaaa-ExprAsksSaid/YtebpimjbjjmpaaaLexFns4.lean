/- What valueOf of package lex returns; no condition but that on the length. -/
import Derived.Test.YtebpimjbjjmpaaaLexFns3
namespace Go.Proofs.Ytebpimjbjjmpaaa
open Go.ChangeShapes Go.WideShapes Go.ChangeAt Go.RowKit Go.Sort BigFrame

/-- What is told of a number: its value, or 0; what is wrong with it. -/
def vE (z : Int) : Int := if z = -1 then 8 else if z = -2 then 6 else 0
def vV (z : Int) : Int := if z = -1 then 0 else if z = -2 then 0 else z
/-- What stands behind the first k digits: the value as far as it is not too great. -/
structure ValC (base : Int) (l : List UInt8) (k : Nat) (v : Int) : Prop where
  digits : (l.take k).all (lxDig base) = true
  low : 0 ≤ lxVal base (l.take k) 0
  val : v = if lxVal base (l.take k) 0 ≤ 1099511627776 then lxVal base (l.take k) 0 else 1099511627777
theorem valC_begin (base : Int) (l : List UInt8) : ValC base l 0 0 := ⟨rfl, Int.le_refl _, rfl⟩
theorem ValC.range {base : Int} {l : List UInt8} {k : Nat} {v : Int} (h : ValC base l k v) : 0 ≤ v ∧ v ≤ 1099511627777 := by
  have h1 := h.val
  have h2 := h.low
  split at h1 <;> omega
theorem ValC.next {base : Int} (hb : base = 10 ∨ base = 16) {l : List UInt8} {k : Nat} {v : Int} (h : ValC base l k v) (hk : k < l.length) (b : UInt8) (hlb : l[k] = b) (hd : lxDig base b = true) :
    (v * base + hexZ b ≤ 1099511627777 → ValC base l (k + 1) (v * base + hexZ b)) ∧ (1099511627777 < v * base + hexZ b → ValC base l (k + 1) 1099511627777) := by
  obtain ⟨h0, h1⟩ := (dig_iff base b).1 hd
  have hds : (l.take (k + 1)).all (lxDig base) = true := by
    rw [List.take_succ_eq_append_getElem hk, List.all_append, h.digits, hlb, List.all_cons, hd]
    rfl
  have hn := val_next (base := base) hk b hlb
  have hl := h.low
  have hv := h.val
  generalize lxVal base (l.take k) 0 = X at *
  generalize hexZ b = z at *
  have key : ∀ m : Int, (m = if X * base + z ≤ 1099511627776 then X * base + z else 1099511627777) → 0 ≤ X * base + z → ValC base l (k + 1) m := fun m hm h3 => ⟨hds, by rw [hn]; exact h3, by rw [hn]; exact hm⟩
  rcases hb with rfl | rfl
  · split at hv
    · subst hv
      exact ⟨fun h5 => key _ (by split <;> omega) (by omega), fun h5 => key _ (by split <;> omega) (by omega)⟩
    · subst hv
      exact ⟨fun h5 => by omega, fun h5 => key _ (by split <;> omega) (by omega)⟩
  · split at hv
    · subst hv
      exact ⟨fun h5 => key _ (by split <;> omega) (by omega), fun h5 => key _ (by split <;> omega) (by omega)⟩
    · subst hv
      exact ⟨fun h5 => by omega, fun h5 => key _ (by split <;> omega) (by omega)⟩
theorem ValC.all {base : Int} {l : List UInt8} (hne : l ≠ []) {v : Int} (h : ValC base l l.length v) : (1099511627776 < v → lxWord base l = -2) ∧ (v ≤ 1099511627776 → lxWord base l = v ∧ 0 ≤ v) := by
  have hd := h.digits
  have hl := h.low
  have hv := h.val
  rw [List.take_length] at hd hl hv
  unfold lxWord
  rw [if_neg (by rw [hd]; simp [hne])]
  split at hv
  · subst hv
    exact ⟨fun h => by omega, fun h => ⟨if_neg (by omega), hl⟩⟩
  · subst hv
    exact ⟨fun h => if_pos (by omega), fun h => by omega⟩
section
attribute [local irreducible] World.cell?
set_option maxRecDepth 100000 in
set_option maxHeartbeats 8000000 in
theorem valueOf_any (S : ByteArray) (l : List UInt8) (h : IsStr S l) (hl : l.length ≤ 100000) : Still Try.prog 76 #[.string S] (.tuple #[.int .i64 (vV (lxNum l)), .int .i64 (vE (lxNum l))]) := by
  intro w
  have HD := Lib.hid (digitsOf_any S l h)
  have hb := base_or l
  have HW := Lib.hid (num_digs l)
  have hdl : (lxDigs l).length ≤ 100000 := by have := digs_len l; omega
  generalize lxNum l = z at *
  generalize lxDigs l = ds at *
  generalize lxBase l = base at *
  clear h hl
  have HN := Lib.hid (none_eq (S := strOf ds) (l := ds) rfl)
  have hz : (strOf ds).size = ds.length := str_size (S := strOf ds) rfl
  have HZ := Lib.hid hz
  have hsz : (strOf ds).size ≤ 100000 := by omega
  have HAT := Lib.hid (fun k hk b hb => str_at (S := strOf ds) (l := ds) rfl (k := k) hk b hb w)
  have HDG := Lib.hid (fun b => digit_any b base hb)
  have HNX := Lib.hid (fun k v (h : ValC base ds k v) => ValC.next hb h)
  have hb2 : 10 ≤ base ∧ base ≤ 16 := by omega
  obtain ⟨hb0, hb1⟩ := hb2
  clear hb hz
  by_cases h0 : ds = []
  · have hg : ((strOf ds).toList == []) = true := by rw [HN.out]; exact decide_eq_true h0
    have HR := Lib.hid (show z = -1 by rw [HW.out, h0]; exact word_nil _)
    clear h0
    generalize strOf ds = D at *
    go_enter Try.func76, Try.ntmps76
    go_wp2_with (fail)
    refine (HD.out _).mono ?_
    rintro e w' ⟨rfl, rfl⟩
    go_wp2
    refine bodyPost_ret (v := .tuple #[.int .i64 0, .int .i64 8]) (by simp [results, Try.results76, go_sem]) rfl ?_
    exact ⟨by rw [HR.out]; rfl, rfl⟩
  have hg : ((strOf ds).toList == []) = false := by rw [HN.out]; exact decide_eq_false h0
  have HNE := Lib.hid h0
  have HEND := Lib.hid (fun v (h : ValC base ds ds.length v) => ValC.all h0 h)
  have HBAD := Lib.hid (fun k (hk : k < ds.length) b hb hd => word_bad (base := base) hk b hb hd)
  clear h0 hdl HN
  generalize strOf ds = D at *
  go_enter Try.func76, Try.ntmps76
  go_wp2_with (fail)
  refine (HD.out _).mono ?_
  rintro e w' ⟨rfl, rfl⟩
  go_wp2_with (fail)
  go_loopw [6, 19] (fun vv iv wr => ∃ (k : Nat) (v : Int), k ≤ D.size ∧ vv = .int .i64 v ∧ iv = .int .i64 k ∧ ValC base ds k v ∧ w = wr) (fun _ iv _ => D.size - (intOf iv).toNat)
  case atStart => exact ⟨0, 0, Nat.zero_le _, rfl, rfl, valC_begin _ _, rfl⟩
  case round =>
    obtain ⟨k, v, hk, rfl, rfl, hva, rfl⟩ := hrel
    have HV := Lib.hid hva
    obtain ⟨hv0, hv1⟩ := hva.range
    clear hva
    by_cases hlt : k < D.size
    · have hkl : k < ds.length := by have := HZ.out; omega
      obtain ⟨b, hb⟩ : ∃ b, ds[k] = b := ⟨_, rfl⟩
      have hidx := HAT.out k hkl b hb
      have HN := Lib.hid (HNX.out k v HV.out hkl b hb)
      have HBB := Lib.hid (HBAD.out k hkl b hb)
      have HDB := Lib.hid (show Still Try.prog 85 #[.int .u8 b.toNat, .int .i64 base] (.tuple #[.int .i64 (digV base b), .bool (lxDig base b)]) from HDG.out b)
      have HDV := Lib.hid (show lxDig base b = true → digV base b = hexZ b ∧ 0 ≤ hexZ b ∧ hexZ b < base from fun h => ⟨if_pos h, (dig_iff base b).1 h⟩)
      clear hb
      generalize lxDig base b = d at *
      generalize digV base b = dv at *
      cases d with
      | false =>
        have HR := Lib.hid (show z = -1 by rw [HW.out]; exact HBB.out rfl)
        clear HBB HN HDV
        go_wp2_with (fail)
        refine (HDB.out _).mono ?_
        rintro e w' ⟨rfl, rfl⟩
        go_wp2
        refine bodyPost_ret (v := .tuple #[.int .i64 0, .int .i64 8]) (by simp [results, Try.results76, go_sem]) rfl ?_
        exact ⟨by rw [HR.out]; rfl, rfl⟩
      | true =>
        obtain ⟨e1, e2, e3⟩ := HDV.out rfl
        have HN2 := HN.out rfl
        rewrite [← e1] at HN2 e2 e3
        have HL := Lib.hid HN2.1
        have HG := Lib.hid HN2.2
        have m0 : 0 ≤ v * base := Int.mul_nonneg hv0 (by omega)
        have m1 : v * base ≤ 17592186044432 := by
          have h7 : v * base ≤ 1099511627777 * 16 := Int.mul_le_mul hv1 (by omega) (by omega) (by omega)
          omega
        clear e1 HN2 HN HBB HDV
        generalize hm : v * base = vm at *
        have hw : wrap64 (v * base) = vm := by
          rw [hm]
          unfold wrap64
          omega
        clear hm
        by_cases hgt : 1099511627777 < vm + dv
        · have HVN := Lib.hid (HG.out hgt)
          clear HL HG
          go_wp2_with (fail)
          refine (HDB.out _).mono ?_
          rintro e w' ⟨rfl, rfl⟩
          go_wp2
          go_roundw
          case rel => exact ⟨k + 1, _, by omega, rfl, by go_num, HVN.out, trivial⟩
          case measure => simp [intOf]; omega
        · have HVN := Lib.hid (HL.out (by omega))
          have hle : vm + dv ≤ 1099511627777 := by omega
          clear HL HG hgt
          go_wp2_with (fail)
          refine (HDB.out _).mono ?_
          rintro e w' ⟨rfl, rfl⟩
          go_wp2
          go_roundw
          case rel => exact ⟨k + 1, vm + dv, by omega, by go_num, by go_num, HVN.out, trivial⟩
          case measure => simp [intOf]; omega
    · obtain rfl : k = D.size := by omega
      have hva := HV.out
      rewrite [HZ.out] at hva
      have HE := Lib.hid (HEND.out v hva)
      clear hva HV
      by_cases hgt : 1099511627776 < v
      · have HR := Lib.hid (show z = -2 by rw [HW.out]; exact HE.out.1 hgt)
        clear HE
        go_wp2
        refine bodyPost_ret (v := .tuple #[.int .i64 0, .int .i64 6]) (by simp [results, Try.results76, go_sem]) rfl ?_
        exact ⟨by rw [HR.out]; rfl, rfl⟩
      · have hle : v ≤ 1099511627776 := by omega
        have HR := Lib.hid (show vV z = v ∧ vE z = 0 by
          have h9 := HE.out.2 hle
          rw [HW.out, h9.1]
          unfold vV vE
          rw [if_neg (by omega), if_neg (by omega), if_neg (by omega), if_neg (by omega)]
          exact ⟨rfl, rfl⟩)
        clear HE hgt
        go_wp2
        refine bodyPost_ret (v := .tuple #[.int .i64 v, .int .i64 0]) (by simp [results, Try.results76, go_sem]) rfl ?_
        exact ⟨by rw [HR.out.1, HR.out.2], rfl⟩
end
end Go.Proofs.Ytebpimjbjjmpaaa
