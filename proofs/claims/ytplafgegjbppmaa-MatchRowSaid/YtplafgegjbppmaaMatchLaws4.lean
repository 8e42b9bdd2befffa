/- MatchRow of match's laws returns true, whatever the masks and the turn. -/
import Derived.Test.YtplafgegjbppmaaMatchBits
namespace Go.Proofs.Ytplafgegjbppmaa
open Go.ChangeShapes Go.WideShapes Go.ChangeAt Go.RowKit Go.Sort BigFrame

theorem owns_view {k : IntKind} {w : World} {B : Nat} {T : TypeId} {v : Value} {n : Nat} {zs : List Nat} (h : w.ownsRow B T 1 v n (numsV k zs)) : ∃ so cap, v = .slice so n cap ∧ zs.length = n ∧ Nums k w so cap zs := by
  have hl : zs.length = n := by have := h.1; simpa using this
  have hc := fun g hg => h.cells (g := g) hg
  rcases h.2 with ⟨rfl, rfl⟩ | ⟨g, cap, cur, rfl, _, hg, hn, hm, _⟩
  · obtain rfl := List.eq_nil_of_length_eq_zero hl
    exact ⟨none, 0, rfl, rfl, nums_nil _ _⟩
  · refine ⟨_, cap, rfl, hl, by omega, hm, fun h => by simp at h, fun a ha t ht => ?_⟩
    obtain rfl := Option.some.inj ha
    refine hc g rfl t _ ?_
    simp [List.getD, ht]
theorem row_snoc (zs : List Nat) (m q : Nat) : numsV .u8 zs ++ [Value.int .u8 ((m : Int) % 16 + (q : Int) / 16 * 16)] = numsV .u8 (zs ++ [m % 16 + q / 16 * 16]) := by simp [numsV]
theorem num_cells (zs : List Nat) : ∀ u ∈ numsV .u8 zs, u.oneCell' = true := by
  intro u hu
  obtain ⟨x, _, rfl⟩ := List.mem_map.1 hu
  rfl
theorem nums_olds8 {w : World} {ao : Option Addr} {cap : Nat} {zs : List Nat} (h : Nums .u8 w ao cap zs) : ∀ b, ao = some b → ∀ j u, (numsV .u8 zs)[j]? = some u → w.cell? (b.add j) = some u := by
  intro b hb j u hu
  obtain ⟨hj, rfl⟩ := List.getElem?_eq_some_iff.1 hu
  have hj2 : j < zs.length := by simpa [numsV] using hj
  rw [h.cell b hb j hj2]
  simp [numsV, List.getD, hj2]
theorem byte_row : (Try.prog.info? 5).map (fun i => (i.zero, i.size, i.bytes)) = some (some (.int .u8 0), 1, 1) := by kernel_rfl
/-- The place that a turn puts there. -/
def turnN (n t i : Nat) : Nat := (n - 1 - i + t) % n
theorem turn_lt {n : Nat} (t : Nat) {i : Nat} (h : i < n) : turnN n t i < n := Nat.mod_lt _ (by omega)
theorem turn_turn {n : Nat} (t : Nat) {i : Nat} (h : i < n) : turnN n t (turnN n t i) = i := by
  have h1 := turn_lt t h
  have hd := Nat.div_add_mod (n - 1 - i + t) n
  have e : turnN n t i = (n - 1 - i + t) % n := rfl
  rw [← e] at hd
  generalize turnN n t i = j at *
  have e2 : n - 1 - j + t = i + n * ((n - 1 - i + t) / n) := by omega
  unfold turnN
  rw [e2, Nat.add_mul_mod_self_left, Nat.mod_eq_of_lt h]
theorem turn_code {n t i : Nat} (h : i < n) : ((n : Int) - 1 - i + t).tmod n = (turnN n t i : Nat) := by
  have e : (n : Int) - 1 - i + t = ((n - 1 - i + t : Nat) : Int) := by omega
  rw [e, Int.tmod_eq_emod_of_nonneg (by omega)]
  unfold turnN
  simp
def turned (ns : List Nat) (t h i : Nat) : List Nat := (List.range i).map fun j => ns.getD (turnN ns.length t j) 0 % 16 + h / 16 * 16
theorem turned_len (ns : List Nat) (t h i : Nat) : (turned ns t h i).length = i := by simp [turned]
theorem turned_next (ns : List Nat) (t h i : Nat) : turned ns t h (i + 1) = turned ns t h i ++ [ns.getD (turnN ns.length t i) 0 % 16 + h / 16 * 16] := by simp [turned, List.range_succ]
theorem turned_at (ns : List Nat) (t h n : Nat) {i : Nat} (hi : i < n) : (turned ns t h n).getD i 0 = ns.getD (turnN ns.length t i) 0 % 16 + h / 16 * 16 := by simp [turned, List.getD, hi]
theorem has_high (m q s : Nat) (hs : s < 4) : hasN (m % 16 + q * 16) s = hasN m s := by
  rw [← has_mod (m % 16 + q * 16) s hs, show (m % 16 + q * 16) % 16 = m % 16 by omega, has_mod m s hs]
theorem turned_fits (ns : List Nat) (t h : Nat) : fitsN (turned ns t h ns.length) = fitsN ns :=
  fits_turned ns _ (turnN ns.length t) (turned_len ..) (fun _ hi => ⟨turn_lt t hi, turn_turn t hi⟩) fun i hi s hs => by rw [turned_at ns t h _ hi, has_high _ _ s hs]
theorem turned_byte (ns : List Nat) (t h n : Nat) (hh : h < 256) (i : Nat) : (turned ns t h n).getD i 0 < 256 := by
  by_cases hi : i < n
  · rw [turned_at ns t h n hi]; omega
  · have e : (turned ns t h n)[i]? = none := List.getElem?_eq_none (by rw [turned_len]; omega)
    simp only [List.getD, e]
    simp
theorem fits_rest {ns : List Nat} (h : fitsN ns = true) : fitsN (ns.drop 1) = true := by
  cases ns with
  | nil => exact h
  | cons m r => exact fits_tail m r h
theorem byte_drop {ns : List Nat} (h : ∀ t, ns.getD t 0 < 256) (t : Nat) : (ns.drop 1).getD t 0 < 256 := by
  have e : (ns.drop 1).getD t 0 = ns.getD (t + 1) 0 := by simp [List.getD]
  rw [e]
  exact h _
theorem nums_tail {w : World} {a : Addr} {cap : Nat} {ns : List Nat} (h : Nums .u8 w (some a) cap ns) (hl : 1 ≤ ns.length) :
    (cap = 1 → Nums .u8 w (some a) 0 (ns.drop 1)) ∧ (cap ≠ 1 → Nums .u8 w (some ⟨a.block, a.off + 1, none⟩) (cap - 1) (ns.drop 1)) := by
  have hr := h.room
  have hm := h.max
  refine ⟨fun hc => ⟨by simp; omega, Nat.zero_le _, fun h => by simp at h, fun b hb t ht => ?_⟩, fun hc => ⟨by simp; omega, by omega, fun h => by simp at h, fun b hb t ht => ?_⟩⟩
  · simp at ht; omega
  · obtain rfl := Option.some.inj hb
    have ht2 : t + 1 < ns.length := by simp at ht; omega
    have e := h.cell a rfl (t + 1) ht2
    have e1 : (⟨a.block, a.off + 1, none⟩ : Addr).add t = a.add (t + 1) := by
      unfold Addr.add
      by_cases h0 : t = 0
      · subst h0; rfl
      · rw [if_neg h0, if_neg (by omega)]
        simp only [Addr.mk.injEq, and_true, true_and]
        omega
    have e2 : (ns.drop 1).getD t 0 = ns.getD (t + 1) 0 := by simp [List.getD]
    rw [e1, e2]
    exact e
namespace matchRow
section
attribute [local irreducible] World.cell?
set_option maxRecDepth 100000 in
set_option maxHeartbeats 8000000 in
theorem walk (W : World) (ao : Option Addr) (cap : Nat) (ns : List Nat) (a1 a2 : Int) (hN : Nums .u8 W ao cap ns) (hB : ∀ t, ns.getD t 0 < 256) (w1 : (Lit.int .u8 a1).wf = true) (w2 : (Lit.int .u8 a2).wf = true) :
    Calls Try.prog 6 #[.slice ao ns.length cap, .int .u8 a1, .int .u8 a2] W fun e w' => e = .returned (.bool true) ∧ Made W w' := by
  have HA := Lib.hid (awake_any W)
  obtain ⟨t, rfl, ht⟩ : ∃ t : Nat, a1 = t ∧ t < 256 := by
    have e1 : IntKind.u8.min = 0 := rfl
    have e2 : IntKind.u8.max = 255 := rfl
    simp only [Lit.wf, Bool.and_eq_true, decide_eq_true_eq] at w1
    exact ⟨a1.toNat, by omega, by omega⟩
  obtain ⟨q, rfl, hq⟩ : ∃ q : Nat, a2 = q ∧ q < 256 := by
    have e1 : IntKind.u8.min = 0 := rfl
    have e2 : IntKind.u8.max = 255 := rfl
    simp only [Lit.wf, Bool.and_eq_true, decide_eq_true_eq] at w2
    exact ⟨a2.toNat, by omega, by omega⟩
  clear w1 w2
  by_cases hlen : 8 < ns.length
  · have hmax := hN.room
    have hmax2 := hN.max
    unfold maxLen at hmax2
    clear hN hB
    go_enter Try.func6, Try.ntmps6
    go_wp2_with (fail)
    refine (HA.out _ (Made.refl W)).mono ?_
    rintro e w1 ⟨rfl, hm1⟩
    have K1 := Lib.hid hm1
    clear hm1
    go_wp2
    go_ret
    exact ⟨rfl, K1.out⟩
  · have HM := Lib.hid (show Masks W ao cap ns from ⟨hN, by omega, hB⟩)
    clear hN hB
    obtain ⟨i0, hi0, hz0, hz1, hz2⟩ := info_parts byte_row
    go_enter Try.func6, Try.ntmps6
    go_wp2_with (fail)
    go_loopw [7, 8] (fun v x wr => ∃ (i : Nat) (so : Option Addr) (oc : Nat), i ≤ ns.length ∧ v = .slice so i oc ∧ x = .int .i64 i ∧ wr.ownsRow W.heap.size 5 1 (.slice so i oc) i (numsV .u8 (turned ns t q i)) ∧ Made W wr) (fun _ x _ => ns.length - (intOf x).toNat)
    case atStart => exact ⟨0, none, 0, Nat.zero_le _, rfl, rfl, World.ownsRow_nil _ _ _ _, Made.refl W⟩
    case round =>
      obtain ⟨i, so, oc, hi, rfl, rfl, hown, hm⟩ := hrel
      have KO := Lib.hid hown
      have KM := Lib.hid hm
      clear hown hm
      by_cases hlt : i < ns.length
      · obtain ⟨a, rfl⟩ := HM.out.nums.some hlt
        have hk := turn_lt t hlt
        have hkc := turn_code (t := t) hlt
        have hc := made_cell KM.out _ _ (HM.out.nums.cell a rfl _ hk)
        have hby := HM.out.byte (turnN ns.length t i)
        have hnx := turned_next ns t q i
        have HX := Lib.hid hnx
        clear hnx
        generalize turnN ns.length t i = k at *
        generalize ns.getD k 0 = mk at *
        have K2 := Lib.hid (made_new KM.out (.cells #[.int .u8 ((mk : Int) % 16 + (q : Int) / 16 * 16)] 5))
        have HO := Lib.hid (World.ownsRow.alloc KO.out (.cells #[.int .u8 ((mk : Int) % 16 + (q : Int) / 16 * 16)] 5))
        have hrow := KO.out.lt
        have hb1 : (i + 1) * 1 ≤ 140737488355328 := by omega
        have hb2 : i + 1 ≤ maxLen := by unfold maxLen; omega
        go_wp2_with (at_builtin; refine wpList_append_own _ rfl (.tmp 34) (.tmp 44) 22 rfl W.heap.size 5 i0 (.int .u8 0) 1 1 Try.underlying22 hi0 hz0 hz1 hz2 rfl (by decide) (.slice so i oc) i (numsV .u8 (turned ns t q i)) rfl HO.out ⟨wr.heap.size, 0, none⟩ 1 1 [.int .u8 ((mk : Int) % 16 + (q : Int) / 16 * 16)] rfl rfl (new_cell _ _ _) (by simp [Value.oneCell']) hb2 hb1 K2.out.size ?_; intro v1 w1 hown1 hgr1 _; rewrite [row_snoc, ← HX.out] at hown1; obtain ⟨so1, oc1, rfl, -, -⟩ := owns_view hown1)
        have KX := Lib.hid (Below.grown K2.out hgr1 K2.out.size (fun k hk => (hrow k hk).1))
        have KY := Lib.hid hown1
        clear hown1 hgr1 hrow
        go_roundw
        case rel => exact ⟨i + 1, so1, oc1, by omega, rfl, by go_num, KY.out, KX.out⟩
        case measure => simp [intOf]; omega
      · obtain rfl : i = ns.length := by omega
        obtain ⟨_, _, hv, hvl, hnum⟩ := owns_view KO.out
        obtain ⟨rfl, rfl, rfl⟩ := hv
        have N1 := Lib.hid hnum
        clear hnum hvl KO
        have m2 := made_new KM.out (.cells #[] 5)
        have hown0 := World.ownsRow_made (e := 5) (size := 1) wr #[] 0 KM.out.size (Nat.zero_le _) rfl
        have HB := Lib.hid (show ao = none → ns.length = 0 ∧ cap = 0 from fun h => ⟨by rw [(HM.out.nums.bare h).1]; rfl, (HM.out.nums.bare h).2⟩)
        have HO := Lib.hid (nums_olds8 (HM.out.nums.made m2))
        have H0 := Lib.hid hown0
        have K2 := Lib.hid m2
        have hb1 : (0 + ns.length) * 1 ≤ 140737488355328 := by omega
        have hb2 : 0 + ns.length ≤ maxLen := by unfold maxLen; omega
        have hil : (numsV .u8 ns).length = ns.length := by simp [numsV]
        clear m2 hown0
        go_upto_region 10 with (at_builtin; refine wpList_append_all rfl (.tmp 46) (.tmp 47) 22 rfl W.heap.size 5 i0 (.int .u8 0) 1 Try.underlying22 hi0 hz0 hz1 hz2 rfl (.slice (some ⟨wr.heap.size, 0, none⟩) 0 0) 0 [] rfl H0.out ao ns.length cap (numsV .u8 ns) rfl HB.out hil HO.out (num_cells ns) hb2 hb1 K2.out.size ?_; intro v1 w1 hown1 hgr1; rewrite [List.nil_append, Nat.zero_add] at hown1; obtain ⟨s1, c1, rfl, -, hnum1⟩ := owns_view hown1)
        have K1 := Lib.hid (Below.grown K2.out hgr1 K2.out.size (fun k hk => (H0.out.lt k hk).1))
        have hwm : Made wr w1 := by
          refine Below.grown (made_new (Made.refl wr) _) hgr1 (by simp) (fun k hk => ?_)
          have h2 : wr.heap.size = k := by simpa [Value.ownBlock] using hk
          omega
        have N1b := Lib.hid (N1.out.made hwm)
        have S1 := Lib.hid hnum1
        have HF := Lib.hid (fits_any ns ao cap w1 (HM.out.made K1.out))
        clear hown1 hgr1 hnum1 hwm K2 H0 HO N1
        go_wp2_with (fail)
        refine HF.out.mono ?_
        rintro e w2 ⟨rfl, hm2⟩
        have K2 := Lib.hid (Made.trans K1.out hm2)
        have N2 := Lib.hid (N1b.out.made hm2)
        have S2 := Lib.hid (S1.out.made hm2)
        clear hm2 HF K1 N1b S1
        go_wp2_with (fail)
        refine (slots_any ns ao cap _ (HM.out.made K2.out)).mono ?_
        rintro e w3 ⟨hm3, hr⟩
        have K3 := Lib.hid (Made.trans K2.out hm3)
        have N3 := Lib.hid (N2.out.made hm3)
        have S3 := Lib.hid (S2.out.made hm3)
        clear hm3 K2 N2 S2
        obtain ⟨vr, rfl⟩ : ∃ vr, e = .returned vr := by
          rcases hr with ⟨_, rfl⟩ | ⟨_, _, _, rfl, _⟩
          · exact ⟨_, rfl⟩
          · exact ⟨_, rfl⟩
        clear hr
        have HT := Lib.hid (turned_fits ns t q)
        generalize hfv : fitsN ns = fv at *
        have HFV := Lib.hid hfv
        clear hfv
        go_wp2_with (fail)
        go_loopw [12] (fun x wr => ∃ (i nd : Nat), i ≤ ns.length ∧ x = .int .i64 i ∧ wr = w3.drewN nd) (fun x _ => ns.length - (intOf x).toNat)
        case atStart => exact ⟨0, 0, by omega, rfl, rfl⟩
        case round =>
          obtain ⟨i, nd, hi, rfl, hwr⟩ := hrel
          have HWR := Lib.hid hwr
          have hmw : Made w3 wr := hwr ▸ made_drewN w3 nd
          clear hwr
          by_cases hlt3 : i < ns.length
          · obtain ⟨a, rfl⟩ := HM.out.nums.some hlt3
            obtain ⟨b, rfl⟩ := S3.out.some hlt3
            have hc1 := made_cell (Made.trans K3.out hmw) _ _ (HM.out.nums.cell a rfl i hlt3)
            have hc2 := made_cell hmw _ _ (S3.out.cell b rfl i hlt3)
            generalize ns.getD i 0 = mk at *
            go_upto_region 15 with (fail)
            go_quiet (fail)
            rename_i nq
            go_wp2
            go_roundw
            case rel => exact ⟨i + 1, nd + nq, by omega, by go_num, by rw [HWR.out, World.drewN_drewN]⟩
            case measure => simp [intOf]; omega
          · have K4 := Lib.hid (Made.trans K3.out hmw)
            have HO2 := fits_any (turned ns t q ns.length) so oc wr ⟨N3.out.made hmw, by rw [turned_len]; omega, turned_byte ns t q _ hq⟩
            rewrite [turned_len, HT.out] at HO2
            have HO3 := Lib.hid HO2
            clear HO2
            go_wp2_with (fail)
            refine HO3.out.mono ?_
            rintro e w4 ⟨rfl, hm4⟩
            have K5 := Lib.hid (Made.trans K4.out hm4)
            clear hm4 HO3
            cases fv with
            | false =>
              go_wp2_with (fail)
              refine (HA.out _ K5.out).mono ?_
              rintro e w5 ⟨rfl, hm5⟩
              have K6 := Lib.hid hm5
              clear hm5
              go_wp2
              go_ret
              exact ⟨rfl, K6.out⟩
            | true =>
              by_cases hz : ns.length = 0
              · have hz2 : ((ns.length : Int) == 0) = true := beq_iff_eq.2 (by omega)
                clear hz
                go_wp2_with (fail)
                refine (HA.out _ K5.out).mono ?_
                rintro e w5 ⟨rfl, hm5⟩
                have K6 := Lib.hid hm5
                clear hm5
                go_wp2
                go_ret
                exact ⟨rfl, K6.out⟩
              · have hz2 : ((ns.length : Int) == 0) = false := beq_eq_false_iff_ne.2 (by omega)
                have hz1 : 1 ≤ ns.length := by omega
                obtain ⟨a, rfl⟩ := HM.out.nums.some hz1
                have htl := fits_rest (ns := ns) HFV.out
                have HTL := Lib.hid htl
                have hroom := HM.out.nums.room
                have hmw4 := HM.out.nums.made K5.out
                have hdl : (ns.drop 1).length = ns.length - 1 := by simp
                have hdb := fun t => byte_drop HM.out.byte t
                by_cases hcap : cap = 1
                · have HF5 := fits_any (ns.drop 1) (some a) 0 w4 ⟨(nums_tail hmw4 hz1).1 hcap, by rw [hdl]; omega, hdb⟩
                  rewrite [hdl, HTL.out, show ns.length - 1 = 0 by omega] at HF5
                  have HF6 := Lib.hid HF5
                  subst hcap
                  clear HF5 hz hdl hdb hmw4 htl
                  go_wp2_with (fail)
                  refine HF6.out.mono ?_
                  rintro e w5 ⟨rfl, hm5⟩
                  have K6 := Lib.hid (Made.trans K5.out hm5)
                  clear hm5 HF6
                  go_wp2_with (fail)
                  refine (HA.out _ K6.out).mono ?_
                  rintro e w6 ⟨rfl, hm6⟩
                  have K7 := Lib.hid hm6
                  clear hm6
                  go_wp2
                  go_ret
                  exact ⟨rfl, K7.out⟩
                · have HF5 := fits_any (ns.drop 1) (some ⟨a.block, a.off + 1, none⟩) (cap - 1) w4 ⟨(nums_tail hmw4 hz1).2 hcap, by rw [hdl]; omega, hdb⟩
                  rewrite [hdl, HTL.out] at HF5
                  have HF6 := Lib.hid HF5
                  have hcap2 : 1 < cap := by omega
                  clear HF5 hz hdl hdb hmw4 htl hcap
                  go_wp2_with (fail)
                  refine HF6.out.mono ?_
                  rintro e w5 ⟨rfl, hm5⟩
                  have K6 := Lib.hid (Made.trans K5.out hm5)
                  clear hm5 HF6
                  go_wp2_with (fail)
                  refine (HA.out _ K6.out).mono ?_
                  rintro e w6 ⟨rfl, hm6⟩
                  have K7 := Lib.hid hm6
                  clear hm6
                  go_wp2
                  go_ret
                  exact ⟨rfl, K7.out⟩
end
end matchRow
end Go.Proofs.Ytplafgegjbppmaa
