/- ExtBack of the laws of ext returns true, for every value, parts, instruction and address, in every world that holds the table of names. -/
import Derived.Test.YteghoocjhhahbaaDoorExtLaws
import Derived.Deep.CutRange
namespace Go.Proofs.YteghoocjhhahbaaDoor
open Go.ChangeShapes Go.WideShapes Go.ChangeAt Go.RowKit Go.Sort BigFrame

theorem join_back (v : Int) (h0 : -2147483648 ≤ v) (h1 : v ≤ 2147483647) : joinZ (upperZ v) (lowerZ v) = v := by
  have e : upperZ v % 16777216 * 256 + lowerZ v % 256 = v % 4294967296 := by unfold upperZ lowerZ; omega
  unfold joinZ s32
  rw [e]
  split <;> omega
theorem s32_emod (v : Int) : s32 v % 4294967296 = v % 4294967296 := by unfold s32; split <;> omega
theorem upper_join (u l : Int) : upperZ (joinZ u l) = u % 16777216 := by
  have h := s32_emod (u % 16777216 * 256 + l % 256)
  unfold upperZ joinZ
  generalize s32 (u % 16777216 * 256 + l % 256) = r at *
  omega
theorem lower_join (u l : Int) : lowerZ (joinZ u l) = l % 256 := by
  have h := s32_emod (u % 16777216 * 256 + l % 256)
  unfold lowerZ joinZ
  generalize s32 (u % 16777216 * 256 + l % 256) = r at *
  omega
theorem target_back (i pc : Int) (h0 : 0 ≤ i) (h1 : i < 4294967296) : targetZ (s32 (i - pc)) pc = i := by
  have h := s32_emod (i - pc)
  unfold targetZ
  generalize s32 (i - pc) = r at *
  omega
theorem rel_value (x : In) (pc : Int) (h : x.op = 27 ∨ x.op = 29 ∨ x.op = 30 ∨ x.op = 31) : valueP x pc = s32 (x.imm - pc) := by
  have hk : vB x.op = true ∧ (vF x.op).kind = 10 := by
    rcases h with h | h | h | h <;> rw [h] <;> exact ⟨by decide +kernel, by decide +kernel⟩
  unfold valueP valZ
  rw [if_pos hk.1, if_pos hk.2]
/-- How what is told of an op and an instruction hangs together. -/
theorem told (x : In) (pc : Int) : (vB x.op = false ∧ mayZ x.op = false ∧ fitP x pc = true) ∨ (vB x.op = true ∧ mayZ x.op = false) ∨ (vB x.op = true ∧ mayZ x.op = true) := by
  unfold mayZ fitP
  cases vB x.op <;> cases (vF x.op).ext <;> simp
namespace extBack
section
attribute [local irreducible] World.cell?
set_option maxRecDepth 100000 in
set_option maxHeartbeats 8000000 in
theorem walk (W : World) (hN : Names W) (v u l : Int) (x : In) (pc : Int) (hv0 : -2147483648 ≤ v) (hv1 : v ≤ 2147483647) (hu : isU32 u) (hl : isU32 l) (hx : x.small) (hp : isU32 pc) :
    Calls Tryd.prog 6 #[.int .i32 v, .int .u32 u, .int .u32 l, x.val, .int .u32 pc] W fun e w' => e = .returned (.bool true) ∧ Made W w' := by
  have K0 := Lib.hid (show Own W W.heap.size x (W.alloc (.cells x.cells.toArray 24)) from ⟨(Made.refl W).alloc (Nat.le_refl _) _, heap_alloc_new W _⟩)
  have hsu := upper_u32 v
  have hsl := lower_u32 v
  have C1 := Lib.hid (extSplit_any v)
  have C2 := Lib.hid (extJoin_any u l hu hl)
  have C3 := Lib.hid (extSplit_any (joinZ u l))
  rewrite [upper_join, lower_join] at C3
  have C4 := Lib.hid (extJoin_any _ _ hsu hsl)
  rewrite [join_back v hv0 hv1] at C4
  have s1 : upperZ v / 16777216 = 0 := by unfold upperZ; omega
  have s2 : lowerZ v / 256 = 0 := by unfold lowerZ; omega
  obtain ⟨p0, p1⟩ := hsu
  obtain ⟨q0, q1⟩ := hsl
  obtain ⟨u0, u1⟩ := hu
  obtain ⟨l0, l1⟩ := hl
  obtain ⟨pc0, pc1⟩ := hp
  have D1 := Lib.hid (fun u (hu : Names u) => value_any u hu x hx pc)
  have D2 := Lib.hid (fun u (hu : Names u) => extendable_any u hu x.op hx.op0)
  have D3 := Lib.hid (fun u (hu : Names u) => extFits_any u hu x hx pc)
  have D4 := Lib.hid (fun u (hu : Names u) => needs_any u hu x hx pc)
  have D5 := Lib.hid (fun u (hu : Names u) => awake_any u hu)
  have D6 := Lib.hid (extTarget_any (valueP x pc) pc)
  have hrv := rel_value x pc
  have htb := target_back x.imm pc
  have hsb := s32_bounds (x.imm - pc)
  rewrite [need_eq] at D4
  have htl := told x pc
  clear hx
  generalize upperZ v = a at *
  generalize lowerZ v = b at *
  generalize joinZ u l = jn at *
  generalize valueP x pc = val at *
  generalize vB x.op = has at *
  generalize fitP x pc = ft at *
  generalize mayZ x.op = my at *
  have TL := Lib.hid htl
  have RV := Lib.hid (And.intro hrv (And.intro htb hsb))
  clear htl hrv htb hsb
  have i0 := x.imm
  go_enter Tryd.func6, Tryd.ntmps6
  go_wp2_with (fail)
  refine (C1.out.makes _ _ (Made.refl _)).mono ?_
  rintro e w1 ⟨rfl, h1⟩
  have K1 := Lib.hid (K0.out.next h1)
  clear h1
  go_wp2_with (fail)
  refine (C2.out.makes _ _ (Made.refl _)).mono ?_
  rintro e w2 ⟨rfl, h2⟩
  have K2 := Lib.hid (K1.out.next h2)
  clear h2
  go_wp2_with (fail)
  refine (C3.out.makes _ _ (Made.refl _)).mono ?_
  rintro e w3 ⟨rfl, h3⟩
  have K3 := Lib.hid (K2.out.next h3)
  clear h3
  go_wp2_with (fail)
  refine (C4.out.makes _ _ (Made.refl _)).mono ?_
  rintro e w4 ⟨rfl, h4⟩
  have K4 := Lib.hid (K3.out.next h4)
  clear h4
  obtain ⟨a0, a1, a2, a3, a4, a5, a6, a7, a8, a9, a10⟩ := in_cells K4.out.in_
  have hb := heap_lt K4.out.in_
  go_wp2_with (fail)
  refine (D1.out _ (hN.made K4.out.made) _ (Made.refl _)).mono ?_
  rintro e w5 ⟨rfl, h5⟩
  have K5 := Lib.hid (K4.out.next h5)
  clear h5 a0 a1 a2 a3 a4 a5 a6 a7 a8 a9 a10 hb
  obtain ⟨a0, a1, a2, a3, a4, a5, a6, a7, a8, a9, a10⟩ := in_cells K5.out.in_
  have hb := heap_lt K5.out.in_
  go_upto_region 6 with (fail)
  have g0 := fun d os => cell_regrown a0 d os
  have g1 := fun d os => cell_regrown a1 d os
  have g2 := fun d os => cell_regrown a2 d os
  have g3 := fun d os => cell_regrown a3 d os
  have g4 := fun d os => cell_regrown a4 d os
  have g5 := fun d os => cell_regrown a5 d os
  have g6 := fun d os => cell_regrown a6 d os
  have g7 := fun d os => cell_regrown a7 d os
  have g8 := fun d os => cell_regrown a8 d os
  have g9 := fun d os => cell_regrown a9 d os
  have g10 := fun d os => cell_regrown a10 d os
  go_cut [90] from 65 to 90 (fun r wc => r = .bool false ∧ Own W W.heap.size x wc)
  case first =>
    rcases TL.out with ⟨rfl, rfl, rfl⟩ | ⟨rfl, rfl⟩ | ⟨rfl, rfl⟩
    case inr.inr =>
      cases ft
      all_goals
        refine wp_region_quiet_below (by kernel_rfl) (by kernel_rfl) ?_
        repeat (go_big_quiet_step ((first
          | (go_at_call 13; exact (D2.out w5 (hN.made K5.out.made)).again _ _)
          | (go_at_call 12; exact (D3.out w5 (hN.made K5.out.made)).again _ _)
          | (go_at_call 14; exact (D4.out w5 (hN.made K5.out.made)).again _ _))))
        refine wpQuiet_nil ?_
        intro u1 hw9
        have K6 := Lib.hid (K5.out.next (made_regrown hw9))
        go_wp2
        go_meet
        case rel => exact ⟨by simp, K6.out⟩
    all_goals
      refine wp_region_quiet_below (by kernel_rfl) (by kernel_rfl) ?_
      repeat (go_big_quiet_step ((first
        | (go_at_call 13; exact (D2.out w5 (hN.made K5.out.made)).again _ _)
        | (go_at_call 12; exact (D3.out w5 (hN.made K5.out.made)).again _ _)
        | (go_at_call 14; exact (D4.out w5 (hN.made K5.out.made)).again _ _))))
      refine wpQuiet_nil ?_
      intro u1 hw9
      have K6 := Lib.hid (K5.out.next (made_regrown hw9))
      go_wp2
      go_meet
      case rel => exact ⟨by simp, K6.out⟩
  case rest =>
    obtain ⟨rfl, hO⟩ := hcut
    generalize wc = w6 at *
    have K6 := Lib.hid hO
    clear hO a0 a1 a2 a3 a4 a5 a6 a7 a8 a9 a10 hb g0 g1 g2 g3 g4 g5 g6 g7 g8 g9 g10
    obtain ⟨a0, a1, a2, a3, a4, a5, a6, a7, a8, a9, a10⟩ := in_cells K6.out.in_
    have hb := heap_lt K6.out.in_
    have N6 := Lib.hid (hN.made K6.out.made)
    by_cases hop : x.op = 27 ∨ x.op = 29 ∨ x.op = 30 ∨ x.op = 31
    · have hval := RV.out.1 hop
      have hop2 : (x.op == 27) = true ∨ ((x.op == 27) = false ∧ (x.op == 29) = true) ∨ ((x.op == 27) = false ∧ (x.op == 29) = false ∧ (x.op == 30) = true) ∨ ((x.op == 27) = false ∧ (x.op == 29) = false ∧ (x.op == 30) = false ∧ (x.op == 31) = true) := by
        simp only [beq_iff_eq, beq_eq_false_iff_ne]
        omega
      have ho0 := TL.out
      clear hop ho0
      generalize x.op = op at *
      by_cases hi0 : x.imm < 0
      · clear hval
        rcases hop2 with h1 | ⟨h1, h2⟩ | ⟨h1, h2, h3⟩ | ⟨h1, h2, h3, h4⟩
        all_goals
          go_wp2_with (fail)
          refine (D5.out _ N6.out _ (Made.refl _)).mono ?_
          rintro e w7 ⟨rfl, h7⟩
          have K7 := Lib.hid (K6.out.next h7)
          clear h7
          go_wp2
          go_ret
          exact ⟨rfl, K7.out.made⟩
      · by_cases hi1 : 4294967296 ≤ x.imm
        · clear hval
          rcases hop2 with h1 | ⟨h1, h2⟩ | ⟨h1, h2, h3⟩ | ⟨h1, h2, h3, h4⟩
          all_goals
            go_wp2_with (fail)
            refine (D5.out _ N6.out _ (Made.refl _)).mono ?_
            rintro e w7 ⟨rfl, h7⟩
            have K7 := Lib.hid (K6.out.next h7)
            clear h7
            go_wp2
            go_ret
            exact ⟨rfl, K7.out.made⟩
        · have hb0 := RV.out.2.2
          have htg := RV.out.2.1 (by omega) (by omega)
          rewrite [← hval] at hb0 htg
          obtain ⟨hb1, hb2⟩ := hb0
          have hb3 : val < 2147483648 := by omega
          have hd1 : decide (-2147483648 ≤ val) = true := decide_eq_true hb1
          have hd2 : decide (val < 2147483648) = true := decide_eq_true hb3
          rewrite [htg] at D6
          clear hval htg
          rcases hop2 with h1 | ⟨h1, h2⟩ | ⟨h1, h2, h3⟩ | ⟨h1, h2, h3, h4⟩
          all_goals
            go_upto_region 11 with (fail)
            have g0 := fun d os => cell_regrown a0 d os
            have g1 := fun d os => cell_regrown a1 d os
            have g2 := fun d os => cell_regrown a2 d os
            have g3 := fun d os => cell_regrown a3 d os
            have g4 := fun d os => cell_regrown a4 d os
            have g5 := fun d os => cell_regrown a5 d os
            have g6 := fun d os => cell_regrown a6 d os
            have g7 := fun d os => cell_regrown a7 d os
            have g8 := fun d os => cell_regrown a8 d os
            have g9 := fun d os => cell_regrown a9 d os
            have g10 := fun d os => cell_regrown a10 d os
            refine wp_region_quiet_below (by kernel_rfl) (by kernel_rfl) ?_
            repeat (go_big_quiet_step ((first
              | (go_at_call 20; exact (D6.out.makes w6).again _ _)
              | (go_at_call 15; exact (D5.out w6 N6.out).again _ _))))
            refine wpQuiet_nil ?_
            intro u7 hw9
            have K7 := Lib.hid (K6.out.next (made_regrown hw9))
            go_wp2
            go_ret
            exact ⟨by simp, K7.out.made⟩
    · have h1 : (x.op == 27) = false := beq_eq_false_iff_ne.2 (by omega)
      have h2 : (x.op == 29) = false := beq_eq_false_iff_ne.2 (by omega)
      have h3 : (x.op == 30) = false := beq_eq_false_iff_ne.2 (by omega)
      have h4 : (x.op == 31) = false := beq_eq_false_iff_ne.2 (by omega)
      clear hop
      go_wp2_with (fail)
      refine (D5.out _ N6.out _ (Made.refl _)).mono ?_
      rintro e w7 ⟨rfl, h7⟩
      have K7 := Lib.hid (K6.out.next h7)
      clear h7
      go_wp2
      go_ret
      exact ⟨rfl, K7.out.made⟩
end
end extBack
end Go.Proofs.YteghoocjhhahbaaDoor
