/- What Inst of the document's answer returns, for every word and address, without an upper part of an extender. -/
import Derived.Test.YtanjmoiepmadhaaGreatDoorEncRefU
import Derived.Test.YtanjmoiepmadhaaGreatDoorGEncB
namespace Go.Proofs.YtanjmoiepmadhaaGreatDoor
open Go.ChangeShapes Go.WideShapes Go.ChangeAt Go.RowKit Go.Sort BigFrame

section
attribute [local irreducible] World.cell?
set_option maxRecDepth 100000 in
set_option maxHeartbeats 32000000 in
theorem refInst6_false (W : World) (wd u pc : Int) (has : Bool) (hhas : has = false) (hw : isU32 wd) (hu : isU32 u) (hp : isU32 pc) (hn : has = false → u = 0) : Makes Tryz.prog W 25 #[.int .u32 wd, .int .u32 u, .bool has, .int .u32 pc] (.tuple #[(instP wd u has pc).val, .bool (instB wd u has pc)]) := by
  have HH := Lib.hid hhas
  clear hhas
  intro w hm
  have hz := hm.size
  have K0 := Lib.hid (show Own W w.heap.size inZero (w.alloc (.cells inZero.cells.toArray 40)) from ⟨hm.alloc hz _, heap_alloc_new w _⟩)
  obtain ⟨r1, r2⟩ := ref_inst wd u has pc hu.1 hn
  obtain ⟨g1, g2⟩ := get_parts wd
  have C1 := refGet_any wd 26 6 hw ⟨by decide, by decide⟩ ⟨by decide, by decide⟩
  rewrite [g1] at C1
  have C2 := Lib.hid (refGet_any wd 16 10 hw ⟨by decide, by decide⟩ ⟨by decide, by decide⟩)
  have C3 := Lib.hid (refGet_any wd 0 14 hw ⟨by decide, by decide⟩ ⟨by decide, by decide⟩)
  have hg16 := getZ_bounds wd 16 10 (by decide) (by decide) (by decide)
  have hg0 := getZ_bounds wd 0 14 (by decide) (by decide) (by decide)
  have hg16' : 0 ≤ getZ wd 16 10 ∧ getZ wd 16 10 < 1024 := hg16
  have hg0' : 0 ≤ getZ wd 0 14 ∧ getZ wd 0 14 < 16384 := hg0
  have p14 : Still Tryz.prog 46 #[.int .i64 14] (.int .i64 16384) := power_any 14 (by decide) (by decide)
  have P14 := Lib.hid p14
  have HC1 := Lib.hid C1
  obtain ⟨X, hX⟩ : ∃ x, x = instP wd u has pc := ⟨_, rfl⟩
  obtain ⟨B, hB⟩ : ∃ b, b = instB wd u has pc := ⟨_, rfl⟩
  rewrite [← hX, ← hB]
  obtain ⟨L, hL⟩ : ∃ x, x = lreadP wd u has pc := ⟨_, rfl⟩
  have hLs := lreadP_small wd u has pc
  rewrite [← hL] at hLs
  have hBr : B = (isOp (codeZ wd) && sayB L pc && (upP L pc == u) && (wordP L pc == wordZ (codeZ wd) (payZ wd) 0)) := by rw [hB, ← r1, hL]; rfl
  have hXL : B = true → X = L := fun h => by rw [hX, hL]; exact (r2 (hB ▸ h)).symm
  have hXZ : B = false → X = inZero := fun h => by rw [hX]; unfold instP; rw [← hB, h]; rfl
  have hLr : L = lreadFrom (payZ wd) u has pc (fieldsZ (codeZ wd)) 24 (startIn (codeZ wd) has) := hL
  have hcu := code_u wd
  have hpu := pay_u wd
  clear r1 r2 g1 C1 p14 hX hB hL hm hg16 hg0
  generalize getZ wd 16 10 = gh at *
  generalize getZ wd 0 14 = gl at *
  generalize codeZ wd = c at *
  generalize payZ wd = pay at *
  have HB := Lib.hid hBr
  have HXL := Lib.hid (And.intro hXL hXZ)
  have HLR := Lib.hid hLr
  have HLS := Lib.hid hLs.1
  have hps := Lib.hid (fun v => pieces_any v c v (Made.refl v))
  have hOf := Lib.hid (fun v => refOf_any v c)
  have hSg := Lib.hid (fun v => refSigned_any v)
  have hLow := Lib.hid (fun v => refLow_any v)
  obtain ⟨c0, c1⟩ := hcu
  obtain ⟨p0, p1⟩ := hpu
  obtain ⟨u0, u1⟩ := id hu
  obtain ⟨pc0, pc1⟩ := id hp
  obtain ⟨gh0, gh1⟩ := hg16'
  obtain ⟨gl0, gl1⟩ := hg0'
  clear hBr hXL hXZ hLr hLs hw hn hu
  go_enter Tryz.func25, Tryz.ntmps25
  go_wp2_with (fail)
  refine (HC1.out _).mono ?_
  rintro e w1 ⟨rfl, rfl⟩
  go_wp2_with (fail)
  refine (hps.out _).mono ?_
  intro e w2 h
  obtain ⟨p, cap, fs, hfs, rfl, h2, hh⟩ := isPs_any h
  have K2 := Lib.hid (show IAt W w.heap.size p fs.length cap fs w2 from ⟨K0.out.next h2, hh⟩)
  clear h h2 hh
  obtain ⟨io, hio⟩ : ∃ b, b = isOp c := ⟨_, rfl⟩
  rewrite [← hio]
  have HIO := Lib.hid hio
  cases io with
  | false =>
    have hB2 : B = false := by rw [HB.out, ← HIO.out]; rfl
    have hX2 := HXL.out.2 hB2
    subst hB2
    subst hX2
    obtain ⟨a0, a1, a2, a3, a4, a5, a6, a7, a8, a9, a10⟩ := in_cells K2.out.own.in_
    have fz := free_of_lit K2.out.own.in_
    have hl := heap_lt K2.out.own.in_
    clear hio
    go_wp2
    refine bodyPost_ret (v := .tuple #[inZero.val, .bool false]) (by simp [results, Tryz.results25, go_sem, a0, a1, a2, a3, a4, a5, a6, a7, a8, a9, a10, inZero]) rfl ?_
    exact ⟨rfl, made_set11 K2.out.own.made hz _ _ _ _ _ _ _ _ _ _ _⟩
  | true =>
    obtain ⟨hsum, -, hok⟩ := list_ok c hio.symm
    rewrite [opN_of hio.symm, ] at hfs
    have hL2 := HLR.out
    rewrite [← hfs] at hok hsum hL2
    have HK := Lib.hid hok
    have HSU := Lib.hid hsum
    have HL2 := Lib.hid hL2
    obtain ⟨-, hcell⟩ := K2.out.holds
    have HC := Lib.hid hcell
    clear hcell hfs hok hsum hL2 hio HLR
    go_wp2_with (fail)
    refine (C2.out _).mono ?_
    rintro e z1 ⟨rfl, rfl⟩
    go_wp2_with (fail)
    refine (P14.out _).mono ?_
    rintro e z2 ⟨rfl, rfl⟩
    go_wp2_with (fail)
    refine (C3.out _).mono ?_
    rintro e z3 ⟨rfl, rfl⟩
    have hPl := Lib.hid (show InAt (w2.alloc (.cells (startIn c has).cells.toArray 40)) w2.heap.size (startIn c has) from heap_alloc_new w2 _)
    have hPm := Lib.hid ((Made.refl w2).alloc (Nat.le_refl _) (.cells (startIn c has).cells.toArray 40))
    go_wp2_with (fail)
    refine (hOf.out _ _ (Made.refl _)).mono ?_
    rintro e w3 ⟨rfl, h3⟩
    clear g2
    have M3 := Lib.hid (Made.trans hPm.out h3)
    have I3 := Lib.hid (h3.heap hPl.out)
    have hlt3 := heap_lt (h3.heap hPl.out)
    clear h3
    have A3 := Lib.hid (And.intro (Made.heap ((Made.refl w3).alloc (Nat.le_refl _) (.cells #[.int .i64 (vF c).bits, .int .i64 (vF c).shift, .bool (vF c).sg, .bool (vF c).ext, .bool ((vF c).kind == 10)] 78)) I3.out) (And.intro (heap_alloc_new w3 (.cells #[.int .i64 (vF c).bits, .int .i64 (vF c).shift, .bool (vF c).sg, .bool (vF c).ext, .bool ((vF c).kind == 10)] 78)) (M3.out.alloc M3.out.size (.cells #[.int .i64 (vF c).bits, .int .i64 (vF c).shift, .bool (vF c).sg, .bool (vF c).ext, .bool ((vF c).kind == 10)] 78))))
    go_wp2_with (fail)
    go_loopw [16, 17] (fun lz i wr => ∃ (k : Nat) (low : Int) (y : In), k ≤ fs.length ∧ i = .int .i64 k ∧ lz = .int .i64 low ∧ lreadFrom pay u has pc (fs.drop k) low y = L ∧ (sumB (fs.drop k) : Int) ≤ low ∧ low ≤ 24 ∧ InAt wr w2.heap.size y ∧
        wr.heap[w3.heap.size]? = some (.cells #[.int .i64 (vF c).bits, .int .i64 (vF c).shift, .bool (vF c).sg, .bool (vF c).ext, .bool ((vF c).kind == 10)] 78 (0, 0)) ∧ Made w2 wr) (fun _ i _ => fs.length - (intOf i).toNat)
    case atStart => exact ⟨0, 24, startIn c has, Nat.zero_le _, rfl, rfl, HL2.out.symm, by have := HSU.out; rw [List.drop_zero]; omega, by decide, A3.out.1, A3.out.2.1, A3.out.2.2⟩
    case round =>
      obtain ⟨k, low, y, hk, rfl, rfl, hat, hlo, hhi, hin, hfb, hwr⟩ := hrel
      have HWR := Lib.hid hwr
      have HI := Lib.hid hin
      have HFB := Lib.hid hfb
      have hzw : w2.heap.size ≤ w2.heap.size := Nat.le_refl _
      by_cases hlt2 : k < fs.length
      · rcases HC.out with rfl | ⟨b, rfl, hb, hnc, hcm, hce⟩
        · simp at hlt2
        have hbr : b < wr.heap.size := Nat.lt_of_lt_of_le hb HWR.out.size
        have hd := lread_drop pay u has pc fs k hlt2 low y
        have hsd := sum_drop fs k hlt2
        have hfk := HK.out fs[k] (List.getElem_mem _)
        have hfl := pieces_at fs k hlt2
        have hce2 := fun (v : World) (hu : Made w2 v) r (hr : r < 2) => (bcell hu).1 b (k * 2 + r) hb ▸ hce (k * 2 + r) (by omega)
        unfold maxLen at hcm
        generalize fs[k] = f at *
        rewrite [hat] at hd
        have hcc : ∀ v : World, Made w2 v → v.cell? ⟨b, k * 2, none⟩ = some (.int .u8 (letterZ f.kind)) ∧ v.cell? ⟨b, k * 2 + 1, none⟩ = some (.int .i64 f.bits) := fun v hu => ⟨(hce2 v hu 0 (by omega)).trans hfl.1, (hce2 v hu 1 (by omega)).trans hfl.2⟩
        have hb1 := hfk.b1
        have hb2 := hfk.b2
        have hs0 := hfk.s0
        have hs1 := hfk.s1
        have hlb : f.bits ≤ low := by omega
        obtain ⟨hgs, hgs2, hq0, hq1⟩ := get_step pay low f.bits p0 (by omega) (by omega) hhi
        have htd := Int.tdiv_eq_ediv_of_nonneg (b := 2 ^ (low - f.bits).toNat) p0
        have hgb := getZ_bounds pay (low - f.bits) f.bits (by omega) (by omega) (by omega)
        have hpb := power_any f.bits (by omega) (by omega)
        have hpl := power_any (low - f.bits) (by omega) (by omega)
        have hpc := power_any f.shift (by omega) (by omega)
        have hpk := power_any (f.bits - 1) (by omega) (by omega)
        have hps := scale_cases hs0 hs1
        have hpk2 := pow_le_of (f.bits - 1).toNat (by omega)
        have hpt := fun v g => refPut6_any v y f.kind g hfk.k1 hfk.k2
        have hvl := val_letter f hfk.k1 hfk.k2
        have hvs := fun g h => val_set (f := f) y g h
        have hp2 := pow_le_of f.bits.toNat (by omega)
        have hp4 := pow_le_of (low - f.bits).toNat (by omega)
        have HCC := Lib.hid hcc
        have HD := Lib.hid hd
        have HFK := Lib.hid hfk
        have hki : (k : Int) < fs.length := by omega
        clear hce hce2 hcc hfl hat hd hfk hwr hin hfb
        obtain ⟨hp5, hp6⟩ := hp2
        obtain ⟨hp9, hp10⟩ := hp4
        obtain ⟨hg0, hg1⟩ := hgb
        have HPB := Lib.hid (hpb.makes wr).again
        have HPL := Lib.hid (hpl.makes wr).again
        generalize (2 : Int) ^ (low - f.bits).toNat = mm at *
        generalize hpw : (2 : Int) ^ f.bits.toNat = pw at *
        have HPW := Lib.hid hpw
        have HPB2 := Lib.hid hpb
        have HPC := Lib.hid hpc
        have HPK := Lib.hid hpk
        have HPS := Lib.hid hps
        obtain ⟨hk0, hk1⟩ := hpk2
        clear hpw hpb hpl hpc hpk hps
        generalize getZ pay (low - f.bits) f.bits = g at *
        generalize letterZ f.kind = lt at *
        generalize pay / mm = Q at *
        have HPT := Lib.hid hpt
        clear hpt
        have hmm0 : mm ≠ 0 := by omega
        have hpw0 : pw ≠ 0 := by omega
        obtain ⟨c0', c1'⟩ := HCC.out wr HWR.out
        have e1 := fun d os => cell_regrown c1' d os
        go_upto_region 13 with (fail)
        refine wp_region_quiet_below (by kernel_rfl) (by kernel_rfl) ?_
        repeat (go_big_quiet_step ((first
          | (go_at_call 46; with_reducible exact HPL.out _ _)
          | (go_at_call 46; with_reducible exact HPB.out _ _))))
        refine wpQuiet_nil ?_
        intro u1 hw9
        have M1 := Lib.hid (Made.trans HWR.out (made_regrown hw9))
        have I1 := Lib.hid (Made.heap (made_regrown hw9) HI.out)
        have F1 := Lib.hid (Made.heap (made_regrown hw9) HFB.out)
        clear hw9 e1 c0' c1'
        obtain ⟨c0', c1'⟩ := HCC.out u1 M1.out
        obtain ⟨d0, d1, d2, d3, d4, d5, d6, d7, d8, d9, d10⟩ := in_cells I1.out
        have hbu : b < u1.heap.size := Nat.lt_of_lt_of_le hb M1.out.size
        have hlP := heap_lt I1.out
        have e0 := fun d os => cell_regrown c0' d os
        have g0 := fun d os => cell_regrown d0 d os
        have g1 := fun d os => cell_regrown d1 d os
        have g2 := fun d os => cell_regrown d2 d os
        have g3 := fun d os => cell_regrown d3 d os
        have g4 := fun d os => cell_regrown d4 d os
        have g5 := fun d os => cell_regrown d5 d os
        have g6 := fun d os => cell_regrown d6 d os
        have g7 := fun d os => cell_regrown d7 d os
        have g8 := fun d os => cell_regrown d8 d os
        have g9 := fun d os => cell_regrown d9 d os
        have g10 := fun d os => cell_regrown d10 d os
        have hgu : g < 4294967296 := by omega
        go_upto_region 14 with (fail)
        refine wp_region_made 9 [] [0, 1, 2, 3, 4, 5, 6, 7, 8] (by kernel_rfl) (by kernel_rfl) (by intro c a d v w h; cases d <;> exact h) ?_
        simp only [moved, picked, List.foldr_cons, List.foldr_nil, Option.elim_some, List.getElem?_toArray, List.getElem?_cons_zero, List.getElem?_cons_succ, List.drop_succ_cons, List.drop_zero]
        repeat (go_big_quiet_step ((go_at_call 48; with_reducible exact (HPT.out u1 g).again _ _)))
        refine wpQuiet_nil ?_
        intro u3 hu3
        have hi3 := hu3.heap I1.out
        have hf3 := hu3.heap F1.out
        clear d0 d1 d2 d3 d4 d5 d6 d7 d8 d9 d10 g0 g1 g2 g3 g4 g5 g6 g7 g8 g9 g10 e0 c0' c1' hlP
        obtain ⟨d0, d1, d2, d3, d4, d5, d6, d7, d8, d9, d10⟩ := in_cells hi3
        have fz := free_of_lit hi3
        have hlP := heap_lt hi3
        have hne3 : w3.heap.size ≠ w2.heap.size := by omega
        have M4 := Lib.hid (And.intro (in_set11 hi3 (setZ y f.kind g)) (And.intro ((set11_far u3 w2.heap.size w3.heap.size hne3 (.int .u8 (setZ y f.kind g).op) (.int .u8 (setZ y f.kind g).d) (.int .u8 (setZ y f.kind g).s) (.int .u8 (setZ y f.kind g).t) (.int .u8 (setZ y f.kind g).n) (.int .u8 (setZ y f.kind g).pred) (.int .u8 (setZ y f.kind g).mode) (.bool (setZ y f.kind g).new) (.bool (setZ y f.kind g).ext) (.int .u16 (setZ y f.kind g).count) (.int .i64 (setZ y f.kind g).imm)).trans hf3) (made_set11 (Made.trans M1.out hu3) hzw (.int .u8 (setZ y f.kind g).op) (.int .u8 (setZ y f.kind g).d) (.int .u8 (setZ y f.kind g).s) (.int .u8 (setZ y f.kind g).t) (.int .u8 (setZ y f.kind g).n) (.int .u8 (setZ y f.kind g).pred) (.int .u8 (setZ y f.kind g).mode) (.bool (setZ y f.kind g).new) (.bool (setZ y f.kind g).ext) (.int .u16 (setZ y f.kind g).count) (.int .i64 (setZ y f.kind g).imm))))
        clear hi3 hu3 hf3
        go_upto_region 15 with (fail)
        refine name_world (fun u => InAt u w2.heap.size (setZ y f.kind g) ∧ u.heap[w3.heap.size]? = some (.cells #[.int .i64 (vF c).bits, .int .i64 (vF c).shift, .bool (vF c).sg, .bool (vF c).ext, .bool ((vF c).kind == 10)] 78 (0, 0)) ∧ Made w2 u) M4.out ?_
        rintro u4 ⟨hi4, hf4, hm4⟩
        have I4' := Lib.hid hi4
        have F4 := Lib.hid hf4
        have N4 := Lib.hid hm4
        clear d0 d1 d2 d3 d4 d5 d6 d7 d8 d9 d10 fz hlP M4
        obtain ⟨c0', c1'⟩ := HCC.out u4 hm4
        have hbu4 : b < u4.heap.size := Nat.lt_of_lt_of_le hb hm4.size
        have hlf := heap_lt hf4
        obtain ⟨f0, f1, f2, f3, f4⟩ := row_cells hf4
        clear hi4 hm4 hf4
        cases hvb : isVal f with
        | false =>
          rewrite [hvb] at hvl
          have e1 : L = lreadFrom pay u has pc (fs.drop (k + 1)) (low - f.bits) (setZ y f.kind g) := by rw [HD.out, hvb]; rfl
          have E1 := Lib.hid e1
          clear e1 hvb f0 f1 f2 f3 f4
          go_wp2
          go_roundw
          case rel => exact ⟨k + 1, _, _, by omega, by go_num, rfl, E1.out.symm, by omega, by omega, I4'.out, F4.out, N4.out⟩
          case measure => simp [intOf]; omega
        | true =>
          rewrite [hvb] at hvl
          have hfv := (HFK.out.vf hvb).1
          have e1 : L = lreadFrom pay u has pc (fs.drop (k + 1)) (low - f.bits) { y with imm := lval f g u has pc } := by rw [HD.out, hvb]; rfl
          have HD2 := Lib.hid e1
          have e2 : setZ y f.kind g = y := hvs g hvb
          have hi5 := I4'.out
          rewrite [e2] at hi5
          have I4 := Lib.hid hi5
          obtain ⟨d0, d1, d2, d3, d4, d5, d6, d7, d8, d9, d10⟩ := in_cells hi5
          have fz := free_of_lit hi5
          have hlP := heap_lt hi5
          rewrite [← hfv] at f0 f1 f2 f4
          have hfk4 : ((vF c).kind == 10) = (f.kind == 10) := by rw [← hfv]
          have HFV := Lib.hid hfk4
          clear e1 e2 hi5 hvb hfv hvs hfk4
          have hlv : lval f g u has pc = (if f.kind == 10 then (pc + (if has then s32 (u * 256 + g % 256) else if f.sg && decide (2 ^ (f.bits - 1).toNat ≤ g) then (g - 2 ^ f.bits.toNat) * 2 ^ f.shift.toNat else g * 2 ^ f.shift.toNat)) % 4294967296 else (if has then s32 (u * 256 + g % 256) else if f.sg && decide (2 ^ (f.bits - 1).toNat ≤ g) then (g - 2 ^ f.bits.toNat) * 2 ^ f.shift.toNat else g * 2 ^ f.shift.toNat)) := rfl
          rewrite [HPW.out] at hlv
          obtain ⟨lv, hl⟩ : ∃ v, v = lval f g u has pc := ⟨_, rfl⟩
          rewrite [← hl] at HD2 hlv
          clear hl
          have hs32 := s32_bounds (u * 256 + g % 256)
          have hgm : g.tmod 256 = g % 256 := Int.tmod_eq_emod_of_nonneg hg0
          have HSG := Lib.hid (hSg.out (u * 256 + g % 256))
          generalize s32 (u * 256 + g % 256) = sv at *
          generalize (2 : Int) ^ f.shift.toNat = ps at *
          generalize (2 : Int) ^ (f.bits - 1).toNat = kw at *
          generalize (f.kind == 10) = rl at *
          have hm1 : 0 ≤ g * ps ∧ g * ps ≤ 4294967296 * 4 := by rcases HPS.out with h | h | h <;> rw [h] <;> omega
          have hm2 : -4294967296 * 4 ≤ (g - pw) * ps ∧ (g - pw) * ps ≤ 4294967296 * 4 := by rcases HPS.out with h | h | h <;> rw [h] <;> omega
          obtain ⟨hm3, hm4⟩ := hm1
          obtain ⟨hm5, hm6⟩ := hm2
          obtain ⟨hs3, hs4⟩ := hs32
          have HLV := Lib.hid hlv
          clear hlv HPS HPW
          cases has with
          | true => exact absurd HH.out (by decide)
          | false =>
            cases hsg : f.sg with
            | true =>
              rewrite [hsg] at f2
              by_cases hge : kw ≤ g
              · cases rl with
                | false =>
                  have e1 : lv = (g - pw) * ps := by rw [HLV.out, hsg, decide_eq_true hge]; rfl
                  subst e1
                  have E1 := Lib.hid HD2.out
                  go_wp2_with (fail)
                  refine (HPK.out _).mono ?_
                  rintro e z1 ⟨rfl, rfl⟩
                  have q0 := fun d os => cell_regrown f0 d os
                  have q1 := fun d os => cell_regrown f1 d os
                  go_upto_region 19 with (fail)
                  refine wp_region_quiet_below (by kernel_rfl) (by kernel_rfl) ?_
                  repeat (go_big_quiet_step ((first
                    | (go_at_call 46; with_reducible exact (HPB2.out.makes u4).again _ _)
                    | (go_at_call 46; with_reducible exact (HPC.out.makes u4).again _ _))))
                  refine wpQuiet_nil ?_
                  intro u5 hw9
                  have I6 := Lib.hid (Made.heap (made_regrown hw9) I4.out)
                  have F6 := Lib.hid (Made.heap (made_regrown hw9) F4.out)
                  have N6 := Lib.hid (Made.trans N4.out (made_regrown hw9))
                  clear hw9 q0 q1 d0 d1 d2 d3 d4 d5 d6 d7 d8 d9 d10 fz hlP f0 f1 f2 f3 f4 hlf
                  obtain ⟨d0, d1, d2, d3, d4, d5, d6, d7, d8, d9, d10⟩ := in_cells I6.out
                  have fz := free_of_lit I6.out
                  have hlP := heap_lt I6.out
                  obtain ⟨f0, f1, f2, f3, f4⟩ := row_cells F6.out
                  have hlf := heap_lt F6.out
                  rewrite [HFV.out] at f4
                  go_wp2
                  go_roundw
                  case rel => exact ⟨k + 1, _, _, by omega, by go_num, rfl, E1.out.symm, by omega, by omega, in_putImm I6.out _, (Below.heap_setCell u5 ⟨w2.heap.size, 10, none⟩ _ w3.heap.size hne3).trans F6.out, Below.setCell N6.out (p := ⟨w2.heap.size, 10, none⟩) hzw _⟩
                  case measure => simp [intOf]; omega
                | true =>
                  have e1 : lv = (pc + ((g - pw) * ps)) % 4294967296 := by rw [HLV.out, hsg, decide_eq_true hge]; rfl
                  subst e1
                  have E1 := Lib.hid HD2.out
                  go_wp2_with (fail)
                  refine (HPK.out _).mono ?_
                  rintro e z1 ⟨rfl, rfl⟩
                  have q0 := fun d os => cell_regrown f0 d os
                  have q1 := fun d os => cell_regrown f1 d os
                  go_upto_region 19 with (fail)
                  refine wp_region_quiet_below (by kernel_rfl) (by kernel_rfl) ?_
                  repeat (go_big_quiet_step ((first
                    | (go_at_call 46; with_reducible exact (HPB2.out.makes u4).again _ _)
                    | (go_at_call 46; with_reducible exact (HPC.out.makes u4).again _ _))))
                  refine wpQuiet_nil ?_
                  intro u5 hw9
                  have I6 := Lib.hid (Made.heap (made_regrown hw9) I4.out)
                  have F6 := Lib.hid (Made.heap (made_regrown hw9) F4.out)
                  have N6 := Lib.hid (Made.trans N4.out (made_regrown hw9))
                  clear hw9 q0 q1 d0 d1 d2 d3 d4 d5 d6 d7 d8 d9 d10 fz hlP f0 f1 f2 f3 f4 hlf
                  obtain ⟨d0, d1, d2, d3, d4, d5, d6, d7, d8, d9, d10⟩ := in_cells I6.out
                  have fz := free_of_lit I6.out
                  have hlP := heap_lt I6.out
                  obtain ⟨f0, f1, f2, f3, f4⟩ := row_cells F6.out
                  have hlf := heap_lt F6.out
                  rewrite [HFV.out] at f4
                  go_wp2_with (fail)
                  refine (hLow.out _ _).mono ?_
                  rintro e z1 ⟨rfl, rfl⟩
                  go_wp2
                  go_roundw
                  case rel => exact ⟨k + 1, _, _, by omega, by go_num, rfl, E1.out.symm, by omega, by omega, in_putImm I6.out _, (Below.heap_setCell u5 ⟨w2.heap.size, 10, none⟩ _ w3.heap.size hne3).trans F6.out, Below.setCell N6.out (p := ⟨w2.heap.size, 10, none⟩) hzw _⟩
                  case measure => simp [intOf]; omega
              · cases rl with
                | false =>
                  have e1 : lv = g * ps := by rw [HLV.out, hsg, decide_eq_false hge]; rfl
                  subst e1
                  have E1 := Lib.hid HD2.out
                  go_wp2_with (fail)
                  refine (HPK.out _).mono ?_
                  rintro e z1 ⟨rfl, rfl⟩
                  go_wp2_with (fail)
                  refine (HPC.out _).mono ?_
                  rintro e z1 ⟨rfl, rfl⟩
                  go_wp2
                  go_roundw
                  case rel => exact ⟨k + 1, _, _, by omega, by go_num, rfl, E1.out.symm, by omega, by omega, in_putImm I4.out _, (Below.heap_setCell u4 ⟨w2.heap.size, 10, none⟩ _ w3.heap.size hne3).trans F4.out, Below.setCell N4.out (p := ⟨w2.heap.size, 10, none⟩) hzw _⟩
                  case measure => simp [intOf]; omega
                | true =>
                  have e1 : lv = (pc + (g * ps)) % 4294967296 := by rw [HLV.out, hsg, decide_eq_false hge]; rfl
                  subst e1
                  have E1 := Lib.hid HD2.out
                  go_wp2_with (fail)
                  refine (HPK.out _).mono ?_
                  rintro e z1 ⟨rfl, rfl⟩
                  go_wp2_with (fail)
                  refine (HPC.out _).mono ?_
                  rintro e z1 ⟨rfl, rfl⟩
                  go_wp2_with (fail)
                  refine (hLow.out _ _).mono ?_
                  rintro e z1 ⟨rfl, rfl⟩
                  go_wp2
                  go_roundw
                  case rel => exact ⟨k + 1, _, _, by omega, by go_num, rfl, E1.out.symm, by omega, by omega, in_putImm I4.out _, (Below.heap_setCell u4 ⟨w2.heap.size, 10, none⟩ _ w3.heap.size hne3).trans F4.out, Below.setCell N4.out (p := ⟨w2.heap.size, 10, none⟩) hzw _⟩
                  case measure => simp [intOf]; omega
            | false =>
              rewrite [hsg] at f2
              cases rl with
              | false =>
                have e1 : lv = g * ps := by rw [HLV.out, hsg]; rfl
                subst e1
                have E1 := Lib.hid HD2.out
                go_wp2_with (fail)
                refine (HPC.out _).mono ?_
                rintro e z1 ⟨rfl, rfl⟩
                go_wp2
                go_roundw
                case rel => exact ⟨k + 1, _, _, by omega, by go_num, rfl, E1.out.symm, by omega, by omega, in_putImm I4.out _, (Below.heap_setCell u4 ⟨w2.heap.size, 10, none⟩ _ w3.heap.size hne3).trans F4.out, Below.setCell N4.out (p := ⟨w2.heap.size, 10, none⟩) hzw _⟩
                case measure => simp [intOf]; omega
              | true =>
                have e1 : lv = (pc + (g * ps)) % 4294967296 := by rw [HLV.out, hsg]; rfl
                subst e1
                have E1 := Lib.hid HD2.out
                go_wp2_with (fail)
                refine (HPC.out _).mono ?_
                rintro e z1 ⟨rfl, rfl⟩
                go_wp2_with (fail)
                refine (hLow.out _ _).mono ?_
                rintro e z1 ⟨rfl, rfl⟩
                go_wp2
                go_roundw
                case rel => exact ⟨k + 1, _, _, by omega, by go_num, rfl, E1.out.symm, by omega, by omega, in_putImm I4.out _, (Below.heap_setCell u4 ⟨w2.heap.size, 10, none⟩ _ w3.heap.size hne3).trans F4.out, Below.setCell N4.out (p := ⟨w2.heap.size, 10, none⟩) hzw _⟩
                case measure => simp [intOf]; omega
      · obtain rfl : k = fs.length := by omega
        rewrite [List.drop_length] at hat
        have e1 : y = L := hat
        subst e1
        have hcall := Lib.hid (refWord6_any wr y HLS.out pc hp)
        have hwz := Lib.hid (refWord_any c pay 0 ⟨c0, by omega⟩ ⟨p0, by omega⟩ ⟨by decide, by decide⟩)
        have hB2 := HB.out
        rewrite [← HIO.out, Bool.true_and] at hB2
        generalize wordP y pc = wv at *
        generalize upP y pc = uv at *
        generalize sayB y pc = sy at *
        generalize wordZ c pay 0 = T at *
        have HB2 := Lib.hid hB2
        obtain ⟨d0, d1, d2, d3, d4, d5, d6, d7, d8, d9, d10⟩ := in_cells hin
        have hlP := heap_lt hin
        clear hB2 HB hat hin hfb hwr
        go_wp2_with (fail)
        refine (hcall.out _ (Made.refl _)).mono ?_
        rintro e z1 ⟨rfl, h1⟩
        have MZ := Lib.hid (Made.trans K2.out.own.made (Made.trans HWR.out h1))
        have hA := Made.heap (Made.trans HWR.out h1) K2.out.own.in_
        have hP1 := h1.heap HI.out
        clear h1 d0 d1 d2 d3 d4 d5 d6 d7 d8 d9 d10 hlP
        have KT := Lib.hid (show InstAt W w.heap.size w2.heap.size y z1 from ⟨⟨MZ.out, hA⟩, hP1⟩)
        clear hA hP1 MZ
        go_upto_region 25 with (fail)
        go_cut [148] from 136 to 148 (fun g wc => g = .bool (!B) ∧ InstAt W w.heap.size w2.heap.size y wc)
        case first =>
          cases sy with
          | false =>
            have hB3 : B = false := HB2.out
            subst hB3
            go_wp2
            go_meet
            case rel => exact ⟨rfl, KT.out⟩
          | true =>
            cases hbu : (uv == u) with
            | false =>
              have hbu2 : (uv != u) = true := by simp [bne, hbu]
              have hB3 : B = false := by rw [HB2.out, hbu]; rfl
              subst hB3
              go_wp2
              go_meet
              case rel => exact ⟨rfl, KT.out⟩
            | true =>
              have hbu2 : (uv != u) = false := by simp [bne, hbu]
              have hB3 : B = (wv == T) := by rw [HB2.out, hbu]; rfl
              have HB3 := Lib.hid hB3
              clear hB3
              go_wp2_with (fail)
              refine (hwz.out _).mono ?_
              rintro e z2 ⟨rfl, rfl⟩
              cases hbw : (wv == T) with
              | false =>
                have hbw2 : (wv != T) = true := by simp [bne, hbw]
                go_wp2
                go_meet
                case rel => exact ⟨by rw [HB3.out, hbw]; rfl, KT.out⟩
              | true =>
                have hbw2 : (wv != T) = false := by simp [bne, hbw]
                go_wp2
                go_meet
                case rel => exact ⟨by rw [HB3.out, hbw]; rfl, KT.out⟩
        case rest =>
          obtain ⟨rfl, hO⟩ := hcut
          generalize wc = z3 at *
          have KZ := Lib.hid hO
          obtain ⟨a0, a1, a2, a3, a4, a5, a6, a7, a8, a9, a10⟩ := in_cells hO.own.in_
          have fz := free_of_lit hO.own.in_
          have hlA := heap_lt hO.own.in_
          cases B with
          | false =>
            have hX3 := HXL.out.2 rfl
            subst hX3
            clear hO
            go_wp2
            refine bodyPost_ret (v := .tuple #[inZero.val, .bool false]) (by simp [results, Tryz.results25, go_sem, a0, a1, a2, a3, a4, a5, a6, a7, a8, a9, a10, inZero]) rfl ?_
            exact ⟨rfl, made_set11 KZ.out.own.made hz _ _ _ _ _ _ _ _ _ _ _⟩
          | true =>
            have hX3 := HXL.out.1 rfl
            subst hX3
            obtain ⟨d0, d1, d2, d3, d4, d5, d6, d7, d8, d9, d10⟩ := in_cells hO.in_
            have hlP := heap_lt hO.in_
            clear hO
            go_wp2
            refine bodyPost_ret (v := .tuple #[X.val, .bool true]) (by simp [results, Tryz.results25, go_sem, a0, a1, a2, a3, a4, a5, a6, a7, a8, a9, a10]) rfl ?_
            exact ⟨rfl, made_set11 KZ.out.own.made hz _ _ _ _ _ _ _ _ _ _ _⟩
end
end Go.Proofs.YtanjmoiepmadhaaGreatDoor
