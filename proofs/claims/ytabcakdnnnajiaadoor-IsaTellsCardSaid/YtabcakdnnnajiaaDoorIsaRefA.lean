/- What By, At of the document's answer for isa return, for every argument. -/
import Derived.Test.YtabcakdnnnajiaaDoorIsaRefO
import Derived.Test.YtabcakdnnnajiaaDoorIsaBy
namespace Go.Proofs.YtabcakdnnnajiaaDoor
open Go.ChangeShapes Go.WideShapes Go.ChangeAt Go.RowKit Go.Sort BigFrame

set_option maxHeartbeats 400000 in
theorem refBy_any (s : ByteArray) : Quiet Tryd.prog 13 #[.string s] (.tuple #[.int .u8 (byZ s.toList).1, .bool (byZ s.toList).2]) := by
  intro w
  go_enter Tryd.func13, Tryd.ntmps13
  go_wp2
  go_loopw [4] (fun i wr => ∃ k nd : Nat, 1 ≤ k ∧ k ≤ 32 ∧ i = .int .i64 k ∧ byFrom s.toList (32 - k) k = byZ s.toList ∧ wr = w.drewN nd) (fun i _ => 32 - (intOf i).toNat)
  case atStart => exact ⟨1, 0, by omega, by omega, rfl, rfl, rfl⟩
  case round =>
    obtain ⟨k, nd, hk1, hk2, rfl, hby, rfl⟩ := hrel
    by_cases hlt : k < 32
    · have hst := byFrom_step s.toList (31 - k) k
      rewrite [show 31 - k + 1 = 32 - k by omega, hby] at hst
      have hline := refLine_any k (by omega)
      rewrite [if_pos ⟨hk1, by omega⟩] at hline
      have HL := Lib.hid hline
      clear hby hline
      by_cases he : nameL k = s.toList
      · rewrite [if_pos he] at hst
        have hd1 : ((nameZ (k : Int)).toList == s.toList) = true := by rw [nameZ_list]; exact beq_iff_eq.2 he
        have HS := Lib.hid hst
        clear hst he
        go_wp2_with (fail)
        refine (HL.out _).mono ?_
        rintro e w1 ⟨rfl, nd2, rfl⟩
        go_wp2
        go_ret2
        exact ⟨by rw [HS.out]; rfl, _, rfl⟩
      · rewrite [if_neg he] at hst
        have hd1 : ((nameZ (k : Int)).toList == s.toList) = false := by rw [nameZ_list]; exact beq_eq_false_iff_ne.2 he
        have HS := Lib.hid hst
        clear hst he
        go_wp2_with (fail)
        refine (HL.out _).mono ?_
        rintro e w1 ⟨rfl, nd2, rfl⟩
        go_wp2
        go_roundw
        case rel => exact ⟨k + 1, _, by omega, by omega, by go_num, by rw [show 32 - (k + 1) = 31 - k by omega]; exact HS.out.symm, rfl⟩
        case measure => simp [intOf]; omega
    · obtain rfl : k = 32 := by omega
      have HF := Lib.hid hby
      clear hby
      go_wp2
      go_ret2
      exact ⟨by rw [← HF.out]; rfl, _, rfl⟩

def lowAt (fs : List Fd) : Nat → Int
  | 0 => 24
  | k + 1 => lowAt fs k - (fs.getD k fZero).bits
theorem low_range {fs : List Fd} (h : ∀ f ∈ fs, f.small) : ∀ k, k ≤ fs.length → lowAt fs k ≤ 24 ∧ 24 - 24 * (k : Int) ≤ lowAt fs k
  | 0, _ => by simp [lowAt]
  | k + 1, hk => by
    have := low_range h k (by omega)
    have hs := h fs[k] (List.getElem_mem _)
    have e : lowAt fs (k + 1) = lowAt fs k - fs[k].bits := by
      show lowAt fs k - (fs.getD k fZero).bits = _
      rw [List.getD_eq_getElem?_getD, List.getElem?_eq_getElem (by omega)]; rfl
    obtain ⟨_, _, h1, h2, _⟩ := hs
    omega
theorem low_succ {fs : List Fd} (k : Nat) (h : k < fs.length) : lowAt fs (k + 1) = lowAt fs k - fs[k].bits := by
  show lowAt fs k - (fs.getD k fZero).bits = _
  rw [List.getD_eq_getElem?_getD, List.getElem?_eq_getElem h]; rfl
theorem at_none {W w : World} {op k : Int} {n0 : Nat} (h : atZ op k = none) (hM : Made W w) (hz : W.heap.size ≤ n0) (v0 v1 v2 v3 v4 : Value) (o : Obj) :
    IsAt W op k (.returned (.tuple #[.agg #[.int .u8 0, .int .i64 0, .int .i64 0, .bool false, .bool false], .int .i64 0, .bool false]))
      ((((((w.setCell ⟨n0, 0, none⟩ v0).setCell ⟨n0, 1, none⟩ v1).setCell ⟨n0, 2, none⟩ v2).setCell ⟨n0, 3, none⟩ v3).setCell ⟨n0, 4, none⟩ v4).alloc o) := by
  unfold IsAt atF atP atB
  rw [h]
  have k := (((((hM.setCell (p := ⟨n0, 0, none⟩) hz v0).setCell (p := ⟨n0, 1, none⟩) hz v1).setCell (p := ⟨n0, 2, none⟩) hz v2).setCell (p := ⟨n0, 3, none⟩) hz v3).setCell (p := ⟨n0, 4, none⟩) hz v4)
  exact ⟨rfl, k.alloc k.size o⟩
section
attribute [local irreducible] World.cell?
set_option maxHeartbeats 2000000 in
theorem refAt_any (op kd : Int) (h0 : 0 ≤ op) (h256 : op < 256) (W w : World) (hm : Made W w) : Calls Tryd.prog 12 #[.int .u8 op, .int .u8 kd] w (IsAt W (opN op) kd) := by
  have hz := hm.size
  go_enter Tryd.func12, Tryd.ntmps12
  go_wp2_with (fail)
  refine (refOf_any op h0 h256 _ _ (Made.refl _)).mono ?_
  rintro e w1 ⟨p, n, cap, rfl, h1, ho⟩
  have hr1 := h1.heap (heap_alloc_new w _)
  have hlt : w.heap.size < w1.heap.size := heap_lt hr1
  have HM := Lib.hid (Made.trans (hm.alloc hz _) h1)
  have hfew := fields_few (opN op)
  have hsm := fields_small (opN op)
  rewrite [World.size_alloc] at ho
  generalize hfs : fieldsZ (opN op) = fs at *
  have HFS := Lib.hid hfs
  have c0 : w1.cell? ⟨w.heap.size, 0, none⟩ = some (.int .u8 0) := cell_of_lit (cs := fZero.cells) hr1 0
  have c1 : w1.cell? ⟨w.heap.size, 1, none⟩ = some (.int .i64 0) := cell_of_lit (cs := fZero.cells) hr1 1
  have c2 : w1.cell? ⟨w.heap.size, 2, none⟩ = some (.int .i64 0) := cell_of_lit (cs := fZero.cells) hr1 2
  have c3 : w1.cell? ⟨w.heap.size, 3, none⟩ = some (.bool false) := cell_of_lit (cs := fZero.cells) hr1 3
  have c4 : w1.cell? ⟨w.heap.size, 4, none⟩ = some (.bool false) := cell_of_lit (cs := fZero.cells) hr1 4
  have fz := free_of_lit hr1
  have hz1 : W.heap.size ≤ w1.heap.size := by omega
  clear hfs hr1 h1
  rcases owns_cells ho with ⟨rfl, rfl, rfl, rfl⟩ | ⟨b, rfl, rfl, hb, hbl, hnc, hcm, hcell⟩
  · have hfin : atZ (opN op) kd = none := by simp [atZ, HFS.out, atIn]
    have HF := Lib.hid hfin
    clear hfin ho
    go_wp2_with (fail)
    refine wp_loop_rounds 1 ?_
    rewrite [rounds_succ]
    go_wp2
    refine bodyPost_ret (v := .tuple #[.agg #[.int .u8 0, .int .i64 0, .int .i64 0, .bool false, .bool false], .int .i64 0, .bool false]) (by simp [results, Tryd.results12, go_sem, c0, c1, c2, c3, c4, hlt]) rfl ?_
    exact at_none HF.out HM.out hz _ _ _ _ _ _
  · have HC := Lib.hid hcell
    have HA := Lib.hid (show atZ (opN op) kd = atIn fs 24 kd by unfold atZ; rw [HFS.out])
    have HS := Lib.hid hsm
    have HB := Lib.hid (bcell ((Made.refl w1).alloc (Nat.le_refl _) (.cells #[.int .u8 (opN op), .string (nameZ (opN op)), .int .u8 (classZ (opN op)), .int .u8 (slotsZ (classZ (opN op))), .slice (some ⟨b, 0, none⟩) fs.length cap] 36)))
    unfold maxLen at hcm
    clear hcell ho hsm
    go_wp2_with (fail)
    go_loop [9] (fun i => ∃ k : Nat, k ≤ fs.length ∧ i = .int .i64 k ∧ atIn (fs.drop k) (lowAt fs k) kd = atIn fs 24 kd) (fun i => fs.length - (intOf i).toNat)
    case atStart => exact ⟨0, Nat.zero_le _, rfl, rfl⟩
    case round =>
      obtain ⟨k, hk, rfl, hat⟩ := hrel
      by_cases hlt2 : k < fs.length
      · have hd := atIn_drop fs k hlt2 (lowAt fs k) kd
        rewrite [← low_succ k hlt2] at hd
        have hfl := flat_at fs k hlt2
        have k0 : w1.cell? ⟨b, k * 5, none⟩ = _ := (HC.out (k * 5) (by omega)).trans hfl.1
        have k1 := (HC.out (k * 5 + 1) (by omega)).trans hfl.2.1
        have k2 := (HC.out (k * 5 + 2) (by omega)).trans hfl.2.2.1
        have k3 := (HC.out (k * 5 + 3) (by omega)).trans hfl.2.2.2.1
        have k4 := (HC.out (k * 5 + 4) (by omega)).trans hfl.2.2.2.2
        rewrite [hat] at hd
        clear hfl hat
        generalize fs[k] = f at *
        by_cases hkd : f.kind = kd
        · have hkb : (f.kind != kd) = false := by rw [bne_eq_false_iff_eq]; exact hkd
          rewrite [if_pos hkd] at hd
          have HD := Lib.hid hd
          clear hd hkd
          go_wp2_with (fail)
          have HLO := Lib.hid (low_range HS.out)
          go_loop [10, 11] (fun a i => ∃ m : Nat, m ≤ k + 1 ∧ i = .int .i64 m ∧ a = .int .i64 (lowAt fs m)) (fun _ i => k + 1 - (intOf i).toNat)
          case atStart => exact ⟨0, Nat.zero_le _, rfl, rfl⟩
          case round =>
            obtain ⟨m, hmk, rfl, rfl⟩ := hrel
            obtain ⟨lr1, lr2⟩ := HLO.out m (by omega)
            by_cases hm2 : m ≤ k
            · have hml : m < fs.length := by omega
              have q1 := (HC.out (m * 5 + 1) (by omega)).trans (flat_at fs m hml).2.1
              have E := Lib.hid (low_succ m hml)
              obtain ⟨_, _, s1, s2, _⟩ := HS.out fs[m] (List.getElem_mem _)
              generalize fs[m] = fm at *
              generalize lowAt fs m = lm at *
              have hmki : decide ((m : Int) ≤ (k : Int)) = true := by simp; omega
              go_wp2
              go_round
              case rel => exact ⟨m + 1, by omega, by go_num, by rw [E.out]⟩
              case measure => simp [intOf]; omega
            · have E := Lib.hid (show lowAt fs m = lowAt fs (k + 1) by rw [show m = k + 1 by omega])
              have hmki : decide ((m : Int) ≤ (k : Int)) = false := by simp; omega
              have hkm : k < m := by omega
              generalize lowAt fs m = lm at *
              go_wp2
              refine bodyPost_ret (v := .tuple #[.agg #[.int .u8 f.kind, .int .i64 f.bits, .int .i64 f.shift, .bool f.sg, .bool f.ext], .int .i64 lm, .bool true]) (by simp [results, Tryd.results12, go_sem, c0, c1, c2, c3, c4, hlt]) rfl ?_
              exact at_close (by rw [HA.out, HD.out, E.out]) HM.out hz _ _ _ _ _ _
        · have hkb : (f.kind != kd) = true := by rw [bne_iff_ne]; exact hkd
          rewrite [if_neg hkd] at hd
          have HD := Lib.hid hd
          clear hd hkd
          go_wp2
          go_round
          case rel => exact ⟨k + 1, by omega, by go_num, HD.out.symm⟩
          case measure => simp [intOf]; omega
      · obtain rfl : k = fs.length := by omega
        rewrite [List.drop_length] at hat
        have HF := Lib.hid (HA.out.trans hat.symm)
        clear hat
        go_wp2
        refine bodyPost_ret (v := .tuple #[.agg #[.int .u8 0, .int .i64 0, .int .i64 0, .bool false, .bool false], .int .i64 0, .bool false]) (by simp [results, Tryd.results12, go_sem, c0, c1, c2, c3, c4, hlt]) rfl ?_
        exact at_none HF.out HM.out hz _ _ _ _ _ _
end
end Go.Proofs.YtabcakdnnnajiaaDoor
