/- IsaApart of the laws of isa returns true, for every op, in every world that holds the table of names. -/
import Derived.Test.YtabcakdnnnajiaaDoorIsaLaws2
import Derived.Laws.StructEq
namespace Go.Proofs.YtabcakdnnnajiaaDoor
open Go.ChangeShapes Go.WideShapes Go.ChangeAt Go.RowKit Go.Sort BigFrame

def lowF (fs : List Fd) : Nat → Int
  | 0 => 24
  | k + 1 => lowF fs k - (fs.getD k fZero).bits
def kindsApart (fs : List Fd) (k : Nat) : Bool := (List.range k).all fun j => decide ((fs.getD j fZero).kind ≠ (fs.getD k fZero).kind)
def fieldOk (op : Nat) (k : Nat) : Bool :=
  decide (atZ op ((fieldsZ op).getD k fZero).kind = some ((fieldsZ op).getD k fZero, lowF (fieldsZ op) (k + 1))) && decide (1 ≤ ((fieldsZ op).getD k fZero).bits) && decide (0 ≤ lowF (fieldsZ op) (k + 1)) && decide (lowF (fieldsZ op) k ≤ 24) &&
    (!((fieldsZ op).getD k fZero).ext || (decide (8 ≤ ((fieldsZ op).getD k fZero).bits) && ((fieldsZ op).getD k fZero).sg && (decide (((fieldsZ op).getD k fZero).kind = 9) || decide (((fieldsZ op).getD k fZero).kind = 10)))) && kindsApart (fieldsZ op) k
theorem fields_ok : ((List.range 32).all fun op => (List.range (fieldsZ (op : Nat)).length).all fun k => fieldOk op k) = true := by decide +kernel
structure FieldAt (op : Int) (fs : List Fd) (k : Nat) (f : Fd) : Prop where
  at_ : atZ op f.kind = some (f, lowF fs (k + 1))
  low : lowF fs (k + 1) = lowF fs k - f.bits
  one : 1 ≤ f.bits
  zero : 0 ≤ lowF fs (k + 1)
  top : lowF fs k ≤ 24
  ext : f.ext = false ∨ (f.ext = true ∧ 8 ≤ f.bits ∧ f.sg = true ∧ f.kind = 9) ∨ (f.ext = true ∧ 8 ≤ f.bits ∧ f.sg = true ∧ f.kind = 10)
  apart : ∀ j, j < k → ∀ h : j < fs.length, fs[j].kind ≠ f.kind
theorem field_at {op : Int} (h0 : 0 ≤ op) (h31 : op ≤ 31) {k : Nat} (hk : k < (fieldsZ op).length) : FieldAt op (fieldsZ op) k (fieldsZ op)[k] := by
  obtain ⟨m, rfl⟩ := Int.eq_ofNat_of_zero_le h0
  have h := List.all_eq_true.1 (List.all_eq_true.1 fields_ok m (List.mem_range.2 (by omega))) k (List.mem_range.2 hk)
  have e : (fieldsZ (m : Int)).getD k fZero = (fieldsZ (m : Int))[k] := by rw [List.getD_eq_getElem?_getD, List.getElem?_eq_getElem hk]; rfl
  unfold fieldOk at h
  rw [e] at h
  simp only [Bool.and_eq_true, decide_eq_true_eq] at h
  obtain ⟨⟨⟨⟨⟨h1, h2⟩, h3⟩, h4⟩, h5⟩, h6⟩ := h
  refine ⟨h1, ?_, h2, h3, h4, ?_, fun j hj hl => ?_⟩
  · show lowF (fieldsZ (m : Int)) k - ((fieldsZ (m : Int)).getD k fZero).bits = _
    rw [e]
  · cases hx : (fieldsZ (m : Int))[k].ext with
    | false => exact .inl rfl
    | true =>
      rw [hx] at h5
      simp only [Bool.not_true, Bool.false_or, Bool.and_eq_true, Bool.or_eq_true, decide_eq_true_eq] at h5
      rcases h5.2 with h | h
      · exact .inr (.inl ⟨rfl, h5.1.1, h5.1.2, h⟩)
      · exact .inr (.inr ⟨rfl, h5.1.1, h5.1.2, h⟩)
  · have := List.all_eq_true.1 h6 j (List.mem_range.2 hj)
    rw [e, List.getD_eq_getElem?_getD, List.getElem?_eq_getElem hl] at this
    exact of_decide_eq_true this
theorem row_ok : ∀ op, op < 32 → 1 ≤ op → byZ (nameL (op : Nat)) = (((op : Nat) : Int), true) ∧ slotsZ (classZ (op : Nat)) ≠ 0 ∧ 0 ≤ classZ (op : Nat) ∧ classZ (op : Nat) < 256 := by decide +kernel
theorem isAt_some {W : World} {op kd L : Int} {f : Fd} {e : Ending} {w' : World} (h : IsAt W op kd e w') (hz : atZ op kd = some (f, L)) :
    e = .returned (.tuple #[.agg #[.int .u8 f.kind, .int .i64 f.bits, .int .i64 f.shift, .bool f.sg, .bool f.ext], .int .i64 L, .bool true]) ∧ Made W w' := by
  unfold IsAt atF atP atB at h
  rw [hz] at h
  exact h

theorem hop2 {W : World} {op kd : Int} {e : Ending} {w' : World} (ho : opN op = op) (h : IsAt W (opN op) kd e w') : IsAt W op kd e w' := ho ▸ h
namespace isaApart
/-- What stands in each round: the local row and the fields' cells. -/
def Rel (W : World) (b r : Nat) (fs : List Fd) (v : Value) (o : Int) (nm : ByteArray) (c s : Int) (wr : World) : Prop :=
  Made W wr ∧ wr.heap[r]? = some (.cells #[.int .u8 o, .string nm, .int .u8 c, .int .u8 s, v] 24 (0, 0)) ∧ b < wr.heap.size ∧ ∀ j, j < fs.length * 5 → wr.cell? ⟨b, j, none⟩ = (flatF fs)[j]?
theorem rel_made {W wr w' : World} {b r : Nat} {fs : List Fd} {v : Value} {o c s : Int} {nm : ByteArray} (h : Rel W b r fs v o nm c s wr) (hm : Made wr w') : Rel W b r fs v o nm c s w' := by
  obtain ⟨h1, h2, h3, h4⟩ := h
  exact ⟨Made.trans h1 hm, hm.heap h2, Nat.lt_of_lt_of_le h3 hm.size, fun j hj => (hm.cell (p := ⟨b, j, none⟩) h3).trans (h4 j hj)⟩
section
attribute [local irreducible] World.cell?
set_option maxRecDepth 100000 in
set_option maxHeartbeats 4000000 in
theorem walk_no (W : World) (hN : Names W) (a0 : Int) (ha0 : 0 ≤ a0) (hno : isOp a0 = false) (hr : a0 < 1 ∨ 31 < a0) : Calls Tryd.prog 5 #[.int .u8 a0] W fun e w' => e = .returned (.bool true) ∧ Made W w' := by
  have hb : (decide (a0 < 1) = true) ∨ (decide (a0 < 1) = false ∧ decide (31 < a0) = true) := by
    rcases hr with h | h
    · exact .inl (decide_eq_true h)
    · exact .inr ⟨decide_eq_false (by omega), decide_eq_true h⟩
  have hop : opN a0 = 0 := by unfold opN; rw [hno]; rfl
  have HO := Lib.hid hop
  have HNo := Lib.hid hno
  clear hr hop hno
  go_enter Tryd.func5, Tryd.ntmps5
  go_wp2_with (fail)
  refine (of_any W hN a0 ha0 _ (Made.refl _)).mono ?_
  intro e x1 h
  obtain ⟨p1, cap1, rfl, h1⟩ := isOf_none h ⟨#[]⟩ 0 0 0 false (by rw [HO.out]; rfl) HO.out (by rw [HO.out]; rfl) (by rw [HO.out]; rfl) rfl HNo.out
  have hz1 := h1.size
  have M1 := Lib.hid (h1.alloc hz1 (.cells #[.int .u8 0, .string { data := #[] }, .int .u8 0, .int .u8 0, .slice p1 0 cap1] 24))
  clear h h1
  rcases hb with hb | ⟨hb, hb2⟩
  all_goals
    go_wp2_with (fail)
    refine (awake_any W hN _ M1.out).mono ?_
    rintro e x8 ⟨rfl, h8⟩
    go_wp2
    go_ret
    exact ⟨rfl, h8⟩
set_option maxRecDepth 100000 in
set_option maxHeartbeats 4000000 in
theorem walk_yes (W : World) (hN : Names W) (a0 : Int) (hlo : 1 ≤ a0) (h31 : a0 ≤ 31) : Calls Tryd.prog 5 #[.int .u8 a0] W fun e w' => e = .returned (.bool true) ∧ Made W w' := by
  have ha0 : 0 ≤ a0 := by omega
  have hyes : isOp a0 = true := by unfold isOp; simp; omega
  have hop : opN a0 = a0 := by unfold opN; rw [hyes]; rfl
  have hrow := row_ok a0.toNat (by omega) (by omega)
  rewrite [show ((a0.toNat : Nat) : Int) = a0 by omega] at hrow
  have HRow := Lib.hid hrow
  have HO := Lib.hid hop
  have hf0 := fields_few a0
  have HFa := Lib.hid (fun k (hk : k < (fieldsZ a0).length) => field_at ha0 h31 hk)
  have HSm := Lib.hid (fields_small a0)
  clear hrow hop
  go_enter Tryd.func5, Tryd.ntmps5
  go_wp2_with (fail)
  refine (of_any W hN a0 ha0 _ (Made.refl _)).mono ?_
  intro e x1 h
  obtain ⟨p1, cap1, fs, o, nm, c, s, hfs, ho, hnm, hc, hs, rfl, h1, hrow1⟩ := isOf_any h
  rewrite [HO.out] at hfs ho hnm hc hs
  have ho2 := ho.symm
  subst ho2
  clear ho
  have HE := Lib.hid (And.intro hnm (And.intro hc hs))
  rewrite [← hfs] at hf0
  have HFb := Lib.hid (hfs ▸ HFa.out)
  have HSb := Lib.hid (hfs ▸ HSm.out)
  clear h hfs hnm hc hs HFa HSm
  have hz1 := h1.size
  have M1 := Lib.hid (h1.alloc hz1 (.cells #[.int .u8 a0, .string nm, .int .u8 c, .int .u8 s, .slice p1 fs.length cap1] 24))
  have HROW := Lib.hid (And.intro hrow1 h1)
  clear hrow1 h1
  go_upto_block 0 with (fail)
  go_cut [6] from 46 to 128 (fun _ wd => Made W wd ∧ wd.heap[x1.heap.size]? = some (.cells #[.int .u8 a0, .string nm, .int .u8 c, .int .u8 s, .slice p1 fs.length cap1] 24 (0, 0)))
  case first =>
    rcases HROW.out.1 with rfl | ⟨b, cur, rfl, hb, hcur, hsz, hnc, hcm, hcell⟩
    · go_wp2_with (fail)
      refine wp_loop_rounds 1 ?_
      rewrite [rounds_succ]
      go_wp2
      go_meet
      case rel => exact ⟨M1.out, heap_alloc_new x1 _⟩
    · unfold maxLen at hcm
      have hlt := heap_lt hcur
      have hR : Rel W b x1.heap.size fs (.slice (some ⟨b, 0, none⟩) fs.length cap1) a0 nm c s (x1.alloc (.cells #[.int .u8 a0, .string nm, .int .u8 c, .int .u8 s, .slice (some ⟨b, 0, none⟩) fs.length cap1] 24)) :=
        ⟨M1.out, heap_alloc_new x1 _, by simp only [World.size_alloc]; omega, fun j hj => ((Made.refl x1 |>.alloc (Nat.le_refl _) _).cell (p := ⟨b, j, none⟩) hlt).trans (hcell j hj)⟩
      have HR := Lib.hid hR
      clear hcur hcell hR
      go_wp2_with (fail)
      go_loopw [5, 6] (fun top i wr => ∃ k : Nat, k ≤ fs.length ∧ i = .int .i64 k ∧ top = .int .i64 (lowF fs k) ∧ Rel W b x1.heap.size fs (.slice (some ⟨b, 0, none⟩) fs.length cap1) a0 nm c s wr) (fun _ i _ => fs.length - (intOf i).toNat)
      case atStart => exact ⟨0, Nat.zero_le _, rfl, rfl, HR.out⟩
      case round =>
        obtain ⟨k, hk, rfl, rfl, hrel⟩ := hrel
        have HK := Lib.hid hrel
        obtain ⟨hm, k1, hbl, hce⟩ := hrel
        obtain ⟨d0, d1, d2, d3, d4⟩ := row_cells k1
        by_cases hlt3 : k < fs.length
        · have fl := flat_at fs k hlt3
          have y0 : wr.cell? ⟨b, k * 5, none⟩ = _ := (hce (k * 5) (by omega)).trans fl.1
          have y1 := (hce (k * 5 + 1) (by omega)).trans fl.2.1
          have y2 := (hce (k * 5 + 2) (by omega)).trans fl.2.2.1
          have y3 := (hce (k * 5 + 3) (by omega)).trans fl.2.2.2.1
          have y4 := (hce (k * 5 + 4) (by omega)).trans fl.2.2.2.2
          have hF := HFb.out k hlt3
          have hzr := hm.size
          obtain ⟨q1, q2, q3, q4, q5, q6⟩ := HSb.out fs[k] (List.getElem_mem _)
          clear k1 hce fl hm
          generalize fs[k] = f at *
          obtain ⟨fa, fb, fc, fd, fe, ff, fg⟩ := hF
          have FA := Lib.hid fa
          have FB := Lib.hid fb
          have FG := Lib.hid fg
          have hlo2 : lowF fs (k + 1) + f.bits = lowF fs k := by omega
          have hl24 : lowF fs (k + 1) ≤ 24 := by omega
          clear fa fb fg
          generalize hloe : lowF fs (k + 1) = lo at *
          have HLo := Lib.hid hloe
          clear hloe
          generalize lowF fs k = top at *
          go_wp2_with (fail)
          refine (at_any _ (hN.made (Made.trans HK.out.1 ((Made.refl wr).alloc (Nat.le_refl _) _))) a0 f.kind ha0 _ (Made.refl _)).mono ?_
          intro e w2 h
          obtain ⟨rfl, h2⟩ := isAt_some (hop2 HO.out h) FA.out
          clear h
          have hmw : Made wr w2 := Made.trans ((Made.refl wr).alloc (Nat.le_refl _) _) h2
          have K2 := Lib.hid (rel_made HK.out hmw)
          have r7 := h2.heap (heap_alloc_new wr _)
          obtain ⟨t0, t1, t2, t3, t4⟩ := row_cells r7
          have hl7 := heap_lt r7
          obtain ⟨b0, b1, b2, b3, b4⟩ := row_cells K2.out.2.1
          have hbl2 := K2.out.2.2.1
          have hlr := heap_lt K2.out.2.1
          have n1 : decide (f.bits < 1) = false := decide_eq_false (by omega)
          have n2 : decide (lo < 0) = false := decide_eq_false (by omega)
          clear r7 h2 hmw
          have hcases : (f.ext = false) ∨ (f.ext = true ∧ decide (f.bits < 8) = false ∧ f.sg = true ∧ (f.kind != 9) = false) ∨ (f.ext = true ∧ decide (f.bits < 8) = false ∧ f.sg = true ∧ (f.kind != 9) = true ∧ (f.kind != 10) = false) := by
            rcases ff with h | ⟨h1, h2, h3, h4⟩ | ⟨h1, h2, h3, h4⟩
            · exact .inl h
            · exact .inr (.inl ⟨h1, decide_eq_false (by omega), h3, by rw [bne_eq_false_iff_eq]; exact h4⟩)
            · exact .inr (.inr ⟨h1, decide_eq_false (by omega), h3, by rw [bne_iff_ne]; omega, by rw [bne_eq_false_iff_eq]; exact h4⟩)
          clear ff
          rcases hcases with g1 | ⟨g1, g2, g3, g4⟩ | ⟨g1, g2, g3, g4, g5⟩
          all_goals
            go_upto_block 2 with (fail)
            go_wp2_with (fail)
            go_loopw [11] (fun i wq => ∃ (j nd : Nat) (sg ex : Bool), j ≤ k ∧ i = .int .i64 j ∧ wq = (w2.alloc (.cells #[.int .u8 f.kind, .int .i64 f.bits, .int .i64 f.shift, .bool sg, .bool ex] 30)).drewN nd) (fun i _ => k - (intOf i).toNat)
            case atStart => exact ⟨0, 0, _, _, Nat.zero_le _, rfl, rfl⟩
            case round =>
              obtain ⟨j, nd, sg, ex, hj, rfl, rfl⟩ := hrel
              by_cases hjk : j < k
              · have z0 : w2.cell? ⟨b, j * 5, none⟩ = _ := (K2.out.2.2.2 (j * 5) (by omega)).trans (flat_at fs j (by omega)).1
                have hne : (fs[j].kind == f.kind) = false := beq_eq_false_iff_ne.2 (FG.out j hjk (by omega))
                have hji : (j : Int) < fs.length := by omega
                generalize fs[j] = fj at *
                go_wp2_with (fail)
                go_quiet (fail)
                go_wp2
                exact ⟨⟨j + 1, _, _, _, by omega, by go_num, rfl⟩, by simp [intOf]; omega⟩
              · have hjk2 : decide ((j : Int) < (k : Int)) = false := by simp; omega
                have HJ := Lib.hid hjk2
                have hjke : j = k := by omega
                subst hjke
                clear hjk2
                go_wp2
                go_roundw
                case rel => exact ⟨j + 1, by omega, by go_num, by rw [HLo.out], rel_made K2.out (below_drewN ((Made.refl w2).alloc (Nat.le_refl _) _) _)⟩
                case measure => simp [intOf]; omega
        · have hM := Lib.hid (And.intro hm k1)
          clear hm k1 hce
          go_wp2
          go_meet
          case rel => exact hM.out
  case rest =>
    obtain ⟨hm, hr⟩ := hcut
    obtain ⟨b0, b1, b2, b3, b4⟩ := row_cells hr
    have hby : byZ nm.toList = (a0, true) := by rw [HE.out.1, nameZ_list]; exact HRow.out.1
    have hsl : Still Tryd.prog 14 #[.int .u8 c] (.int .u8 s) := by
      rw [HE.out.2.1, HE.out.2.2]
      exact slots_any _ HRow.out.2.2.1 HRow.out.2.2.2
    have hs0 : (s != 0) = true := by
      rw [HE.out.2.2, bne_iff_ne]
      exact HRow.out.2.1
    have HSl := Lib.hid hsl
    have HBy := Lib.hid hby
    have HM := Lib.hid hm
    have g0 := fun d os => cell_regrown b0 d os
    have g1 := fun d os => cell_regrown b1 d os
    have g2 := fun d os => cell_regrown b2 d os
    have g3 := fun d os => cell_regrown b3 d os
    have g4 := fun d os => cell_regrown b4 d os
    have HAw := Lib.hid (awake_any wc (hN.made hm))
    clear hsl hby hm hr
    go_wp2_with (fail)
    refine (by_lit HBy.out _ (hN.made HM.out)).mono ?_
    rintro e w4 ⟨rfl, rfl⟩
    go_wp2_with (fail)
    go_outline
    refine wp_region_quiet_below (by kernel_rfl) (by kernel_rfl) ?_
    repeat (go_big_quiet_step ((first | (go_at_call 14; exact (HSl.out.makes wc).again _ _) | (go_at_call 10; exact HAw.out.again _ _))))
    refine wpQuiet_nil ?_
    intro w5 hw5
    have h5 := made_regrown hw5
    go_wp2
    go_ret
    exact ⟨rfl, Made.trans HM.out h5⟩
end
theorem walk (W : World) (hN : Names W) (a0 : Int) (w0 : (Lit.int .u8 a0).wf = true) : Calls Tryd.prog 5 #[.int .u8 a0] W fun e w' => e = .returned (.bool true) ∧ Made W w' := by
  obtain ⟨ha0, hb0⟩ := u8_of_wf w0
  by_cases h : 1 ≤ a0 ∧ a0 ≤ 31
  · exact walk_yes W hN a0 h.1 h.2
  · exact walk_no W hN a0 ha0 (by unfold isOp; simp; omega) (by omega)
end isaApart
end Go.Proofs.YtabcakdnnnajiaaDoor
