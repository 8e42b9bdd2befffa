/- ParseRight of the laws of parse returns true, for every text; conditions: the table of names and strconv's errors stand where their variables lie. -/
import Derived.Test.YtnfmlmamgkpocaaGreatDoorParLaws3
import Derived.Test.YtnfmlmamgkpocaaGreatDoorParJoin2
import Derived.Test.YtnfmlmamgkpocaaGreatDoorGFns
import Derived.Test.YtnfmlmamgkpocaaGreatDoorExprXR
import Derived.Deep.MidRow
namespace Go.Proofs.YtnfmlmamgkpocaaGreatDoor
open Go.ChangeShapes Go.WideShapes Go.ChangeAt Go.RowKit Go.Sort BigFrame

theorem inst_zero {L : List Tk} {x : Ln} {k : Nat} {e : Int} (h : instP L = (x, k, e)) (he : e ≠ 0) : x = lnZero := by
  unfold instP at h
  split at h
  · cases h; rfl
  · cases h; exact absurd rfl he
theorem join_take (T : List Tk) (n : Nat) : (joinB (T.take n)).length ≤ (joinB T).length := by
  have h : joinB T = joinB (T.take n) ++ joinB (T.drop n) := by
    unfold joinB
    rw [← List.flatMap_append, List.take_append_drop]
  rw [h, List.length_append]
  omega
theorem join_off : ∀ T : List Tk, (joinB (offE16 T)).length ≤ (joinB T).length
  | [] => Nat.le_refl _
  | t :: r => by
    have ih := join_off r
    have h1 : joinB (t :: r) = (t.text ++ [32]) ++ joinB r := by unfold joinB; rw [List.flatMap_cons]
    rw [h1, List.length_append]
    unfold offE16
    by_cases h : t.kind = 4
    · rw [List.filter_cons_of_neg (by simpa using h)]
      exact Nat.le_trans ih (by omega)
    · rw [List.filter_cons_of_pos (by simpa using h)]
      have h2 : joinB (t :: List.filter (fun t => decide (t.kind ≠ 4)) r) = (t.text ++ [32]) ++ joinB (offE16 r) := by unfold joinB offE16; rw [List.flatMap_cons]
      rw [h2, List.length_append]
      omega
theorem join_placed {s : List UInt8} : ∀ {p : Nat} {T : List Tk}, PlacedT s p T → p ≤ s.length → (joinB T).length + p ≤ s.length + T.length
  | p, [], _, hp => by show 0 + p ≤ s.length + 0; omega
  | p, t :: r, h, _ => by
    obtain ⟨q, h0, -, h1, -, -, -, h2⟩ := h
    have ih := join_placed h2 (by omega)
    have hj : joinB (t :: r) = (t.text ++ [32]) ++ joinB r := by unfold joinB; rw [List.flatMap_cons]
    rw [hj]
    simp only [List.length_append, List.length_cons, List.length_nil]
    omega
theorem join_short (s : List UInt8) (n : Nat) : (joinB ((cutE s).take n)).length ≤ 2 * s.length + 1 := by
  have h1 := join_take (cutE s) n
  have h2 := join_off (lexT s)
  have h3 := join_placed (lex_placed s).1 (Nat.zero_le _)
  have h4 := lexT_few s
  have h5 : (joinB (cutE s)).length ≤ (joinB (lexT s)).length := h2
  omega
/-- A line in a block, and its lists. -/
structure LnAt (r : Nat) (x : Ln) (vo co : Option Addr) (vc cc : Nat) (w : World) : Prop where
  blk : w.heap[r]? = some (.cells (lnCells x (.slice vo x.value.length vc) (.slice co x.count.length cc)).toArray TLN (0, 0))
  val : Tms w vo vc x.value
  cnt : Tms w co cc x.count
theorem LnAt.next {r : Nat} {x : Ln} {vo co : Option Addr} {vc cc : Nat} {w w1 : World} (h : LnAt r x vo co vc cc w) (hm : Made w w1) : LnAt r x vo co vc cc w1 := ⟨hm.heap h.blk, h.val.made tm_len hm, h.cnt.made tm_len hm⟩
theorem ln_cells {r : Nat} {x : Ln} {vo co : Option Addr} {vc cc : Nat} {w : World} (h : LnAt r x vo co vc cc w) : w.cell? ⟨r, 0, none⟩ = some (.int .u8 x.op) ∧ w.cell? ⟨r, 8, none⟩ = some (.bool false) ∧ w.cell? ⟨r, 9, none⟩ = some (.int .u16 0) ∧ w.cell? ⟨r, 10, none⟩ = some (.int .i64 0) ∧ w.cell? ⟨r, 11, none⟩ = some (.slice vo x.value.length vc) ∧ w.cell? ⟨r, 12, none⟩ = some (.slice co x.count.length cc) ∧ w.cell? ⟨r, 14, none⟩ = some (.int .i64 x.line) ∧ w.cell? ⟨r, 15, none⟩ = some (.int .i64 x.col) :=
  ⟨cell_of_lit h.blk 0, cell_of_lit h.blk 8, cell_of_lit h.blk 9, cell_of_lit h.blk 10, cell_of_lit h.blk 11, cell_of_lit h.blk 12, cell_of_lit h.blk 14, cell_of_lit h.blk 15⟩
theorem ln_range {r : Nat} {x : Ln} {vo co : Option Addr} {vc cc : Nat} {w : World} (h : LnAt r x vo co vc cc w) : w.rangeAt r 0 x.ins.cells := by
  intro j v hv
  rw [Nat.zero_add]
  have hj : j < 11 := by
    have := (List.getElem?_eq_some_iff.1 hv).1
    exact this
  have h2 := cell_of_lit h.blk j
  rw [h2, ← hv]
  have e : lnCells x (.slice vo x.value.length vc) (.slice co x.count.length cc) = x.ins.cells ++ [.slice vo x.value.length vc, .slice co x.count.length cc, .bool x.forced, .int .i64 x.line, .int .i64 x.col] := rfl
  rw [e, List.getElem?_append_left (by exact hj)]
/-- A struct out of the middle of a block, in a region that draws its order and only reads. -/
theorem quiet_load_mid {P : Program} {o : Oper} {a : Act} {C : World → Prop} {K : Act → Prop} (ty : TypeId) (x : Operand) (ho : o.op = .load ty x) (b off : Nat) (hx : a.eval x = .pointer (some ⟨b, off, none⟩)) (cs : List Value) (d : TypeDesc)
    (hC : ∀ w, C w → w.rangeAt b off cs) (hu : P.underlying ty = some d) (hd : d.isRow = true) (hi : (P.info? ty).map (·.size) = some cs.length) (hk : K (a.put o.dst (.agg cs.toArray))) : o.quiet P a C K :=
  ⟨_, fun w hw => by
    have hr : (execOp a.eval o).run P w = .ok (.value (.agg cs.toArray)) w := by
      unfold execOp
      simp only [ho, hx, Instr.loadAt, Instr.sureAddr, Sem.run_bind, Sem.run_pure, Result.andThen_ok, run_loadVar_mid w b off ty cs d (hC w hw) hu hd hi]
    unfold Oper.quietAt
    rw [hr]
    exact ⟨rfl, rfl⟩, hk⟩
/-- What isa's At tells here: whether an op has a field. -/
def FlagSays (b : Bool) (w : World) (e : Ending) (w' : World) : Prop := (∃ f0 f1 f2 f3 f4 p, e = .returned (.tuple #[.agg #[.int .u8 f0, .int .i64 f1, .int .i64 f2, .bool f3, .bool f4], .int .i64 p, .bool b])) ∧ Made w w'
theorem at_flag {W : World} (hN : Names W) {op : Int} (h0 : 0 ≤ op) (kd : Int) (w : World) (hm : Made W w) : Calls Tryz.prog 23 #[.int .u8 op, .int .u8 kd] w (FlagSays (atB (opN op) kd) w) :=
  (at_any w (names_next hN hm) op kd h0 w (Made.refl w)).mono fun _ _ ⟨he, h⟩ => ⟨⟨_, _, _, _, _, _, he⟩, h⟩
theorem right_mk {W : World} (hN : Names W) {L : List Tk} {x : Ln} (hx : Fine L x) : Makes Tryz.prog W 24 #[x.ins.val] (.bool true) := by
  have h := right_any W hN x.ins hx.small
  rw [fine_right hx] at h
  exact h
theorem right_tk {e : List Tm} {b : Bool} (h : rightXB e = b) (hl : e.length ≤ 10000) (W : World) (so : Option Addr) (c : Nat) (hT : Tms W so c e) : Makes Tryz.prog W 25 #[.slice so e.length c] (.bool b) := by
  have h2 := xright_any W so c e hT hl
  rw [h] at h2
  exact h2
theorem right_ln {W : World} (hN : Names W) {L : List Tk} {x : Ln} (hx : Fine L x) (w : World) (hm : Made W w) : Calls Tryz.prog 24 #[x.ins.val] w fun e w' => e = .returned (.bool true) ∧ Made w w' := by
  have h := right_any w (names_next hN hm) x.ins hx.small w (Made.refl w)
  rw [fine_right hx] at h
  exact h
theorem right_tm {e : List Tm} {b : Bool} (h : rightXB e = b) (hl : e.length ≤ 10000) (w : World) (so : Option Addr) (c n : Nat) (hn : e.length = n) (hT : Tms w so c e) : Calls Tryz.prog 25 #[.slice so n c] w fun e w' => e = .returned (.bool b) ∧ Made w w' := by
  subst hn
  have h2 := xright_any w so c e hT hl w (Made.refl w)
  rw [h] at h2
  exact h2
/-- What stands while the law goes on. -/
structure RtAt (W : World) (so : Option Addr) (c : Nat) (L : List Tk) (r : Nat) (x : Ln) (vo co : Option Addr) (vc cc : Nat) (w : World) : Prop where
  toks : Toks w so c L
  made : Made W w
  ln : LnAt r x vo co vc cc w
theorem RtAt.next {W : World} {so : Option Addr} {c : Nat} {L : List Tk} {r : Nat} {x : Ln} {vo co : Option Addr} {vc cc : Nat} {w w1 : World} (h : RtAt W so c L r x vo co vc cc w) (hm : Made w w1) : RtAt W so c L r x vo co vc cc w1 := ⟨toks_made h.toks hm, Made.trans h.made hm, h.ln.next hm⟩
namespace parseRight
section
attribute [local irreducible] World.cell?
set_option maxRecDepth 100000 in
set_option maxHeartbeats 64000000 in
theorem walk (W : World) (hN : Names W) (hE : Errs W) (a0 : ByteArray) (w0 : a0.size ≤ maxLen) : Calls Tryz.prog 5 #[.string a0] W fun e w' => e = .returned (.bool true) ∧ Made W w' := by
  have HA := Lib.hid (fun (u : World) (hu : Made W u) => awake16_any W hN hE u hu)
  unfold maxLen at w0
  obtain ⟨S, l, hS, hl, hways⟩ := cut_text16 a0 600
  have HC1 := Lib.hid (fun u => cut16_any S l hS (by omega) u)
  have hf1 := cutE_few l
  have ht1 := cutE_tok (l := l) (by omega)
  obtain ⟨L, hL⟩ : ∃ L, cutE l = L := ⟨_, rfl⟩
  rewrite [hL] at hf1 ht1
  have HT1 := Lib.hid ht1
  have HLE := Lib.hid hL
  obtain ⟨x, k, er, hI⟩ : ∃ x k e, instP L = (x, k, e) := ⟨_, _, _, rfl⟩
  obtain ⟨hk, her⟩ := inst_range hI
  obtain ⟨n, hn⟩ : ∃ n, L.length = n := ⟨_, rfl⟩
  have HI := Lib.hid (inst_tells hN hE (by omega) HT1.out hI)
  have HIn := Lib.hid hI
  have HNE := Lib.hid (And.intro hN hE)
  have HLn := Lib.hid hn
  have HLL := Lib.hid hl
  have hn4 : n ≤ 601 := by omega
  rewrite [hn] at hk
  have hsl : S.size ≤ 600 := by rw [str_size hS]; exact hl
  have hcut : ((a0.size : Int) ≤ 600 ∧ S = a0) ∨ ((600 : Int) < (a0.size : Int) ∧ S = a0.extract 0 600) := by
    rcases hways with ⟨h1, h2⟩ | ⟨h1, h2⟩
    · exact .inl ⟨h2, h1⟩
    · exact .inr ⟨h2, h1⟩
  clear hways hS hN hE hI hn hf1 ht1 hL
  go_enter Tryz.func5, Tryz.ntmps5
  go_upto_if 24 with (fail)
  go_cut [0] from 25 to 26 (fun v wc => v = .string S ∧ W = wc)
  case first =>
    rcases hcut with ⟨hs, rfl⟩ | ⟨hs, rfl⟩
    · go_wp2
      go_meet
      case rel => exact ⟨rfl, rfl⟩
    · go_wp2
      go_meet
      case rel => exact ⟨rfl, rfl⟩
  case rest =>
    obtain ⟨rfl, rfl⟩ := hcut
    clear hcut
    go_wp2_with (fail)
    refine (HC1.out _).mono ?_
    rintro e w1 ⟨so, c, rfl, hT1, m1⟩
    rewrite [HLE.out] at hT1 ⊢
    rewrite [HLn.out]
    have KT := Lib.hid hT1
    have M1 := Lib.hid m1
    clear hT1 m1
    go_wp2_with (fail)
    refine (HI.out _ M1.out so c n HLn.out KT.out).mono ?_
    rintro e w2 ⟨⟨vo, vc, co, cc, rfl, hv, hc⟩, m2⟩
    have m3 : Made w2 (w2.alloc (.cells (lnCells x (.slice vo x.value.length vc) (.slice co x.count.length cc)).toArray TLN)) := (Made.refl w2).alloc (Nat.le_refl _) _
    have K2 := Lib.hid (show Toks (w2.alloc (.cells (lnCells x (.slice vo x.value.length vc) (.slice co x.count.length cc)).toArray TLN)) so c L ∧ Made W (w2.alloc (.cells (lnCells x (.slice vo x.value.length vc) (.slice co x.count.length cc)).toArray TLN)) ∧ LnAt w2.heap.size x vo co vc cc (w2.alloc (.cells (lnCells x (.slice vo x.value.length vc) (.slice co x.count.length cc)).toArray TLN)) from
      ⟨toks_made KT.out (Made.trans m2 m3), Made.trans M1.out (Made.trans m2 m3), heap_alloc_new w2 _, hv.made tm_len m3, hc.made tm_len m3⟩)
    clear m2 m3 hv hc
    obtain ⟨r, hr⟩ : ∃ r, w2.heap.size = r := ⟨_, rfl⟩
    go_upto_region 5 with (fail)
    refine world_named (fun y => Toks y so c L ∧ Made W y ∧ LnAt w2.heap.size x vo co vc cc y) K2.out ?_
    rintro y ⟨hy1, hy2, hy3⟩
    rewrite [hr] at hy3
    have KY := Lib.hid hy1
    have MY := Lib.hid hy2
    have LY := Lib.hid hy3
    clear hy1 hy2 hy3 K2 KT M1 HI HC1 hr
    have hk0 : (0 : Int) ≤ (k : Int) := by omega
    have hkn : (k : Int) ≤ (n : Int) := by omega
    by_cases he : er = 0
    · subst he
      have hfine := (inst_fine HIn.out)
      have HF := Lib.hid hfine
      obtain ⟨op1, op2⟩ := fine_op hfine.1
      obtain ⟨f1, f2⟩ := ats_op op1 op2
      obtain ⟨v1, v2, v3⟩ := fine_value hfine.1
      obtain ⟨u1, u2, u3⟩ := fine_count hfine.1
      have hop0 : 0 ≤ x.op := by omega
      have HAT := Lib.hid (fun kd u (h : Made W u) => at_flag HNE.out.1 hop0 kd u h)
      obtain ⟨b9, hb9⟩ : ∃ b, atB (opN x.op) 9 = b := ⟨_, rfl⟩
      obtain ⟨b10, hb10⟩ : ∃ b, atB (opN x.op) 10 = b := ⟨_, rfl⟩
      obtain ⟨b11, hb11⟩ : ∃ b, atB (opN x.op) 11 = b := ⟨_, rfl⟩
      have HA9 := Lib.hid (fun u (h : Made W u) => (by have := HAT.out 9 u h; rw [hb9] at this; exact this : Calls Tryz.prog 23 #[.int .u8 x.op, .int .u8 9] u (FlagSays b9 u)))
      have HA10 := Lib.hid (fun u (h : Made W u) => (by have := HAT.out 10 u h; rw [hb10] at this; exact this : Calls Tryz.prog 23 #[.int .u8 x.op, .int .u8 10] u (FlagSays b10 u)))
      have HA11 := Lib.hid (fun u (h : Made W u) => (by have := HAT.out 11 u h; rw [hb11] at this; exact this : Calls Tryz.prog 23 #[.int .u8 x.op, .int .u8 11] u (FlagSays b11 u)))
      rewrite [hb9, hb10] at f1
      rewrite [hb11] at f2
      rewrite [← f1] at v1 v2
      rewrite [← f2] at u1 u2
      have HV := Lib.hid (And.intro v1 (And.intro v2 (And.intro v3 (And.intro u1 (And.intro u2 u3)))))
      clear hfine op1 op2 f1 f2 v1 v2 v3 u1 u2 u3 hb9 hb10 hb11 HAT
      obtain ⟨c0, -, -, -, -, -, -, -⟩ := ln_cells LY.out
      have RY := Lib.hid (show RtAt W so c L r x vo co vc cc y from ⟨KY.out, MY.out, LY.out⟩)
      clear KY MY LY
      go_wp2_with (fail)
      refine (HA9.out _ RY.out.made).mono ?_
      rintro e w3 ⟨⟨g0, g1, g2, g3, g4, gp, rfl⟩, m3⟩
      have RA := Lib.hid ((RY.out.next m3).next ((Made.refl w3).alloc (Nat.le_refl _) (.cells #[.int .u8 g0, .int .i64 g1, .int .i64 g2, .bool g3, .bool g4] 51)))
      clear m3 RY HA9 c0
      go_upto_region 10 with (fail)
      refine world_named (fun y => RtAt W so c L r x vo co vc cc y) RA.out ?_
      intro zA hz
      have RAA := Lib.hid hz
      clear hz RA
      obtain ⟨c0, -, -, -, -, -, -, -⟩ := ln_cells RAA.out.ln
      go_wp2_with (fail)
      refine (HA10.out _ RAA.out.made).mono ?_
      rintro e w4 ⟨⟨h0, h1, h2, h3, h4, hp, rfl⟩, m3⟩
      have RB := Lib.hid ((RAA.out.next m3).next ((Made.refl w4).alloc (Nat.le_refl _) (.cells #[.int .u8 h0, .int .i64 h1, .int .i64 h2, .bool h3, .bool h4] 51)))
      clear m3 RAA HA10 c0
      go_upto_region 11 with (fail)
      refine world_named (fun y => RtAt W so c L r x vo co vc cc y) RB.out ?_
      intro zB hz
      have RBB := Lib.hid hz
      clear hz RB
      obtain ⟨c0, -, -, -, -, -, -, -⟩ := ln_cells RBB.out.ln
      go_wp2_with (fail)
      refine (HA11.out _ RBB.out.made).mono ?_
      rintro e w5 ⟨⟨i0, i1, i2, i3, i4, ip, rfl⟩, m3⟩
      have RC := Lib.hid ((RBB.out.next m3).next ((Made.refl w5).alloc (Nat.le_refl _) (.cells #[.int .u8 i0, .int .i64 i1, .int .i64 i2, .bool i3, .bool i4] 51)))
      clear m3 RBB HA11 c0
      go_upto_region 12 with (fail)
      refine world_named (fun y => RtAt W so c L r x vo co vc cc y) RC.out ?_
      intro zC hz
      have RCC := Lib.hid hz
      clear hz RC
      obtain ⟨c0, -, -, -, -, -, -, -⟩ := ln_cells RCC.out.ln
      have hl0 : 0 < L.length := by have := HLn.out; have := inst_some HIn.out; omega
      obtain ⟨t0, ht0⟩ : ∃ t, L[0] = t := ⟨_, rfl⟩
      obtain ⟨g, o, hso, -, -, -, -, -⟩ := toks_cells RCC.out.toks hl0 t0 ht0
      subst hso
      have hxl : x.line = t0.line ∧ x.col = t0.col := by
        have h2 := HF.out.2
        rw [List.getElem?_eq_getElem hl0, ht0] at h2
        exact h2
      have HX := Lib.hid hxl
      have HT0 := Lib.hid ht0
      have hnp : (0 : Int) < (n : Int) := by have := HLn.out; omega
      have HRI := Lib.hid (right_ln HNE.out.1 HF.out.1)
      clear hxl ht0 c0
      go_cut [157] from 83 to 157 (fun v wc => v = .bool false ∧ RtAt W (some ⟨g, o, none⟩) c L r x vo co vc cc wc)
      case first =>
        obtain ⟨v1, v2, v3, u1, u2, u3⟩ := HV.out
        obtain ⟨vb, hvb⟩ : ∃ b, (b9 || b10) = b := ⟨_, rfl⟩
        rewrite [hvb] at v1 v2
        have hLn := HLn.out
        have HRV := Lib.hid (right_tk v1 (by omega) zC vo vc RCC.out.ln.val)
        have HRC := Lib.hid (right_tk u1 (by omega) zC co cc RCC.out.ln.cnt)
        have HRJ := Lib.hid (right_mk (names_next HNE.out.1 RCC.out.made) HF.out.1)
        clear v1 v3 u1 u3
        have a8 : zC.cell? ⟨r, 8, none⟩ = some (.bool false) := cell_of_lit RCC.out.ln.blk 8
        have a9 : zC.cell? ⟨r, 9, none⟩ = some (.int .u16 0) := cell_of_lit RCC.out.ln.blk 9
        have a10 : zC.cell? ⟨r, 10, none⟩ = some (.int .i64 0) := cell_of_lit RCC.out.ln.blk 10
        have a11 : zC.cell? ⟨r, 11, none⟩ = some (.slice vo x.value.length vc) := cell_of_lit RCC.out.ln.blk 11
        have a12 : zC.cell? ⟨r, 12, none⟩ = some (.slice co x.count.length cc) := cell_of_lit RCC.out.ln.blk 12
        have a14 : zC.cell? ⟨r, 14, none⟩ = some (.int .i64 t0.line) := by rw [← HX.out.1]; exact cell_of_lit RCC.out.ln.blk 14
        have a15 : zC.cell? ⟨r, 15, none⟩ = some (.int .i64 t0.col) := by rw [← HX.out.2]; exact cell_of_lit RCC.out.ln.blk 15
        obtain ⟨g', o', hso, -, -, -, d3, d4⟩ := toks_cells RCC.out.toks hl0 t0 HT0.out
        simp only [Option.some.injEq, Addr.mk.injEq, and_true] at hso
        obtain ⟨rfl, rfl⟩ := hso
        simp only [Nat.zero_mul, Nat.add_zero] at d3 d4
        have e8 := fun d os => cell_regrown a8 d os
        have e9 := fun d os => cell_regrown a9 d os
        have e10 := fun d os => cell_regrown a10 d os
        have e11 := fun d os => cell_regrown a11 d os
        have e12 := fun d os => cell_regrown a12 d os
        have e14 := fun d os => cell_regrown a14 d os
        have e15 := fun d os => cell_regrown a15 d os
        have e3 := fun d os => cell_regrown d3 d os
        have e4 := fun d os => cell_regrown d4 d os
        have q1 : (t0.line != t0.line) = false := bne_eq_false_iff_eq.2 rfl
        have q2 : (t0.col != t0.col) = false := bne_eq_false_iff_eq.2 rfl
        clear HT0 hLn a8 a9 a10 a11 a12 a14 a15 d3 d4
        cases b11
        all_goals
          cases b9 with
          | true =>
            obtain rfl : vb = true := hvb.symm
            clear hvb
            as_aux_lemma =>
              refine wp_region_quiet_below (by kernel_rfl) (by kernel_rfl) ?_
              dsimp only [List.append]
              go_big_quiet_step (fail)
              go_big_quiet_want
              refine quiet_load_mid 26 (.tmp 83) rfl r 0 rfl x.ins.cells _ (fun _ hw => ln_range (RCC.out.ln.next (made_regrown hw))) Tryz.underlying26 rfl (by kernel_rfl) ?_
              go_big_quiet_on
              simp only [Act.put, List.setIfInBounds_toArray, List.set_cons_zero, List.set_cons_succ]
              repeat (go_big_quiet_step ((first | (go_at_call 24; exact HRJ.out.again _ _) | (go_at_call 25; first | with_reducible exact HRV.out.again _ _ | with_reducible exact HRC.out.again _ _))))
              refine wpQuiet_nil ?_
              intro w5 hw5
              have h5 := made_regrown hw5
              go_wp2
              go_meet
              case rel => exact ⟨rfl, RCC.out.next h5⟩
          | false =>
            obtain rfl : vb = b10 := hvb.symm
            clear hvb
            cases vb
            all_goals
              as_aux_lemma =>
                refine wp_region_quiet_below (by kernel_rfl) (by kernel_rfl) ?_
                dsimp only [List.append]
                go_big_quiet_step (fail)
                go_big_quiet_want
                refine quiet_load_mid 26 (.tmp 83) rfl r 0 rfl x.ins.cells _ (fun _ hw => ln_range (RCC.out.ln.next (made_regrown hw))) Tryz.underlying26 rfl (by kernel_rfl) ?_
                go_big_quiet_on
                simp only [Act.put, List.setIfInBounds_toArray, List.set_cons_zero, List.set_cons_succ]
                repeat (go_big_quiet_step ((first | (go_at_call 24; exact HRJ.out.again _ _) | (go_at_call 25; first | with_reducible exact HRV.out.again _ _ | with_reducible exact HRC.out.again _ _))))
                refine wpQuiet_nil ?_
                intro w5 hw5
                have h5 := made_regrown hw5
                go_wp2
                go_meet
                case rel => exact ⟨rfl, RCC.out.next h5⟩
      case rest =>
        obtain ⟨rfl, hR⟩ := hcut
        as_aux_lemma =>
          have RR := Lib.hid hR
          have HJ := Lib.hid (join_again (s := l) (x := x) (n := k) (by rw [HLE.out]; exact HIn.out))
          have HJS := Lib.hid (join_short l k)
          rewrite [HLE.out] at HJ HJS
          clear hR RCC HRI HV HX HT0
          go_wp2_with (fail)
          go_loopw [16, 17] (fun tv iv wr => ∃ j : Nat, j ≤ k ∧ tv = .string (strOf (joinB (L.take j))) ∧ iv = .int .i64 j ∧ wc = wr) (fun _ iv _ => k - (intOf iv).toNat)
          case atStart => exact ⟨0, Nat.zero_le _, rfl, rfl, rfl⟩
          case round =>
            obtain ⟨j, hj, rfl, rfl, rfl⟩ := hrel
            by_cases hlt : j < k
            · have hjl : j < L.length := by have := HLn.out; omega
              obtain ⟨t, ht⟩ : ∃ t, L[j] = t := ⟨_, rfl⟩
              obtain ⟨g', o', hso, -, d1, -, -, -⟩ := toks_cells RR.out.toks hjl t ht
              simp only [Option.some.injEq, Addr.mk.injEq, and_true] at hso
              obtain ⟨rfl, rfl⟩ := hso
              have hjn : (j : Int) < (n : Int) := by omega
              have hjk : (j : Int) < (k : Int) := by omega
              have hshort := join_take (L.take k) j
              rw [List.take_take, Nat.min_eq_left (Nat.le_of_lt hlt)] at hshort
              have htl := join_take (L.take k) (j + 1)
              rw [List.take_take, Nat.min_eq_left hlt, join_next hjl t ht, List.length_append, List.length_append] at htl
              have hb := HJS.out
              have hll := HLL.out
              have hc2 : strOf (joinB (L.take j)) ++ strOf t.text ++ strOf [32] = strOf (joinB (L.take (j + 1))) := by rw [join_next hjl t ht]; exact str_of (str_cat (str_cat (strOf_is _) (strOf_is _)) (strOf_is _))
              obtain ⟨A, hA⟩ : ∃ A, strOf (joinB (L.take j)) = A := ⟨_, rfl⟩
              obtain ⟨B, hB⟩ : ∃ B, strOf t.text = B := ⟨_, rfl⟩
              have sA : A.size = (joinB (L.take j)).length := by rw [← hA, strOf_size]
              have sB : B.size = t.text.length := by rw [← hB, strOf_size]
              have hs1 : ¬ (9223372036854775807 < A.size + B.size) := by omega
              have hs2 : ¬ (9223372036854775807 < A.size + B.size + 1) := by omega
              rewrite [hB] at d1 hc2
              rewrite [hA] at hc2
              have HD := Lib.hid hc2
              rewrite [hA]
              clear hc2 htl hshort hb hll ht hA hB sA sB
              go_wp2
              go_roundw
              case rel => exact ⟨j + 1, by omega, by rw [← HD.out], by go_num, trivial⟩
              case measure => simp [intOf]; omega
            · obtain rfl : j = k := by omega
              have HCJ := Lib.hid (fun u => cut16_any (strOf (joinB (L.take j))) (joinB (L.take j)) rfl (by have := HJS.out; have := HLL.out; omega) u)
              have hjl := HJ.out.2
              have HKT := Lib.hid (cutE_tok (l := joinB (L.take j)) (by have := HJS.out; have := HLL.out; omega))
              have hfw := cutE_few (joinB (L.take j))
              have HIJ := Lib.hid (inst_tells HNE.out.1 HNE.out.2 (by rw [hjl]; omega) HKT.out HJ.out.1)
              have HJL := Lib.hid hjl
              clear hjl hfw
              go_wp2_with (fail)
              refine (HCJ.out _).mono ?_
              rintro e w6 ⟨s2, c2, rfl, hT2, m6⟩
              rewrite [HJL.out]
              have R6 := Lib.hid (RR.out.next m6)
              have KT2 := Lib.hid hT2
              clear m6 hT2 RR HCJ
              go_wp2_with (fail)
              refine (HIJ.out _ R6.out.made s2 c2 j HJL.out KT2.out).mono ?_
              rintro e w7 ⟨⟨vo2, vc2, co2, cc2, rfl, hv2, hc2⟩, m7⟩
              have m8 : Made w7 (w7.alloc (.cells (lnCells { x with line := 1, col := 1 } (.slice vo2 x.value.length vc2) (.slice co2 x.count.length cc2)).toArray TLN)) := (Made.refl w7).alloc (Nat.le_refl _) _
              have K8 := Lib.hid (show RtAt W (some ⟨g, o, none⟩) c L r x vo co vc cc (w7.alloc (.cells (lnCells { x with line := 1, col := 1 } (.slice vo2 x.value.length vc2) (.slice co2 x.count.length cc2)).toArray TLN)) ∧ LnAt w7.heap.size { x with line := 1, col := 1 } vo2 co2 vc2 cc2 (w7.alloc (.cells (lnCells { x with line := 1, col := 1 } (.slice vo2 x.value.length vc2) (.slice co2 x.count.length cc2)).toArray TLN)) from
                ⟨(R6.out.next m7).next m8, heap_alloc_new w7 _, hv2.made tm_len m8, hc2.made tm_len m8⟩)
              clear m7 m8 hv2 hc2 R6 KT2 HIJ
              obtain ⟨q, hq⟩ : ∃ q, w7.heap.size = q := ⟨_, rfl⟩
              go_upto_region 21 with (fail)
              refine world_named (fun y => RtAt W (some ⟨g, o, none⟩) c L r x vo co vc cc y ∧ LnAt w7.heap.size { x with line := 1, col := 1 } vo2 co2 vc2 cc2 y) K8.out ?_
              rintro z ⟨hz1, hz2⟩
              rewrite [hq] at hz2
              have RZ := Lib.hid hz1
              have LZ := Lib.hid hz2
              obtain ⟨-, -, v3⟩ := fine_value HF.out.1
              obtain ⟨-, -, u3⟩ := fine_count HF.out.1
              have HS := Lib.hid (same16_any x 1 1 vo vo2 co co2 vc vc2 cc cc2 z hz1.ln.val hz2.val hz1.ln.cnt hz2.cnt (by have := HLn.out; omega) (by have := HLn.out; omega))
              have qjj : ((j : Int) == (j : Int)) = true := beq_iff_eq.2 rfl
              clear hz1 hz2 K8 hq v3 u3
              go_wp2_with (first
                | (refine BigFrame.wpList_want rfl fun K hK => wp_load_row TLN (.tmp 4) rfl r rfl TLN (lnCells x (.slice vo x.value.length vc) (.slice co x.count.length cc)).toArray (0, 0) _ RZ.out.ln.blk Tryz.underlying29 rfl (by kernel_rfl) (hK _ _ ?_))
                | (refine BigFrame.wpList_want rfl fun K hK => wp_load_row TLN (.tmp 19) rfl q rfl TLN (lnCells { x with line := 1, col := 1 } (.slice vo2 x.value.length vc2) (.slice co2 x.count.length cc2)).toArray (0, 0) _ LZ.out.blk Tryz.underlying29 rfl (by kernel_rfl) (hK _ _ ?_)))
              refine HS.out.mono ?_
              rintro e w9 ⟨rfl, m9⟩
              have M9 := Lib.hid (Made.trans RZ.out.made m9)
              obtain ⟨-, -, -, -, -, -, k14, k15⟩ := ln_cells (LZ.out.next m9)
              clear m9 RZ LZ HS
              go_wp2_with (fail)
              refine (HA.out _ M9.out).mono ?_
              rintro e w10 ⟨rfl, m10⟩
              have M10 := Lib.hid m10
              clear m10
              go_wp2
              go_ret
              exact ⟨rfl, M10.out⟩
    · have hef : (er == 0) = false := beq_eq_false_iff_ne.2 he
      have hen : (er != 0) = true := bne_iff_ne.2 he
      obtain rfl := inst_zero HIn.out he
      have HS := Lib.hid (same_none y vo co vc cc LY.out.val LY.out.cnt)
      have hblk : y.heap[r]? = some (.cells #[.int .u8 0, .int .u8 0, .int .u8 0, .int .u8 0, .int .u8 0, .int .u8 0, .int .u8 0, .bool false, .bool false, .int .u16 0, .int .i64 0, .slice vo 0 vc, .slice co 0 cc, .bool false, .int .i64 0, .int .i64 0] TLN (0, 0)) := LY.out.blk
      have HB := Lib.hid hblk
      clear hblk
      rcases her with rfl | rfl | rfl
      · exact absurd rfl he
      all_goals
        go_wp2_with (refine BigFrame.wpList_want rfl fun K hK => wp_load_row TLN (.tmp 4) rfl r rfl TLN #[.int .u8 0, .int .u8 0, .int .u8 0, .int .u8 0, .int .u8 0, .int .u8 0, .int .u8 0, .bool false, .bool false, .int .u16 0, .int .i64 0, .slice vo 0 vc, .slice co 0 cc, .bool false, .int .i64 0, .int .i64 0] (0, 0) _ HB.out Tryz.underlying29 rfl (by kernel_rfl) (hK _ _ ?_))
        refine HS.out.mono ?_
        rintro e w5 ⟨rfl, m5⟩
        have M5 := Lib.hid (Made.trans MY.out m5)
        clear m5
        go_wp2_with (fail)
        refine (HA.out _ M5.out).mono ?_
        rintro e w6 ⟨rfl, m6⟩
        have M6 := Lib.hid m6
        clear m6
        go_wp2
        go_ret
        exact ⟨rfl, M6.out⟩
end
end parseRight
end Go.Proofs.YtnfmlmamgkpocaaGreatDoor
