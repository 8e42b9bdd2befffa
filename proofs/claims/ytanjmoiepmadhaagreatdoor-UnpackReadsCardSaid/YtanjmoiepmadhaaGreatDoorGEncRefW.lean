/- What Right of the document's answer returns, for every instruction. · What Word of the document's answer returns, for every instruction and address. -/
import Derived.Test.YtanjmoiepmadhaaGreatDoorGEncRef
import Derived.Test.YtanjmoiepmadhaaGreatDoorGInst
import Derived.Deep.CutRange
namespace Go.Proofs.YtanjmoiepmadhaaGreatDoor
section
set_option maxRecDepth 100000
open Go.ChangeShapes Go.WideShapes Go.ChangeAt Go.RowKit Go.Sort BigFrame

theorem pieces_at (l : List Fd) (k : Nat) (h : k < l.length) : (flatP l)[k * 2]? = some (.int .u8 (letterZ l[k].kind)) ∧ (flatP l)[k * 2 + 1]? = some (.int .i64 l[k].bits) := by
  induction l generalizing k with
  | nil => simp at h
  | cons f r ih =>
    cases k with
    | zero => exact ⟨rfl, rfl⟩
    | succ k =>
      have := ih k (by simpa using h)
      rw [show (k + 1) * 2 = k * 2 + 1 + 1 by omega]
      exact this
theorem plain_drop (x : In) (l : List Fd) (k : Nat) (h : k < l.length) (y : In) : plainFrom x (l.drop k) y = plainFrom x (l.drop (k + 1)) (if isVal l[k] then { y with imm := x.imm } else setZ y l[k].kind (numZ x l[k].kind)) := by
  rw [List.drop_eq_getElem_cons h]; rfl
theorem nums_drop (x : In) (l : List Fd) (k : Nat) (h : k < l.length) : numsB x (l.drop k) = ((isVal l[k] || decide (numZ x l[k].kind < 2 ^ l[k].bits.toNat)) && numsB x (l.drop (k + 1))) := by
  rw [List.drop_eq_getElem_cons h]; rfl
theorem val_num {f : Fd} (x : In) (h : isVal f = true) : numZ x f.kind = 0 := by
  unfold isVal at h
  simp only [Bool.or_eq_true, beq_iff_eq] at h
  rcases h with e | e <;> rw [e] <;> rfl
theorem val_letter (f : Fd) (h0 : 1 ≤ f.kind) (h1 : f.kind ≤ 11) : (letterZ f.kind == 118) = isVal f := by
  unfold isVal
  generalize f.kind = k at *
  have hc : k = 1 ∨ k = 2 ∨ k = 3 ∨ k = 4 ∨ k = 5 ∨ k = 6 ∨ k = 7 ∨ k = 8 ∨ k = 9 ∨ k = 10 ∨ k = 11 := by omega
  rcases hc with rfl | rfl | rfl | rfl | rfl | rfl | rfl | rfl | rfl | rfl | rfl <;> rfl
theorem val_set {f : Fd} (y : In) (v : Int) (h : isVal f = true) : setZ y f.kind v = y := by
  unfold isVal at h
  simp only [Bool.or_eq_true, beq_iff_eq] at h
  rcases h with e | e <;> rw [e] <;> rfl
theorem field5_ext (a b : Int) (c d e : Bool) (w : World) : (Instr.field 78 (.agg #[.int .i64 a, .int .i64 b, .bool c, .bool d, .bool e]) 3).run Tryz.prog w = .ok (.bool d) w := by kernel_rfl
theorem run_in_neq2 (y z : In) (w : World) : (binOp .neq 40 y.val z.val).run Tryz.prog w = .ok (.bool (!decide (y = z))) w := by
  have h := run_in_eql y z w
  cases hd : decide (y = z) with
  | true =>
    have := of_decide_eq_true hd
    subst this
    simp [go_sem]
  | false =>
    rw [hd] at h
    have hn := of_decide_eq_false hd
    obtain ⟨y0, y1, y2, y3, y4, y5, y6, y7, y8, y9, y10⟩ := y
    obtain ⟨z0, z1, z2, z3, z4, z5, z6, z7, z8, z9, z10⟩ := z
    simp [go_sem] at h ⊢
    simpa using h
theorem in_set11 {w : World} {b : Nat} {y : In} (h : InAt w b y) (z : In) :
    InAt (set11 w b (.int .u8 z.op) (.int .u8 z.d) (.int .u8 z.s) (.int .u8 z.t) (.int .u8 z.n) (.int .u8 z.pred) (.int .u8 z.mode) (.bool z.new) (.bool z.ext) (.int .u16 z.count) (.int .i64 z.imm)) b z := by
  obtain ⟨y0, y1, y2, y3, y4, y5, y6, y7, y8, y9, y10⟩ := y
  obtain ⟨z0, z1, z2, z3, z4, z5, z6, z7, z8, z9, z10⟩ := z
  have k0 : InAt _ b ⟨z0, y1, y2, y3, y4, y5, y6, y7, y8, y9, y10⟩ := heap_setCell_same _ b 0 (In.cells ⟨y0, y1, y2, y3, y4, y5, y6, y7, y8, y9, y10⟩).toArray 40 (.int .u8 z0) h
  have k1 : InAt _ b ⟨z0, z1, y2, y3, y4, y5, y6, y7, y8, y9, y10⟩ := heap_setCell_same _ b 1 (In.cells ⟨z0, y1, y2, y3, y4, y5, y6, y7, y8, y9, y10⟩).toArray 40 (.int .u8 z1) k0
  have k2 : InAt _ b ⟨z0, z1, z2, y3, y4, y5, y6, y7, y8, y9, y10⟩ := heap_setCell_same _ b 2 (In.cells ⟨z0, z1, y2, y3, y4, y5, y6, y7, y8, y9, y10⟩).toArray 40 (.int .u8 z2) k1
  have k3 : InAt _ b ⟨z0, z1, z2, z3, y4, y5, y6, y7, y8, y9, y10⟩ := heap_setCell_same _ b 3 (In.cells ⟨z0, z1, z2, y3, y4, y5, y6, y7, y8, y9, y10⟩).toArray 40 (.int .u8 z3) k2
  have k4 : InAt _ b ⟨z0, z1, z2, z3, z4, y5, y6, y7, y8, y9, y10⟩ := heap_setCell_same _ b 4 (In.cells ⟨z0, z1, z2, z3, y4, y5, y6, y7, y8, y9, y10⟩).toArray 40 (.int .u8 z4) k3
  have k5 : InAt _ b ⟨z0, z1, z2, z3, z4, z5, y6, y7, y8, y9, y10⟩ := heap_setCell_same _ b 5 (In.cells ⟨z0, z1, z2, z3, z4, y5, y6, y7, y8, y9, y10⟩).toArray 40 (.int .u8 z5) k4
  have k6 : InAt _ b ⟨z0, z1, z2, z3, z4, z5, z6, y7, y8, y9, y10⟩ := heap_setCell_same _ b 6 (In.cells ⟨z0, z1, z2, z3, z4, z5, y6, y7, y8, y9, y10⟩).toArray 40 (.int .u8 z6) k5
  have k7 : InAt _ b ⟨z0, z1, z2, z3, z4, z5, z6, z7, y8, y9, y10⟩ := heap_setCell_same _ b 7 (In.cells ⟨z0, z1, z2, z3, z4, z5, z6, y7, y8, y9, y10⟩).toArray 40 (.bool z7) k6
  have k8 : InAt _ b ⟨z0, z1, z2, z3, z4, z5, z6, z7, z8, y9, y10⟩ := heap_setCell_same _ b 8 (In.cells ⟨z0, z1, z2, z3, z4, z5, z6, z7, y8, y9, y10⟩).toArray 40 (.bool z8) k7
  have k9 : InAt _ b ⟨z0, z1, z2, z3, z4, z5, z6, z7, z8, z9, y10⟩ := heap_setCell_same _ b 9 (In.cells ⟨z0, z1, z2, z3, z4, z5, z6, z7, z8, y9, y10⟩).toArray 40 (.int .u16 z9) k8
  have k10 : InAt _ b ⟨z0, z1, z2, z3, z4, z5, z6, z7, z8, z9, z10⟩ := heap_setCell_same _ b 10 (In.cells ⟨z0, z1, z2, z3, z4, z5, z6, z7, z8, z9, y10⟩).toArray 40 (.int .i64 z10) k9
  exact k10
theorem in_putImm {w : World} {b : Nat} {x : In} (h : InAt w b x) (i : Int) : InAt (w.setCell ⟨b, 10, none⟩ (.int .i64 i)) b { x with imm := i } :=
  heap_setCell_same w b 10 x.cells.toArray 40 _ h
/-- The variables ahead of the loop. -/
structure RAt (W : World) (A : Nat) (x : In) (p : Option Addr) (n cap : Nat) (fs : List Fd) (v : World) : Prop where
  own : Own W A x v
  holds : HoldsP v p n cap fs
theorem RAt.next {W v v' : World} {A : Nat} {x : In} {p : Option Addr} {n cap : Nat} {fs : List Fd} (h : RAt W A x p n cap fs v) (hm : Made v v') : RAt W A x p n cap fs v' := ⟨h.own.next hm, h.holds.made hm⟩
theorem isPs_any {W : World} {op : Int} {e : Ending} {w' : World} (h : IsPs W op e w') : ∃ (p : Option Addr) (cap : Nat) (fs : List Fd), fs = fieldsZ (opN op) ∧ e = .returned (.tuple #[.slice p fs.length cap, .bool (isOp op)]) ∧ Made W w' ∧ HoldsP w' p fs.length cap fs := by
  obtain ⟨p, cap, he, hm, hh⟩ := h
  exact ⟨p, cap, _, rfl, he, hm, hh⟩
section
attribute [local irreducible] World.cell?
set_option maxRecDepth 100000 in
set_option maxHeartbeats 8000000 in
theorem refRight6_any (W : World) (x : In) (hx : x.small) : Makes Tryz.prog W 75 #[x.val] (.bool (rightB x)) := by
  intro w hm
  have hz := hm.size
  have K0 := Lib.hid (show Own W w.heap.size x (w.alloc (.cells x.cells.toArray 40)) from ⟨hm.alloc hz _, heap_alloc_new w _⟩)
  have hop0 := hx.op0
  have hop1 := hx.op1
  have hps := Lib.hid (fun u => pieces_any u x.op u (Made.refl u))
  have hOf := fun u => refOf_any u x.op
  rewrite [(vf_op x.op).2] at hOf
  have C1 := Lib.hid hOf
  have hget := Lib.hid (fun u k h0 h1 => refGet6_any u x hx k h0 h1)
  have hfit := Lib.hid (fun u => refFits5_any u x hx 0 ⟨by decide, by decide⟩)
  have hfe := field5_ext
  have HX := Lib.hid hx
  have hr := rr_right x hx
  obtain ⟨rb, hrb⟩ : ∃ b, b = rightB x := ⟨_, rfl⟩
  rewrite [← hrb] at hr ⊢
  have HR := Lib.hid (show rb = (isOp x.op && !(x.ext && !mayZ x.op) && numsB x (fieldsZ x.op) && decide (plainFrom x (fieldsZ x.op) (startIn x.op x.ext) = x) && decide (x.mode ≤ 4) && !(x.mode == 0 && x.pred != 0 && x.op != 14) && endB x) from hr.symm)
  have m0 := hx.mode0
  have m1 := hx.mode1
  have p0 := hx.pred0
  have p1 := hx.pred1
  have i0 := hx.imm0
  have i1 := hx.imm1
  clear hrb hr hx hm hOf
  obtain ⟨xo, xd, xs, xt, xn, xp, xm, xw, xe, xc, xi⟩ := x
  go_enter Tryz.func75, Tryz.ntmps75
  go_wp2_with (fail)
  refine (hps.out _).mono ?_
  intro e w1 h
  obtain ⟨p, cap, fs, hfs, rfl, h1, hh⟩ := isPs_any h
  have K1 := Lib.hid (show RAt W w.heap.size ⟨xo, xd, xs, xt, xn, xp, xm, xw, xe, xc, xi⟩ p fs.length cap fs w1 from ⟨K0.out.next h1, hh⟩)
  clear h h1 hh
  generalize hio : isOp xo = io at *
  have HIO := Lib.hid hio
  have HFS := Lib.hid hfs
  clear hio hfs
  obtain ⟨a0, a1, a2, a3, a4, a5, a6, a7, a8, a9, a10⟩ := in_cells K1.out.own.in_
  have hl := heap_lt K1.out.own.in_
  go_upto_region 2 with (fail)
  go_cut [27] from 15 to 27 (fun g wc => g = .bool (!io || (xe && !mayZ xo)) ∧ RAt W w.heap.size ⟨xo, xd, xs, xt, xn, xp, xm, xw, xe, xc, xi⟩ p fs.length cap fs wc)
  case first =>
    cases io with
    | false =>
      go_wp2
      go_meet
      case rel => exact ⟨rfl, K1.out⟩
    | true =>
      cases xe with
      | false =>
        go_wp2
        go_meet
        case rel => exact ⟨rfl, K1.out⟩
      | true =>
        go_wp2_with (fail)
        refine (C1.out _ _ (Made.refl _)).mono ?_
        rintro e w2 ⟨rfl, h2⟩
        have K2 := Lib.hid (K1.out.next h2)
        clear h2
        go_wp2
        go_meet
        case rel => exact ⟨by simp, K2.out⟩
  case rest =>
    obtain ⟨rfl, hO⟩ := hcut
    generalize wc = w2 at *
    have K2 := Lib.hid hO
    clear hO a0 a1 a2 a3 a4 a5 a6 a7 a8 a9 a10 hl
    obtain ⟨g, hg⟩ : ∃ g, g = (!io || (xe && !mayZ xo)) := ⟨_, rfl⟩
    have HG := Lib.hid hg
    rewrite [← hg]
    clear hg
    cases g with
    | true =>
      have e1 : rb = false := by
        rw [HR.out]
        have := HG.out
        revert this
        cases io <;> cases xe <;> cases mayZ xo <;> simp
      obtain rfl := e1
      go_wp2
      go_ret
      exact ⟨rfl, K2.out.own.made⟩
    | false =>
      have hio : io = true := by
        have := HG.out
        revert this
        cases io <;> simp
      subst hio
      have ho : isOp xo = true := HIO.out
      have hfs := HFS.out
      rewrite [opN_of ho] at hfs
      have hE : rb = (numsB ⟨xo, xd, xs, xt, xn, xp, xm, xw, xe, xc, xi⟩ fs && decide (plainFrom ⟨xo, xd, xs, xt, xn, xp, xm, xw, xe, xc, xi⟩ fs (startIn xo xe) = ⟨xo, xd, xs, xt, xn, xp, xm, xw, xe, xc, xi⟩) && decide (xm ≤ 4) && !(xm == 0 && xp != 0 && xo != 14) && endB ⟨xo, xd, xs, xt, xn, xp, xm, xw, xe, xc, xi⟩) := by
        rw [HR.out, hfs]
        have := HG.out
        revert this
        cases xe <;> cases mayZ xo <;> simp
      obtain ⟨-, -, hok⟩ := list_ok xo ho
      rewrite [← hfs] at hok
      have HK := Lib.hid hok
      have HE := Lib.hid hE
      clear hfs ho hE hok HG HIO HFS HR
      obtain ⟨-, hcell⟩ := K2.out.holds
      have HC := Lib.hid hcell
      clear hcell
      have hzw : w2.heap.size ≤ w2.heap.size := Nat.le_refl _
      obtain ⟨a0, a1, a2, a3, a4, a5, a6, a7, a8, a9, a10⟩ := in_cells K2.out.own.in_
      have hl := heap_lt K2.out.own.in_
      have hPl := Lib.hid (show InAt (w2.alloc (.cells (startIn xo xe).cells.toArray 40)) w2.heap.size (startIn xo xe) from heap_alloc_new w2 _)
      go_wp2_with (fail)
      clear a0 a1 a2 a3 a4 a5 a6 a7 a8 a9 a10
      go_loopw [6] (fun i wr => ∃ (k : Nat) (y : In), k ≤ fs.length ∧ i = .int .i64 k ∧ plainFrom ⟨xo, xd, xs, xt, xn, xp, xm, xw, xe, xc, xi⟩ (fs.drop k) y = plainFrom ⟨xo, xd, xs, xt, xn, xp, xm, xw, xe, xc, xi⟩ fs (startIn xo xe) ∧ numsB ⟨xo, xd, xs, xt, xn, xp, xm, xw, xe, xc, xi⟩ (fs.drop k) = numsB ⟨xo, xd, xs, xt, xn, xp, xm, xw, xe, xc, xi⟩ fs ∧ InAt wr w2.heap.size y ∧ Made w2 wr) (fun i _ => fs.length - (intOf i).toNat)
      case atStart => exact ⟨0, startIn xo xe, Nat.zero_le _, rfl, rfl, rfl, hPl.out, (Made.refl w2).alloc (Nat.le_refl _) _⟩
      case round =>
        obtain ⟨k, y, hk, rfl, hat, han, hin, hwr⟩ := hrel
        have HW := Lib.hid hwr
        have HI := Lib.hid hin
        have hlP := heap_lt hin
        have hinx := hwr.heap K2.out.own.in_
        have hlx := heap_lt hinx
        have HIX := Lib.hid hinx
        by_cases hlt2 : k < fs.length
        · rcases HC.out with rfl | ⟨b, rfl, hb, hnc, hcm, hce⟩
          · simp at hlt2
          have hbr : b < wr.heap.size := Nat.lt_of_lt_of_le hb HW.out.size
          have hd := plain_drop ⟨xo, xd, xs, xt, xn, xp, xm, xw, xe, xc, xi⟩ fs k hlt2 y
          have hd2 := nums_drop ⟨xo, xd, xs, xt, xn, xp, xm, xw, xe, xc, xi⟩ fs k hlt2
          have hfk := HK.out fs[k] (List.getElem_mem _)
          have hfl := pieces_at fs k hlt2
          have hce2 := fun (u : World) (hu : Made w2 u) r (hr : r < 2) => (bcell hu).1 b (k * 2 + r) hb ▸ hce (k * 2 + r) (by omega)
          unfold maxLen at hcm
          generalize fs[k] = f at *
          rewrite [hat] at hd
          rewrite [han] at hd2
          have hcc : ∀ u : World, Made w2 u → u.cell? ⟨b, k * 2, none⟩ = some (.int .u8 (letterZ f.kind)) ∧ u.cell? ⟨b, k * 2 + 1, none⟩ = some (.int .i64 f.bits) := fun u hu => ⟨(hce2 u hu 0 (by omega)).trans hfl.1, (hce2 u hu 1 (by omega)).trans hfl.2⟩
          have hb1 := hfk.b1
          have hb2 := hfk.b2
          have hg := Lib.hid ((hget.out wr f.kind hfk.k1 hfk.k2).again)
          have hpw := Lib.hid (power_any f.bits (by omega) (by omega))
          have hpt := Lib.hid (fun u v => refPut6_any u y f.kind v hfk.k1 hfk.k2)
          have hvl := val_letter f hfk.k1 hfk.k2
          have hvn := fun h => val_num (f := f) ⟨xo, xd, xs, xt, xn, xp, xm, xw, xe, xc, xi⟩ h
          have hvs := fun v h => val_set (f := f) y v h
          have hnu := numZ_u32 HX.out f.kind
          have HCC := Lib.hid hcc
          have HD := Lib.hid (And.intro hd (And.intro hd2 (And.intro hvn hvs)))
          have hp2 := pow_le_of f.bits.toNat (by omega)
          clear hce hce2 hcc hfl hat han hd hd2 hfk hin hwr hinx hvn hvs
          obtain ⟨hn0, hn1⟩ := hnu
          obtain ⟨hp3, hp4⟩ := hp2
          have hki : (k : Int) < fs.length := by omega
          generalize numZ ⟨xo, xd, xs, xt, xn, xp, xm, xw, xe, xc, xi⟩ f.kind = nv at *
          generalize letterZ f.kind = lt at *
          generalize (2 : Int) ^ f.bits.toNat = pw at *
          obtain ⟨c0, c1⟩ := HCC.out wr HW.out
          obtain ⟨a0, a1, a2, a3, a4, a5, a6, a7, a8, a9, a10⟩ := in_cells HIX.out
          have g0 := fun d os => cell_regrown a0 d os
          have g1 := fun d os => cell_regrown a1 d os
          have g2 := fun d os => cell_regrown a2 d os
          have g3 := fun d os => cell_regrown a3 d os
          have g4 := fun d os => cell_regrown a4 d os
          have g5 := fun d os => cell_regrown a5 d os
          have g6 := fun d os => cell_regrown a6 d os
          have g7 := fun d os => cell_regrown a7 d os
          have g8 := fun d os => cell_regrown a8 d os
          have g9 := fun d os => cell_regrown a9 d os
          have g10 := fun d os => cell_regrown a10 d os
          have e0 := fun d os => cell_regrown c0 d os
          go_upto_region 8 with (fail)
          refine wp_region_quiet_below (by kernel_rfl) (by kernel_rfl) ?_
          repeat (go_big_quiet_step ((go_at_call 78; exact hg.out _ _)))
          refine wpQuiet_nil ?_
          intro u1 hw9
          have M1 := Lib.hid (Made.trans HW.out (made_regrown hw9))
          have I1 := Lib.hid (Made.heap (made_regrown hw9) HI.out)
          clear hw9 g0 g1 g2 g3 g4 g5 g6 g7 g8 g9 g10 e0 a0 a1 a2 a3 a4 a5 a6 a7 a8 a9 a10 c0 c1 hlP hlx
          obtain ⟨c0, c1⟩ := HCC.out u1 M1.out
          have hbu : b < u1.heap.size := Nat.lt_of_lt_of_le hb M1.out.size
          by_cases hlt : nv < pw
          · go_wp2_with (fail)
            refine (hpw.out _).mono ?_
            rintro e u2 ⟨rfl, rfl⟩
            obtain ⟨d0, d1, d2, d3, d4, d5, d6, d7, d8, d9, d10⟩ := in_cells I1.out
            have hlP := heap_lt I1.out
            have g0 := fun d os => cell_regrown d0 d os
            have g1 := fun d os => cell_regrown d1 d os
            have g2 := fun d os => cell_regrown d2 d os
            have g3 := fun d os => cell_regrown d3 d os
            have g4 := fun d os => cell_regrown d4 d os
            have g5 := fun d os => cell_regrown d5 d os
            have g6 := fun d os => cell_regrown d6 d os
            have g7 := fun d os => cell_regrown d7 d os
            have g8 := fun d os => cell_regrown d8 d os
            have g9 := fun d os => cell_regrown d9 d os
            have g10 := fun d os => cell_regrown d10 d os
            have e0 := fun d os => cell_regrown c0 d os
            go_upto_region 11 with (fail)
            refine wp_region_made 8 [] [0, 1, 2, 3, 4, 5, 6, 7] (by kernel_rfl) (by kernel_rfl) (by intro c a d v w h; cases d <;> exact h) ?_
            simp only [moved, picked, List.foldr_cons, List.foldr_nil, Option.elim_some, List.getElem?_toArray, List.getElem?_cons_zero, List.getElem?_cons_succ, List.drop_succ_cons, List.drop_zero]
            repeat (go_big_quiet_step ((go_at_call 48; exact (hpt.out u1 nv).again _ _)))
            refine wpQuiet_nil ?_
            intro u3 hu3
            have hi3 := hu3.heap I1.out
            clear d0 d1 d2 d3 d4 d5 d6 d7 d8 d9 d10 g0 g1 g2 g3 g4 g5 g6 g7 g8 g9 g10 e0 c0 c1 hlP
            obtain ⟨d0, d1, d2, d3, d4, d5, d6, d7, d8, d9, d10⟩ := in_cells hi3
            have fz := free_of_lit hi3
            have hlP := heap_lt hi3
            have M4 := Lib.hid (And.intro (in_set11 hi3 (setZ y f.kind nv)) (made_set11 (Made.trans M1.out hu3) hzw (.int .u8 (setZ y f.kind nv).op) (.int .u8 (setZ y f.kind nv).d) (.int .u8 (setZ y f.kind nv).s) (.int .u8 (setZ y f.kind nv).t) (.int .u8 (setZ y f.kind nv).n) (.int .u8 (setZ y f.kind nv).pred) (.int .u8 (setZ y f.kind nv).mode) (.bool (setZ y f.kind nv).new) (.bool (setZ y f.kind nv).ext) (.int .u16 (setZ y f.kind nv).count) (.int .i64 (setZ y f.kind nv).imm)))
            clear hi3 hu3
            go_upto_region 12 with (fail)
            refine name_world (fun v => InAt v w2.heap.size (setZ y f.kind nv) ∧ Made w2 v) M4.out ?_
            rintro u4 ⟨hi4, hm4⟩
            have I4 := Lib.hid hi4
            have N4 := Lib.hid hm4
            clear d0 d1 d2 d3 d4 d5 d6 d7 d8 d9 d10 fz hlP M4
            obtain ⟨c0, c1⟩ := HCC.out u4 hm4
            have hbu4 : b < u4.heap.size := Nat.lt_of_lt_of_le hb hm4.size
            clear hi4 hm4
            obtain ⟨r1, r2, -, r4⟩ := HD.out
            have HV := Lib.hid (r4 nv)
            rewrite [decide_eq_true hlt] at r2
            have HA := Lib.hid r1
            have HB := Lib.hid r2
            clear r1 r2 r4 HD
            generalize isVal f = vb at *
            cases vb with
            | false =>
              have e1 : plainFrom ⟨xo, xd, xs, xt, xn, xp, xm, xw, xe, xc, xi⟩ fs (startIn xo xe) = plainFrom ⟨xo, xd, xs, xt, xn, xp, xm, xw, xe, xc, xi⟩ (fs.drop (k + 1)) (setZ y f.kind nv) := HA.out
              have e2 : numsB ⟨xo, xd, xs, xt, xn, xp, xm, xw, xe, xc, xi⟩ fs = numsB ⟨xo, xd, xs, xt, xn, xp, xm, xw, xe, xc, xi⟩ (fs.drop (k + 1)) := HB.out
              have E1 := Lib.hid e1
              have E2 := Lib.hid e2
              clear e1 e2
              go_wp2
              go_roundw
              case rel => exact ⟨k + 1, _, by omega, by go_num, E1.out.symm, E2.out.symm, I4.out, N4.out⟩
              case measure => simp [intOf]; omega
            | true =>
              have e1 : plainFrom ⟨xo, xd, xs, xt, xn, xp, xm, xw, xe, xc, xi⟩ fs (startIn xo xe) = plainFrom ⟨xo, xd, xs, xt, xn, xp, xm, xw, xe, xc, xi⟩ (fs.drop (k + 1)) { y with imm := xi } := HA.out
              have e2 : numsB ⟨xo, xd, xs, xt, xn, xp, xm, xw, xe, xc, xi⟩ fs = numsB ⟨xo, xd, xs, xt, xn, xp, xm, xw, xe, xc, xi⟩ (fs.drop (k + 1)) := HB.out
              have E1 := Lib.hid e1
              have E2 := Lib.hid e2
              have e3 : setZ y f.kind nv = y := HV.out rfl
              have hi5 := I4.out
              rewrite [e3] at hi5
              have I5 := Lib.hid (in_putImm hi5 xi)
              have N5 := Lib.hid (Below.setCell N4.out (p := ⟨w2.heap.size, 10, none⟩) hzw (.int .i64 xi))
              obtain ⟨d0, d1, d2, d3, d4, d5, d6, d7, d8, d9, d10⟩ := in_cells hi5
              have fz := free_of_lit hi5
              have hlP := heap_lt hi5
              have hx4 := N4.out.heap K2.out.own.in_
              obtain ⟨a0, a1, a2, a3, a4, a5, a6, a7, a8, a9, a10⟩ := in_cells hx4
              have hlx := heap_lt hx4
              clear e1 e2 e3 hi5 hx4
              go_wp2
              go_roundw
              case rel => exact ⟨k + 1, _, by omega, by go_num, E1.out.symm, E2.out.symm, I5.out, N5.out⟩
              case measure => simp [intOf]; omega
          · have e1 : rb = false := by
              have hv : isVal f = false := by
                cases hv : isVal f with
                | false => rfl
                | true => have := HD.out.2.2.1 hv; omega
              rw [HE.out, HD.out.2.1, hv, decide_eq_false hlt]
              rfl
            obtain rfl := e1
            go_wp2_with (fail)
            refine (hpw.out _).mono ?_
            rintro e u2 ⟨rfl, rfl⟩
            go_wp2
            go_ret
            exact ⟨rfl, Made.trans K2.out.own.made M1.out⟩
        · obtain rfl : k = fs.length := by omega
          rewrite [List.drop_length] at hat han
          have e1 : y = plainFrom ⟨xo, xd, xs, xt, xn, xp, xm, xw, xe, xc, xi⟩ fs (startIn xo xe) := hat
          have e2 : numsB ⟨xo, xd, xs, xt, xn, xp, xm, xw, xe, xc, xi⟩ fs = true := han.symm
          have hE : rb = (decide (y = ⟨xo, xd, xs, xt, xn, xp, xm, xw, xe, xc, xi⟩) && decide (xm ≤ 4) && !(xm == 0 && xp != 0 && xo != 14) && endB ⟨xo, xd, xs, xt, xn, xp, xm, xw, xe, xc, xi⟩) := by rw [HE.out, e2, ← e1]; rfl
          have hop := run_in_neq2 y ⟨xo, xd, xs, xt, xn, xp, xm, xw, xe, xc, xi⟩
          obtain ⟨dq, hdq⟩ : ∃ d, d = decide (y = ⟨xo, xd, xs, xt, xn, xp, xm, xw, xe, xc, xi⟩) := ⟨_, rfl⟩
          rewrite [← hdq] at hE hop
          have HE2 := Lib.hid hE
          obtain ⟨d0, d1, d2, d3, d4, d5, d6, d7, d8, d9, d10⟩ := in_cells hin
          obtain ⟨a0, a1, a2, a3, a4, a5, a6, a7, a8, a9, a10⟩ := in_cells hinx
          clear hat han e1 e2 hE hdq HE hin hinx hwr
          have KO := Lib.hid (show Own W w.heap.size ⟨xo, xd, xs, xt, xn, xp, xm, xw, xe, xc, xi⟩ wr from ⟨Made.trans K2.out.own.made HW.out, HIX.out⟩)
          go_upto_region 14 with (fail)
          go_cut [94] from 72 to 94 (fun g wc => g = .bool (!(dq && decide (xm ≤ 4) && !(xm == 0 && xp != 0 && xo != 14))) ∧ Own W w.heap.size ⟨xo, xd, xs, xt, xn, xp, xm, xw, xe, xc, xi⟩ wc)
          case first =>
            cases dq with
            | false =>
              go_wp2
              go_meet
              case rel => exact ⟨by simp, KO.out⟩
            | true =>
              by_cases h4 : xm ≤ 4
              · have hd4 : decide (4 < xm) = false := decide_eq_false (by omega)
                cases hb0 : (xm == 0) with
                | false =>
                  go_wp2
                  go_meet
                  case rel => exact ⟨by simp [h4, hb0], KO.out⟩
                | true =>
                  cases hb1 : (xp != 0) with
                  | false =>
                    go_wp2
                    go_meet
                    case rel => exact ⟨by simp [h4, hb0, hb1], KO.out⟩
                  | true =>
                    cases hb2 : (xo != 14)
                    all_goals
                      go_wp2
                      go_meet
                      case rel => exact ⟨by simp [h4, hb0, hb1, hb2], KO.out⟩
              · go_wp2
                go_meet
                case rel => exact ⟨by simp [h4], KO.out⟩
          case rest =>
            obtain ⟨rfl, hO⟩ := hcut
            generalize wc = z0 at *
            have KA := Lib.hid hO
            clear hO d0 d1 d2 d3 d4 d5 d6 d7 d8 d9 d10 a0 a1 a2 a3 a4 a5 a6 a7 a8 a9 a10 hlP hlx hop
            generalize (dq && decide (xm ≤ 4) && !(xm == 0 && xp != 0 && xo != 14)) = gq at *
            cases gq with
            | false =>
              obtain rfl : rb = false := HE2.out
              go_wp2
              go_ret
              exact ⟨rfl, KA.out.made⟩
            | true =>
              have e5 : rb = endB ⟨xo, xd, xs, xt, xn, xp, xm, xw, xe, xc, xi⟩ := HE2.out
              have HF := Lib.hid e5
              clear e5 HE2
              have p32 : Still Tryz.prog 46 #[.int .i64 32] (.int .i64 4294967296) := power_any 32 (by decide) (by decide)
              have p31 : Still Tryz.prog 46 #[.int .i64 31] (.int .i64 2147483648) := power_any 31 (by decide) (by decide)
              have P32 := Lib.hid p32
              have P31 := Lib.hid p31
              clear p32 p31
              obtain ⟨a0, a1, a2, a3, a4, a5, a6, a7, a8, a9, a10⟩ := in_cells KA.out.in_
              have hl := heap_lt KA.out.in_
              go_wp2_with (fail)
              refine (C1.out _ _ (Made.refl _)).mono ?_
              rintro e z1 ⟨rfl, h1⟩
              have KB := Lib.hid (KA.out.next h1)
              clear h1 a0 a1 a2 a3 a4 a5 a6 a7 a8 a9 a10 hl
              go_upto_region 17 with (fail)
              refine name_world (fun v => Own W w.heap.size ⟨xo, xd, xs, xt, xn, xp, xm, xw, xe, xc, xi⟩ v ∧ v.heap[z1.heap.size]? = some (.cells #[.int .i64 (vF xo).bits, .int .i64 (vF xo).shift, .bool (vF xo).sg, .bool (mayZ xo), .bool ((vF xo).kind == 10)] 78 (0, 0))) ⟨KB.out.next ((Made.refl _).alloc (Nat.le_refl _) _), heap_alloc_new z1 _⟩ ?_
              rintro z2 ⟨hk2, hf2⟩
              have KC := Lib.hid hk2
              obtain ⟨f0, f1, f2, f3, f4⟩ := row_cells hf2
              have hlf := heap_lt hf2
              obtain ⟨a0, a1, a2, a3, a4, a5, a6, a7, a8, a9, a10⟩ := in_cells hk2.in_
              have hl := heap_lt hk2.in_
              clear hk2 hf2
              have hen : endB ⟨xo, xd, xs, xt, xn, xp, xm, xw, xe, xc, xi⟩ = if (vF xo).kind = 10 then decide (0 ≤ xi) && decide (xi < 4294967296) && decide (xi % 4 = 0) else if xe then decide (-2147483648 ≤ xi) && decide (xi < 2147483648) else fitP ⟨xo, xd, xs, xt, xn, xp, xm, xw, xe, xc, xi⟩ 0 := rfl
              rewrite [hen] at HF
              clear hen
              have g10 := fun d os => cell_regrown a10 d os
              by_cases hk : (vF xo).kind = 10
              · rewrite [if_pos hk] at HF
                have hkb : ((vF xo).kind == 10) = true := beq_iff_eq.2 hk
                clear hk
                by_cases h0 : 0 ≤ xi
                · have hd0 : decide (0 ≤ xi) = true := decide_eq_true h0
                  have htm : xi.tmod 4 = xi % 4 := Int.tmod_eq_emod_of_nonneg h0
                  obtain ⟨r, hr⟩ : ∃ r, r = xi % 4 := ⟨_, rfl⟩
                  rewrite [← hr] at htm HF
                  have HF2 := Lib.hid HF.out
                  clear hr HF
                  have hlt2 : decide (xi < 4294967296) = true ∨ decide (xi < 4294967296) = false := by cases decide (xi < 4294967296) <;> simp
                  rcases hlt2 with hd1 | hd1
                  · go_upto_region 18 with (fail)
                    refine wp_region_quiet_below (by kernel_rfl) (by kernel_rfl) ?_
                    repeat (go_big_quiet_step ((go_at_call 46; exact (P32.out.makes z2).again _ _)))
                    refine wpQuiet_nil ?_
                    intro u5 hw9
                    have M5 := Lib.hid (Made.trans KC.out.made (made_regrown hw9))
                    go_wp2
                    go_ret
                    exact ⟨ret_bool (by rw [HF2.out, hd0, hd1]; simp; rfl), M5.out⟩
                  · go_upto_region 18 with (fail)
                    refine wp_region_quiet_below (by kernel_rfl) (by kernel_rfl) ?_
                    repeat (go_big_quiet_step ((go_at_call 46; exact (P32.out.makes z2).again _ _)))
                    refine wpQuiet_nil ?_
                    intro u5 hw9
                    have M5 := Lib.hid (Made.trans KC.out.made (made_regrown hw9))
                    go_wp2
                    go_ret
                    exact ⟨ret_bool (by rw [HF2.out, hd0, hd1]; simp), M5.out⟩
                · have hd0 : decide (0 ≤ xi) = false := decide_eq_false h0
                  go_upto_region 18 with (fail)
                  refine wp_region_quiet_below (by kernel_rfl) (by kernel_rfl) ?_
                  repeat (go_big_quiet_step ((go_at_call 46; exact (P32.out.makes z2).again _ _)))
                  refine wpQuiet_nil ?_
                  intro u5 hw9
                  have M5 := Lib.hid (Made.trans KC.out.made (made_regrown hw9))
                  go_wp2
                  go_ret
                  exact ⟨ret_bool (by rw [HF.out, hd0]; simp), M5.out⟩
              · rewrite [if_neg hk] at HF
                have hkb : ((vF xo).kind == 10) = false := beq_eq_false_iff_ne.2 hk
                clear hk
                cases xe with
                | true =>
                  have hE2 : rb = (decide (-2147483648 ≤ xi) && decide (xi < 2147483648)) := HF.out
                  have HF2 := Lib.hid hE2
                  clear hE2 HF
                  have hlt1 : decide (-2147483648 ≤ xi) = true ∨ decide (-2147483648 ≤ xi) = false := by cases decide (-2147483648 ≤ xi) <;> simp
                  rcases hlt1 with hd0 | hd0
                  all_goals
                    go_upto_region 20 with (fail)
                    refine wp_region_quiet_below (by kernel_rfl) (by kernel_rfl) ?_
                    repeat (go_big_quiet_step ((go_at_call 46; exact (P31.out.makes z2).again _ _)))
                    refine wpQuiet_nil ?_
                    intro u5 hw9
                    have M5 := Lib.hid (Made.trans KC.out.made (made_regrown hw9))
                    go_wp2
                    go_ret
                    exact ⟨ret_bool (by rw [HF2.out, hd0]; simp), M5.out⟩
                | false =>
                  have hE2 : rb = fitP ⟨xo, xd, xs, xt, xn, xp, xm, xw, false, xc, xi⟩ 0 := HF.out
                  have HF2 := Lib.hid hE2
                  clear hE2 HF
                  go_wp2_with (fail)
                  refine (hfit.out z2 _ (Made.refl _)).mono ?_
                  rintro e z3 ⟨rfl, h3⟩
                  have M5 := Lib.hid (Made.trans KC.out.made h3)
                  clear h3
                  go_wp2
                  go_ret
                  exact ⟨ret_bool HF2.out.symm, M5.out⟩
end
end
section
set_option maxRecDepth 100000
open Go.ChangeShapes Go.WideShapes Go.ChangeAt Go.RowKit Go.Sort BigFrame

theorem up_eq {x : In} (h : x.small) {pc : Int} (hs : sayB x pc = true) : upP x pc = uppZ x pc := by
  have hs' := hs
  unfold sayB at hs'
  simp only [Bool.and_eq_true] at hs'
  have R := right_ok h hs'.1
  unfold upP
  rw [hs, if_pos rfl, upFrom_eq]
  cases he : x.ext with
  | true =>
    have hm := R.may he
    unfold mayZ at hm
    simp only [Bool.and_eq_true] at hm
    obtain ⟨m1, m2⟩ := vF_mem R.op hm.1
    rw [any_val m1 m2, if_pos rfl]
  | false =>
    have : uppZ x pc = 0 := by unfold uppZ; rw [he]; rfl
    rw [this]
    split <;> rfl
/-- What the value field of a word holds, as the document reckons it. -/
theorem val_held {x : In} {f : Fd} (pc : Int) (hf : f = vF x.op ∧ vB x.op = true) (hl : f = fI14 ∨ f = fI122 ∨ f = fI121 ∨ f = fI12 ∨ f = fU5 ∨ f = fR19 ∨ f = fR24 ∨ f = fR12) (hx : ValOk f x) (hs : x.ext = false → fitP x pc = true) :
    (x.ext = true → valueP x pc % 4294967296 % 256 = splitZ f x pc % 2 ^ f.bits.toNat) ∧
    (x.ext = false → (valueP x pc).tdiv (2 ^ f.shift.toNat) = valueP x pc / 2 ^ f.shift.toNat ∧ (valueP x pc / 2 ^ f.shift.toNat < 0 → valueP x pc / 2 ^ f.shift.toNat + 2 ^ f.bits.toNat = splitZ f x pc % 2 ^ f.bits.toNat) ∧
      (0 ≤ valueP x pc / 2 ^ f.shift.toNat → valueP x pc / 2 ^ f.shift.toNat = splitZ f x pc % 2 ^ f.bits.toNat) ∧ -16777216 ≤ valueP x pc / 2 ^ f.shift.toNat ∧ valueP x pc / 2 ^ f.shift.toNat ≤ 16777216) := by
  obtain ⟨hv, hfit⟩ := value_at hf pc
  have h3 := hx.may
  rw [hfit] at hs
  unfold splitZ
  rw [hv]
  refine ⟨fun he => ?_, fun he => ?_⟩
  · rw [he, if_pos rfl]
    have h3' := h3 he
    have k : 0 ≤ lowerZ (valZ f x pc) ∧ lowerZ (valZ f x pc) < 256 := by unfold lowerZ; omega
    have e : valZ f x pc % 4294967296 % 256 = lowerZ (valZ f x pc) := by unfold lowerZ; omega
    rw [e]
    rcases hl with rfl | rfl | rfl | rfl | rfl | rfl | rfl | rfl
    case inr.inr.inr.inr.inl => cases h3'
    all_goals
      generalize lowerZ _ = l at *
      exact (Int.emod_eq_of_lt k.1 (Int.lt_of_lt_of_le k.2 (by decide))).symm
  · rw [he, if_neg (by decide)]
    have hfit := hs he
    unfold fitZ at hfit
    generalize valZ f x pc = v at *
    have hl2 : f = ⟨9, 14, 0, true, true⟩ ∨ f = ⟨9, 12, 2, true, true⟩ ∨ f = ⟨9, 12, 1, true, true⟩ ∨ f = ⟨9, 12, 0, true, true⟩ ∨ f = ⟨9, 5, 0, false, false⟩ ∨ f = ⟨10, 19, 2, true, true⟩ ∨ f = ⟨10, 24, 2, true, true⟩ ∨ f = ⟨10, 12, 2, true, true⟩ := hl
    have key : ∀ m : Int, 0 < m → v % m = 0 → v.tdiv m = v / m := fun m hm h0 => by
      obtain ⟨q, rfl⟩ := Int.dvd_of_emod_eq_zero h0
      rw [Int.mul_tdiv_cancel_left _ (by omega), Int.mul_ediv_cancel_left _ (by omega)]
    rcases hl2 with rfl | rfl | rfl | rfl | rfl | rfl | rfl | rfl
    all_goals
      unfold fitsB at hfit
      dsimp only at hfit ⊢
      simp at hfit ⊢
      first
        | (refine ⟨key 4 (by decide) (by omega), ?_, ?_, ?_, ?_⟩ <;> omega)
        | (refine ⟨key 2 (by decide) (by omega), ?_, ?_, ?_, ?_⟩ <;> omega)
        | (refine ⟨?_, ?_, ?_, ?_⟩ <;> omega)
/-- A round's step of the payload. -/
theorem pay_step (p v : Int) (l b : Nat) (hl : l + b ≤ 24) (h0 : p % 2 ^ (b + l) = 0) (hu : p + 2 ^ (b + l) ≤ 16777216) :
    putZ p l b v = p + v % 2 ^ b * 2 ^ l ∧ (p + v % 2 ^ b * 2 ^ l) % 2 ^ l = 0 ∧ 0 ≤ v % 2 ^ b * 2 ^ l ∧ p + v % 2 ^ b * 2 ^ l + 2 ^ l ≤ 16777216 := by
  have e := put_zeros p v l b hl h0
  have hh0 := Int.emod_nonneg v (Int.ne_of_gt (ipow_pos b))
  have hh1 := Int.emod_lt_of_pos v (ipow_pos b)
  have hpp : p / 2 ^ (b + l) * 2 ^ (b + l) = p := by
    have := Int.mul_ediv_add_emod p (2 ^ (b + l))
    rw [h0, Int.add_zero, Int.mul_comm] at this
    exact this
  have e2 : putZ p l b v = p + v % 2 ^ b * 2 ^ l := by
    rw [e, Int.add_mul, Int.mul_assoc, ← Int.pow_add, hpp]
  have hmul : v % 2 ^ b * 2 ^ l + 2 ^ l ≤ 2 ^ (b + l) := by
    have := Int.mul_le_mul_of_nonneg_right (show v % 2 ^ b + 1 ≤ 2 ^ b by omega) (Int.le_of_lt (ipow_pos l))
    rw [Int.add_mul, Int.one_mul, ← Int.pow_add] at this
    exact this
  refine ⟨e2, ?_, Int.mul_nonneg hh0 (Int.le_of_lt (ipow_pos l)), by omega⟩
  rw [← e2, e, Int.mul_emod_left]
theorem pay_stepI (p v low n : Int) (hb : 1 ≤ n) (hl : n ≤ low) (h24 : low ≤ 24) (h0 : p % 2 ^ low.toNat = 0) (hu : p + 2 ^ low.toNat ≤ 16777216) :
    putZ p (low - n) n v = p + v % 2 ^ n.toNat * 2 ^ (low - n).toNat ∧ (p + v % 2 ^ n.toNat * 2 ^ (low - n).toNat) % 2 ^ (low - n).toNat = 0 ∧ 0 ≤ v % 2 ^ n.toNat * 2 ^ (low - n).toNat ∧ p + v % 2 ^ n.toNat * 2 ^ (low - n).toNat + 2 ^ (low - n).toNat ≤ 16777216 := by
  obtain ⟨b, rfl⟩ := Int.eq_ofNat_of_zero_le (show 0 ≤ n by omega)
  obtain ⟨c, rfl⟩ := Int.eq_ofNat_of_zero_le (show 0 ≤ low by omega)
  obtain ⟨l, rfl⟩ : ∃ l, c = b + l := ⟨c - b, by omega⟩
  have e : ((b + l : Nat) : Int) - (b : Int) = (l : Int) := by omega
  rw [e]
  simp only [Int.toNat_natCast] at h0 hu ⊢
  exact pay_step p v l b (by omega) h0 hu
theorem sum_drop (l : List Fd) (k : Nat) (h : k < l.length) : sumB (l.drop k) = l[k].bits.toNat + sumB (l.drop (k + 1)) := by
  rw [List.drop_eq_getElem_cons h]; rfl
section
attribute [local irreducible] World.cell?
set_option maxRecDepth 100000 in
set_option maxHeartbeats 8000000 in
theorem refWord6_any (W : World) (x : In) (hx : x.small) (pc : Int) (hp : isU32 pc) : Makes Tryz.prog W 51 #[x.val, .int .u32 pc] (.tuple #[.int .u32 (wordP x pc), .int .u32 (upP x pc), .bool (sayB x pc)]) := by
  intro w hm
  have hz := hm.size
  have K0 := Lib.hid (show Own W w.heap.size x (w.alloc (.cells x.cells.toArray 40)) from ⟨hm.alloc hz _, heap_alloc_new w _⟩)
  have hR := Lib.hid (fun u => refRight6_any u x hx)
  have hF := Lib.hid (fun u => refFits5_any u x hx pc hp)
  have hV := Lib.hid (fun u => refValue_any u x pc hp)
  have hLow := Lib.hid (refLow_any (valueP x pc))
  have hps := Lib.hid (fun u => pieces_any u x.op u (Made.refl u))
  have hOf := fun u => refOf_any u x.op
  rewrite [(vf_op x.op).2] at hOf
  have C1 := Lib.hid hOf
  have hget := Lib.hid (fun u k h0 h1 => refGet6_any u x hx k h0 h1)
  have hop0 := hx.op0
  have hop1 := hx.op1
  have HX := Lib.hid hx
  have hvi := value_i x pc hx
  obtain ⟨wd, hwd⟩ : ∃ v, v = wordP x pc := ⟨_, rfl⟩
  obtain ⟨up, hup⟩ : ∃ v, v = upP x pc := ⟨_, rfl⟩
  obtain ⟨sy, hsy⟩ : ∃ v, v = sayB x pc := ⟨_, rfl⟩
  rewrite [← hwd, ← hup, ← hsy]
  have HE := Lib.hid (show (sy = false → wd = 0 ∧ up = 0) ∧ (sy = true → wd = wordZ x.op (payFrom x pc (fieldsZ x.op) 0 24) 0 ∧ up = uppZ x pc) from
    ⟨fun h => by rw [hwd, hup]; unfold wordP upP; rw [← hsy, h]; exact ⟨rfl, rfl⟩, fun h => ⟨by rw [hwd]; unfold wordP; rw [← hsy, h]; rfl, by rw [hup]; exact up_eq hx (hsy ▸ h)⟩⟩)
  have hright : sy = true → RightOk x := fun h => by
    rw [hsy] at h
    unfold sayB at h
    simp only [Bool.and_eq_true] at h
    exact right_ok hx h.1
  have hsf : sy = true → x.ext = false → fitP x pc = true := fun h he => by
    rw [hsy] at h
    unfold sayB at h
    simp only [Bool.and_eq_true] at h
    have := h.2
    rw [he, Bool.false_or] at this
    exact this
  have HRO := Lib.hid (And.intro hright hsf)
  have hsay : (rightB x = false ∧ sy = false) ∨ (rightB x = true ∧ x.ext = false ∧ fitP x pc = false ∧ sy = false) ∨ (rightB x = true ∧ x.ext = true ∧ sy = true) ∨ (rightB x = true ∧ x.ext = false ∧ fitP x pc = true ∧ sy = true) := by
    rw [hsy]
    unfold sayB
    cases rightB x <;> cases x.ext <;> cases fitP x pc <;> simp
  clear hwd hup hsy hx hright hsf hm hOf hp
  generalize rightB x = rb at *
  obtain ⟨ft, hft⟩ : ∃ b, b = fitP x pc := ⟨_, rfl⟩
  rewrite [← hft] at hF hsay
  clear hft
  obtain ⟨xo, xd, xs, xt, xn, xp, xm, xw, xe, xc, xi⟩ := x
  go_enter Tryz.func51, Tryz.ntmps51
  go_upto_region 1 with (fail)
  go_cut [31] from 18 to 31 (fun g wc => g = .bool (!sy) ∧ Own W w.heap.size ⟨xo, xd, xs, xt, xn, xp, xm, xw, xe, xc, xi⟩ wc)
  case first =>
    go_wp2_with (fail)
    refine (hR.out _ _ (Made.refl _)).mono ?_
    rintro e w1 ⟨rfl, h1⟩
    have K1 := Lib.hid (K0.out.next h1)
    obtain ⟨a0, a1, a2, a3, a4, a5, a6, a7, a8, a9, a10⟩ := in_cells K1.out.in_
    have hl := heap_lt K1.out.in_
    clear h1
    rcases hsay with ⟨rfl, rfl⟩ | ⟨rfl, hxe, rfl, rfl⟩ | ⟨rfl, hxe, rfl⟩ | ⟨rfl, hxe, rfl, rfl⟩
    case inl =>
      go_wp2
      go_meet
      case rel => exact ⟨rfl, K1.out⟩
    case inr.inr.inl =>
      obtain rfl : xe = true := hxe
      go_wp2
      go_meet
      case rel => exact ⟨rfl, K1.out⟩
    all_goals
      obtain rfl : xe = false := hxe
      go_wp2_with (fail)
      refine (hF.out _ _ (Made.refl _)).mono ?_
      rintro e w2 ⟨rfl, h2⟩
      have K2 := Lib.hid (K1.out.next h2)
      clear h2
      go_wp2
      go_meet
      case rel => exact ⟨rfl, K2.out⟩
  case rest =>
    obtain ⟨rfl, hO⟩ := hcut
    generalize wc = w1 at *
    have K1 := Lib.hid hO
    obtain ⟨a0, a1, a2, a3, a4, a5, a6, a7, a8, a9, a10⟩ := in_cells K1.out.in_
    have hl := heap_lt K1.out.in_
    clear hO hsay
    cases sy with
    | false =>
      obtain ⟨rfl, rfl⟩ := HE.out.1 rfl
      go_wp2
      go_ret3
      exact ⟨rfl, K1.out.made⟩
    | true =>
      obtain ⟨E1, E2⟩ := HE.out.2 rfl
      have HW := Lib.hid E1
      have HU := Lib.hid E2
      obtain ⟨Q1, Q2⟩ := HRO.out
      have RO := Lib.hid (Q1 rfl)
      have FO := Lib.hid (Q2 rfl)
      have hisop : isOp xo = true := RO.out.op
      obtain ⟨hsum, -, hok⟩ := list_ok xo hisop
      clear E1 E2 Q1 Q2 HE HRO
      go_wp2_with (fail)
      refine (hps.out _).mono ?_
      intro e w2 h
      obtain ⟨p, cap, fs, hfs, rfl, h2, hh⟩ := isPs_any h
      rewrite [opN_of hisop] at hfs
      have hfs3 : fieldsZ (In.mk xo xd xs xt xn xp xm xw xe xc xi).op = fs := hfs.symm
      have hfs2 : fieldsZ xo = fs := hfs.symm
      rewrite [hfs3] at HW
      rewrite [hfs2] at hok hsum
      have hnums := RO.out.nums
      rewrite [hfs3] at hnums
      have HNU := Lib.hid hnums
      have HK := Lib.hid hok
      have HSU := Lib.hid hsum
      have K2 := Lib.hid (show RAt W w.heap.size ⟨xo, xd, xs, xt, xn, xp, xm, xw, xe, xc, xi⟩ p fs.length cap fs w2 from ⟨K1.out.next h2, hh⟩)
      clear h h2 hh hfs hfs2 hfs3 hok hnums hsum hisop a0 a1 a2 a3 a4 a5 a6 a7 a8 a9 a10 hl
      obtain ⟨a0, a1, a2, a3, a4, a5, a6, a7, a8, a9, a10⟩ := in_cells K2.out.own.in_
      have hl := heap_lt K2.out.own.in_
      go_wp2_with (fail)
      refine (C1.out _ _ (Made.refl _)).mono ?_
      rintro e w3 ⟨rfl, h3⟩
      have K3 := Lib.hid (K2.out.next h3)
      clear h3 a0 a1 a2 a3 a4 a5 a6 a7 a8 a9 a10 hl
      go_upto_region 5 with (fail)
      refine name_world (fun v => RAt W w.heap.size ⟨xo, xd, xs, xt, xn, xp, xm, xw, xe, xc, xi⟩ p fs.length cap fs v ∧ v.heap[w3.heap.size]? = some (.cells #[.int .i64 (vF xo).bits, .int .i64 (vF xo).shift, .bool (vF xo).sg, .bool (mayZ xo), .bool ((vF xo).kind == 10)] 78 (0, 0))) ⟨K3.out.next ((Made.refl _).alloc (Nat.le_refl _) _), heap_alloc_new w3 _⟩ ?_
      rintro w4 ⟨hk4, hf4⟩
      have K4 := Lib.hid hk4
      have F4 := Lib.hid hf4
      obtain ⟨a0, a1, a2, a3, a4, a5, a6, a7, a8, a9, a10⟩ := in_cells hk4.own.in_
      have hl := heap_lt hk4.own.in_
      clear hk4 hf4
      go_wp2_with (fail)
      refine (hV.out _ _ (Made.refl _)).mono ?_
      rintro e w5 ⟨rfl, h5⟩
      have K5 := Lib.hid (K4.out.next h5)
      have F5 := Lib.hid (h5.heap F4.out)
      clear h5 a0 a1 a2 a3 a4 a5 a6 a7 a8 a9 a10 hl
      go_wp2_with (fail)
      refine (hLow.out _).mono ?_
      rintro e w6 ⟨rfl, rfl⟩
      obtain ⟨-, hcell⟩ := K5.out.holds
      have HC := Lib.hid hcell
      clear hcell
      obtain ⟨V, hVV⟩ : ∃ v, v = valueP ⟨xo, xd, xs, xt, xn, xp, xm, xw, xe, xc, xi⟩ pc := ⟨_, rfl⟩
      have HVV := Lib.hid hVV
      rewrite [← hVV] at hvi ⊢
      clear hVV
      obtain ⟨V0, V1⟩ := hvi
      have hm0 : 0 ≤ V % 4294967296 ∧ V % 4294967296 < 4294967296 := by omega
      obtain ⟨hm1, hm2⟩ := hm0
      go_wp2_with (fail)
      go_loopw [13, 14, 15] (fun pz lz i wr => ∃ (k : Nat) (pay low : Int), k ≤ fs.length ∧ i = .int .i64 k ∧ pz = .int .i64 pay ∧ lz = .int .i64 low ∧ payFrom ⟨xo, xd, xs, xt, xn, xp, xm, xw, xe, xc, xi⟩ pc (fs.drop k) pay low = payFrom ⟨xo, xd, xs, xt, xn, xp, xm, xw, xe, xc, xi⟩ pc fs 0 24 ∧
          pay % 2 ^ low.toNat = 0 ∧ 0 ≤ pay ∧ pay + 2 ^ low.toNat ≤ 16777216 ∧ (sumB (fs.drop k) : Int) ≤ low ∧ low ≤ 24 ∧ Made w5 wr) (fun _ _ i _ => fs.length - (intOf i).toNat)
      case atStart => exact ⟨0, 0, 24, Nat.zero_le _, rfl, rfl, rfl, rfl, rfl, by decide, by decide, by have := HSU.out; rw [List.drop_zero]; omega, by decide, Made.refl w5⟩
      case round =>
        obtain ⟨k, pay, low, hk, rfl, rfl, rfl, hat, hp0, hp1, hp2, hlo, hhi, hwr⟩ := hrel
        have HWR := Lib.hid hwr
        by_cases hlt2 : k < fs.length
        · rcases HC.out with rfl | ⟨b, rfl, hb, hnc, hcm, hce⟩
          · simp at hlt2
          have hbr : b < wr.heap.size := Nat.lt_of_lt_of_le hb HWR.out.size
          have hd := pay_drop ⟨xo, xd, xs, xt, xn, xp, xm, xw, xe, xc, xi⟩ pc fs k hlt2 pay low
          have hsd := sum_drop fs k hlt2
          have hfk := HK.out fs[k] (List.getElem_mem _)
          have hnf := HNU.out fs[k] (List.getElem_mem _)
          have hfl := pieces_at fs k hlt2
          have hce2 := fun (u : World) (hu : Made w5 u) r (hr : r < 2) => (bcell hu).1 b (k * 2 + r) hb ▸ hce (k * 2 + r) (by omega)
          unfold maxLen at hcm
          generalize fs[k] = f at *
          rewrite [hat] at hd
          have hcc : ∀ u : World, Made w5 u → u.cell? ⟨b, k * 2, none⟩ = some (.int .u8 (letterZ f.kind)) ∧ u.cell? ⟨b, k * 2 + 1, none⟩ = some (.int .i64 f.bits) := fun u hu => ⟨(hce2 u hu 0 (by omega)).trans hfl.1, (hce2 u hu 1 (by omega)).trans hfl.2⟩
          have hb1 := hfk.b1
          have hb2 := hfk.b2
          have hs0 := hfk.s0
          have hs1 := hfk.s1
          have hlb : f.bits ≤ low := by omega
          have hst := pay_stepI pay (heldZ f ⟨xo, xd, xs, xt, xn, xp, xm, xw, xe, xc, xi⟩ pc) low f.bits hb1 hlb hhi hp0 hp2
          have hg := Lib.hid ((hget.out wr f.kind hfk.k1 hfk.k2).again)
          have hpb := Lib.hid (power_any f.bits (by omega) (by omega))
          have hpl := Lib.hid (power_any (low - f.bits) (by omega) (by omega))
          have hpc := Lib.hid (power_any f.shift (by omega) (by omega))
          have hvl := val_letter f hfk.k1 hfk.k2
          have hnu := numZ_u32 HX.out f.kind
          have hHN : isVal f = false → heldZ f ⟨xo, xd, xs, xt, xn, xp, xm, xw, xe, xc, xi⟩ pc % 2 ^ f.bits.toNat = numZ ⟨xo, xd, xs, xt, xn, xp, xm, xw, xe, xc, xi⟩ f.kind := fun h => by
            unfold heldZ
            rw [h, if_neg Bool.false_ne_true]
            exact Int.emod_eq_of_lt hnu.1 (hnf h)
          have hHV : isVal f = true → f = vF xo ∧ heldZ f ⟨xo, xd, xs, xt, xn, xp, xm, xw, xe, xc, xi⟩ pc % 2 ^ f.bits.toNat = splitZ f ⟨xo, xd, xs, xt, xn, xp, xm, xw, xe, xc, xi⟩ pc % 2 ^ f.bits.toNat ∧ (xe = true → V % 4294967296 % 256 = splitZ f ⟨xo, xd, xs, xt, xn, xp, xm, xw, xe, xc, xi⟩ pc % 2 ^ f.bits.toNat) ∧ (xe = false → V.tdiv (2 ^ f.shift.toNat) = V / 2 ^ f.shift.toNat ∧ (V / 2 ^ f.shift.toNat < 0 → V / 2 ^ f.shift.toNat + 2 ^ f.bits.toNat = splitZ f ⟨xo, xd, xs, xt, xn, xp, xm, xw, xe, xc, xi⟩ pc % 2 ^ f.bits.toNat) ∧
              (0 ≤ V / 2 ^ f.shift.toNat → V / 2 ^ f.shift.toNat = splitZ f ⟨xo, xd, xs, xt, xn, xp, xm, xw, xe, xc, xi⟩ pc % 2 ^ f.bits.toNat) ∧ -16777216 ≤ V / 2 ^ f.shift.toNat ∧ V / 2 ^ f.shift.toNat ≤ 16777216) := fun h => by
            have hvf := hfk.vf h
            have hval : ValOk f ⟨xo, xd, xs, xt, xn, xp, xm, xw, xe, xc, xi⟩ := by rw [hvf.1]; exact RO.out.val
            have := val_held pc hvf (hfk.lit h) hval FO.out
            rw [← HVV.out] at this
            exact ⟨hvf.1, by unfold heldZ; rw [h, if_pos rfl], this.1, this.2⟩
          have hp2 := pow_le_of f.bits.toNat (by omega)
          have hp3 := pow_le_of f.shift.toNat (by omega)
          have hp4 := pow_le_of (low - f.bits).toNat (by omega)
          have hh0 := Int.emod_nonneg (heldZ f ⟨xo, xd, xs, xt, xn, xp, xm, xw, xe, xc, xi⟩ pc) (show (2 : Int) ^ f.bits.toNat ≠ 0 by omega)
          have hh1 := Int.emod_lt_of_pos (heldZ f ⟨xo, xd, xs, xt, xn, xp, xm, xw, xe, xc, xi⟩ pc) (show (0 : Int) < 2 ^ f.bits.toNat by omega)
          rewrite [hst.1] at hd
          obtain ⟨-, hs3, hs4, hs5⟩ := hst
          have HCC := Lib.hid hcc
          have HD := Lib.hid hd
          have HS1 := Lib.hid hs3
          have HHN := Lib.hid hHN
          have HHV := Lib.hid hHV
          have hki : (k : Int) < fs.length := by omega
          clear hce hce2 hcc hfl hat hd hfk hnf hs3 hHN hHV hp0 hwr
          obtain ⟨hn0, hn1⟩ := hnu
          obtain ⟨hp5, hp6⟩ := hp2
          obtain ⟨hp7, hp8⟩ := hp3
          obtain ⟨hp9, hp10⟩ := hp4
          generalize splitZ f ⟨xo, xd, xs, xt, xn, xp, xm, xw, xe, xc, xi⟩ pc = sz at *
          generalize heldZ f ⟨xo, xd, xs, xt, xn, xp, xm, xw, xe, xc, xi⟩ pc = hz1 at *
          generalize numZ ⟨xo, xd, xs, xt, xn, xp, xm, xw, xe, xc, xi⟩ f.kind = nv at *
          generalize letterZ f.kind = lt at *
          generalize (2 : Int) ^ f.bits.toNat = pw at *
          generalize hmm : (2 : Int) ^ (low - f.bits).toNat = mm at *
          have HM := Lib.hid hmm
          clear hmm
          generalize hz1 % pw = hv at *
          obtain ⟨c0, c1⟩ := HCC.out wr HWR.out
          have hinx := HWR.out.heap K5.out.own.in_
          obtain ⟨a0, a1, a2, a3, a4, a5, a6, a7, a8, a9, a10⟩ := in_cells hinx
          clear hinx
          have g0 := fun d os => cell_regrown a0 d os
          have g1 := fun d os => cell_regrown a1 d os
          have g2 := fun d os => cell_regrown a2 d os
          have g3 := fun d os => cell_regrown a3 d os
          have g4 := fun d os => cell_regrown a4 d os
          have g5 := fun d os => cell_regrown a5 d os
          have g6 := fun d os => cell_regrown a6 d os
          have g7 := fun d os => cell_regrown a7 d os
          have g8 := fun d os => cell_regrown a8 d os
          have g9 := fun d os => cell_regrown a9 d os
          have g10 := fun d os => cell_regrown a10 d os
          have e0 := fun d os => cell_regrown c0 d os
          go_upto_region 12 with (fail)
          refine wp_region_quiet_below (by kernel_rfl) (by kernel_rfl) ?_
          repeat (go_big_quiet_step ((go_at_call 78; exact hg.out _ _)))
          refine wpQuiet_nil ?_
          intro u1 hw9
          have M1 := Lib.hid (Made.trans HWR.out (made_regrown hw9))
          clear hw9 g0 g1 g2 g3 g4 g5 g6 g7 g8 g9 g10 e0 a0 a1 a2 a3 a4 a5 a6 a7 a8 a9 a10 c0 c1
          obtain ⟨c0, c1⟩ := HCC.out u1 M1.out
          have hbu : b < u1.heap.size := Nat.lt_of_lt_of_le hb M1.out.size
          have hinx := M1.out.heap K5.out.own.in_
          have a8 := (in_cells hinx).2.2.2.2.2.2.2.2.1
          have hlx := heap_lt hinx
          obtain ⟨f0, f1, f2, f3, f4⟩ := row_cells (M1.out.heap F5.out)
          have hlf := heap_lt (M1.out.heap F5.out)
          clear hinx
          cases hvb : isVal f with
          | false =>
            rewrite [hvb] at hvl
            obtain rfl : hv = nv := HHN.out hvb
            clear hvb
            go_wp2_with (fail)
            refine (hpl.out _).mono ?_
            rintro e z9 ⟨rfl, rfl⟩
            go_wp2
            go_roundw
            case rel => exact ⟨k + 1, _, _, by omega, by go_num, rfl, rfl, HD.out.symm, by rw [HM.out]; exact HS1.out, by omega, by rw [HM.out]; omega, by omega, by omega, M1.out⟩
            case measure => simp [intOf]; omega
          | true =>
            rewrite [hvb] at hvl
            obtain ⟨hfv, hsz, hx1, hx2⟩ := HHV.out hvb
            rewrite [← hsz] at hx1 hx2
            clear hsz hvb
            cases xe with
            | true =>
              have hx3 := hx1 rfl
              clear hx1 hx2 hfv
              have ht : (V % 4294967296).tmod 256 = hv := (Int.tmod_eq_emod_of_nonneg hm1).trans hx3
              clear hx3
              go_wp2_with (fail)
              refine (hpl.out _).mono ?_
              rintro e z9 ⟨rfl, rfl⟩
              go_wp2
              go_roundw
              case rel => exact ⟨k + 1, _, _, by omega, by go_num, rfl, rfl, HD.out.symm, by rw [HM.out]; exact HS1.out, by omega, by rw [HM.out]; omega, by omega, by omega, M1.out⟩
              case measure => simp [intOf]; omega
            | false =>
              have hx3 := hx2 rfl
              clear hx1 hx2
              rewrite [← hfv] at f1
              clear hfv
              generalize (2 : Int) ^ f.shift.toNat = ps at *
              generalize V / ps = Q at *
              obtain ⟨ht, hq1, hq2, hq3, hq4⟩ := hx3
              by_cases hq : Q < 0
              · have hx4 := hq1 hq
                clear hq1 hq2
                obtain rfl : hv = Q + pw := hx4.symm
                go_wp2_with (fail)
                refine (hpc.out _).mono ?_
                rintro e z7 ⟨rfl, rfl⟩
                go_wp2_with (fail)
                refine (hpb.out _).mono ?_
                rintro e z8 ⟨rfl, rfl⟩
                go_wp2_with (fail)
                refine (hpl.out _).mono ?_
                rintro e z9 ⟨rfl, rfl⟩
                go_wp2
                go_roundw
                case rel => exact ⟨k + 1, _, _, by omega, by go_num, rfl, rfl, HD.out.symm, by rw [HM.out]; exact HS1.out, by omega, by rw [HM.out]; omega, by omega, by omega, M1.out⟩
                case measure => simp [intOf]; omega
              · have hx4 := hq2 (by omega)
                clear hq1 hq2
                obtain rfl : hv = Q := hx4.symm
                go_wp2_with (fail)
                refine (hpc.out _).mono ?_
                rintro e z7 ⟨rfl, rfl⟩
                go_wp2_with (fail)
                refine (hpl.out _).mono ?_
                rintro e z9 ⟨rfl, rfl⟩
                go_wp2
                go_roundw
                case rel => exact ⟨k + 1, _, _, by omega, by go_num, rfl, rfl, HD.out.symm, by rw [HM.out]; exact HS1.out, by omega, by rw [HM.out]; omega, by omega, by omega, M1.out⟩
                case measure => simp [intOf]; omega
        · obtain rfl : k = fs.length := by omega
          rewrite [List.drop_length] at hat
          have e1 : pay = payFrom ⟨xo, xd, xs, xt, xn, xp, xm, xw, xe, xc, xi⟩ pc fs 0 24 := hat
          have hpos := ipow_pos low.toNat
          have hpm : pay < 16777216 := by omega
          have hwz := Lib.hid (refWord_any xo pay 0 ⟨hop0, by have : xo ≤ 255 := hop1; omega⟩ ⟨hp1, by omega⟩ ⟨by decide, by decide⟩)
          have e2 : wd = wordZ xo pay 0 := by rw [HW.out, e1]
          have e3 : up = if xe then V % 4294967296 / 256 else 0 := by
            rw [HU.out]
            unfold uppZ upperZ
            rw [← HVV.out]
            cases xe with
            | false => rfl
            | true =>
              show V / 256 % 16777216 = V % 4294967296 / 256
              omega
          have E2 := Lib.hid e2
          have E3 := Lib.hid e3
          have hinx := HWR.out.heap K5.out.own.in_
          obtain ⟨a0, a1, a2, a3, a4, a5, a6, a7, a8, a9, a10⟩ := in_cells hinx
          have hlx := heap_lt hinx
          have hdv : (V % 4294967296).tdiv 256 = V % 4294967296 / 256 := Int.tdiv_eq_ediv_of_nonneg hm1
          have hq0 : 0 ≤ V % 4294967296 / 256 := by omega
          have hq1 : V % 4294967296 / 256 < 4294967296 := by omega
          clear hat e1 e2 e3 hinx hwr hp0 hp2 hpos
          cases xe with
          | false =>
            obtain rfl : up = 0 := E3.out
            go_wp2_with (fail)
            refine (hwz.out _).mono ?_
            rintro e z1 ⟨rfl, rfl⟩
            go_wp2
            go_ret3
            obtain rfl := E2.out
            exact ⟨rfl, Made.trans K5.out.own.made HWR.out⟩
          | true =>
            obtain rfl : up = V % 4294967296 / 256 := E3.out
            go_wp2_with (fail)
            refine (hwz.out _).mono ?_
            rintro e z1 ⟨rfl, rfl⟩
            go_wp2
            go_ret3
            obtain rfl := E2.out
            exact ⟨rfl, Made.trans K5.out.own.made HWR.out⟩
end
end
end Go.Proofs.YtanjmoiepmadhaaGreatDoor
