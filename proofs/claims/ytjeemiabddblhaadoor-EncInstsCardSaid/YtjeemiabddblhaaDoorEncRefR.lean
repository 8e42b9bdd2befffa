/- What Right of the document's answer returns, for every instruction. -/
import Derived.Test.YtjeemiabddblhaaDoorEncRefP
import Derived.Test.YtjeemiabddblhaaDoorInstEq
namespace Go.Proofs.YtjeemiabddblhaaDoor
open Go.ChangeShapes Go.WideShapes Go.ChangeAt Go.RowKit Go.Sort BigFrame

theorem pieces_at (l : List Fd) (k : Nat) (h : k < l.length) : (flatP l)[k * 2]? = some (.int .u8 (letterZ l[k].kind)) ∧ (flatP l)[k * 2 + 1]? = some (.int .i64 l[k].bits) := by
  induction l generalizing k with
  | nil => simp at h
  | cons f r ih =>
    cases k with
    | zero => exact ⟨rfl, rfl⟩
    | succ k =>
      have := ih k (by simpa using h)
      rw [show (k + 1) * 2 = k * 2 + 1 + 1 by omega]
      exact this
theorem plain_drop (x : In) (l : List Fd) (k : Nat) (h : k < l.length) (y : In) : plainFrom x (l.drop k) y = plainFrom x (l.drop (k + 1)) (if isVal l[k] then { y with imm := x.imm } else setZ y l[k].kind (numZ x l[k].kind)) := by
  rw [List.drop_eq_getElem_cons h]; rfl
theorem nums_drop (x : In) (l : List Fd) (k : Nat) (h : k < l.length) : numsB x (l.drop k) = ((isVal l[k] || decide (numZ x l[k].kind < 2 ^ l[k].bits.toNat)) && numsB x (l.drop (k + 1))) := by
  rw [List.drop_eq_getElem_cons h]; rfl
theorem val_num {f : Fd} (x : In) (h : isVal f = true) : numZ x f.kind = 0 := by
  unfold isVal at h
  simp only [Bool.or_eq_true, beq_iff_eq] at h
  rcases h with e | e <;> rw [e] <;> rfl
theorem val_letter (f : Fd) (h0 : 1 ≤ f.kind) (h1 : f.kind ≤ 11) : (letterZ f.kind == 118) = isVal f := by
  unfold isVal
  generalize f.kind = k at *
  have hc : k = 1 ∨ k = 2 ∨ k = 3 ∨ k = 4 ∨ k = 5 ∨ k = 6 ∨ k = 7 ∨ k = 8 ∨ k = 9 ∨ k = 10 ∨ k = 11 := by omega
  rcases hc with rfl | rfl | rfl | rfl | rfl | rfl | rfl | rfl | rfl | rfl | rfl <;> rfl
theorem val_set {f : Fd} (y : In) (v : Int) (h : isVal f = true) : setZ y f.kind v = y := by
  unfold isVal at h
  simp only [Bool.or_eq_true, beq_iff_eq] at h
  rcases h with e | e <;> rw [e] <;> rfl
theorem field5_ext (a b : Int) (c d e : Bool) (w : World) : (Instr.field 56 (.agg #[.int .i64 a, .int .i64 b, .bool c, .bool d, .bool e]) 3).run Tryd.prog w = .ok (.bool d) w := by kernel_rfl
theorem run_in_neq2 (y z : In) (w : World) : (binOp .neq 24 y.val z.val).run Tryd.prog w = .ok (.bool (!decide (y = z))) w := by
  have h := run_in_eql y z w
  cases hd : decide (y = z) with
  | true =>
    have := of_decide_eq_true hd
    subst this
    simp [go_sem]
  | false =>
    rw [hd] at h
    have hn := of_decide_eq_false hd
    obtain ⟨y0, y1, y2, y3, y4, y5, y6, y7, y8, y9, y10⟩ := y
    obtain ⟨z0, z1, z2, z3, z4, z5, z6, z7, z8, z9, z10⟩ := z
    simp [go_sem] at h ⊢
    simpa using h
theorem in_set11 {w : World} {b : Nat} {y : In} (h : InAt w b y) (z : In) :
    InAt (set11 w b (.int .u8 z.op) (.int .u8 z.d) (.int .u8 z.s) (.int .u8 z.t) (.int .u8 z.n) (.int .u8 z.pred) (.int .u8 z.mode) (.bool z.new) (.bool z.ext) (.int .u16 z.count) (.int .i64 z.imm)) b z := by
  obtain ⟨y0, y1, y2, y3, y4, y5, y6, y7, y8, y9, y10⟩ := y
  obtain ⟨z0, z1, z2, z3, z4, z5, z6, z7, z8, z9, z10⟩ := z
  have k0 : InAt _ b ⟨z0, y1, y2, y3, y4, y5, y6, y7, y8, y9, y10⟩ := heap_setCell_same _ b 0 (In.cells ⟨y0, y1, y2, y3, y4, y5, y6, y7, y8, y9, y10⟩).toArray 24 (.int .u8 z0) h
  have k1 : InAt _ b ⟨z0, z1, y2, y3, y4, y5, y6, y7, y8, y9, y10⟩ := heap_setCell_same _ b 1 (In.cells ⟨z0, y1, y2, y3, y4, y5, y6, y7, y8, y9, y10⟩).toArray 24 (.int .u8 z1) k0
  have k2 : InAt _ b ⟨z0, z1, z2, y3, y4, y5, y6, y7, y8, y9, y10⟩ := heap_setCell_same _ b 2 (In.cells ⟨z0, z1, y2, y3, y4, y5, y6, y7, y8, y9, y10⟩).toArray 24 (.int .u8 z2) k1
  have k3 : InAt _ b ⟨z0, z1, z2, z3, y4, y5, y6, y7, y8, y9, y10⟩ := heap_setCell_same _ b 3 (In.cells ⟨z0, z1, z2, y3, y4, y5, y6, y7, y8, y9, y10⟩).toArray 24 (.int .u8 z3) k2
  have k4 : InAt _ b ⟨z0, z1, z2, z3, z4, y5, y6, y7, y8, y9, y10⟩ := heap_setCell_same _ b 4 (In.cells ⟨z0, z1, z2, z3, y4, y5, y6, y7, y8, y9, y10⟩).toArray 24 (.int .u8 z4) k3
  have k5 : InAt _ b ⟨z0, z1, z2, z3, z4, z5, y6, y7, y8, y9, y10⟩ := heap_setCell_same _ b 5 (In.cells ⟨z0, z1, z2, z3, z4, y5, y6, y7, y8, y9, y10⟩).toArray 24 (.int .u8 z5) k4
  have k6 : InAt _ b ⟨z0, z1, z2, z3, z4, z5, z6, y7, y8, y9, y10⟩ := heap_setCell_same _ b 6 (In.cells ⟨z0, z1, z2, z3, z4, z5, y6, y7, y8, y9, y10⟩).toArray 24 (.int .u8 z6) k5
  have k7 : InAt _ b ⟨z0, z1, z2, z3, z4, z5, z6, z7, y8, y9, y10⟩ := heap_setCell_same _ b 7 (In.cells ⟨z0, z1, z2, z3, z4, z5, z6, y7, y8, y9, y10⟩).toArray 24 (.bool z7) k6
  have k8 : InAt _ b ⟨z0, z1, z2, z3, z4, z5, z6, z7, z8, y9, y10⟩ := heap_setCell_same _ b 8 (In.cells ⟨z0, z1, z2, z3, z4, z5, z6, z7, y8, y9, y10⟩).toArray 24 (.bool z8) k7
  have k9 : InAt _ b ⟨z0, z1, z2, z3, z4, z5, z6, z7, z8, z9, y10⟩ := heap_setCell_same _ b 9 (In.cells ⟨z0, z1, z2, z3, z4, z5, z6, z7, z8, y9, y10⟩).toArray 24 (.int .u16 z9) k8
  have k10 : InAt _ b ⟨z0, z1, z2, z3, z4, z5, z6, z7, z8, z9, z10⟩ := heap_setCell_same _ b 10 (In.cells ⟨z0, z1, z2, z3, z4, z5, z6, z7, z8, z9, y10⟩).toArray 24 (.int .i64 z10) k9
  exact k10
theorem in_putImm {w : World} {b : Nat} {x : In} (h : InAt w b x) (i : Int) : InAt (w.setCell ⟨b, 10, none⟩ (.int .i64 i)) b { x with imm := i } :=
  heap_setCell_same w b 10 x.cells.toArray 24 _ h
/-- The variables ahead of the loop. -/
structure RAt (W : World) (A : Nat) (x : In) (p : Option Addr) (n cap : Nat) (fs : List Fd) (v : World) : Prop where
  own : Own W A x v
  holds : HoldsP v p n cap fs
theorem RAt.next {W v v' : World} {A : Nat} {x : In} {p : Option Addr} {n cap : Nat} {fs : List Fd} (h : RAt W A x p n cap fs v) (hm : Made v v') : RAt W A x p n cap fs v' := ⟨h.own.next hm, h.holds.made hm⟩
theorem isPs_any {W : World} {op : Int} {e : Ending} {w' : World} (h : IsPs W op e w') : ∃ (p : Option Addr) (cap : Nat) (fs : List Fd), fs = fieldsZ (opN op) ∧ e = .returned (.tuple #[.slice p fs.length cap, .bool (isOp op)]) ∧ Made W w' ∧ HoldsP w' p fs.length cap fs := by
  obtain ⟨p, cap, he, hm, hh⟩ := h
  exact ⟨p, cap, _, rfl, he, hm, hh⟩
section
attribute [local irreducible] World.cell?
set_option maxRecDepth 100000 in
set_option maxHeartbeats 8000000 in
theorem refRight6_any (W : World) (x : In) (hx : x.small) : Makes Tryd.prog W 22 #[x.val] (.bool (rightB x)) := by
  intro w hm
  have hz := hm.size
  have K0 := Lib.hid (show Own W w.heap.size x (w.alloc (.cells x.cells.toArray 24)) from ⟨hm.alloc hz _, heap_alloc_new w _⟩)
  have hop0 := hx.op0
  have hop1 := hx.op1
  have hps := Lib.hid (fun u => pieces_any u x.op u (Made.refl u))
  have hOf := fun u => refOf_any u x.op
  rewrite [(vf_op x.op).2] at hOf
  have C1 := Lib.hid hOf
  have hget := Lib.hid (fun u k h0 h1 => refGet6_any u x hx k h0 h1)
  have hfit := Lib.hid (fun u => refFits5_any u x hx 0 ⟨by decide, by decide⟩)
  have hfe := field5_ext
  have HX := Lib.hid hx
  have hr := rr_right x hx
  obtain ⟨rb, hrb⟩ : ∃ b, b = rightB x := ⟨_, rfl⟩
  rewrite [← hrb] at hr ⊢
  have HR := Lib.hid (show rb = (isOp x.op && !(x.ext && !mayZ x.op) && numsB x (fieldsZ x.op) && decide (plainFrom x (fieldsZ x.op) (startIn x.op x.ext) = x) && decide (x.mode ≤ 4) && !(x.mode == 0 && x.pred != 0 && x.op != 14) && endB x) from hr.symm)
  have m0 := hx.mode0
  have m1 := hx.mode1
  have p0 := hx.pred0
  have p1 := hx.pred1
  have i0 := hx.imm0
  have i1 := hx.imm1
  clear hrb hr hx hm hOf
  obtain ⟨xo, xd, xs, xt, xn, xp, xm, xw, xe, xc, xi⟩ := x
  go_enter Tryd.func22, Tryd.ntmps22
  go_wp2_with (fail)
  refine (hps.out _).mono ?_
  intro e w1 h
  obtain ⟨p, cap, fs, hfs, rfl, h1, hh⟩ := isPs_any h
  have K1 := Lib.hid (show RAt W w.heap.size ⟨xo, xd, xs, xt, xn, xp, xm, xw, xe, xc, xi⟩ p fs.length cap fs w1 from ⟨K0.out.next h1, hh⟩)
  clear h h1 hh
  generalize hio : isOp xo = io at *
  have HIO := Lib.hid hio
  have HFS := Lib.hid hfs
  clear hio hfs
  obtain ⟨a0, a1, a2, a3, a4, a5, a6, a7, a8, a9, a10⟩ := in_cells K1.out.own.in_
  have hl := heap_lt K1.out.own.in_
  go_upto_region 2 with (fail)
  go_cut [27] from 15 to 27 (fun g wc => g = .bool (!io || (xe && !mayZ xo)) ∧ RAt W w.heap.size ⟨xo, xd, xs, xt, xn, xp, xm, xw, xe, xc, xi⟩ p fs.length cap fs wc)
  case first =>
    cases io with
    | false =>
      go_wp2
      go_meet
      case rel => exact ⟨rfl, K1.out⟩
    | true =>
      cases xe with
      | false =>
        go_wp2
        go_meet
        case rel => exact ⟨rfl, K1.out⟩
      | true =>
        go_wp2_with (fail)
        refine (C1.out _ _ (Made.refl _)).mono ?_
        rintro e w2 ⟨rfl, h2⟩
        have K2 := Lib.hid (K1.out.next h2)
        clear h2
        go_wp2
        go_meet
        case rel => exact ⟨by simp, K2.out⟩
  case rest =>
    obtain ⟨rfl, hO⟩ := hcut
    generalize wc = w2 at *
    have K2 := Lib.hid hO
    clear hO a0 a1 a2 a3 a4 a5 a6 a7 a8 a9 a10 hl
    obtain ⟨g, hg⟩ : ∃ g, g = (!io || (xe && !mayZ xo)) := ⟨_, rfl⟩
    have HG := Lib.hid hg
    rewrite [← hg]
    clear hg
    cases g with
    | true =>
      have e1 : rb = false := by
        rw [HR.out]
        have := HG.out
        revert this
        cases io <;> cases xe <;> cases mayZ xo <;> simp
      obtain rfl := e1
      go_wp2
      go_ret
      exact ⟨rfl, K2.out.own.made⟩
    | false =>
      have hio : io = true := by
        have := HG.out
        revert this
        cases io <;> simp
      subst hio
      have ho : isOp xo = true := HIO.out
      have hfs := HFS.out
      rewrite [opN_of ho] at hfs
      have hE : rb = (numsB ⟨xo, xd, xs, xt, xn, xp, xm, xw, xe, xc, xi⟩ fs && decide (plainFrom ⟨xo, xd, xs, xt, xn, xp, xm, xw, xe, xc, xi⟩ fs (startIn xo xe) = ⟨xo, xd, xs, xt, xn, xp, xm, xw, xe, xc, xi⟩) && decide (xm ≤ 4) && !(xm == 0 && xp != 0 && xo != 14) && endB ⟨xo, xd, xs, xt, xn, xp, xm, xw, xe, xc, xi⟩) := by
        rw [HR.out, hfs]
        have := HG.out
        revert this
        cases xe <;> cases mayZ xo <;> simp
      obtain ⟨-, -, hok⟩ := list_ok xo ho
      rewrite [← hfs] at hok
      have HK := Lib.hid hok
      have HE := Lib.hid hE
      clear hfs ho hE hok HG HIO HFS HR
      obtain ⟨-, hcell⟩ := K2.out.holds
      have HC := Lib.hid hcell
      clear hcell
      have hzw : w2.heap.size ≤ w2.heap.size := Nat.le_refl _
      obtain ⟨a0, a1, a2, a3, a4, a5, a6, a7, a8, a9, a10⟩ := in_cells K2.out.own.in_
      have hl := heap_lt K2.out.own.in_
      have hPl := Lib.hid (show InAt (w2.alloc (.cells (startIn xo xe).cells.toArray 24)) w2.heap.size (startIn xo xe) from heap_alloc_new w2 _)
      go_wp2_with (fail)
      clear a0 a1 a2 a3 a4 a5 a6 a7 a8 a9 a10
      go_loopw [6] (fun i wr => ∃ (k : Nat) (y : In), k ≤ fs.length ∧ i = .int .i64 k ∧ plainFrom ⟨xo, xd, xs, xt, xn, xp, xm, xw, xe, xc, xi⟩ (fs.drop k) y = plainFrom ⟨xo, xd, xs, xt, xn, xp, xm, xw, xe, xc, xi⟩ fs (startIn xo xe) ∧ numsB ⟨xo, xd, xs, xt, xn, xp, xm, xw, xe, xc, xi⟩ (fs.drop k) = numsB ⟨xo, xd, xs, xt, xn, xp, xm, xw, xe, xc, xi⟩ fs ∧ InAt wr w2.heap.size y ∧ Made w2 wr) (fun i _ => fs.length - (intOf i).toNat)
      case atStart => exact ⟨0, startIn xo xe, Nat.zero_le _, rfl, rfl, rfl, hPl.out, (Made.refl w2).alloc (Nat.le_refl _) _⟩
      case round =>
        obtain ⟨k, y, hk, rfl, hat, han, hin, hwr⟩ := hrel
        have HW := Lib.hid hwr
        have HI := Lib.hid hin
        have hlP := heap_lt hin
        have hinx := hwr.heap K2.out.own.in_
        have hlx := heap_lt hinx
        have HIX := Lib.hid hinx
        by_cases hlt2 : k < fs.length
        · rcases HC.out with rfl | ⟨b, rfl, hb, hnc, hcm, hce⟩
          · simp at hlt2
          have hbr : b < wr.heap.size := Nat.lt_of_lt_of_le hb HW.out.size
          have hd := plain_drop ⟨xo, xd, xs, xt, xn, xp, xm, xw, xe, xc, xi⟩ fs k hlt2 y
          have hd2 := nums_drop ⟨xo, xd, xs, xt, xn, xp, xm, xw, xe, xc, xi⟩ fs k hlt2
          have hfk := HK.out fs[k] (List.getElem_mem _)
          have hfl := pieces_at fs k hlt2
          have hce2 := fun (u : World) (hu : Made w2 u) r (hr : r < 2) => (bcell hu).1 b (k * 2 + r) hb ▸ hce (k * 2 + r) (by omega)
          unfold maxLen at hcm
          generalize fs[k] = f at *
          rewrite [hat] at hd
          rewrite [han] at hd2
          have hcc : ∀ u : World, Made w2 u → u.cell? ⟨b, k * 2, none⟩ = some (.int .u8 (letterZ f.kind)) ∧ u.cell? ⟨b, k * 2 + 1, none⟩ = some (.int .i64 f.bits) := fun u hu => ⟨(hce2 u hu 0 (by omega)).trans hfl.1, (hce2 u hu 1 (by omega)).trans hfl.2⟩
          have hb1 := hfk.b1
          have hb2 := hfk.b2
          have hg := Lib.hid ((hget.out wr f.kind hfk.k1 hfk.k2).again)
          have hpw := Lib.hid (power_any f.bits (by omega) (by omega))
          have hpt := Lib.hid (fun u v => refPut6_any u y f.kind v hfk.k1 hfk.k2)
          have hvl := val_letter f hfk.k1 hfk.k2
          have hvn := fun h => val_num (f := f) ⟨xo, xd, xs, xt, xn, xp, xm, xw, xe, xc, xi⟩ h
          have hvs := fun v h => val_set (f := f) y v h
          have hnu := numZ_u32 HX.out f.kind
          have HCC := Lib.hid hcc
          have HD := Lib.hid (And.intro hd (And.intro hd2 (And.intro hvn hvs)))
          have hp2 := pow_le_of f.bits.toNat (by omega)
          clear hce hce2 hcc hfl hat han hd hd2 hfk hin hwr hinx hvn hvs
          obtain ⟨hn0, hn1⟩ := hnu
          obtain ⟨hp3, hp4⟩ := hp2
          have hki : (k : Int) < fs.length := by omega
          generalize numZ ⟨xo, xd, xs, xt, xn, xp, xm, xw, xe, xc, xi⟩ f.kind = nv at *
          generalize letterZ f.kind = lt at *
          generalize (2 : Int) ^ f.bits.toNat = pw at *
          obtain ⟨c0, c1⟩ := HCC.out wr HW.out
          obtain ⟨a0, a1, a2, a3, a4, a5, a6, a7, a8, a9, a10⟩ := in_cells HIX.out
          have g0 := fun d os => cell_regrown a0 d os
          have g1 := fun d os => cell_regrown a1 d os
          have g2 := fun d os => cell_regrown a2 d os
          have g3 := fun d os => cell_regrown a3 d os
          have g4 := fun d os => cell_regrown a4 d os
          have g5 := fun d os => cell_regrown a5 d os
          have g6 := fun d os => cell_regrown a6 d os
          have g7 := fun d os => cell_regrown a7 d os
          have g8 := fun d os => cell_regrown a8 d os
          have g9 := fun d os => cell_regrown a9 d os
          have g10 := fun d os => cell_regrown a10 d os
          have e0 := fun d os => cell_regrown c0 d os
          go_upto_region 8 with (fail)
          refine wp_region_quiet_below (by kernel_rfl) (by kernel_rfl) ?_
          repeat (go_big_quiet_step ((go_at_call 28; exact hg.out _ _)))
          refine wpQuiet_nil ?_
          intro u1 hw9
          have M1 := Lib.hid (Made.trans HW.out (made_regrown hw9))
          have I1 := Lib.hid (Made.heap (made_regrown hw9) HI.out)
          clear hw9 g0 g1 g2 g3 g4 g5 g6 g7 g8 g9 g10 e0 a0 a1 a2 a3 a4 a5 a6 a7 a8 a9 a10 c0 c1 hlP hlx
          obtain ⟨c0, c1⟩ := HCC.out u1 M1.out
          have hbu : b < u1.heap.size := Nat.lt_of_lt_of_le hb M1.out.size
          by_cases hlt : nv < pw
          · go_wp2_with (fail)
            refine (hpw.out _).mono ?_
            rintro e u2 ⟨rfl, rfl⟩
            obtain ⟨d0, d1, d2, d3, d4, d5, d6, d7, d8, d9, d10⟩ := in_cells I1.out
            have hlP := heap_lt I1.out
            have g0 := fun d os => cell_regrown d0 d os
            have g1 := fun d os => cell_regrown d1 d os
            have g2 := fun d os => cell_regrown d2 d os
            have g3 := fun d os => cell_regrown d3 d os
            have g4 := fun d os => cell_regrown d4 d os
            have g5 := fun d os => cell_regrown d5 d os
            have g6 := fun d os => cell_regrown d6 d os
            have g7 := fun d os => cell_regrown d7 d os
            have g8 := fun d os => cell_regrown d8 d os
            have g9 := fun d os => cell_regrown d9 d os
            have g10 := fun d os => cell_regrown d10 d os
            have e0 := fun d os => cell_regrown c0 d os
            go_upto_region 11 with (fail)
            refine wp_region_made 8 [] [0, 1, 2, 3, 4, 5, 6, 7] (by kernel_rfl) (by kernel_rfl) (by intro c a d v w h; cases d <;> exact h) ?_
            simp only [moved, picked, List.foldr_cons, List.foldr_nil, Option.elim_some, List.getElem?_toArray, List.getElem?_cons_zero, List.getElem?_cons_succ, List.drop_succ_cons, List.drop_zero]
            repeat (go_big_quiet_step ((go_at_call 34; exact (hpt.out u1 nv).again _ _)))
            refine wpQuiet_nil ?_
            intro u3 hu3
            have hi3 := hu3.heap I1.out
            clear d0 d1 d2 d3 d4 d5 d6 d7 d8 d9 d10 g0 g1 g2 g3 g4 g5 g6 g7 g8 g9 g10 e0 c0 c1 hlP
            obtain ⟨d0, d1, d2, d3, d4, d5, d6, d7, d8, d9, d10⟩ := in_cells hi3
            have fz := free_of_lit hi3
            have hlP := heap_lt hi3
            have M4 := Lib.hid (And.intro (in_set11 hi3 (setZ y f.kind nv)) (made_set11 (Made.trans M1.out hu3) hzw (.int .u8 (setZ y f.kind nv).op) (.int .u8 (setZ y f.kind nv).d) (.int .u8 (setZ y f.kind nv).s) (.int .u8 (setZ y f.kind nv).t) (.int .u8 (setZ y f.kind nv).n) (.int .u8 (setZ y f.kind nv).pred) (.int .u8 (setZ y f.kind nv).mode) (.bool (setZ y f.kind nv).new) (.bool (setZ y f.kind nv).ext) (.int .u16 (setZ y f.kind nv).count) (.int .i64 (setZ y f.kind nv).imm)))
            clear hi3 hu3
            go_upto_region 12 with (fail)
            refine name_world (fun v => InAt v w2.heap.size (setZ y f.kind nv) ∧ Made w2 v) M4.out ?_
            rintro u4 ⟨hi4, hm4⟩
            have I4 := Lib.hid hi4
            have N4 := Lib.hid hm4
            clear d0 d1 d2 d3 d4 d5 d6 d7 d8 d9 d10 fz hlP M4
            obtain ⟨c0, c1⟩ := HCC.out u4 hm4
            have hbu4 : b < u4.heap.size := Nat.lt_of_lt_of_le hb hm4.size
            clear hi4 hm4
            obtain ⟨r1, r2, -, r4⟩ := HD.out
            have HV := Lib.hid (r4 nv)
            rewrite [decide_eq_true hlt] at r2
            have HA := Lib.hid r1
            have HB := Lib.hid r2
            clear r1 r2 r4 HD
            generalize isVal f = vb at *
            cases vb with
            | false =>
              have e1 : plainFrom ⟨xo, xd, xs, xt, xn, xp, xm, xw, xe, xc, xi⟩ fs (startIn xo xe) = plainFrom ⟨xo, xd, xs, xt, xn, xp, xm, xw, xe, xc, xi⟩ (fs.drop (k + 1)) (setZ y f.kind nv) := HA.out
              have e2 : numsB ⟨xo, xd, xs, xt, xn, xp, xm, xw, xe, xc, xi⟩ fs = numsB ⟨xo, xd, xs, xt, xn, xp, xm, xw, xe, xc, xi⟩ (fs.drop (k + 1)) := HB.out
              have E1 := Lib.hid e1
              have E2 := Lib.hid e2
              clear e1 e2
              go_wp2
              go_roundw
              case rel => exact ⟨k + 1, _, by omega, by go_num, E1.out.symm, E2.out.symm, I4.out, N4.out⟩
              case measure => simp [intOf]; omega
            | true =>
              have e1 : plainFrom ⟨xo, xd, xs, xt, xn, xp, xm, xw, xe, xc, xi⟩ fs (startIn xo xe) = plainFrom ⟨xo, xd, xs, xt, xn, xp, xm, xw, xe, xc, xi⟩ (fs.drop (k + 1)) { y with imm := xi } := HA.out
              have e2 : numsB ⟨xo, xd, xs, xt, xn, xp, xm, xw, xe, xc, xi⟩ fs = numsB ⟨xo, xd, xs, xt, xn, xp, xm, xw, xe, xc, xi⟩ (fs.drop (k + 1)) := HB.out
              have E1 := Lib.hid e1
              have E2 := Lib.hid e2
              have e3 : setZ y f.kind nv = y := HV.out rfl
              have hi5 := I4.out
              rewrite [e3] at hi5
              have I5 := Lib.hid (in_putImm hi5 xi)
              have N5 := Lib.hid (Below.setCell N4.out (p := ⟨w2.heap.size, 10, none⟩) hzw (.int .i64 xi))
              obtain ⟨d0, d1, d2, d3, d4, d5, d6, d7, d8, d9, d10⟩ := in_cells hi5
              have fz := free_of_lit hi5
              have hlP := heap_lt hi5
              have hx4 := N4.out.heap K2.out.own.in_
              obtain ⟨a0, a1, a2, a3, a4, a5, a6, a7, a8, a9, a10⟩ := in_cells hx4
              have hlx := heap_lt hx4
              clear e1 e2 e3 hi5 hx4
              go_wp2
              go_roundw
              case rel => exact ⟨k + 1, _, by omega, by go_num, E1.out.symm, E2.out.symm, I5.out, N5.out⟩
              case measure => simp [intOf]; omega
          · have e1 : rb = false := by
              have hv : isVal f = false := by
                cases hv : isVal f with
                | false => rfl
                | true => have := HD.out.2.2.1 hv; omega
              rw [HE.out, HD.out.2.1, hv, decide_eq_false hlt]
              rfl
            obtain rfl := e1
            go_wp2_with (fail)
            refine (hpw.out _).mono ?_
            rintro e u2 ⟨rfl, rfl⟩
            go_wp2
            go_ret
            exact ⟨rfl, Made.trans K2.out.own.made M1.out⟩
        · obtain rfl : k = fs.length := by omega
          rewrite [List.drop_length] at hat han
          have e1 : y = plainFrom ⟨xo, xd, xs, xt, xn, xp, xm, xw, xe, xc, xi⟩ fs (startIn xo xe) := hat
          have e2 : numsB ⟨xo, xd, xs, xt, xn, xp, xm, xw, xe, xc, xi⟩ fs = true := han.symm
          have hE : rb = (decide (y = ⟨xo, xd, xs, xt, xn, xp, xm, xw, xe, xc, xi⟩) && decide (xm ≤ 4) && !(xm == 0 && xp != 0 && xo != 14) && endB ⟨xo, xd, xs, xt, xn, xp, xm, xw, xe, xc, xi⟩) := by rw [HE.out, e2, ← e1]; rfl
          have hop := run_in_neq2 y ⟨xo, xd, xs, xt, xn, xp, xm, xw, xe, xc, xi⟩
          obtain ⟨dq, hdq⟩ : ∃ d, d = decide (y = ⟨xo, xd, xs, xt, xn, xp, xm, xw, xe, xc, xi⟩) := ⟨_, rfl⟩
          rewrite [← hdq] at hE hop
          have HE2 := Lib.hid hE
          obtain ⟨d0, d1, d2, d3, d4, d5, d6, d7, d8, d9, d10⟩ := in_cells hin
          obtain ⟨a0, a1, a2, a3, a4, a5, a6, a7, a8, a9, a10⟩ := in_cells hinx
          clear hat han e1 e2 hE hdq HE hin hinx hwr
          have KO := Lib.hid (show Own W w.heap.size ⟨xo, xd, xs, xt, xn, xp, xm, xw, xe, xc, xi⟩ wr from ⟨Made.trans K2.out.own.made HW.out, HIX.out⟩)
          go_upto_region 14 with (fail)
          go_cut [94] from 72 to 94 (fun g wc => g = .bool (!(dq && decide (xm ≤ 4) && !(xm == 0 && xp != 0 && xo != 14))) ∧ Own W w.heap.size ⟨xo, xd, xs, xt, xn, xp, xm, xw, xe, xc, xi⟩ wc)
          case first =>
            cases dq with
            | false =>
              go_wp2
              go_meet
              case rel => exact ⟨by simp, KO.out⟩
            | true =>
              by_cases h4 : xm ≤ 4
              · have hd4 : decide (4 < xm) = false := decide_eq_false (by omega)
                cases hb0 : (xm == 0) with
                | false =>
                  go_wp2
                  go_meet
                  case rel => exact ⟨by simp [h4, hb0], KO.out⟩
                | true =>
                  cases hb1 : (xp != 0) with
                  | false =>
                    go_wp2
                    go_meet
                    case rel => exact ⟨by simp [h4, hb0, hb1], KO.out⟩
                  | true =>
                    cases hb2 : (xo != 14)
                    all_goals
                      go_wp2
                      go_meet
                      case rel => exact ⟨by simp [h4, hb0, hb1, hb2], KO.out⟩
              · go_wp2
                go_meet
                case rel => exact ⟨by simp [h4], KO.out⟩
          case rest =>
            obtain ⟨rfl, hO⟩ := hcut
            generalize wc = z0 at *
            have KA := Lib.hid hO
            clear hO d0 d1 d2 d3 d4 d5 d6 d7 d8 d9 d10 a0 a1 a2 a3 a4 a5 a6 a7 a8 a9 a10 hlP hlx hop
            generalize (dq && decide (xm ≤ 4) && !(xm == 0 && xp != 0 && xo != 14)) = gq at *
            cases gq with
            | false =>
              obtain rfl : rb = false := HE2.out
              go_wp2
              go_ret
              exact ⟨rfl, KA.out.made⟩
            | true =>
              have e5 : rb = endB ⟨xo, xd, xs, xt, xn, xp, xm, xw, xe, xc, xi⟩ := HE2.out
              have HF := Lib.hid e5
              clear e5 HE2
              have p32 : Still Tryd.prog 29 #[.int .i64 32] (.int .i64 4294967296) := power_any 32 (by decide) (by decide)
              have p31 : Still Tryd.prog 29 #[.int .i64 31] (.int .i64 2147483648) := power_any 31 (by decide) (by decide)
              have P32 := Lib.hid p32
              have P31 := Lib.hid p31
              clear p32 p31
              obtain ⟨a0, a1, a2, a3, a4, a5, a6, a7, a8, a9, a10⟩ := in_cells KA.out.in_
              have hl := heap_lt KA.out.in_
              go_wp2_with (fail)
              refine (C1.out _ _ (Made.refl _)).mono ?_
              rintro e z1 ⟨rfl, h1⟩
              have KB := Lib.hid (KA.out.next h1)
              clear h1 a0 a1 a2 a3 a4 a5 a6 a7 a8 a9 a10 hl
              go_upto_region 17 with (fail)
              refine name_world (fun v => Own W w.heap.size ⟨xo, xd, xs, xt, xn, xp, xm, xw, xe, xc, xi⟩ v ∧ v.heap[z1.heap.size]? = some (.cells #[.int .i64 (vF xo).bits, .int .i64 (vF xo).shift, .bool (vF xo).sg, .bool (mayZ xo), .bool ((vF xo).kind == 10)] 56 (0, 0))) ⟨KB.out.next ((Made.refl _).alloc (Nat.le_refl _) _), heap_alloc_new z1 _⟩ ?_
              rintro z2 ⟨hk2, hf2⟩
              have KC := Lib.hid hk2
              obtain ⟨f0, f1, f2, f3, f4⟩ := row_cells hf2
              have hlf := heap_lt hf2
              obtain ⟨a0, a1, a2, a3, a4, a5, a6, a7, a8, a9, a10⟩ := in_cells hk2.in_
              have hl := heap_lt hk2.in_
              clear hk2 hf2
              have hen : endB ⟨xo, xd, xs, xt, xn, xp, xm, xw, xe, xc, xi⟩ = if (vF xo).kind = 10 then decide (0 ≤ xi) && decide (xi < 4294967296) && decide (xi % 4 = 0) else if xe then decide (-2147483648 ≤ xi) && decide (xi < 2147483648) else fitP ⟨xo, xd, xs, xt, xn, xp, xm, xw, xe, xc, xi⟩ 0 := rfl
              rewrite [hen] at HF
              clear hen
              have g10 := fun d os => cell_regrown a10 d os
              by_cases hk : (vF xo).kind = 10
              · rewrite [if_pos hk] at HF
                have hkb : ((vF xo).kind == 10) = true := beq_iff_eq.2 hk
                clear hk
                by_cases h0 : 0 ≤ xi
                · have hd0 : decide (0 ≤ xi) = true := decide_eq_true h0
                  have htm : xi.tmod 4 = xi % 4 := Int.tmod_eq_emod_of_nonneg h0
                  obtain ⟨r, hr⟩ : ∃ r, r = xi % 4 := ⟨_, rfl⟩
                  rewrite [← hr] at htm HF
                  have HF2 := Lib.hid HF.out
                  clear hr HF
                  have hlt2 : decide (xi < 4294967296) = true ∨ decide (xi < 4294967296) = false := by cases decide (xi < 4294967296) <;> simp
                  rcases hlt2 with hd1 | hd1
                  · go_upto_region 18 with (fail)
                    refine wp_region_quiet_below (by kernel_rfl) (by kernel_rfl) ?_
                    repeat (go_big_quiet_step ((go_at_call 29; exact (P32.out.makes z2).again _ _)))
                    refine wpQuiet_nil ?_
                    intro u5 hw9
                    have M5 := Lib.hid (Made.trans KC.out.made (made_regrown hw9))
                    go_wp2
                    go_ret
                    exact ⟨ret_bool (by rw [HF2.out, hd0, hd1]; simp; rfl), M5.out⟩
                  · go_upto_region 18 with (fail)
                    refine wp_region_quiet_below (by kernel_rfl) (by kernel_rfl) ?_
                    repeat (go_big_quiet_step ((go_at_call 29; exact (P32.out.makes z2).again _ _)))
                    refine wpQuiet_nil ?_
                    intro u5 hw9
                    have M5 := Lib.hid (Made.trans KC.out.made (made_regrown hw9))
                    go_wp2
                    go_ret
                    exact ⟨ret_bool (by rw [HF2.out, hd0, hd1]; simp), M5.out⟩
                · have hd0 : decide (0 ≤ xi) = false := decide_eq_false h0
                  go_upto_region 18 with (fail)
                  refine wp_region_quiet_below (by kernel_rfl) (by kernel_rfl) ?_
                  repeat (go_big_quiet_step ((go_at_call 29; exact (P32.out.makes z2).again _ _)))
                  refine wpQuiet_nil ?_
                  intro u5 hw9
                  have M5 := Lib.hid (Made.trans KC.out.made (made_regrown hw9))
                  go_wp2
                  go_ret
                  exact ⟨ret_bool (by rw [HF.out, hd0]; simp), M5.out⟩
              · rewrite [if_neg hk] at HF
                have hkb : ((vF xo).kind == 10) = false := beq_eq_false_iff_ne.2 hk
                clear hk
                cases xe with
                | true =>
                  have hE2 : rb = (decide (-2147483648 ≤ xi) && decide (xi < 2147483648)) := HF.out
                  have HF2 := Lib.hid hE2
                  clear hE2 HF
                  have hlt1 : decide (-2147483648 ≤ xi) = true ∨ decide (-2147483648 ≤ xi) = false := by cases decide (-2147483648 ≤ xi) <;> simp
                  rcases hlt1 with hd0 | hd0
                  all_goals
                    go_upto_region 20 with (fail)
                    refine wp_region_quiet_below (by kernel_rfl) (by kernel_rfl) ?_
                    repeat (go_big_quiet_step ((go_at_call 29; exact (P31.out.makes z2).again _ _)))
                    refine wpQuiet_nil ?_
                    intro u5 hw9
                    have M5 := Lib.hid (Made.trans KC.out.made (made_regrown hw9))
                    go_wp2
                    go_ret
                    exact ⟨ret_bool (by rw [HF2.out, hd0]; simp), M5.out⟩
                | false =>
                  have hE2 : rb = fitP ⟨xo, xd, xs, xt, xn, xp, xm, xw, false, xc, xi⟩ 0 := HF.out
                  have HF2 := Lib.hid hE2
                  clear hE2 HF
                  go_wp2_with (fail)
                  refine (hfit.out z2 _ (Made.refl _)).mono ?_
                  rintro e z3 ⟨rfl, h3⟩
                  have M5 := Lib.hid (Made.trans KC.out.made h3)
                  clear h3
                  go_wp2
                  go_ret
                  exact ⟨ret_bool HF2.out.symm, M5.out⟩
end
end Go.Proofs.YtjeemiabddblhaaDoor
