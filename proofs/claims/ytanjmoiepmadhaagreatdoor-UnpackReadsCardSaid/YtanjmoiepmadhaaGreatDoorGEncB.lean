/- What read of package enc returns, for every row and payload, in every world that holds the row's fields. · What Inst of package enc returns, for every word, upper part and address, in every world that has grown out of one that holds the tables of names and of pieces. -/
import Derived.Test.YtanjmoiepmadhaaGreatDoorGEnc
import Derived.Deep.CutRange
import Derived.Deep.RegionHeld3
import Derived.Deep.DrawnRows
namespace Go.Proofs.YtanjmoiepmadhaaGreatDoor
section
set_option maxRecDepth 100000
open Go.ChangeShapes Go.WideShapes Go.ChangeAt Go.RowKit Go.Sort BigFrame

abbrev set11 (w : World) (b : Nat) (v0 v1 v2 v3 v4 v5 v6 v7 v8 v9 v10 : Value) : World :=
  ((((((((((w.setCell ⟨b, 0, none⟩ v0).setCell ⟨b, 1, none⟩ v1).setCell ⟨b, 2, none⟩ v2).setCell ⟨b, 3, none⟩ v3).setCell ⟨b, 4, none⟩ v4).setCell ⟨b, 5, none⟩ v5).setCell ⟨b, 6, none⟩ v6).setCell ⟨b, 7, none⟩ v7).setCell ⟨b, 8, none⟩ v8).setCell ⟨b, 9, none⟩ v9).setCell ⟨b, 10, none⟩ v10
theorem made_set11 {W w : World} {b : Nat} (h : Made W w) (hb : W.heap.size ≤ b) (v0 v1 v2 v3 v4 v5 v6 v7 v8 v9 v10 : Value) : Made W (set11 w b v0 v1 v2 v3 v4 v5 v6 v7 v8 v9 v10) :=
  ((((((((((h.setCell hb v0).setCell hb v1).setCell hb v2).setCell hb v3).setCell hb v4).setCell hb v5).setCell hb v6).setCell hb v7).setCell hb v8).setCell hb v9).setCell hb v10
theorem read_drop (p u : Int) (has : Bool) (pc : Int) (l : List Fd) (k : Nat) (h : k < l.length) (low : Int) (y : In) : readFrom p u has pc (l.drop k) low y =
    if isVal l[k] then
      if has && decide (256 ≤ getZ p (low - l[k].bits) l[k].bits) then (inZero, false)
      else readFrom p u has pc (l.drop (k + 1)) (low - l[k].bits) { y with imm := joinV l[k] (getZ p (low - l[k].bits) l[k].bits) u has pc }
    else readFrom p u has pc (l.drop (k + 1)) (low - l[k].bits) (setZ y l[k].kind (getZ p (low - l[k].bits) l[k].bits)) := by
  rw [List.drop_eq_getElem_cons h]; rfl
theorem in_setImm {w : World} {b : Nat} {x : In} (h : InAt w b x) (i : Int) : InAt (w.setCell ⟨b, 10, none⟩ (.int .i64 i)) b { x with imm := i } :=
  heap_setCell_same w b 10 x.cells.toArray 40 _ h
/-- The variables ahead of the instruction's own. -/
structure ReadAt (W : World) (A : Nat) (row : List Value) (p : Option Addr) (n cap : Nat) (fs : List Fd) (v : World) : Prop where
  made : Made W v
  row : v.heap[A]? = some (.cells row.toArray 122 (0, 0))
  res : InAt v (A + 1) inZero
  size : v.heap.size = A + 2
  holds : Holds v p n cap fs
theorem readAt_of {W w : World} {p : Option Addr} {n cap : Nat} {fs : List Fd} (hm : Made W w) (hh : Holds w p n cap fs) (row : List Value) : ReadAt W w.heap.size row p n cap fs ((w.alloc (.cells row.toArray 122)).alloc (.cells inZero.cells.toArray 40)) := by
  have h1 := (Made.refl w).alloc (Nat.le_refl _) (.cells row.toArray 122)
  have h2 := h1.alloc h1.size (.cells inZero.cells.toArray 40)
  refine ⟨(hm.alloc hm.size _).alloc (hm.alloc hm.size _).size _, ?_, heap_at (by simp), by simp, hh.made h2⟩
  have hr : (w.alloc (.cells row.toArray 122)).heap[w.heap.size]? = some (.cells row.toArray 122 (0, 0)) := heap_alloc_new w _
  exact (Below.heap_alloc _ _ _ (heap_lt hr)).trans hr
section
attribute [local irreducible] World.cell?
set_option maxRecDepth 100000 in
set_option maxHeartbeats 4000000 in
theorem eread_any (op o c s : Int) (nm : ByteArray) (p : Option Addr) (n cap : Nat) (fs : List Fd) (pay u pc : Int) (has : Bool) (hp : isU32 pay) (hu : isU32 u) (hf : ∀ f ∈ fs, f.small) (hfew : fs.length ≤ 5) (ho : o = op) (w : World) (hh : Holds w p n cap fs) :
    Calls Tryz.prog 172 #[.agg #[.int .u8 o, .string nm, .int .u8 c, .int .u8 s, .slice p n cap], .int .u32 pay, .int .u32 u, .bool has, .int .u32 pc] w fun e w' => e = .returned (.tuple #[(readFrom pay u has pc fs 24 (startIn op has)).1.val, .bool (readFrom pay u has pc fs 24 (startIn op has)).2]) ∧ Made w w' := by
  subst ho
  have H := Lib.hid hh
  have HF := Lib.hid hf
  obtain ⟨R, hR⟩ : ∃ r, r = readFrom pay u has pc fs 24 (startIn o has) := ⟨_, rfl⟩
  rewrite [← hR]
  have HR := Lib.hid hR
  clear hR hh hf
  go_enter Tryz.func172, Tryz.ntmps172
  go_upto_region 1 with (fail)
  refine name_world (fun v => ReadAt w w.heap.size [.int .u8 o, .string nm, .int .u8 c, .int .u8 s, .slice p n cap] p n cap fs v) (readAt_of (Made.refl w) H.out _) ?_
  intro v hv
  have KV := Lib.hid hv
  obtain ⟨r0, r1, r2, r3, r4⟩ := row_cells hv.row
  have hl0 := heap_lt hv.row
  have hl1 := heap_lt hv.res
  have hvs := hv.size
  obtain ⟨hnf, hcell⟩ := hv.holds
  subst hnf
  have HC := Lib.hid hcell
  have hRR : InAt (v.alloc (.cells (startIn o has).cells.toArray 40)) v.heap.size (startIn o has) := heap_alloc_new v _
  have HS := Lib.hid hRR
  have hVS := Lib.hid hvs
  clear hv H hcell hRR hvs
  go_wp2_with (fail)
  go_loopw [13, 26] (fun lz i wr => ∃ (k : Nat) (low : Int) (y : In), k ≤ fs.length ∧ i = .int .i64 k ∧ lz = .int .i64 low ∧ readFrom pay u has pc (fs.drop k) low y = R ∧ 24 - 24 * (k : Int) ≤ low ∧ low ≤ 24 ∧ InAt wr v.heap.size y ∧ Made v wr) (fun _ i _ => fs.length - (intOf i).toNat)
  case atStart => exact ⟨0, 24, startIn o has, Nat.zero_le _, rfl, rfl, HR.out.symm, by decide, by decide, HS.out, (Made.refl v).alloc (Nat.le_refl _) _⟩
  case round =>
    obtain ⟨k, low, y, hk, rfl, rfl, hat, hlo, hhi, hin, hwr⟩ := hrel
    have HW := Lib.hid hwr
    have HI := Lib.hid hin
    have hlB := heap_lt hin
    by_cases hlt2 : k < fs.length
    · rcases HC.out with rfl | ⟨b, rfl, hb, hnc, hcm, hce⟩
      · simp at hlt2
      have hbr : b < wr.heap.size := Nat.lt_of_lt_of_le hb HW.out.size
      have hd := read_drop pay u has pc fs k hlt2 low y
      have hfk := HF.out fs[k] (List.getElem_mem _)
      have hfl := flat_at fs k hlt2
      have hce := fun r (hr : r < 5) => (bcell HW.out).1 b (k * 5 + r) hb ▸ hce (k * 5 + r) (by omega)
      have k0 : wr.cell? ⟨b, k * 5, none⟩ = _ := (hce 0 (by omega)).trans hfl.1
      have k1 := (hce 1 (by omega)).trans hfl.2.1
      have k2 := (hce 2 (by omega)).trans hfl.2.2.1
      have k3 := (hce 3 (by omega)).trans hfl.2.2.2.1
      have k4 := (hce 4 (by omega)).trans hfl.2.2.2.2
      unfold maxLen at hcm
      generalize fs[k] = f at *
      rewrite [hat] at hd
      have hb1 := hfk.2.2.1
      have hb2 := hfk.2.2.2.1
      have HFK := Lib.hid hfk
      have hg := Lib.hid (get_any pay (low - f.bits) f.bits hp ⟨by omega, by omega⟩)
      have hgu := getZ_u32 pay (low - f.bits) f.bits hp
      have HD := Lib.hid hd
      clear hce hfl hat hwr hin hd hfk
      generalize getZ pay (low - f.bits) f.bits = g at *
      go_upto_region 6 with (fail)
      refine name_world (fun z => RoundAt wr v.heap.size wr.heap.size y f z) (roundAt_of HI.out (Made.refl wr) f) ?_
      intro z hz
      have Z0 := Lib.hid hz
      obtain ⟨b0, b1, b2, b3, b4⟩ := row_cells hz.fd
      have hlz := heap_lt hz.fd
      have hly := heap_lt hz.in_
      clear hz k0 k1 k2 k3 k4
      go_wp2_with (fail)
      refine (hg.out _).mono ?_
      rintro e z1 ⟨rfl, nd, hz1⟩
      have Z1 := Lib.hid (Z0.out.next (hz1 ▸ below_drewN (Made.refl z) nd))
      clear hz1 b0 b1 b2 b3 b4 hlz hly
      obtain ⟨b0, b1, b2, b3, b4⟩ := row_cells Z1.out.fd
      have hlz := heap_lt Z1.out.fd
      have hly := heap_lt Z1.out.in_
      go_wp2_with (fail)
      refine (isValueField_any z1 f _ (Made.refl _)).mono ?_
      rintro e z2 ⟨rfl, h2⟩
      have Z2 := Lib.hid (Z1.out.next h2)
      clear h2 b0 b1 b2 b3 b4 hlz hly
      obtain ⟨b0, b1, b2, b3, b4⟩ := row_cells Z2.out.fd
      have hlz := heap_lt Z2.out.fd
      have hly := heap_lt Z2.out.in_
      generalize isVal f = vb at *
      cases vb with
      | false =>
        have e1 : R = readFrom pay u has pc (fs.drop (k + 1)) (low - f.bits) (setZ y f.kind g) := HD.out
        have E1 := Lib.hid e1
        clear e1
        go_wp2_with (fail)
        refine (setNumber_any z2 v.heap.size y f.kind g Z2.out.in_).mono ?_
        rintro e z3 ⟨rfl, h3⟩
        have hT := h3 ▸ set_took f.kind g Z2.out.in_
        have M3 := Lib.hid (hT.made v (Nat.le_refl _) (Made.trans HW.out Z2.out.made))
        have I3 := Lib.hid hT.at_
        clear h3 hT b0 b1 b2 b3 b4 hlz hly
        go_wp2
        go_roundw
        case rel => exact ⟨k + 1, _, _, by omega, by go_num, rfl, E1.out.symm, by omega, by omega, I3.out, M3.out⟩
        case measure => simp [intOf]; omega
      | true =>
        have hj := Lib.hid (ejoin_any z2 f g u pc has hgu hu HFK.out)
        have e1 : R = if joinB g has then readFrom pay u has pc (fs.drop (k + 1)) (low - f.bits) { y with imm := joinR f g u has pc } else (inZero, false) := by
          rw [HD.out]
          unfold joinR joinB
          cases has && decide (256 ≤ g) <;> rfl
        have E1 := Lib.hid e1
        have hji : isI (joinR f g u has pc) := by
          have := joinV_i f g u has pc HFK.out.2.2.2.2.1 HFK.out.2.2.2.2.2 hgu.1 hgu.2
          unfold joinR
          split
          · exact this
          · exact ⟨by decide, by decide⟩
        clear e1
        go_wp2_with (fail)
        refine (hj.out _ (Made.refl _)).mono ?_
        rintro e z3 ⟨rfl, h3⟩
        have Z3 := Lib.hid (Z2.out.next h3)
        clear h3 b0 b1 b2 b3 b4 hlz hly
        obtain ⟨a0, a1, a2, a3, a4, a5, a6, a7, a8, a9, a10⟩ := in_cells Z3.out.in_
        have fz := free_of_lit Z3.out.in_
        have hly := heap_lt Z3.out.in_
        generalize joinB g has = jb at *
        generalize joinR f g u has pc = jr at *
        have hres : InAt z3 (w.heap.size + 1) inZero := Made.heap (Made.trans HW.out Z3.out.made) KV.out.res
        have HQ := Lib.hid hres
        clear hres
        cases jb with
        | false =>
          obtain rfl : R = (inZero, false) := E1.out
          obtain ⟨q0, q1, q2, q3, q4, q5, q6, q7, q8, q9, q10⟩ := in_cells HQ.out
          have fq := free_of_lit HQ.out
          have hlq := heap_lt HQ.out
          clear a0 a1 a2 a3 a4 a5 a6 a7 a8 a9 a10 fz
          go_wp2
          refine bodyPost_ret (v := .tuple #[inZero.val, .bool false]) (by simp [results, Tryz.results172, go_sem, q0, q1, q2, q3, q4, q5, q6, q7, q8, q9, q10, inZero]) rfl ?_
          exact ⟨rfl, made_set11 (Made.trans KV.out.made (Made.trans HW.out Z3.out.made)) (by omega) _ _ _ _ _ _ _ _ _ _ _⟩
        | true =>
          have e2 : R = readFrom pay u has pc (fs.drop (k + 1)) (low - f.bits) { y with imm := jr } := E1.out
          have E2 := Lib.hid e2
          clear e2
          have I3 := Lib.hid (in_setImm Z3.out.in_ jr)
          have M3 := Lib.hid (Below.setCell (Made.trans HW.out Z3.out.made) (p := ⟨v.heap.size, 10, none⟩) (Nat.le_refl _) (.int .i64 jr))
          go_wp2
          go_roundw
          case rel => exact ⟨k + 1, _, _, by omega, by go_num, rfl, E2.out.symm, by omega, by omega, I3.out, M3.out⟩
          case measure => simp [intOf]; omega
    · obtain rfl : k = fs.length := by omega
      rewrite [List.drop_length] at hat
      have e1 : R = (y, getZ pay 0 low == 0) := hat.symm
      have E1 := Lib.hid e1
      have hres : InAt wr (w.heap.size + 1) inZero := Made.heap HW.out KV.out.res
      have HQ := Lib.hid hres
      have hg := Lib.hid (get_any pay 0 low hp ⟨by omega, by omega⟩)
      generalize getZ pay 0 low = g at *
      obtain ⟨a0, a1, a2, a3, a4, a5, a6, a7, a8, a9, a10⟩ := in_cells hin
      obtain ⟨q0, q1, q2, q3, q4, q5, q6, q7, q8, q9, q10⟩ := in_cells hres
      have fq := free_of_lit hres
      have hlq := heap_lt hres
      have hne : v.heap.size ≠ w.heap.size + 1 := by have := KV.out.size; omega
      have MZ := Lib.hid (Made.trans KV.out.made hwr)
      clear hat e1 hres hin hwr
      obtain rfl := E1.out
      go_upto_region 15 with (fail)
      go_region_with (first | (go_at_call 105; refine (hg.out _).mono ?_; rintro e z ⟨rfl, nd, rfl⟩))
      all_goals
        go_wp2
        refine bodyPost_ret (v := .tuple #[y.val, .bool (g == 0)]) (by simp [results, Tryz.results172, go_sem, q0, q1, q2, q3, q4, q5, q6, q7, q8, q9, q10]) rfl ?_
        exact ⟨rfl, made_set11 (below_drewN MZ.out _) (Nat.le_succ _) _ _ _ _ _ _ _ _ _ _ _⟩
end
end
section
set_option maxRecDepth 100000
open Go.ChangeShapes Go.WideShapes Go.ChangeAt Go.RowKit Go.Sort BigFrame

theorem holds_op {W : World} {op : Int} {e : Ending} {w' : World} (h : IsOf W op e w') (ho : isOp op = true) : ∃ (p : Option Addr) (cap : Nat) (fs : List Fd) (nm : ByteArray) (c s : Int), fs = fieldsZ op ∧
    e = .returned (.tuple #[.agg #[.int .u8 op, .string nm, .int .u8 c, .int .u8 s, .slice p fs.length cap], .bool true]) ∧ Made W w' ∧ Holds w' p fs.length cap fs := by
  obtain ⟨p, cap, fs, o, nm, c, s, hfs, rfl, _, _, _, he, hm, hr⟩ := isOf_any h
  rw [opN_of ho] at hfs he
  rw [ho] at he
  refine ⟨p, cap, fs, nm, c, s, hfs, he, hm, ?_⟩
  rcases hr with h | ⟨b, cur, hp, hlo, hb, _, h1, h2, hcell⟩
  · exact ⟨rfl, .inl h⟩
  · exact ⟨rfl, .inr ⟨b, hp, heap_lt hb, h1, h2, hcell⟩⟩
/-- The three variables of Inst. -/
structure InstAt (W : World) (A B : Nat) (x : In) (v : World) : Prop where
  own : Own W A inZero v
  in_ : InAt v B x
theorem InstAt.next {W v v' : World} {A B : Nat} {x : In} (h : InstAt W A B x v) (hm : Made v v') : InstAt W A B x v' := ⟨h.own.next hm, hm.heap h.in_⟩
theorem instAt_of {W v : World} {A : Nat} (h : Own W A inZero v) (x : In) : InstAt W A v.heap.size x (v.alloc (.cells x.cells.toArray 40)) := ⟨h.next ((Made.refl _).alloc (Nat.le_refl _) _), heap_alloc_new v _⟩
section
attribute [local irreducible] World.cell?
set_option maxRecDepth 100000 in
set_option maxHeartbeats 4000000 in
theorem encInst_any (W : World) (hN : Names W) (hP : Pieces W) (wd u pc : Int) (has : Bool) (hw : isU32 wd) (hu : isU32 u) : Makes Tryz.prog W 145 #[.int .u32 wd, .int .u32 u, .bool has, .int .u32 pc] (.tuple #[(instP wd u has pc).val, .bool (instB wd u has pc)]) := by
  intro w hm
  have hz := hm.size
  obtain ⟨X, hX⟩ : ∃ x, x = instP wd u has pc := ⟨_, rfl⟩
  obtain ⟨B, hB⟩ : ∃ b, b = instB wd u has pc := ⟨_, rfl⟩
  rewrite [← hX, ← hB]
  obtain ⟨c, hc⟩ : ∃ c, c = codeZ wd := ⟨_, rfl⟩
  obtain ⟨pay, hpay⟩ : ∃ p, p = payZ wd := ⟨_, rfl⟩
  have hcu := code_u wd
  have hpu := pay_u wd
  have hparts := Lib.hid (fun v (hv : Pieces v) => parts_made v hv wd hw)
  rewrite [← hc] at hcu hparts
  rewrite [← hpay] at hpu hparts
  have hRs := Lib.hid (readP_small wd u has pc)
  have hS := Lib.hid (show B = (isOp c && !(has && decide (16777216 ≤ u)) && (readFrom pay u has pc (fieldsZ c) 24 (startIn c has)).2 && rightB (readFrom pay u has pc (fieldsZ c) 24 (startIn c has)).1) from by rw [hB, hc, hpay]; rfl)
  have hXs := Lib.hid (show X = if B then (readFrom pay u has pc (fieldsZ c) 24 (startIn c has)).1 else inZero from by rw [hX, hB, hc, hpay]; rfl)
  have hRs2 := Lib.hid (show (readFrom pay u has pc (fieldsZ c) 24 (startIn c has)).1.small from by rw [hc, hpay]; exact hRs.out)
  obtain ⟨c0, c1⟩ := hcu
  have HPU := Lib.hid (show isU32 pay from ⟨hpu.1, by omega⟩)
  obtain ⟨u0, u1⟩ := id hu
  have K0 := Lib.hid (show Own W w.heap.size inZero (w.alloc (.cells inZero.cells.toArray 40)) from ⟨hm.alloc hz _, heap_alloc_new w _⟩)
  clear hX hB hc hpay hRs hpu
  have hpz : 0 ≤ parseZ wd ∧ parseZ wd < 4 := by unfold parseZ; omega
  obtain ⟨q0, q1⟩ := hpz
  go_enter Tryz.func145, Tryz.ntmps145
  go_wp2_with (fail)
  refine (hparts.out _ (hP.made K0.out.made) _ (Made.refl _)).mono ?_
  rintro e w1 ⟨rfl, h1⟩
  have K1 := Lib.hid (K0.out.next h1)
  clear h1
  go_wp2_with (fail)
  have hof := of_any _ (hN.made K1.out.made) c c0 _ (Made.refl _)
  obtain ⟨io, hio⟩ : ∃ b, b = isOp c := ⟨_, rfl⟩
  have HIO := Lib.hid hio
  cases io with
  | false =>
    have hS2 : B = false := by rw [hS.out, ← hio]; rfl
    have hX2 : X = inZero := by rw [hXs.out, hS2]; rfl
    obtain rfl := hS2
    obtain rfl := hX2
    refine hof.mono ?_
    intro e w2 h
    obtain ⟨p, cap, fs, o, nm, cl, s, -, -, rfl, h2, -, -⟩ := holds_of h
    rewrite [← hio]
    have K2 := Lib.hid ((K1.out.next h2).next ((Made.refl w2).alloc (Nat.le_refl _) (.cells (([.int .u8 o, .string nm, .int .u8 cl, .int .u8 s, .slice p fs.length cap] : List Value)).toArray 122)))
    clear h h2 hof hio
    go_upto_region 3 with (fail)
    refine name_world (fun v => Own W w.heap.size inZero v) K2.out ?_
    intro v hv
    have KV := Lib.hid hv
    obtain ⟨a0, a1, a2, a3, a4, a5, a6, a7, a8, a9, a10⟩ := in_cells hv.in_
    have fz := free_of_lit hv.in_
    have hl := heap_lt hv.in_
    clear hv
    go_wp2
    refine bodyPost_ret (v := .tuple #[inZero.val, .bool false]) (by simp [results, Tryz.results145, go_sem, a0, a1, a2, a3, a4, a5, a6, a7, a8, a9, a10, inZero]) rfl ?_
    exact ⟨rfl, made_set11 KV.out.made hz _ _ _ _ _ _ _ _ _ _ _⟩
  | true =>
    refine hof.mono ?_
    intro e w2 h
    obtain ⟨p, cap, fs, nm, cl, s, hfs, rfl, h2, hh⟩ := holds_op h hio.symm
    have K2 := Lib.hid (K1.out.next h2)
    have H2 := Lib.hid hh
    have hfw := fields_few c
    have hfsm := fields_small c
    have hS2 := hS.out
    have hX2 := hXs.out
    have hR2 := hRs2.out
    rewrite [← hio, ← hfs] at hS2
    rewrite [← hfs] at hX2 hR2 hfw hfsm
    have HS := Lib.hid hS2
    have HX := Lib.hid hX2
    have HR := Lib.hid hR2
    have HF := Lib.hid hfsm
    clear h h2 hh hof hio hfs hS2 hX2 hR2 hfsm
    go_upto_region 3 with (fail)
    go_cut [35] from 27 to 35 (fun g wc => g = .bool (has && decide (16777216 ≤ u)) ∧ WordAt W w.heap.size w2.heap.size inZero [.int .u8 c, .string nm, .int .u8 cl, .int .u8 s, .slice p fs.length cap] p fs.length cap fs wc)
    case first =>
      cases has with
      | false =>
        go_wp2
        go_meet
        case rel => exact ⟨rfl, wordAt_of K2.out H2.out _⟩
      | true =>
        go_wp2
        go_meet
        case rel => exact ⟨by simp, wordAt_of K2.out H2.out _⟩
    case rest =>
      obtain ⟨rfl, hv⟩ := hcut
      generalize wc = v at *
      have KV := Lib.hid hv
      obtain ⟨r0, r1, r2, r3, r4⟩ := row_cells hv.row
      have hl1 := heap_lt hv.row
      generalize hg : (has && decide (16777216 ≤ u)) = g at *
      cases g with
      | true =>
        have hS2 : B = false := by rw [HS.out]; rfl
        have hX2 : X = inZero := by rw [HX.out, hS2]; rfl
        obtain rfl := hS2
        obtain rfl := hX2
        obtain ⟨a0, a1, a2, a3, a4, a5, a6, a7, a8, a9, a10⟩ := in_cells hv.own.in_
        have fz := free_of_lit hv.own.in_
        have hl := heap_lt hv.own.in_
        clear hv hg
        go_wp2
        refine bodyPost_ret (v := .tuple #[inZero.val, .bool false]) (by simp [results, Tryz.results145, go_sem, a0, a1, a2, a3, a4, a5, a6, a7, a8, a9, a10, inZero]) rfl ?_
        exact ⟨rfl, made_set11 KV.out.own.made hz _ _ _ _ _ _ _ _ _ _ _⟩
      | false =>
        have hrd := Lib.hid (eread_any c c cl s nm p fs.length cap fs pay u pc has HPU.out hu HF.out hfw rfl v hv.holds)
        have HS4 := Lib.hid HS.out
        clear hv hg
        generalize readFrom pay u has pc fs 24 (startIn c has) = r at *
        obtain ⟨x0, b0⟩ := r
        go_wp2_with (fail)
        refine hrd.out.mono ?_
        rintro e v2 ⟨rfl, h2⟩
        have K3 := Lib.hid (KV.out.own.next h2)
        clear h2 r0 r1 r2 r3 r4 hl1
        go_upto_region 6 with (fail)
        refine name_world (fun y => InstAt W w.heap.size v2.heap.size x0 y) (instAt_of K3.out x0) ?_
        intro y hy
        have KY := Lib.hid hy
        obtain ⟨a0, a1, a2, a3, a4, a5, a6, a7, a8, a9, a10⟩ := in_cells hy.own.in_
        have fz := free_of_lit hy.own.in_
        have hl := heap_lt hy.own.in_
        cases b0 with
        | false =>
          have hS2 : B = false := HS4.out
          have hX2 : X = inZero := by rw [HX.out, hS2]; rfl
          obtain rfl := hS2
          obtain rfl := hX2
          clear hy
          go_wp2
          refine bodyPost_ret (v := .tuple #[inZero.val, .bool false]) (by simp [results, Tryz.results145, go_sem, a0, a1, a2, a3, a4, a5, a6, a7, a8, a9, a10, inZero]) rfl ?_
          exact ⟨rfl, made_set11 KY.out.own.made hz _ _ _ _ _ _ _ _ _ _ _⟩
        | true =>
          obtain ⟨i0, i1, i2, i3, i4, i5, i6, i7, i8, i9, i10⟩ := in_cells hy.in_
          have hli := heap_lt hy.in_
          have hr := Lib.hid (right_any y (hN.made hy.own.made) x0 HR.out)
          have hS2 : B = rightB x0 := HS4.out.trans (by simp)
          have hX2 : X = if B then x0 else inZero := HX.out
          generalize rightB x0 = rb at *
          have HS5 := Lib.hid hS2
          have HX5 := Lib.hid hX2
          clear hy hS2 hX2
          go_wp2_with (fail)
          refine (hr.out _ (Made.refl _)).mono ?_
          rintro e y2 ⟨rfl, h2⟩
          have KZ := Lib.hid (KY.out.next h2)
          clear h2 a0 a1 a2 a3 a4 a5 a6 a7 a8 a9 a10 fz hl i0 i1 i2 i3 i4 i5 i6 i7 i8 i9 i10 hli
          obtain ⟨a0, a1, a2, a3, a4, a5, a6, a7, a8, a9, a10⟩ := in_cells KZ.out.own.in_
          have fz := free_of_lit KZ.out.own.in_
          have hl := heap_lt KZ.out.own.in_
          obtain ⟨i0, i1, i2, i3, i4, i5, i6, i7, i8, i9, i10⟩ := in_cells KZ.out.in_
          have hli := heap_lt KZ.out.in_
          cases rb with
          | false =>
            have hX2 : X = inZero := by rw [HX5.out, HS5.out]; rfl
            obtain rfl : B = false := HS5.out
            obtain rfl := hX2
            go_wp2
            refine bodyPost_ret (v := .tuple #[inZero.val, .bool false]) (by simp [results, Tryz.results145, go_sem, a0, a1, a2, a3, a4, a5, a6, a7, a8, a9, a10, inZero]) rfl ?_
            exact ⟨rfl, made_set11 KZ.out.own.made hz _ _ _ _ _ _ _ _ _ _ _⟩
          | true =>
            have hX2 : X = x0 := by rw [HX5.out, HS5.out]; rfl
            obtain rfl : B = true := HS5.out
            obtain rfl := hX2
            go_wp2
            refine bodyPost_ret (v := .tuple #[X.val, .bool true]) (by simp [results, Tryz.results145, go_sem, a0, a1, a2, a3, a4, a5, a6, a7, a8, a9, a10]) rfl ?_
            exact ⟨rfl, made_set11 KZ.out.own.made hz _ _ _ _ _ _ _ _ _ _ _⟩
end
end
end Go.Proofs.YtanjmoiepmadhaaGreatDoor
