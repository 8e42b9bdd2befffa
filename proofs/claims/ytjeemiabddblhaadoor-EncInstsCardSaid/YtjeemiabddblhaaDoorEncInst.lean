/- What Inst of package enc returns, for every word, upper part and address, in every world that has grown out of one that holds the tables of names and of pieces. -/
import Derived.Test.YtjeemiabddblhaaDoorEncRead
namespace Go.Proofs.YtjeemiabddblhaaDoor
open Go.ChangeShapes Go.WideShapes Go.ChangeAt Go.RowKit Go.Sort BigFrame

theorem row_block {w : World} (row : List Value) : (w.alloc (.cells row.toArray 41)).heap[w.heap.size]? = some (.cells row.toArray 41 (0, 0)) := heap_alloc_new w _
theorem holds_op {W : World} {op : Int} {e : Ending} {w' : World} (h : IsOf W op e w') (ho : isOp op = true) : ∃ (p : Option Addr) (cap : Nat) (fs : List Fd) (nm : ByteArray) (c s : Int), fs = fieldsZ op ∧
    e = .returned (.tuple #[.agg #[.int .u8 op, .string nm, .int .u8 c, .int .u8 s, .slice p fs.length cap], .bool true]) ∧ Made W w' ∧ Holds w' p fs.length cap fs := by
  obtain ⟨p, cap, fs, o, nm, c, s, hfs, rfl, _, _, _, he, hm, hr⟩ := isOf_any h
  rw [opN_of ho] at hfs he
  rw [ho] at he
  refine ⟨p, cap, fs, nm, c, s, hfs, he, hm, ?_⟩
  rcases hr with h | ⟨b, cur, hp, hlo, hb, _, h1, h2, hcell⟩
  · exact ⟨rfl, .inl h⟩
  · exact ⟨rfl, .inr ⟨b, hp, heap_lt hb, h1, h2, hcell⟩⟩
/-- The three variables of Inst. -/
structure InstAt (W : World) (A B : Nat) (x : In) (v : World) : Prop where
  own : Own W A inZero v
  in_ : InAt v B x
theorem InstAt.next {W v v' : World} {A B : Nat} {x : In} (h : InstAt W A B x v) (hm : Made v v') : InstAt W A B x v' := ⟨h.own.next hm, hm.heap h.in_⟩
theorem instAt_of {W v : World} {A : Nat} (h : Own W A inZero v) (x : In) : InstAt W A v.heap.size x (v.alloc (.cells x.cells.toArray 24)) := ⟨h.next ((Made.refl _).alloc (Nat.le_refl _) _), heap_alloc_new v _⟩
section
attribute [local irreducible] World.cell?
set_option maxRecDepth 100000 in
set_option maxHeartbeats 4000000 in
theorem encInst_any (W : World) (hN : Names W) (hP : Pieces W) (wd u pc : Int) (has : Bool) (hw : isU32 wd) (hu : isU32 u) : Makes Tryd.prog W 11 #[.int .u32 wd, .int .u32 u, .bool has, .int .u32 pc] (.tuple #[(instP wd u has pc).val, .bool (instB wd u has pc)]) := by
  intro w hm
  have hz := hm.size
  obtain ⟨X, hX⟩ : ∃ x, x = instP wd u has pc := ⟨_, rfl⟩
  obtain ⟨B, hB⟩ : ∃ b, b = instB wd u has pc := ⟨_, rfl⟩
  rewrite [← hX, ← hB]
  obtain ⟨c, hc⟩ : ∃ c, c = codeZ wd := ⟨_, rfl⟩
  obtain ⟨pay, hpay⟩ : ∃ p, p = payZ wd := ⟨_, rfl⟩
  have hcu := code_u wd
  have hpu := pay_u wd
  have hparts := Lib.hid (fun v (hv : Pieces v) => parts_made v hv wd hw)
  rewrite [← hc] at hcu hparts
  rewrite [← hpay] at hpu hparts
  have hRs := Lib.hid (readP_small wd u has pc)
  have hS := Lib.hid (show B = (isOp c && !(has && decide (16777216 ≤ u)) && (readFrom pay u has pc (fieldsZ c) 24 (startIn c has)).2 && rightB (readFrom pay u has pc (fieldsZ c) 24 (startIn c has)).1) from by rw [hB, hc, hpay]; rfl)
  have hXs := Lib.hid (show X = if B then (readFrom pay u has pc (fieldsZ c) 24 (startIn c has)).1 else inZero from by rw [hX, hB, hc, hpay]; rfl)
  have hRs2 := Lib.hid (show (readFrom pay u has pc (fieldsZ c) 24 (startIn c has)).1.small from by rw [hc, hpay]; exact hRs.out)
  obtain ⟨c0, c1⟩ := hcu
  have HPU := Lib.hid (show isU32 pay from ⟨hpu.1, by omega⟩)
  obtain ⟨u0, u1⟩ := id hu
  have K0 := Lib.hid (show Own W w.heap.size inZero (w.alloc (.cells inZero.cells.toArray 24)) from ⟨hm.alloc hz _, heap_alloc_new w _⟩)
  clear hX hB hc hpay hRs hpu
  have hpz : 0 ≤ parseZ wd ∧ parseZ wd < 4 := by unfold parseZ; omega
  obtain ⟨q0, q1⟩ := hpz
  go_enter Tryd.func11, Tryd.ntmps11
  go_wp2_with (fail)
  refine (hparts.out _ (hP.made K0.out.made) _ (Made.refl _)).mono ?_
  rintro e w1 ⟨rfl, h1⟩
  have K1 := Lib.hid (K0.out.next h1)
  clear h1
  go_wp2_with (fail)
  have hof := of_any _ (hN.made K1.out.made) c c0 _ (Made.refl _)
  obtain ⟨io, hio⟩ : ∃ b, b = isOp c := ⟨_, rfl⟩
  have HIO := Lib.hid hio
  cases io with
  | false =>
    have hS2 : B = false := by rw [hS.out, ← hio]; rfl
    have hX2 : X = inZero := by rw [hXs.out, hS2]; rfl
    obtain rfl := hS2
    obtain rfl := hX2
    refine hof.mono ?_
    intro e w2 h
    obtain ⟨p, cap, fs, o, nm, cl, s, -, -, rfl, h2, -, -⟩ := holds_of h
    rewrite [← hio]
    have K2 := Lib.hid ((K1.out.next h2).next ((Made.refl w2).alloc (Nat.le_refl _) (.cells (([.int .u8 o, .string nm, .int .u8 cl, .int .u8 s, .slice p fs.length cap] : List Value)).toArray 41)))
    clear h h2 hof hio
    go_upto_region 3 with (fail)
    refine name_world (fun v => Own W w.heap.size inZero v) K2.out ?_
    intro v hv
    have KV := Lib.hid hv
    obtain ⟨a0, a1, a2, a3, a4, a5, a6, a7, a8, a9, a10⟩ := in_cells hv.in_
    have fz := free_of_lit hv.in_
    have hl := heap_lt hv.in_
    clear hv
    go_wp2
    refine bodyPost_ret (v := .tuple #[inZero.val, .bool false]) (by simp [results, Tryd.results11, go_sem, a0, a1, a2, a3, a4, a5, a6, a7, a8, a9, a10, inZero]) rfl ?_
    exact ⟨rfl, made_set11 KV.out.made hz _ _ _ _ _ _ _ _ _ _ _⟩
  | true =>
    refine hof.mono ?_
    intro e w2 h
    obtain ⟨p, cap, fs, nm, cl, s, hfs, rfl, h2, hh⟩ := holds_op h hio.symm
    have K2 := Lib.hid (K1.out.next h2)
    have H2 := Lib.hid hh
    have hfw := fields_few c
    have hfsm := fields_small c
    have hS2 := hS.out
    have hX2 := hXs.out
    have hR2 := hRs2.out
    rewrite [← hio, ← hfs] at hS2
    rewrite [← hfs] at hX2 hR2 hfw hfsm
    have HS := Lib.hid hS2
    have HX := Lib.hid hX2
    have HR := Lib.hid hR2
    have HF := Lib.hid hfsm
    clear h h2 hh hof hio hfs hS2 hX2 hR2 hfsm
    go_upto_region 3 with (fail)
    go_cut [35] from 27 to 35 (fun g wc => g = .bool (has && decide (16777216 ≤ u)) ∧ WordAt W w.heap.size w2.heap.size inZero [.int .u8 c, .string nm, .int .u8 cl, .int .u8 s, .slice p fs.length cap] p fs.length cap fs wc)
    case first =>
      cases has with
      | false =>
        go_wp2
        go_meet
        case rel => exact ⟨rfl, wordAt_of K2.out H2.out _⟩
      | true =>
        go_wp2
        go_meet
        case rel => exact ⟨by simp, wordAt_of K2.out H2.out _⟩
    case rest =>
      obtain ⟨rfl, hv⟩ := hcut
      generalize wc = v at *
      have KV := Lib.hid hv
      obtain ⟨r0, r1, r2, r3, r4⟩ := row_cells hv.row
      have hl1 := heap_lt hv.row
      generalize hg : (has && decide (16777216 ≤ u)) = g at *
      cases g with
      | true =>
        have hS2 : B = false := by rw [HS.out]; rfl
        have hX2 : X = inZero := by rw [HX.out, hS2]; rfl
        obtain rfl := hS2
        obtain rfl := hX2
        obtain ⟨a0, a1, a2, a3, a4, a5, a6, a7, a8, a9, a10⟩ := in_cells hv.own.in_
        have fz := free_of_lit hv.own.in_
        have hl := heap_lt hv.own.in_
        clear hv hg
        go_wp2
        refine bodyPost_ret (v := .tuple #[inZero.val, .bool false]) (by simp [results, Tryd.results11, go_sem, a0, a1, a2, a3, a4, a5, a6, a7, a8, a9, a10, inZero]) rfl ?_
        exact ⟨rfl, made_set11 KV.out.own.made hz _ _ _ _ _ _ _ _ _ _ _⟩
      | false =>
        have hrd := Lib.hid (read_any c c cl s nm p fs.length cap fs pay u pc has HPU.out hu HF.out hfw rfl v hv.holds)
        have HS4 := Lib.hid HS.out
        clear hv hg
        generalize readFrom pay u has pc fs 24 (startIn c has) = r at *
        obtain ⟨x0, b0⟩ := r
        go_wp2_with (fail)
        refine hrd.out.mono ?_
        rintro e v2 ⟨rfl, h2⟩
        have K3 := Lib.hid (KV.out.own.next h2)
        clear h2 r0 r1 r2 r3 r4 hl1
        go_upto_region 6 with (fail)
        refine name_world (fun y => InstAt W w.heap.size v2.heap.size x0 y) (instAt_of K3.out x0) ?_
        intro y hy
        have KY := Lib.hid hy
        obtain ⟨a0, a1, a2, a3, a4, a5, a6, a7, a8, a9, a10⟩ := in_cells hy.own.in_
        have fz := free_of_lit hy.own.in_
        have hl := heap_lt hy.own.in_
        cases b0 with
        | false =>
          have hS2 : B = false := HS4.out
          have hX2 : X = inZero := by rw [HX.out, hS2]; rfl
          obtain rfl := hS2
          obtain rfl := hX2
          clear hy
          go_wp2
          refine bodyPost_ret (v := .tuple #[inZero.val, .bool false]) (by simp [results, Tryd.results11, go_sem, a0, a1, a2, a3, a4, a5, a6, a7, a8, a9, a10, inZero]) rfl ?_
          exact ⟨rfl, made_set11 KY.out.own.made hz _ _ _ _ _ _ _ _ _ _ _⟩
        | true =>
          obtain ⟨i0, i1, i2, i3, i4, i5, i6, i7, i8, i9, i10⟩ := in_cells hy.in_
          have hli := heap_lt hy.in_
          have hr := Lib.hid (right_any y (hN.made hy.own.made) x0 HR.out)
          have hS2 : B = rightB x0 := HS4.out.trans (by simp)
          have hX2 : X = if B then x0 else inZero := HX.out
          generalize rightB x0 = rb at *
          have HS5 := Lib.hid hS2
          have HX5 := Lib.hid hX2
          clear hy hS2 hX2
          go_wp2_with (fail)
          refine (hr.out _ (Made.refl _)).mono ?_
          rintro e y2 ⟨rfl, h2⟩
          have KZ := Lib.hid (KY.out.next h2)
          clear h2 a0 a1 a2 a3 a4 a5 a6 a7 a8 a9 a10 fz hl i0 i1 i2 i3 i4 i5 i6 i7 i8 i9 i10 hli
          obtain ⟨a0, a1, a2, a3, a4, a5, a6, a7, a8, a9, a10⟩ := in_cells KZ.out.own.in_
          have fz := free_of_lit KZ.out.own.in_
          have hl := heap_lt KZ.out.own.in_
          obtain ⟨i0, i1, i2, i3, i4, i5, i6, i7, i8, i9, i10⟩ := in_cells KZ.out.in_
          have hli := heap_lt KZ.out.in_
          cases rb with
          | false =>
            have hX2 : X = inZero := by rw [HX5.out, HS5.out]; rfl
            obtain rfl : B = false := HS5.out
            obtain rfl := hX2
            go_wp2
            refine bodyPost_ret (v := .tuple #[inZero.val, .bool false]) (by simp [results, Tryd.results11, go_sem, a0, a1, a2, a3, a4, a5, a6, a7, a8, a9, a10, inZero]) rfl ?_
            exact ⟨rfl, made_set11 KZ.out.own.made hz _ _ _ _ _ _ _ _ _ _ _⟩
          | true =>
            have hX2 : X = x0 := by rw [HX5.out, HS5.out]; rfl
            obtain rfl : B = true := HS5.out
            obtain rfl := hX2
            go_wp2
            refine bodyPost_ret (v := .tuple #[X.val, .bool true]) (by simp [results, Tryd.results11, go_sem, a0, a1, a2, a3, a4, a5, a6, a7, a8, a9, a10]) rfl ?_
            exact ⟨rfl, made_set11 KZ.out.own.made hz _ _ _ _ _ _ _ _ _ _ _⟩
end
end Go.Proofs.YtjeemiabddblhaaDoor
