/- What Word of package enc returns, for every instruction and address, in every world that has grown out of one that holds the tables of names and of pieces. -/
import Derived.Test.YtjeemiabddblhaaDoorEncFns2
import Derived.Test.YtjeemiabddblhaaDoorBitsMade
import Derived.Test.YtjeemiabddblhaaDoorInstFns
import Derived.Test.YtjeemiabddblhaaDoorInstLit
import Derived.Deep.CutRange
namespace Go.Proofs.YtjeemiabddblhaaDoor
open Go.ChangeShapes Go.WideShapes Go.ChangeAt Go.RowKit Go.Sort BigFrame

theorem numZ_u32 {x : In} (h : x.small) (k : Int) : isU32 (numZ x k) := by
  have key : ∀ (c : Prop) [Decidable c] (a b : Int), isU32 a → isU32 b → isU32 (if c then a else b) := fun c _ a b ha hb => ite_of isU32 ha hb
  have u8 : ∀ v : Int, 0 ≤ v → v ≤ 255 → isU32 v := fun v h0 h1 => ⟨h0, by omega⟩
  unfold numZ
  exact key _ _ _ (u8 _ h.mode0 h.mode1) (key _ _ _ (u8 _ h.pred0 h.pred1) (key _ _ _ (u8 _ h.d0 h.d1) (key _ _ _ (u8 _ h.d0 h.d1) (key _ _ _ (u8 _ h.s0 h.s1) (key _ _ _ (u8 _ h.t0 h.t1) (key _ _ _ (u8 _ h.n0 h.n1)
    (key _ _ _ (key _ _ _ ⟨by decide, by decide⟩ ⟨by decide, by decide⟩) (key _ _ _ ⟨h.count0, by have := h.count1; omega⟩ ⟨by decide, by decide⟩))))))))
theorem splitZ_u32 (f : Fd) (x : In) (pc : Int) : isU32 (splitZ f x pc) := by
  unfold splitZ lowerZ
  split
  · exact ⟨by omega, by omega⟩
  · exact ⟨by omega, by omega⟩
theorem held_u32 {x : In} (h : x.small) (f : Fd) (pc : Int) : isU32 (heldZ f x pc) := by
  unfold heldZ
  split
  · exact splitZ_u32 f x pc
  · exact numZ_u32 h _
theorem pay_drop (x : In) (pc : Int) (l : List Fd) (k : Nat) (h : k < l.length) (p low : Int) : payFrom x pc (l.drop k) p low = payFrom x pc (l.drop (k + 1)) (putZ p (low - l[k].bits) l[k].bits (heldZ l[k] x pc)) (low - l[k].bits) := by
  rw [List.drop_eq_getElem_cons h]; rfl
theorem up_drop (x : In) (pc : Int) (l : List Fd) (k : Nat) (h : k < l.length) (u : Int) : upFrom x pc (l.drop k) u = upFrom x pc (l.drop (k + 1)) (if isVal l[k] then uppZ x pc else u) := by
  rw [List.drop_eq_getElem_cons h]; rfl
/-- The variables ahead of the loop. -/
structure WordAt (W : World) (B R : Nat) (x : In) (row : List Value) (p : Option Addr) (n cap : Nat) (fs : List Fd) (v : World) : Prop where
  own : Own W B x v
  row : v.heap[R]? = some (.cells row.toArray 41 (0, 0))
  holds : Holds v p n cap fs
theorem wordAt_of {W w2 : World} {B : Nat} {x : In} {p : Option Addr} {n cap : Nat} {fs : List Fd} (h : Own W B x w2) (hh : Holds w2 p n cap fs) (row : List Value) : WordAt W B w2.heap.size x row p n cap fs (w2.alloc (.cells row.toArray 41)) :=
  ⟨h.next ((Made.refl _).alloc (Nat.le_refl _) _), heap_alloc_new w2 _, hh.made ((Made.refl _).alloc (Nat.le_refl _) _)⟩
/-- The variables within a round. -/
structure RoundAt (V : World) (B F : Nat) (x : In) (f : Fd) (v : World) : Prop where
  made : Made V v
  in_ : InAt v B x
  fd : v.heap[F]? = some (.cells f.cells.toArray 45 (0, 0))
theorem RoundAt.next {V v v' : World} {B F : Nat} {x : In} {f : Fd} (h : RoundAt V B F x f v) (hm : Made v v') : RoundAt V B F x f v' := ⟨Made.trans h.made hm, hm.heap h.in_, hm.heap h.fd⟩
theorem roundAt_of {V v : World} {B : Nat} {x : In} (hx : InAt V B x) (hm : Made V v) (f : Fd) : RoundAt V B v.heap.size x f (v.alloc (.cells f.cells.toArray 45)) :=
  ⟨hm.alloc hm.size _, Made.heap (hm.alloc hm.size _) hx, heap_alloc_new v _⟩
section
attribute [local irreducible] World.cell?
set_option maxRecDepth 100000 in
set_option maxHeartbeats 4000000 in
theorem encWord_any (W : World) (hN : Names W) (hP : Pieces W) (x : In) (hx : x.small) (pc : Int) : Makes Tryd.prog W 8 #[x.val, .int .u32 pc] (.tuple #[.int .u32 (wordP x pc), .int .u32 (upP x pc), .bool (sayB x pc)]) := by
  intro w hm
  have hz := hm.size
  have K0 := Lib.hid (show Own W w.heap.size x (w.alloc (.cells x.cells.toArray 24)) from ⟨hm.alloc hz _, heap_alloc_new w _⟩)
  have hR := Lib.hid (fun u (hu : Names u) => right_any u hu x hx)
  have hF := Lib.hid (fun u (hu : Names u) => extFits_any u hu x hx pc)
  have hop0 := hx.op0
  have hop1 := hx.op1
  have HX := Lib.hid hx
  have hNum := Lib.hid (fun u k => number_any u x hx k)
  have hSpl := Lib.hid (fun u (hu : Names u) f h0 h1 => split_any u hu f x hx pc h0 h1)
  obtain ⟨wd, hwd⟩ : ∃ v, v = wordP x pc := ⟨_, rfl⟩
  obtain ⟨up, hup⟩ : ∃ v, v = upP x pc := ⟨_, rfl⟩
  obtain ⟨sy, hsy⟩ : ∃ v, v = sayB x pc := ⟨_, rfl⟩
  rewrite [← hwd, ← hup, ← hsy]
  have HE := Lib.hid (show (sy = false → wd = 0 ∧ up = 0) ∧ (sy = true → wd = wordZ x.op (payFrom x pc (fieldsZ x.op) 0 24) 0 ∧ up = upFrom x pc (fieldsZ x.op) 0) from
    ⟨fun h => by rw [hwd, hup]; unfold wordP upP; rw [← hsy, h]; exact ⟨rfl, rfl⟩, fun h => by rw [hwd, hup]; unfold wordP upP; rw [← hsy, h]; exact ⟨rfl, rfl⟩⟩)
  have hop : rightB x = true → isOp x.op = true := fun h => by have := right_range h; unfold isOp; simp; omega
  have HO := Lib.hid hop
  have hsay : (rightB x = false ∧ sy = false) ∨ (rightB x = true ∧ x.ext = false ∧ fitP x pc = false ∧ sy = false) ∨ (rightB x = true ∧ x.ext = true ∧ sy = true) ∨ (rightB x = true ∧ x.ext = false ∧ fitP x pc = true ∧ sy = true) := by
    rw [hsy]
    unfold sayB
    cases rightB x <;> cases x.ext <;> cases fitP x pc <;> simp
  clear hwd hup hsy hx hop
  generalize rightB x = rb at *
  generalize fitP x pc = ft at *
  obtain ⟨xo, xd, xs, xt, xn, xp, xm, xw, xe, xc, xi⟩ := x
  go_enter Tryd.func8, Tryd.ntmps8
  go_upto_region 1 with (fail)
  go_cut [27] from 14 to 27 (fun g wc => g = .bool (!sy) ∧ Own W w.heap.size ⟨xo, xd, xs, xt, xn, xp, xm, xw, xe, xc, xi⟩ wc)
  case first =>
    go_wp2_with (fail)
    refine (hR.out _ (hN.made K0.out.made) _ (Made.refl _)).mono ?_
    rintro e w1 ⟨rfl, h1⟩
    have K1 := Lib.hid (K0.out.next h1)
    obtain ⟨a0, a1, a2, a3, a4, a5, a6, a7, a8, a9, a10⟩ := in_cells K1.out.in_
    have hl := heap_lt K1.out.in_
    clear h1
    rcases hsay with ⟨rfl, rfl⟩ | ⟨rfl, hxe, rfl, rfl⟩ | ⟨rfl, hxe, rfl⟩ | ⟨rfl, hxe, rfl, rfl⟩
    case inl =>
      go_wp2
      go_meet
      case rel => exact ⟨rfl, K1.out⟩
    case inr.inr.inl =>
      obtain rfl : xe = true := hxe
      go_wp2
      go_meet
      case rel => exact ⟨rfl, K1.out⟩
    all_goals
      obtain rfl : xe = false := hxe
      go_wp2_with (fail)
      refine (hF.out _ (hN.made K1.out.made) _ (Made.refl _)).mono ?_
      rintro e w2 ⟨rfl, h2⟩
      have K2 := Lib.hid (K1.out.next h2)
      clear h2
      go_wp2
      go_meet
      case rel => exact ⟨rfl, K2.out⟩
  case rest =>
    obtain ⟨rfl, hO⟩ := hcut
    generalize wc = w1 at *
    have K1 := Lib.hid hO
    obtain ⟨a0, a1, a2, a3, a4, a5, a6, a7, a8, a9, a10⟩ := in_cells K1.out.in_
    have hl := heap_lt K1.out.in_
    clear hO
    have hrs : sy = true → rb = true := by
      rcases hsay with ⟨_, h⟩ | ⟨_, _, _, h⟩ | ⟨h, _, _⟩ | ⟨h, _, _, _⟩
      · rw [h]; intro h; cases h
      · rw [h]; intro h; cases h
      · exact fun _ => h
      · exact fun _ => h
    have HB := Lib.hid hrs
    clear hsay hrs
    cases sy with
    | false =>
      obtain ⟨rfl, rfl⟩ := HE.out.1 rfl
      go_wp2
      go_ret3
      exact ⟨rfl, K1.out.made⟩
    | true =>
      have hisop := HO.out (HB.out rfl)
      obtain ⟨E1, E2⟩ := HE.out.2 rfl
      have HW := Lib.hid E1
      have HU := Lib.hid E2
      obtain ⟨-, -, hok⟩ := list_ok _ hisop
      have HK := Lib.hid hok
      have hfew := fields_few xo
      clear E1 E2 hok
      go_wp2_with (fail)
      refine (of_any _ (hN.made K1.out.made) xo hop0 _ (Made.refl _)).mono ?_
      intro e w2 h
      obtain ⟨p, cap, fs, o, nm, c, s, hfs, -, rfl, h2, hh, -⟩ := holds_of h
      rewrite [opN_of hisop] at hfs
      have hfs3 : fieldsZ (In.mk xo xd xs xt xn xp xm xw xe xc xi).op = fs := hfs.symm
      have hfs2 : fieldsZ xo = fs := hfs.symm
      rewrite [hfs3] at HW HU HK
      rewrite [hfs2] at hfew
      have K2 := Lib.hid (K1.out.next h2)
      have H2 := Lib.hid hh
      clear h h2 hh hfs hfs2 hfs3 hisop a0 a1 a2 a3 a4 a5 a6 a7 a8 a9 a10 hl
      go_upto_region 4 with (fail)
      refine name_world (fun v => WordAt W w.heap.size w2.heap.size ⟨xo, xd, xs, xt, xn, xp, xm, xw, xe, xc, xi⟩ [.int .u8 o, .string nm, .int .u8 c, .int .u8 s, .slice p fs.length cap] p fs.length cap fs v) (wordAt_of K2.out H2.out _) ?_
      intro v hv
      have KV := Lib.hid hv
      obtain ⟨r0, r1, r2, r3, r4⟩ := row_cells hv.row
      have hl1 := heap_lt hv.row
      have hl0 := heap_lt hv.own.in_
      obtain ⟨-, hcell⟩ := hv.holds
      have HC := Lib.hid hcell
      clear hv K2 H2 hcell
      go_wp2_with (fail)
      go_loopw [5, 9, 10, 37] (fun uz pz lz i wr => ∃ (k : Nat) (pay low u : Int), k ≤ fs.length ∧ i = .int .i64 k ∧ pz = .int .u32 pay ∧ lz = .int .i64 low ∧ uz = .int .u32 u ∧
          payFrom ⟨xo, xd, xs, xt, xn, xp, xm, xw, xe, xc, xi⟩ pc (fs.drop k) pay low = payFrom ⟨xo, xd, xs, xt, xn, xp, xm, xw, xe, xc, xi⟩ pc fs 0 24 ∧
          upFrom ⟨xo, xd, xs, xt, xn, xp, xm, xw, xe, xc, xi⟩ pc (fs.drop k) u = upFrom ⟨xo, xd, xs, xt, xn, xp, xm, xw, xe, xc, xi⟩ pc fs 0 ∧ isU32 pay ∧ 24 - 24 * (k : Int) ≤ low ∧ low ≤ 24 ∧ Made v wr) (fun _ _ _ i _ => fs.length - (intOf i).toNat)
      case atStart => exact ⟨0, 0, 24, 0, Nat.zero_le _, rfl, rfl, rfl, rfl, rfl, rfl, ⟨by decide, by decide⟩, by decide, by decide, Made.refl v⟩
      case round =>
        obtain ⟨k, pay, low, u, hk, rfl, rfl, rfl, rfl, hat, hau, hpu, hlo, hhi, hwr⟩ := hrel
        have hinr : InAt wr w.heap.size ⟨xo, xd, xs, xt, xn, xp, xm, xw, xe, xc, xi⟩ := hwr.heap KV.out.own.in_
        have hlr := heap_lt hinr
        have HR := Lib.hid hinr
        have HW2 := Lib.hid hwr
        by_cases hlt2 : k < fs.length
        · rcases HC.out with rfl | ⟨b, rfl, hb, hnc, hcm, hce⟩
          · simp at hlt2
          have hbr : b < wr.heap.size := Nat.lt_of_lt_of_le hb HW2.out.size
          have hd := pay_drop ⟨xo, xd, xs, xt, xn, xp, xm, xw, xe, xc, xi⟩ pc fs k hlt2 pay low
          have hd2 := up_drop ⟨xo, xd, xs, xt, xn, xp, xm, xw, xe, xc, xi⟩ pc fs k hlt2 u
          have hfk := HK.out fs[k] (List.getElem_mem _)
          have hfl := flat_at fs k hlt2
          have hce := fun r (hr : r < 5) => (bcell HW2.out).1 b (k * 5 + r) hb ▸ hce (k * 5 + r) (by omega)
          have k0 : wr.cell? ⟨b, k * 5, none⟩ = _ := (hce 0 (by omega)).trans hfl.1
          have k1 := (hce 1 (by omega)).trans hfl.2.1
          have k2 := (hce 2 (by omega)).trans hfl.2.2.1
          have k3 := (hce 3 (by omega)).trans hfl.2.2.2.1
          have k4 := (hce 4 (by omega)).trans hfl.2.2.2.2
          unfold maxLen at hcm
          generalize fs[k] = f at *
          rewrite [hat] at hd
          rewrite [hau] at hd2
          have hb1 := hfk.b1
          have hb2 := hfk.b2
          have HD := Lib.hid hd
          have HD2 := Lib.hid hd2
          have hput := Lib.hid (put_any pay (low - f.bits) f.bits (heldZ f ⟨xo, xd, xs, xt, xn, xp, xm, xw, xe, xc, xi⟩ pc) hpu (held_u32 HX.out f pc) ⟨by omega, by omega⟩)
          have hpu2 := putZ_u32 pay (low - f.bits) f.bits (heldZ f ⟨xo, xd, xs, xt, xn, xp, xm, xw, xe, xc, xi⟩ pc) hpu (held_u32 HX.out f pc)
          have HP2 := Lib.hid hpu2
          have hheld : heldZ f ⟨xo, xd, xs, xt, xn, xp, xm, xw, xe, xc, xi⟩ pc = if isVal f then splitZ f ⟨xo, xd, xs, xt, xn, xp, xm, xw, xe, xc, xi⟩ pc else numZ ⟨xo, xd, xs, xt, xn, xp, xm, xw, xe, xc, xi⟩ f.kind := rfl
          have HH := Lib.hid hheld
          have hs0 := hfk.s0
          have hs1 := hfk.s1
          clear hce hfl hat hau hwr hinr hd hd2 hfk hpu2 hheld
          generalize heldZ f ⟨xo, xd, xs, xt, xn, xp, xm, xw, xe, xc, xi⟩ pc = hv at *
          go_upto_region 8 with (fail)
          refine name_world (fun y => RoundAt v w.heap.size wr.heap.size ⟨xo, xd, xs, xt, xn, xp, xm, xw, xe, xc, xi⟩ f y) (roundAt_of KV.out.own.in_ HW2.out f) ?_
          intro y hy
          have Y0 := Lib.hid hy
          obtain ⟨b0, b1, b2, b3, b4⟩ := row_cells hy.fd
          obtain ⟨a0, a1, a2, a3, a4, a5, a6, a7, a8, a9, a10⟩ := in_cells hy.in_
          have hly := heap_lt hy.fd
          have hlx := heap_lt hy.in_
          clear hy k0 k1 k2 k3 k4
          go_wp2_with (fail)
          refine (hNum.out y f.kind _ (Made.refl _)).mono ?_
          rintro e y1 ⟨rfl, h1⟩
          have Y1 := Lib.hid (Y0.out.next h1)
          clear h1 b0 b1 b2 b3 b4 a0 a1 a2 a3 a4 a5 a6 a7 a8 a9 a10 hly hlx
          obtain ⟨b0, b1, b2, b3, b4⟩ := row_cells Y1.out.fd
          obtain ⟨a0, a1, a2, a3, a4, a5, a6, a7, a8, a9, a10⟩ := in_cells Y1.out.in_
          have hly := heap_lt Y1.out.fd
          have hlx := heap_lt Y1.out.in_
          go_wp2_with (fail)
          refine (isValueField_any y1 f _ (Made.refl _)).mono ?_
          rintro e y2 ⟨rfl, h2⟩
          have Y2 := Lib.hid (Y1.out.next h2)
          clear h2 b0 b1 b2 b3 b4 a0 a1 a2 a3 a4 a5 a6 a7 a8 a9 a10 hly hlx
          obtain ⟨b0, b1, b2, b3, b4⟩ := row_cells Y2.out.fd
          obtain ⟨a0, a1, a2, a3, a4, a5, a6, a7, a8, a9, a10⟩ := in_cells Y2.out.in_
          have hly := heap_lt Y2.out.fd
          have hlx := heap_lt Y2.out.in_
          generalize isVal f = vb at *
          cases vb with
          | false =>
            obtain rfl : hv = numZ ⟨xo, xd, xs, xt, xn, xp, xm, xw, xe, xc, xi⟩ f.kind := HH.out
            go_wp2_with (fail)
            refine (hput.out _).mono ?_
            rintro e y3 ⟨rfl, rfl⟩
            go_wp2
            go_roundw
            case rel => exact ⟨k + 1, _, _, _, by omega, by go_num, rfl, rfl, rfl, HD.out.symm, HD2.out.symm, HP2.out, by omega, by omega, Y2.out.made⟩
            case measure => simp [intOf]; omega
          | true =>
            obtain rfl : hv = splitZ f ⟨xo, xd, xs, xt, xn, xp, xm, xw, xe, xc, xi⟩ pc := HH.out
            have S := Lib.hid (hSpl.out y2 (hN.made (Made.trans KV.out.own.made Y2.out.made)) f hs0 hs1)
            go_wp2_with (fail)
            refine (S.out _ (Made.refl _)).mono ?_
            rintro e y3 ⟨rfl, h3⟩
            have Y3 := Lib.hid (Y2.out.next h3)
            clear h3 b0 b1 b2 b3 b4 a0 a1 a2 a3 a4 a5 a6 a7 a8 a9 a10 hly hlx
            obtain ⟨b0, b1, b2, b3, b4⟩ := row_cells Y3.out.fd
            have hly := heap_lt Y3.out.fd
            go_wp2_with (fail)
            refine (hput.out _).mono ?_
            rintro e y4 ⟨rfl, rfl⟩
            go_wp2
            go_roundw
            case rel => exact ⟨k + 1, _, _, _, by omega, by go_num, rfl, rfl, rfl, HD.out.symm, HD2.out.symm, HP2.out, by omega, by omega, Y3.out.made⟩
            case measure => simp [intOf]; omega
        · obtain rfl : k = fs.length := by omega
          rewrite [List.drop_length] at hat hau
          have hp1 : pay = payFrom ⟨xo, xd, xs, xt, xn, xp, xm, xw, xe, xc, xi⟩ pc fs 0 24 := hat
          have hu1 : u = upFrom ⟨xo, xd, xs, xt, xn, xp, xm, xw, xe, xc, xi⟩ pc fs 0 := hau
          have HPP := Lib.hid hp1
          have HUU := Lib.hid hu1
          have hlx := heap_lt hinr
          obtain ⟨a0, a1, a2, a3, a4, a5, a6, a7, a8, a9, a10⟩ := in_cells hinr
          have hmv : Made W wr := Made.trans KV.out.own.made HW2.out
          have HMV := Lib.hid hmv
          have hwm := Lib.hid (word_made wr (hP.made hmv) xo pay 0 ⟨hop0, by have : xo ≤ 255 := hop1; omega⟩ hpu ⟨by decide, by decide⟩)
          clear hat hau hp1 hu1 hinr hwr hmv
          go_wp2_with (fail)
          refine (hwm.out _ (Made.refl _)).mono ?_
          rintro e w3 ⟨rfl, h3⟩
          have M3 := Lib.hid (Made.trans HMV.out h3)
          clear h3
          go_wp2
          go_ret3
          have e1 : wd = wordZ xo pay 0 := HW.out.trans (by rw [← HPP.out])
          have e2 : up = u := HU.out.trans HUU.out.symm
          subst e1
          subst e2
          exact ⟨rfl, M3.out⟩
end
end Go.Proofs.YtjeemiabddblhaaDoor
