/- EncBack of the laws of enc returns true, for every word, upper part, instruction, address and parse bits, in every world that holds the tables of names and of pieces. -/
import Derived.Test.YtjeemiabddblhaaDoorEncLaws
import Derived.Deep.CutRange
namespace Go.Proofs.YtjeemiabddblhaaDoor
open Go.ChangeShapes Go.WideShapes Go.ChangeAt Go.RowKit Go.Sort BigFrame

theorem andNot_parse (w : Int) (hw : isU32 w) : bits .andNot .u32 w 49152 = wordZ (codeZ w) (payZ w) 0 := by
  obtain ⟨V, rfl, hV⟩ := hw.nat
  have h := nat_put V 0 14 2 (by decide) hV
  rw [Nat.zero_mul, Nat.zero_mod, Nat.zero_and, Nat.or_zero, Nat.add_zero] at h
  have e : bits .andNot .u32 (V : Int) 49152 = ((V &&& (4294967295 - 49152) : Nat) : Int) := u32_andNot_nat V 49152 hV (by decide)
  rw [e]
  rw [show (2 ^ 2 - 1) * 2 ^ 14 = 49152 from rfl] at h
  rw [h]
  unfold wordZ codeZ payZ
  omega
theorem turned_word (w q : Int) (hw : isU32 w) (h0 : 0 ≤ q) (h1 : q < 4) : bits .or .u32 (bits .andNot .u32 w 49152) (q * 16384) = wordZ (codeZ w) (payZ w) q := by
  obtain ⟨V, rfl, hV⟩ := hw.nat
  obtain ⟨Q, rfl⟩ := Int.eq_ofNat_of_zero_le h0
  have hQ : Q < 4 := by omega
  have h := nat_put V Q 14 2 (by decide) hV
  have e : bits .andNot .u32 (V : Int) 49152 = ((V &&& (4294967295 - 49152) : Nat) : Int) := u32_andNot_nat V 49152 hV (by decide)
  have e2 : ((Q : Int) * 16384) = ((Q * 16384 : Nat) : Int) := by omega
  have e3 : Q * 2 ^ 14 % 2 ^ 32 &&& (2 ^ 2 - 1) * 2 ^ 14 = Q * 16384 := by
    have : ∀ q, q < 4 → q * 2 ^ 14 % 2 ^ 32 &&& (2 ^ 2 - 1) * 2 ^ 14 = q * 16384 := by decide
    exact this Q hQ
  rw [e3] at h
  rw [e, e2, u32_or_nat _ _ (Nat.lt_of_le_of_lt Nat.and_le_left (by omega)) (by omega)]
  rw [show (2 ^ 2 - 1) * 2 ^ 14 = 49152 from rfl] at h
  rw [h]
  unfold wordZ codeZ payZ
  omega
theorem turned_parts (w q : Int) (h0 : 0 ≤ q) (h1 : q < 4) : codeZ (wordZ (codeZ w) (payZ w) q) = codeZ w ∧ payZ (wordZ (codeZ w) (payZ w) q) = payZ w ∧ isU32 (wordZ (codeZ w) (payZ w) q) := by
  obtain ⟨c0, c1⟩ := code_u w
  obtain ⟨p0, p1⟩ := pay_u w
  generalize codeZ w = c at *
  generalize payZ w = p at *
  obtain ⟨k1, k2, k3, k4⟩ := code_word c0 c1 p0 p1
  have e : wordZ c p q = wordZ c p 0 + q * 16384 := by unfold wordZ; omega
  have e0 : wordZ c p 0 / 16384 % 4 = 0 := k3
  rw [e]
  generalize wordZ c p 0 = v at *
  obtain ⟨v0, v1⟩ := k4
  refine ⟨?_, ?_, ?_⟩
  · rw [← k1]; unfold codeZ; omega
  · rw [← k2]; unfold payZ; omega
  · exact ⟨by omega, by omega⟩
theorem run_in_neq (y : In) (w : World) : (binOp .neq 24 y.val y.val).run Tryd.prog w = .ok (.bool false) w := by
  simp [go_sem]
/-- What EncBack keeps. -/
structure Back (W : World) (A B C : Nat) (x y z : In) (w : World) : Prop where
  made : Made W w
  fst : InAt w A x
  snd : InAt w B y
  thd : InAt w C z
theorem Back.next {W w w' : World} {A B C : Nat} {x y z : In} (h : Back W A B C x y z w) (hm : Made w w') : Back W A B C x y z w' := ⟨Made.trans h.made hm, hm.heap h.fst, hm.heap h.snd, hm.heap h.thd⟩
theorem Own.more {W w : World} {A : Nat} {x : In} (h : Own W A x w) (o : Obj) : Own W A x (w.alloc o) := h.next ((Made.refl _).alloc (Nat.le_refl _) _)
theorem top_parse (v : Int) (hv : isU32 v) (h : parseZ v = 0) : bits .and .u32 (v / 16384) 3 = 0 := by
  obtain ⟨h0, h1⟩ := hv
  have e := and_mask (v / 16384) 2 (by decide) ⟨by omega, by omega⟩
  rw [show (2 : Int) ^ 2 - 1 = 3 from rfl] at e
  rw [e]
  exact h
/-- What EncBack uses of the word's own instruction. -/
structure Said (wd U : Int) (has : Bool) (pc : Int) (X : In) : Prop where
  small : X.small
  say : sayB X pc = true
  word : wordP X pc = wordZ (codeZ wd) (payZ wd) 0
  up : upP X pc = U
  ext : X.ext = has
  right : rightB X = true
theorem said_of {wd U : Int} {has : Bool} {pc : Int} (h : instB wd U has pc = true) (h0 : 0 ≤ U) (hn : has = false → U = 0) : Said wd U has pc (instP wd U has pc) := by
  obtain ⟨a1, a2, a3, a4, _, a6⟩ := word_of_inst h h0 hn
  exact ⟨instP_small _ _ _ _, a1, a2, a3, a4, a6⟩
namespace encBack
section
attribute [local irreducible] World.cell?
set_option maxRecDepth 100000 in
set_option maxHeartbeats 8000000 in
theorem walk (W : World) (hT : Tables W) (wd u0 : Int) (has : Bool) (x : In) (pc q : Int) (hw : isU32 wd) (hu : isU32 u0) (hx : x.small) (hq : isU8 q) :
    Calls Tryd.prog 6 #[.int .u32 wd, .int .u32 u0, .bool has, x.val, .int .u32 pc, .int .u8 q] W fun e w' => e = .returned (.bool true) ∧ Made W w' := by
  have K0 := Lib.hid (show Own W W.heap.size x (W.alloc (.cells x.cells.toArray 24)) from ⟨(Made.refl W).alloc (Nat.le_refl _) _, heap_alloc_new W _⟩)
  obtain ⟨U, hU⟩ : ∃ U, U = if has then u0 % 16777216 else 0 := ⟨_, rfl⟩
  have hU0 : 0 ≤ U ∧ U < 16777216 := by rw [hU]; split <;> omega
  have hUn : has = false → U = 0 := fun h => by rw [hU, h]; rfl
  have hUc : (has = false ∧ U = 0) ∨ (has = true ∧ U = u0 % 16777216) := by
    rw [hU]
    cases has
    · exact .inl ⟨rfl, rfl⟩
    · exact .inr ⟨rfl, rfl⟩
  obtain ⟨U0, U1⟩ := hU0
  obtain ⟨w0, w1⟩ := id hw
  obtain ⟨v0, v1⟩ := id hu
  obtain ⟨q0, q1⟩ := id hq
  have hq4 : 0 ≤ q % 4 ∧ q % 4 < 4 := by omega
  have hturn := turned_word wd (q % 4) hw hq4.1 hq4.2
  obtain ⟨t1, t2, t3⟩ := turned_parts wd (q % 4) hq4.1 hq4.2
  have hand := andNot_parse wd hw
  rewrite [hand] at hturn
  obtain ⟨hq2, hq3⟩ := hq4
  have hUu : isU32 U := ⟨U0, by omega⟩
  obtain ⟨T, hTT⟩ : ∃ T, T = wordZ (codeZ wd) (payZ wd) (q % 4) := ⟨_, rfl⟩
  rewrite [← hTT] at hturn t1 t2 t3
  have hsame := inst_parts t1 t2 U has pc
  have hsaid := fun h => said_of (wd := wd) (pc := pc) h U0 hUn
  obtain ⟨V, hV⟩ : ∃ V, V = wordZ (codeZ wd) (payZ wd) 0 := ⟨_, rfl⟩
  have C1 := Lib.hid (fun v (hv : Tables v) => encInst_any v hv.1 hv.2 wd U pc has hw hUu)
  have C2 := fun v (hv : Tables v) => encInst_any v hv.1 hv.2 T U pc has t3 hUu
  rewrite [hsame.1, hsame.2] at C2
  have D2 := Lib.hid C2
  obtain ⟨X, hX⟩ : ∃ X, X = instP wd U has pc := ⟨_, rfl⟩
  obtain ⟨ok, hok⟩ : ∃ b, b = instB wd U has pc := ⟨_, rfl⟩
  rewrite [← hX, ← hok] at C1 D2
  rewrite [← hX, ← hok] at hsaid
  have S := Lib.hid hsaid
  have hne := run_in_neq X
  have C5 := Lib.hid (fun v (hv : Tables v) => encWord_any v hv.1 hv.2 x hx pc)
  have C6 := Lib.hid (fun v (hv : Tables v) => right_any v hv.1 x hx)
  have C7 := Lib.hid (fun v (hv : Tables v) => extFits_any v hv.1 x hx pc)
  have C9 := Lib.hid (fun v (hv : Tables v) => awake_any v hv)
  have hsay : (rightB x = false ∧ sayB x pc = false) ∨ (rightB x = true ∧ x.ext = false ∧ fitP x pc = false ∧ sayB x pc = false) ∨ (rightB x = true ∧ x.ext = true ∧ sayB x pc = true) ∨ (rightB x = true ∧ x.ext = false ∧ fitP x pc = true ∧ sayB x pc = true) := by
    unfold sayB
    cases rightB x <;> cases x.ext <;> cases fitP x pc <;> simp
  have hz : sayB x pc = false → wordP x pc = 0 ∧ upP x pc = 0 := fun h => by unfold wordP upP; rw [h]; exact ⟨rfl, rfl⟩
  have hub := upP_bounds x pc
  have C8 : sayB x pc = true → (∀ v, Tables v → Makes Tryd.prog v 11 #[.int .u32 (wordP x pc), .int .u32 (upP x pc), .bool x.ext, .int .u32 pc] (.tuple #[x.val, .bool true])) ∧ (0 ≤ wordP x pc ∧ wordP x pc < 4294967296) ∧ bits .and .u32 (wordP x pc / 16384) 3 = 0 ∧ upP x pc / 16777216 = 0 := by
    intro h
    obtain ⟨i1, i2, _, _, i5, i6⟩ := inst_of_word hx (pc := pc) h
    refine ⟨fun v hv => ?_, i6, top_parse _ i6 i5, by omega⟩
    have := encInst_any v hv.1 hv.2 (wordP x pc) (upP x pc) pc x.ext i6 ⟨hub.1, by omega⟩
    rwa [i1, i2] at this
  have hxx : ∀ w, (binOp .eql 24 x.val x.val).run Tryd.prog w = .ok (.bool true) w := fun w => (run_in_eql x x w).trans (by rw [decide_eq_true rfl])
  obtain ⟨b0, b1⟩ := hub
  rewrite [← hV] at hand hturn
  have HV := Lib.hid (fun (Y : In) (h : Said wd U has pc Y) => (hV ▸ h.word : wordP Y pc = V))
  generalize wordP x pc = wv at *
  generalize upP x pc = uv at *
  generalize sayB x pc = sy at *
  generalize rightB x = rb at *
  generalize fitP x pc = ft at *
  have HZ := Lib.hid hz
  have H8 := Lib.hid C8
  have HS := Lib.hid hsay
  clear hz C8 hsay hU hUn hTT hV hX hok hsame C2 hsaid t1 t2 t3 hx hw hu hq hUu
  obtain ⟨xo, xd, xs, xt, xn, xp, xm, xw, xe, xc, xi⟩ := x
  obtain ⟨yo, yd, ys, yt, yn, yp, ym, yw, ye, yc, yi⟩ := X
  go_enter Tryd.func6, Tryd.ntmps6
  rcases hUc with ⟨rfl, rfl⟩ | ⟨rfl, rfl⟩
  all_goals
    go_wp2_with (fail)
    refine (C1.out _ (hT.made K0.out.made) _ (Made.refl _)).mono ?_
    rintro e z1 ⟨rfl, h1⟩
    have K1 := Lib.hid (K0.out.next h1)
    clear h1
    go_upto_region 6 with (fail)
    refine name_world (fun v => Own W W.heap.size ⟨xo, xd, xs, xt, xn, xp, xm, xw, xe, xc, xi⟩ v ∧ InAt v z1.heap.size ⟨yo, yd, ys, yt, yn, yp, ym, yw, ye, yc, yi⟩) ⟨K1.out.more _, heap_alloc_new z1 _⟩ ?_
    rintro y1 ⟨hk, hi⟩
    have L1 := Lib.hid hk
    have I1 := Lib.hid hi
    clear hk hi
    go_wp2_with (fail)
    refine (D2.out _ (hT.made L1.out.made) _ (Made.refl _)).mono ?_
    rintro e z2 ⟨rfl, h2⟩
    have L2 := Lib.hid (L1.out.next h2)
    have I2 := Lib.hid (Made.heap h2 I1.out)
    clear h2
    go_upto_region 7 with (fail)
    refine name_world (fun v => Back W W.heap.size z1.heap.size z2.heap.size ⟨xo, xd, xs, xt, xn, xp, xm, xw, xe, xc, xi⟩ ⟨yo, yd, ys, yt, yn, yp, ym, yw, ye, yc, yi⟩ ⟨yo, yd, ys, yt, yn, yp, ym, yw, ye, yc, yi⟩ v) ⟨(L2.out.more _).made, (L2.out.more _).in_, Made.heap ((Made.refl _).alloc (Nat.le_refl _) _) I2.out, heap_alloc_new z2 _⟩ ?_
    intro y2 hb
    have B2 := Lib.hid hb
    obtain ⟨a0, a1, a2, a3, a4, a5, a6, a7, a8, a9, a10⟩ := in_cells hb.snd
    obtain ⟨c0, c1, c2, c3, c4, c5, c6, c7, c8, c9, c10⟩ := in_cells hb.thd
    have hl1 := heap_lt hb.snd
    have hl2 := heap_lt hb.thd
    clear hb
    go_upto_region 9 with (fail)
    rcases (show ok = false ∨ ok = true by cases ok <;> simp) with rfl | rfl
    case' inl =>
      go_upto_region 13 with (fail)
      have B3 := B2
      clear a0 a1 a2 a3 a4 a5 a6 a7 a8 a9 a10 c0 c1 c2 c3 c4 c5 c6 c7 c8 c9 c10 hl1 hl2
      generalize y2 = y3 at *
    case' inr =>
      have P := S.out rfl
      have e1 := HV.out _ P
      have e2 := P.up
      have e3 := P.say
      have e4 := P.right
      have e5 := P.small
      have e6 : ye = _ := P.ext
      subst e6
      have D3 := Lib.hid (fun v (hv : Tables v) => e3 ▸ e2 ▸ e1 ▸ encWord_any v hv.1 hv.2 _ e5 pc)
      have D4 := Lib.hid (fun v (hv : Tables v) => e4 ▸ right_any v hv.1 _ e5)
      clear P e1 e2 e3 e4 e5
      go_wp2_with (fail)
      refine (D3.out _ (hT.made B2.out.made) _ (Made.refl _)).mono ?_
      rintro e z3 ⟨rfl, h3⟩
      have B3 := Lib.hid (B2.out.next h3)
      clear h3 a0 a1 a2 a3 a4 a5 a6 a7 a8 a9 a10 c0 c1 c2 c3 c4 c5 c6 c7 c8 c9 c10 hl1 hl2
      obtain ⟨a0, a1, a2, a3, a4, a5, a6, a7, a8, a9, a10⟩ := in_cells B3.out.snd
      have hl1 := heap_lt B3.out.snd
      go_wp2_with (fail)
      refine (D4.out _ (hT.made B3.out.made) _ (Made.refl _)).mono ?_
      rintro e z4 ⟨rfl, h4⟩
      have B4 := Lib.hid (B3.out.next h4)
      clear h4 a0 a1 a2 a3 a4 a5 a6 a7 a8 a9 a10 hl1
      go_upto_region 13 with (fail)
      clear B3
      have B3 := B4
      generalize z4 = y3 at *
    all_goals
      obtain ⟨a0, a1, a2, a3, a4, a5, a6, a7, a8, a9, a10⟩ := in_cells B3.out.fst
      have hl := heap_lt B3.out.fst
      go_wp2_with (fail)
      refine (C5.out _ (hT.made B3.out.made) _ (Made.refl _)).mono ?_
      rintro e z5 ⟨rfl, h5⟩
      have B5 := Lib.hid (B3.out.next h5)
      clear h5 a0 a1 a2 a3 a4 a5 a6 a7 a8 a9 a10 hl
      obtain ⟨a0, a1, a2, a3, a4, a5, a6, a7, a8, a9, a10⟩ := in_cells B5.out.fst
      have hl := heap_lt B5.out.fst
      go_wp2_with (fail)
      refine (C6.out _ (hT.made B5.out.made) _ (Made.refl _)).mono ?_
      rintro e z6 ⟨rfl, h6⟩
      have B6 := Lib.hid (B5.out.next h6)
      clear h6 a0 a1 a2 a3 a4 a5 a6 a7 a8 a9 a10 hl
      obtain ⟨a0, a1, a2, a3, a4, a5, a6, a7, a8, a9, a10⟩ := in_cells B6.out.fst
      have hl := heap_lt B6.out.fst
      rcases HS.out with ⟨rfl, rfl⟩ | ⟨rfl, hxe, rfl, rfl⟩ | ⟨rfl, hxe, rfl⟩ | ⟨rfl, hxe, rfl, rfl⟩
      case inl =>
        obtain ⟨rfl, rfl⟩ := HZ.out rfl
        go_wp2_with (fail)
        refine (C9.out _ (hT.made B6.out.made) _ (Made.refl _)).mono ?_
        rintro e z9 ⟨rfl, h9⟩
        have B9 := Lib.hid (B6.out.next h9)
        clear h9
        go_wp2
        go_ret
        exact ⟨rfl, B9.out.made⟩
      case inr.inl =>
        obtain rfl : xe = false := hxe
        obtain ⟨rfl, rfl⟩ := HZ.out rfl
        go_wp2_with (fail)
        refine (C7.out _ (hT.made B6.out.made) _ (Made.refl _)).mono ?_
        rintro e z7 ⟨rfl, h7⟩
        have B7 := Lib.hid (B6.out.next h7)
        clear h7
        go_wp2_with (fail)
        refine (C9.out _ (hT.made B7.out.made) _ (Made.refl _)).mono ?_
        rintro e z9 ⟨rfl, h9⟩
        have B9 := Lib.hid (B7.out.next h9)
        clear h9
        go_wp2
        go_ret
        exact ⟨rfl, B9.out.made⟩
      case inr.inr.inl =>
        obtain rfl : xe = true := hxe
        obtain ⟨C8, ⟨k0, k1⟩, hba, hsh⟩ := H8.out rfl
        have D8 := Lib.hid C8
        clear C8
        go_wp2_with (fail)
        refine (D8.out _ (hT.made B6.out.made) _ (Made.refl _)).mono ?_
        rintro e z8 ⟨rfl, h8⟩
        have B8 := Lib.hid (B6.out.next h8)
        clear h8
        go_upto_region 19 with (fail)
        refine name_world (fun v => Own W W.heap.size ⟨xo, xd, xs, xt, xn, xp, xm, xw, true, xc, xi⟩ v ∧ InAt v z8.heap.size ⟨xo, xd, xs, xt, xn, xp, xm, xw, true, xc, xi⟩) ⟨(Own.mk B8.out.made B8.out.fst).more _, heap_alloc_new z8 _⟩ ?_
        rintro y9 ⟨hk, hi⟩
        have L9 := Lib.hid hk
        clear a0 a1 a2 a3 a4 a5 a6 a7 a8 a9 a10 hl
        obtain ⟨a0, a1, a2, a3, a4, a5, a6, a7, a8, a9, a10⟩ := in_cells hk.in_
        obtain ⟨c0, c1, c2, c3, c4, c5, c6, c7, c8, c9, c10⟩ := in_cells hi
        have hl := heap_lt hk.in_
        have hl2 := heap_lt hi
        clear hk hi
        go_wp2_with (fail)
        refine (C9.out _ (hT.made L9.out.made) _ (Made.refl _)).mono ?_
        rintro e z10 ⟨rfl, h10⟩
        have L10 := Lib.hid (L9.out.next h10)
        clear h10
        go_wp2
        go_ret
        exact ⟨rfl, L10.out.made⟩
      case inr.inr.inr =>
        obtain rfl : xe = false := hxe
        obtain ⟨C8, ⟨k0, k1⟩, hba, hsh⟩ := H8.out rfl
        have D8 := Lib.hid C8
        clear C8
        go_wp2_with (fail)
        refine (C7.out _ (hT.made B6.out.made) _ (Made.refl _)).mono ?_
        rintro e z7 ⟨rfl, h7⟩
        have B7 := Lib.hid (B6.out.next h7)
        clear h7 a0 a1 a2 a3 a4 a5 a6 a7 a8 a9 a10 hl
        obtain ⟨a0, a1, a2, a3, a4, a5, a6, a7, a8, a9, a10⟩ := in_cells B7.out.fst
        have hl := heap_lt B7.out.fst
        go_wp2_with (fail)
        refine (D8.out _ (hT.made B7.out.made) _ (Made.refl _)).mono ?_
        rintro e z8 ⟨rfl, h8⟩
        have B8 := Lib.hid (B7.out.next h8)
        clear h8
        go_upto_region 19 with (fail)
        refine name_world (fun v => Own W W.heap.size ⟨xo, xd, xs, xt, xn, xp, xm, xw, false, xc, xi⟩ v ∧ InAt v z8.heap.size ⟨xo, xd, xs, xt, xn, xp, xm, xw, false, xc, xi⟩) ⟨(Own.mk B8.out.made B8.out.fst).more _, heap_alloc_new z8 _⟩ ?_
        rintro y9 ⟨hk, hi⟩
        have L9 := Lib.hid hk
        clear a0 a1 a2 a3 a4 a5 a6 a7 a8 a9 a10 hl
        obtain ⟨a0, a1, a2, a3, a4, a5, a6, a7, a8, a9, a10⟩ := in_cells hk.in_
        obtain ⟨c0, c1, c2, c3, c4, c5, c6, c7, c8, c9, c10⟩ := in_cells hi
        have hl := heap_lt hk.in_
        have hl2 := heap_lt hi
        clear hk hi
        go_wp2_with (fail)
        refine (C9.out _ (hT.made L9.out.made) _ (Made.refl _)).mono ?_
        rintro e z10 ⟨rfl, h10⟩
        have L10 := Lib.hid (L9.out.next h10)
        clear h10
        go_wp2
        go_ret
        exact ⟨rfl, L10.out.made⟩
end
end encBack
end Go.Proofs.YtjeemiabddblhaaDoor
