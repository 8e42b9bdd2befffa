/- EncMoves of the laws of enc returns true, for every instruction and any two addresses, in every world that holds the tables of names and of pieces. -/
import Derived.Test.YtjeemiabddblhaaDoorEncLaws
namespace Go.Proofs.YtjeemiabddblhaaDoor
open Go.ChangeShapes Go.WideShapes Go.ChangeAt Go.RowKit Go.Sort BigFrame

/-- What EncMoves keeps. -/
structure Pair (W : World) (A B : Nat) (x y : In) (w : World) : Prop where
  made : Made W w
  fst : InAt w A x
  snd : InAt w B y
theorem Pair.next {W w w' : World} {A B : Nat} {x y : In} (h : Pair W A B x y w) (hm : Made w w') : Pair W A B x y w' := ⟨Made.trans h.made hm, hm.heap h.fst, hm.heap h.snd⟩
theorem pair_of {W w : World} {A : Nat} {x : In} (h : Own W A x w) (y : In) : Pair W A w.heap.size x y (w.alloc (.cells y.cells.toArray 24)) :=
  ⟨h.made.alloc h.made.size _, Made.heap ((Made.refl _).alloc (Nat.le_refl _) _) h.in_, heap_alloc_new w _⟩
theorem in_setImm2 {w : World} {b : Nat} {x : In} (h : InAt w b x) (i : Int) : InAt (w.setCell ⟨b, 10, none⟩ (.int .i64 i)) b (setImm x i) :=
  heap_setCell_same w b 10 x.cells.toArray 24 _ h
theorem Pair.set {W w : World} {A B : Nat} {x y : In} (h : Pair W A B x y w) (hW : W.heap.size ≤ B) (hne : A ≠ B) (i : Int) : Pair W A B x (setImm y i) (w.setCell ⟨B, 10, none⟩ (.int .i64 i)) :=
  ⟨h.made.setCell (p := ⟨B, 10, none⟩) hW _, (Below.heap_setCell w ⟨B, 10, none⟩ _ A hne).trans h.fst, in_setImm2 h.snd i⟩
namespace encMoves
section
attribute [local irreducible] World.cell?
set_option maxRecDepth 100000 in
set_option maxHeartbeats 4000000 in
theorem walk (W : World) (hT : Tables W) (x : In) (p y : Int) (hx : x.small) (hp : isU32 p) (hy : isU32 y) :
    Calls Tryd.prog 7 #[x.val, .int .u32 p, .int .u32 y] W fun e w' => e = .returned (.bool true) ∧ Made W w' := by
  have K0 := Lib.hid (show Own W W.heap.size x (W.alloc (.cells x.cells.toArray 24)) from ⟨(Made.refl W).alloc (Nat.le_refl _) _, heap_alloc_new W _⟩)
  obtain ⟨p0, p1⟩ := id hp
  obtain ⟨y0, y1⟩ := id hy
  have hb4 : (y - y % 4) % 4 = 0 := by omega
  have i0 := hx.imm0
  have i1 := hx.imm1
  have C1 := Lib.hid (fun v (hv : Tables v) => encWord_any v hv.1 hv.2 x hx (p - p % 4))
  have C2 := Lib.hid (fun v (hv : Tables v) => target_any v hv.1 x hx)
  have C9 := Lib.hid (fun v (hv : Tables v) => awake_any v hv)
  have hcase : ((targetP x).2 = true ∧ ∀ v, Tables v → Makes Tryd.prog v 8 #[(setImm x ((x.imm + (y - y % 4)) % 4294967296)).val, .int .u32 ((p - p % 4 + (y - y % 4)) % 4294967296)] (.tuple #[.int .u32 (wordP x (p - p % 4)), .int .u32 (upP x (p - p % 4)), .bool (sayB x (p - p % 4))])) ∨
      ((targetP x).2 = false ∧ ∀ v, Tables v → Makes Tryd.prog v 8 #[x.val, .int .u32 ((p - p % 4 + (y - y % 4)) % 4294967296)] (.tuple #[.int .u32 (wordP x (p - p % 4)), .int .u32 (upP x (p - p % 4)), .bool (sayB x (p - p % 4))])) := by
    cases hr : (rightB x && hasB (fieldsZ x.op) 10) with
    | true =>
      refine .inl ⟨by unfold targetP; rw [hr]; rfl, fun v hv => ?_⟩
      have hr2 := hr
      simp only [Bool.and_eq_true] at hr2
      have ho := rel_op hr2.1 hr2.2
      obtain ⟨m1, m2, m3, m4⟩ := moved_rel hx hr2.1 ho (p - p % 4) (y - y % 4) hb4
      have := encWord_any v hv.1 hv.2 _ m1 ((p - p % 4 + (y - y % 4)) % 4294967296)
      rw [m2, m3, m4] at this
      exact this
    | false =>
      refine .inr ⟨by unfold targetP; rw [hr]; rfl, fun v hv => ?_⟩
      obtain ⟨m2, m3, m4⟩ := moved_other hr (p - p % 4) ((p - p % 4 + (y - y % 4)) % 4294967296)
      have := encWord_any v hv.1 hv.2 x hx ((p - p % 4 + (y - y % 4)) % 4294967296)
      rw [m2, m3, m4] at this
      exact this
  obtain ⟨wv, hwv⟩ : ∃ v, v = wordP x (p - p % 4) := ⟨_, rfl⟩
  obtain ⟨uv, huv⟩ : ∃ v, v = upP x (p - p % 4) := ⟨_, rfl⟩
  obtain ⟨sy, hsy⟩ : ∃ v, v = sayB x (p - p % 4) := ⟨_, rfl⟩
  rewrite [← hwv, ← huv, ← hsy] at C1 hcase
  have HC := Lib.hid hcase
  clear hwv huv hsy hcase hx hp hy
  generalize targetP x = tg at *
  obtain ⟨tv, tb⟩ := tg
  go_enter Tryd.func7, Tryd.ntmps7
  go_wp2_with (fail)
  refine (C1.out _ (hT.made K0.out.made) _ (Made.refl _)).mono ?_
  rintro e z1 ⟨rfl, h1⟩
  have K1 := Lib.hid (K0.out.next h1)
  clear h1
  obtain ⟨a0, a1, a2, a3, a4, a5, a6, a7, a8, a9, a10⟩ := in_cells K1.out.in_
  have hl := heap_lt K1.out.in_
  go_upto_region 5 with (fail)
  refine name_world (fun v => Pair W W.heap.size z1.heap.size x x v) (pair_of K1.out x) ?_
  intro y1 hk
  have P1 := Lib.hid hk
  clear a0 a1 a2 a3 a4 a5 a6 a7 a8 a9 a10 hl
  obtain ⟨a0, a1, a2, a3, a4, a5, a6, a7, a8, a9, a10⟩ := in_cells hk.fst
  have hl := heap_lt hk.fst
  clear hk
  go_wp2_with (fail)
  refine (C2.out _ (hT.made P1.out.made) _ (Made.refl _)).mono ?_
  rintro e z2 ⟨rfl, h2⟩
  have P2 := Lib.hid (P1.out.next h2)
  clear h2 a0 a1 a2 a3 a4 a5 a6 a7 a8 a9 a10 hl
  obtain ⟨a0, a1, a2, a3, a4, a5, a6, a7, a8, a9, a10⟩ := in_cells P2.out.fst
  obtain ⟨c0, c1, c2, c3, c4, c5, c6, c7, c8, c9, c10⟩ := in_cells P2.out.snd
  have fz := free_of_lit P2.out.snd
  have hl := heap_lt P2.out.fst
  have hl2 := heap_lt P2.out.snd
  rcases HC.out with ⟨htb, hC⟩ | ⟨htb, hC⟩
  · obtain rfl : tb = true := htb
    have D := Lib.hid hC
    clear hC
    have Q2 := Lib.hid (P2.out.set (i := (x.imm + (y - y % 4)) % 4294967296) (by have := K1.out.made.size; omega) (by have := heap_lt K1.out.in_; omega))
    go_upto_region 8 with (fail)
    refine name_world (fun v => Pair W W.heap.size z1.heap.size x (setImm x ((x.imm + (y - y % 4)) % 4294967296)) v) Q2.out ?_
    intro y2 hk
    have P3 := Lib.hid hk
    clear a0 a1 a2 a3 a4 a5 a6 a7 a8 a9 a10 c0 c1 c2 c3 c4 c5 c6 c7 c8 c9 c10 hl hl2 fz Q2
    generalize setImm x ((x.imm + (y - y % 4)) % 4294967296) = x2 at *
    obtain ⟨c0, c1, c2, c3, c4, c5, c6, c7, c8, c9, c10⟩ := in_cells hk.snd
    have hl2 := heap_lt hk.snd
    clear hk
    go_wp2_with (fail)
    refine (D.out _ (hT.made P3.out.made) _ (Made.refl _)).mono ?_
    rintro e z3 ⟨rfl, h3⟩
    have P4 := Lib.hid (P3.out.next h3)
    clear h3
    go_wp2_with (fail)
    refine (C9.out _ (hT.made P4.out.made) _ (Made.refl _)).mono ?_
    rintro e z9 ⟨rfl, h9⟩
    have P9 := Lib.hid (P4.out.next h9)
    clear h9
    go_wp2
    go_ret
    exact ⟨by simp, P9.out.made⟩
  · obtain rfl : tb = false := htb
    have D := Lib.hid hC
    clear hC
    go_wp2_with (fail)
    refine (D.out _ (hT.made P2.out.made) _ (Made.refl _)).mono ?_
    rintro e z3 ⟨rfl, h3⟩
    have P3 := Lib.hid (P2.out.next h3)
    clear h3
    go_wp2_with (fail)
    refine (C9.out _ (hT.made P3.out.made) _ (Made.refl _)).mono ?_
    rintro e z9 ⟨rfl, h9⟩
    have P9 := Lib.hid (P3.out.next h9)
    clear h9
    go_wp2
    go_ret
    exact ⟨by simp, P9.out.made⟩
end
end encMoves
end Go.Proofs.YtjeemiabddblhaaDoor
