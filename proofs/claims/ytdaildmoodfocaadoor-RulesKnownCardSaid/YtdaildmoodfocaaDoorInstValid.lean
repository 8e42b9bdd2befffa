/- What isValid and validRow of package inst return, for every instruction, in every world that has grown out of one that holds the table of names. -/
import Derived.Test.YtdaildmoodfocaaDoorInstHas
import Derived.Test.YtdaildmoodfocaaDoorInstEq
import Derived.Deep.RegionHeld3
import Derived.Deep.DrawnRows
import Derived.Deep.CutRange
namespace Go.Proofs.YtdaildmoodfocaaDoor
open Go.ChangeShapes Go.WideShapes Go.ChangeAt Go.RowKit Go.Sort BigFrame

theorem Took.cell {w w' : World} {b : Nat} {x : In} (h : Took w w' b x) {i : Nat} (hi : i ≠ b) (j : Nat) : w'.cell? ⟨i, j, none⟩ = w.cell? ⟨i, j, none⟩ := by simp [World.cell?, h.far i hi]
theorem in_setExt {w : World} {b : Nat} {x : In} (h : InAt w b x) : InAt (w.setCell ⟨b, 8, none⟩ (.bool false)) b { x with ext := false } :=
  heap_setCell_same w b 8 x.cells.toArray 24 _ h
theorem in_setOp {w : World} {b : Nat} {x : In} (h : InAt w b x) : InAt (w.setCell ⟨b, 0, none⟩ (.int .u8 0)) b { x with op := 0 } :=
  heap_setCell_same w b 0 x.cells.toArray 24 _ h
/-- What stands ahead of the loop. -/
structure Ahead (w u : World) (x : In) (row : List Value) : Prop where
  made : Made w u
  in_ : InAt u w.heap.size x
  row : u.heap[w.heap.size + 1]? = some (.cells row.toArray 56 (0, 0))
theorem ahead_of {w w1 : World} {x : In} {row : List Value} (h : Made ((w.alloc (.cells x.cells.toArray 24)).alloc (.cells row.toArray 56)) w1) : Ahead w w1 x row := by
  refine ⟨Made.trans (((Made.refl w).alloc (Nat.le_refl _) _).alloc (by simp) _) h, keep (o' := .cells row.toArray 56) (heap_alloc_new w _) h, ?_⟩
  · have := h.heap (heap_alloc_new (w.alloc (.cells x.cells.toArray 24)) _)
    rwa [World.size_alloc] at this
/-- What the region of the loop reads: the field's cells, and one of the instruction's. -/
abbrev HeldS (F B : Nat) (f : Fd) (ext : Bool) (w : World) : Prop := w.cell? ⟨F, 0, none⟩ = some (.int .u8 f.kind) ∧ w.cell? ⟨F, 1, none⟩ = some (.int .i64 f.bits) ∧ w.cell? ⟨F, 2, none⟩ = some (.int .i64 f.shift) ∧
  w.cell? ⟨F, 3, none⟩ = some (.bool f.sg) ∧ w.cell? ⟨F, 4, none⟩ = some (.bool f.ext) ∧ w.cell? ⟨B, 8, none⟩ = some (.bool ext)
theorem held_made {F B : Nat} {f : Fd} {ext : Bool} {w w' : World} (h : HeldS F B f ext w) (hm : Made w w') (hF : F < w.heap.size) (hB : B < w.heap.size) : HeldS F B f ext w' := by
  obtain ⟨h0, h1, h2, h3, h4, h5⟩ := h
  exact ⟨((bcell hm).1 F 0 hF).trans h0, ((bcell hm).1 F 1 hF).trans h1, ((bcell hm).1 F 2 hF).trans h2, ((bcell hm).1 F 3 hF).trans h3, ((bcell hm).1 F 4 hF).trans h4, ((bcell hm).1 B 8 hB).trans h5⟩
theorem held_took {F B b : Nat} {f : Fd} {ext : Bool} {w w' : World} {x : In} (h : HeldS F B f ext w) (ht : Took w w' b x) (hF : F ≠ b) (hB : B ≠ b) : HeldS F B f ext w' := by
  obtain ⟨h0, h1, h2, h3, h4, h5⟩ := h
  exact ⟨(ht.cell hF 0).trans h0, (ht.cell hF 1).trans h1, (ht.cell hF 2).trans h2, (ht.cell hF 3).trans h3, (ht.cell hF 4).trans h4, (ht.cell hB 8).trans h5⟩
section
attribute [local irreducible] World.cell?
attribute [local go_sem ↓] Go.wp_at_zero Go.wp_at_succ
set_option maxHeartbeats 4000000 in
theorem isValid_any (x : In) (o c s : Int) (nm : ByteArray) (p : Option Addr) (n cap : Nat) (fs : List Fd) (hx : x.small) (w : World) (hh : Holds w p n cap fs) :
    Calls Tryd.prog 49 #[x.val, rowV o nm c s p n cap] w fun e w' => e = .returned (.bool (validB x fs)) ∧ Made w w' := by
  have H := Lib.hid hh
  have HX := Lib.hid hx
  have hm0 := hx.mode0
  have hp0 := hx.pred0
  have hcase : (x.mode == 0) = false ∨ ((x.mode == 0) = true ∧ (x.pred != 0) = false) ∨ ((x.mode == 0) = true ∧ (x.pred != 0) = true) := by
    cases x.mode == 0 <;> cases x.pred != 0 <;> simp
  have hval : validB x fs = (!(x.mode == 0 && x.pred != 0 && hasB fs 1) && validFrom x.ext fs { x with op := 0 }) := rfl
  have HV := Lib.hid hval
  clear hval hh hx
  go_enter Tryd.func49, Tryd.ntmps49
  go_upto_region 1 with (fail)
  go_cut [19] from 8 to 19 (fun g wc => g = .bool (x.mode == 0 && x.pred != 0 && hasB fs 1) ∧ Ahead w wc x [.int .u8 o, .string nm, .int .u8 c, .int .u8 s, .slice p n cap])
  case first =>
    rcases hcase with h1 | ⟨h1, h2⟩ | ⟨h1, h2⟩
    case inl =>
      go_wp2
      go_meet
      case rel => exact ⟨by simp [h1], ahead_of (Made.refl _)⟩
    case inr.inl =>
      go_wp2
      go_meet
      case rel => exact ⟨by simp [h1, h2], ahead_of (Made.refl _)⟩
    case inr.inr =>
      go_wp2_with (fail)
      refine (has_any o c s 1 nm p n cap fs _ (H.out.made (((Made.refl w).alloc (Nat.le_refl _) _).alloc (by simp) _))).mono ?_
      rintro e w1 ⟨rfl, hw1⟩
      go_wp2
      go_meet
      case rel => exact ⟨by simp [h1, h2], ahead_of hw1⟩
  case rest =>
    obtain ⟨rfl, hmu, hin, hrow⟩ := hcut
    generalize hg : (x.mode == 0 && x.pred != 0 && hasB fs 1) = g at *
    generalize wc = u at *
    clear hg hcase
    cases g with
    | true =>
      have HMU := Lib.hid hmu
      clear hmu hin hrow
      go_wp2
      go_ret
      exact ⟨ret_bool HV.out.symm, HMU.out⟩
    | false =>
      have hzu := hmu.size
      have HIN := Lib.hid hin
      have HROW := Lib.hid hrow
      have HMU := Lib.hid hmu
      obtain ⟨a0, a1, a2, a3, a4, a5, a6, a7, a8, a9, a10⟩ := in_cells hin
      obtain ⟨r0, r1, r2, r3, r4⟩ := row_cells hrow
      have hl0 := heap_lt hin
      have hl1 := heap_lt hrow
      have HH := H.out.made hmu
      obtain ⟨hnf, HH⟩ := HH
      subst hnf
      have hR : InAt (u.alloc (.cells (In.cells { x with op := 0 }).toArray 24)) u.heap.size { x with op := 0 } := heap_alloc_new u _
      have HR := Lib.hid hR
      have hxs : ({ x with op := 0 } : In).small := { HX.out with op0 := (by decide : (0 : Int) ≤ 0), op1 := (by decide : (0 : Int) ≤ 255) }
      have HXS := Lib.hid hxs
      clear hmu hin hrow hR hxs
      rcases HH with rfl | ⟨b, rfl, hb, hnc, hcm, hcell⟩
      · clear H
        have hop := run_in_zero0 x
        go_wp2_with (fail)
        refine wp_loop_rounds 1 ?_
        rewrite [rounds_succ]
        go_wp2
        go_ret
        exact ⟨ret_bool (by rw [HV.out]; rfl), HMU.out.alloc (HMU.out.size) _⟩
      · have HC := Lib.hid hcell
        clear hcell H
        unfold maxLen at hcm
        have hbu : b ≠ u.heap.size := by omega
        go_wp2_with (fail)
        go_loopw [25] (fun i wr => ∃ (k : Nat) (y : In), k ≤ fs.length ∧ i = .int .i64 k ∧ validFrom x.ext (fs.drop k) y = validFrom x.ext fs { x with op := 0 } ∧ y.small ∧ InAt wr u.heap.size y ∧ Made u wr) (fun i _ => fs.length - (intOf i).toNat)
        case atStart => exact ⟨0, { x with op := 0 }, Nat.zero_le _, rfl, rfl, HXS.out, HR.out, (Made.refl u).alloc (Nat.le_refl _) _⟩
        case round =>
          obtain ⟨k, y, hk, rfl, hat, hys, hyin, hwr⟩ := hrel
          have HW := Lib.hid hwr
          have HY := Lib.hid hyin
          have HS := Lib.hid hys
          have hbr : b < wr.heap.size := Nat.lt_of_lt_of_le hb hwr.size
          have hRr := heap_lt hyin
          have hin2 := hwr.heap HIN.out
          have e8 := (in_cells hin2).2.2.2.2.2.2.2.2.1
          have hl0r := heap_lt hin2
          by_cases hlt2 : k < fs.length
          · have hd := validFrom_drop x.ext fs k hlt2 y
            have hfl := flat_at fs k hlt2
            have hce := fun r (hr : r < 5) => (bcell HW.out).1 b (k * 5 + r) hb ▸ HC.out (k * 5 + r) (by omega)
            have k0 : wr.cell? ⟨b, k * 5, none⟩ = _ := (hce 0 (by omega)).trans hfl.1
            have k1 := (hce 1 (by omega)).trans hfl.2.1
            have k2 := (hce 2 (by omega)).trans hfl.2.2.1
            have k3 := (hce 3 (by omega)).trans hfl.2.2.2.1
            have k4 := (hce 4 (by omega)).trans hfl.2.2.2.2
            generalize fs[k] = f at *
            rewrite [hat] at hd
            obtain ⟨rb, hrb⟩ : ∃ rb, rb = inRangeB (takeV y f.kind) f x.ext := ⟨_, rfl⟩
            have hI := fun W' => inRange_any (takeV y f.kind) f x.ext (takeV_small HS.out _) W'
            rewrite [← hrb] at hd hI
            have HD := Lib.hid hd
            have HI := Lib.hid hI
            clear hI hrb
            clear hce hfl hat hd hwr hyin hys hin2
            have HYA : ∀ o, InAt (wr.alloc o).drew u.heap.size y := fun o => (Below.heap_alloc wr o _ hRr).trans HY.out
            have HA := Lib.hid HYA
            clear HYA
            go_wp2_with (fail)
            go_region_held3 (fun w' => w'.cell? ⟨wr.heap.size, 0, none⟩ = some (.int .u8 f.kind) ∧ w'.cell? ⟨wr.heap.size, 1, none⟩ = some (.int .i64 f.bits) ∧ w'.cell? ⟨wr.heap.size, 2, none⟩ = some (.int .i64 f.shift) ∧
                w'.cell? ⟨wr.heap.size, 3, none⟩ = some (.bool f.sg) ∧ w'.cell? ⟨wr.heap.size, 4, none⟩ = some (.bool f.ext) ∧ w'.cell? ⟨w.heap.size, 8, none⟩ = some (.bool x.ext))
              ((first
                | exact held_made (by assumption) h3 (by omega) (by omega)
                | exact held_took (by assumption) hT (by omega) (by omega)
                | go_keep))
              (first
                | (go_at_call 62; refine (take_any _ u.heap.size y f.kind (HA.out _) HS.out).mono ?_; rintro e w2 ⟨rfl, hw2⟩; have hT := hw2 ▸ took_any f.kind (HA.out _); have hz2 : w2.heap.size = wr.heap.size + 1 := hT.size.trans (by simp); clear hw2)
                | (go_at_call 61; refine (HI.out _ _ (Made.refl _)).mono ?_; rintro e w3 ⟨rfl, h3⟩))
            have M3 : Made u w3 := Made.trans (hT.made u (Nat.le_refl _) ((HW.out.alloc HW.out.size _).drew)) h3
            have IN3 : InAt w3 u.heap.size (takeR y f.kind) := h3.heap hT.at_
            have MM := Lib.hid M3
            have II := Lib.hid IN3
            have hlR := heap_lt IN3
            have fzR := free_of_lit IN3
            have c3 := (in_cells IN3).2.2.2.2.2.2.2.2.1
            clear M3 IN3 hT h3
            cases rb with
            | false =>
              go_wp2
              go_ret
              exact ⟨ret_bool (by rw [HV.out, HD.out]; rfl), Made.trans HMU.out MM.out⟩
            | true =>
              have hfe : f.ext = true ∨ f.ext = false := by cases f.ext <;> simp
              rcases hfe with hfe | hfe
              · go_wp2
                go_roundw
                case rel => exact ⟨k + 1, dropExt (takeR y f.kind) f, by omega, by go_num, by rw [HD.out]; rfl, dropExt_small (takeR_small HS.out _) f, by unfold dropExt; rw [if_pos hfe]; exact in_setExt II.out, MM.out.setCell (p := ⟨_, _, none⟩) (Nat.le_refl _) _⟩
                case measure => simp [intOf]; omega
              · go_wp2
                go_roundw
                case rel => exact ⟨k + 1, dropExt (takeR y f.kind) f, by omega, by go_num, by rw [HD.out]; rfl, dropExt_small (takeR_small HS.out _) f, by unfold dropExt; rw [hfe]; exact II.out, MM.out⟩
                case measure => simp [intOf]; omega
          · obtain rfl : k = fs.length := by omega
            rewrite [List.drop_length] at hat
            have HF := Lib.hid hat
            have hop := run_in_zero y
            obtain ⟨y0, y1, y2, y3, y4, y5, y6, y7, y8, y9, y10⟩ := in_cells hyin
            clear hat hyin hys hwr hin2
            go_wp2
            go_ret
            exact ⟨ret_bool (by rw [HV.out, ← HF.out]; rfl), Made.trans HMU.out HW.out⟩
end
end Go.Proofs.YtdaildmoodfocaaDoor
