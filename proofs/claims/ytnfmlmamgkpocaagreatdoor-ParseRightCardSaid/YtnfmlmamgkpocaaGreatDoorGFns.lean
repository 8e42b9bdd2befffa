/- What has of package inst returns, for every row that lies in memory and every kind; the closure and Go's slices.IndexFunc beneath it. · What isValid and validRow of package inst return, for every instruction, in every world that has grown out of one that holds the table of names. · What validRow of package inst returns, for every instruction, in every world that has grown out of one that holds the table of names. · What Class of package inst returns, for every instruction, in every world that has grown out of one that holds the table of names. · What Right, Class, Cond, Writes, WritesPred, ReadsPred and Target of package inst return, for every instruction, in every world that has grown out of one that holds the table of names. · What ReadsPred of package inst returns, for every instruction, in every world that has grown out of one that holds the table of names. · What an instruction writes, asks and aims at, by kinds, as the document's answer has it; no condition but that each part lies in its Go type. -/
import Derived.Test.YtnfmlmamgkpocaaGreatDoorGOf
import Derived.Test.YtnfmlmamgkpocaaGreatDoorGInst
import Derived.Deep.RegionHeld3
import Derived.Deep.DrawnRows
import Derived.Deep.CutRange
import Derived.Test.YtnfmlmamgkpocaaGreatDoorGForm
namespace Go.Proofs.YtnfmlmamgkpocaaGreatDoor
section
open Go.ChangeShapes Go.WideShapes Go.ChangeAt Go.RowKit Go.Sort BigFrame

/-- A slice of fields in memory. -/
def Holds (w : World) (p : Option Addr) (n cap : Nat) (fs : List Fd) : Prop :=
  n = fs.length ∧ (fs = [] ∨ ∃ b, p = some ⟨b, 0, none⟩ ∧ b < w.heap.size ∧ n ≤ cap ∧ cap ≤ maxLen ∧ ∀ j, j < fs.length * 5 → w.cell? ⟨b, j, none⟩ = (flatF fs)[j]?)
theorem Holds.made {w w' : World} {p : Option Addr} {n cap : Nat} {fs : List Fd} (h : Holds w p n cap fs) (hm : Made w w') : Holds w' p n cap fs := by
  obtain ⟨hn, h⟩ := h
  refine ⟨hn, ?_⟩
  rcases h with h | ⟨b, hp, hb, h1, h2, hc⟩
  · exact .inl h
  · exact .inr ⟨b, hp, Nat.lt_of_lt_of_le hb hm.size, h1, h2, fun j hj => (hm.cell (p := ⟨b, j, none⟩) hb).trans (hc j hj)⟩

theorem has1_any (f : Fd) (c : Nat) (k : Int) (W w : World) (hm : Made W w) (T : TypeId) (hc : w.heap[c]? = some (.cells #[.int .u8 k] T (0, 0))) :
    Calls Tryz.prog 162 #[f.put, .pointer (some ⟨c, 0, none⟩)] w fun e w' => e = .returned (.bool (f.kind == k)) ∧ Made W w' := by
  have hz := hm.size
  have c0 : w.cell? ⟨c, 0, none⟩ = some (.int .u8 k) := cell_of_lit (cs := [.int .u8 k]) hc 0
  have hlt := heap_lt hc
  obtain ⟨fk, fb, fs, fg, fe⟩ := f
  clear hc
  go_enter Tryz.func162, Tryz.ntmps162
  go_wp2
  go_ret
  exact ⟨rfl, hm.alloc hz _⟩

def IsIdx (W : World) (fs : List Fd) (k : Int) (e : Ending) (w' : World) : Prop := ∃ i : Int, e = .returned (.int .i64 i) ∧ (decide (0 ≤ i) = hasB fs k) ∧ -1 ≤ i ∧ Made W w'
theorem hasB_drop (l : List Fd) (k : Nat) (h : k < l.length) (kd : Int) : hasB (l.drop k) kd = (l[k].kind == kd || hasB (l.drop (k + 1)) kd) := by
  rw [List.drop_eq_getElem_cons h]; rfl
section
attribute [local irreducible] World.cell?
set_option maxRecDepth 100000 in
set_option maxHeartbeats 1000000 in
theorem index_any (p : Option Addr) (n cap : Nat) (fs : List Fd) (c : Nat) (kd : Int) (w : World) (hh : Holds w p n cap fs) (T : TypeId) (hc : w.heap[c]? = some (.cells #[.int .u8 kd] T (0, 0))) :
    Calls Tryz.prog 198 #[.slice p n cap, .func (.func 162) #[] #[.pointer (some ⟨c, 0, none⟩)]] w (IsIdx w fs kd) := by
  obtain ⟨rfl, hh⟩ := hh
  have HC := Lib.hid hc
  clear hc
  rcases hh with rfl | ⟨b, rfl, hb, hnc, hcm, hcell⟩
  · go_enter Tryz.func198, Tryz.ntmps198
    go_wp2_with (fail)
    refine wp_loop_rounds 1 ?_
    rewrite [rounds_succ]
    go_wp2
    go_ret
    exact ⟨-1, rfl, rfl, by omega, Made.refl _⟩
  · have HE := Lib.hid hcell
    unfold maxLen at hcm
    clear hcell
    go_enter Tryz.func198, Tryz.ntmps198
    go_wp2_with (fail)
    go_loopw [8] (fun i wr => ∃ k : Nat, k ≤ fs.length ∧ i = .int .i64 k ∧ hasB (fs.drop k) kd = hasB fs kd ∧ Made w wr) (fun i _ => fs.length - (intOf i).toNat)
    case atStart => exact ⟨0, Nat.zero_le _, rfl, rfl, Made.refl _⟩
    case round =>
      obtain ⟨k, hk, rfl, hat, hwr⟩ := hrel
      have HW := Lib.hid hwr
      have hbr : b < wr.heap.size := Nat.lt_of_lt_of_le hb hwr.size
      have H1 := Lib.hid (fun f : Fd => has1_any f c kd wr wr (Made.refl _) T (hwr.heap HC.out))
      clear hwr
      by_cases hlt2 : k < fs.length
      · have hd := hasB_drop fs k hlt2 kd
        have hfl := flat_at fs k hlt2
        have hce := fun r (hr : r < 5) => (bcell HW.out).1 b (k * 5 + r) hb ▸ HE.out (k * 5 + r) (by omega)
        have k0 : wr.cell? ⟨b, k * 5, none⟩ = _ := (hce 0 (by omega)).trans hfl.1
        have k1 := (hce 1 (by omega)).trans hfl.2.1
        have k2 := (hce 2 (by omega)).trans hfl.2.2.1
        have k3 := (hce 3 (by omega)).trans hfl.2.2.2.1
        have k4 := (hce 4 (by omega)).trans hfl.2.2.2.2
        generalize fs[k] = f at *
        rewrite [hat] at hd
        have HD := Lib.hid hd
        clear hce hfl hat hd
        go_wp2_with (fail)
        refine (H1.out f).mono ?_
        rintro e w1 ⟨rfl, h1⟩
        by_cases hkd : f.kind = kd
        · have hkb : (f.kind == kd) = true := beq_iff_eq.2 hkd
          clear hkd
          go_wp2
          go_ret
          refine ⟨_, rfl, ?_, by omega, Made.trans HW.out h1⟩
          rw [HD.out, hkb]
          simp
        · have hkb : (f.kind == kd) = false := beq_eq_false_iff_ne.2 hkd
          clear hkd
          go_wp2
          go_roundw
          case rel => exact ⟨k + 1, by omega, by go_num, by rw [HD.out, hkb]; rfl, Made.trans HW.out h1⟩
          case measure => simp [intOf]; omega
      · obtain rfl : k = fs.length := by omega
        rewrite [List.drop_length] at hat
        have HF := Lib.hid hat
        clear hat
        go_wp2
        go_ret
        exact ⟨-1, rfl, HF.out, by omega, HW.out⟩
end
theorem contains_any (p : Option Addr) (n cap : Nat) (fs : List Fd) (c : Nat) (kd : Int) (w : World) (hh : Holds w p n cap fs) (T : TypeId) (hc : w.heap[c]? = some (.cells #[.int .u8 kd] T (0, 0))) :
    Calls Tryz.prog 161 #[.slice p n cap, .func (.func 162) #[] #[.pointer (some ⟨c, 0, none⟩)]] w fun e w' => e = .returned (.bool (hasB fs kd)) ∧ Made w w' := by
  have H := Lib.hid (index_any p n cap fs c kd w hh T hc)
  clear hh hc
  go_enter Tryz.func161, Tryz.ntmps161
  go_wp2_with (fail)
  refine H.out.mono ?_
  rintro e w1 ⟨i, rfl, hi, hlo, h1⟩
  have HI := Lib.hid hi
  clear hi
  go_wp2
  go_ret
  exact ⟨ret_bool HI.out, h1⟩
abbrev rowV (o : Int) (nm : ByteArray) (c s : Int) (p : Option Addr) (n cap : Nat) : Value := .agg #[.int .u8 o, .string nm, .int .u8 c, .int .u8 s, .slice p n cap]
theorem has_any (o c s kd : Int) (nm : ByteArray) (p : Option Addr) (n cap : Nat) (fs : List Fd) (w : World) (hh : Holds w p n cap fs) :
    Calls Tryz.prog 122 #[rowV o nm c s p n cap, .int .u8 kd] w fun e w' => e = .returned (.bool (hasB fs kd)) ∧ Made w w' := by
  have H := Lib.hid hh
  clear hh
  go_enter Tryz.func122, Tryz.ntmps122
  go_wp2_with (fail)
  have hm : Made w ((w.alloc (.cells #[.int .u8 o, .string nm, .int .u8 c, .int .u8 s, .slice p n cap] 98)).alloc (.cells #[.int .u8 kd] 5)) := ((Made.refl w).alloc (Nat.le_refl _) _).alloc (by simp) _
  refine (contains_any p n cap fs _ kd _ (H.out.made hm) 5 (heap_at (by simp))).mono ?_
  rintro e w1 ⟨rfl, h1⟩
  have h2 := Made.trans hm h1
  clear h1 hm
  go_wp2
  go_ret
  exact ⟨rfl, h2⟩
end
section
open Go.ChangeShapes Go.WideShapes Go.ChangeAt Go.RowKit Go.Sort BigFrame

theorem Took.cell {w w' : World} {b : Nat} {x : In} (h : Took w w' b x) {i : Nat} (hi : i ≠ b) (j : Nat) : w'.cell? ⟨i, j, none⟩ = w.cell? ⟨i, j, none⟩ := by simp [World.cell?, h.far i hi]
theorem in_setExt {w : World} {b : Nat} {x : In} (h : InAt w b x) : InAt (w.setCell ⟨b, 8, none⟩ (.bool false)) b { x with ext := false } :=
  heap_setCell_same w b 8 x.cells.toArray 26 _ h
theorem in_setOp {w : World} {b : Nat} {x : In} (h : InAt w b x) : InAt (w.setCell ⟨b, 0, none⟩ (.int .u8 0)) b { x with op := 0 } :=
  heap_setCell_same w b 0 x.cells.toArray 26 _ h
/-- What stands ahead of the loop. -/
structure Ahead (w u : World) (x : In) (row : List Value) : Prop where
  made : Made w u
  in_ : InAt u w.heap.size x
  row : u.heap[w.heap.size + 1]? = some (.cells row.toArray 98 (0, 0))
theorem ahead_of {w w1 : World} {x : In} {row : List Value} (h : Made ((w.alloc (.cells x.cells.toArray 26)).alloc (.cells row.toArray 98)) w1) : Ahead w w1 x row := by
  refine ⟨Made.trans (((Made.refl w).alloc (Nat.le_refl _) _).alloc (by simp) _) h, keep (o' := .cells row.toArray 98) (heap_alloc_new w _) h, ?_⟩
  · have := h.heap (heap_alloc_new (w.alloc (.cells x.cells.toArray 26)) _)
    rwa [World.size_alloc] at this
/-- What the region of the loop reads: the field's cells, and one of the instruction's. -/
abbrev HeldS (F B : Nat) (f : Fd) (ext : Bool) (w : World) : Prop := w.cell? ⟨F, 0, none⟩ = some (.int .u8 f.kind) ∧ w.cell? ⟨F, 1, none⟩ = some (.int .i64 f.bits) ∧ w.cell? ⟨F, 2, none⟩ = some (.int .i64 f.shift) ∧
  w.cell? ⟨F, 3, none⟩ = some (.bool f.sg) ∧ w.cell? ⟨F, 4, none⟩ = some (.bool f.ext) ∧ w.cell? ⟨B, 8, none⟩ = some (.bool ext)
theorem held_made {F B : Nat} {f : Fd} {ext : Bool} {w w' : World} (h : HeldS F B f ext w) (hm : Made w w') (hF : F < w.heap.size) (hB : B < w.heap.size) : HeldS F B f ext w' := by
  obtain ⟨h0, h1, h2, h3, h4, h5⟩ := h
  exact ⟨((bcell hm).1 F 0 hF).trans h0, ((bcell hm).1 F 1 hF).trans h1, ((bcell hm).1 F 2 hF).trans h2, ((bcell hm).1 F 3 hF).trans h3, ((bcell hm).1 F 4 hF).trans h4, ((bcell hm).1 B 8 hB).trans h5⟩
theorem held_took {F B b : Nat} {f : Fd} {ext : Bool} {w w' : World} {x : In} (h : HeldS F B f ext w) (ht : Took w w' b x) (hF : F ≠ b) (hB : B ≠ b) : HeldS F B f ext w' := by
  obtain ⟨h0, h1, h2, h3, h4, h5⟩ := h
  exact ⟨(ht.cell hF 0).trans h0, (ht.cell hF 1).trans h1, (ht.cell hF 2).trans h2, (ht.cell hF 3).trans h3, (ht.cell hF 4).trans h4, (ht.cell hB 8).trans h5⟩
section
attribute [local irreducible] World.cell?
attribute [local go_sem ↓] Go.wp_at_zero Go.wp_at_succ
set_option maxRecDepth 100000 in
set_option maxHeartbeats 4000000 in
theorem isValid_any (x : In) (o c s : Int) (nm : ByteArray) (p : Option Addr) (n cap : Nat) (fs : List Fd) (hx : x.small) (w : World) (hh : Holds w p n cap fs) :
    Calls Tryz.prog 70 #[x.val, rowV o nm c s p n cap] w fun e w' => e = .returned (.bool (validB x fs)) ∧ Made w w' := by
  have H := Lib.hid hh
  have HX := Lib.hid hx
  have hm0 := hx.mode0
  have hp0 := hx.pred0
  have hcase : (x.mode == 0) = false ∨ ((x.mode == 0) = true ∧ (x.pred != 0) = false) ∨ ((x.mode == 0) = true ∧ (x.pred != 0) = true) := by
    cases x.mode == 0 <;> cases x.pred != 0 <;> simp
  have hval : validB x fs = (!(x.mode == 0 && x.pred != 0 && hasB fs 1) && validFrom x.ext fs { x with op := 0 }) := rfl
  have HV := Lib.hid hval
  clear hval hh hx
  go_enter Tryz.func70, Tryz.ntmps70
  go_upto_region 1 with (fail)
  go_cut [19] from 8 to 19 (fun g wc => g = .bool (x.mode == 0 && x.pred != 0 && hasB fs 1) ∧ Ahead w wc x [.int .u8 o, .string nm, .int .u8 c, .int .u8 s, .slice p n cap])
  case first =>
    rcases hcase with h1 | ⟨h1, h2⟩ | ⟨h1, h2⟩
    case inl =>
      go_wp2
      go_meet
      case rel => exact ⟨by simp [h1], ahead_of (Made.refl _)⟩
    case inr.inl =>
      go_wp2
      go_meet
      case rel => exact ⟨by simp [h1, h2], ahead_of (Made.refl _)⟩
    case inr.inr =>
      go_wp2_with (fail)
      refine (has_any o c s 1 nm p n cap fs _ (H.out.made (((Made.refl w).alloc (Nat.le_refl _) _).alloc (by simp) _))).mono ?_
      rintro e w1 ⟨rfl, hw1⟩
      go_wp2
      go_meet
      case rel => exact ⟨by simp [h1, h2], ahead_of hw1⟩
  case rest =>
    obtain ⟨rfl, hmu, hin, hrow⟩ := hcut
    generalize hg : (x.mode == 0 && x.pred != 0 && hasB fs 1) = g at *
    generalize wc = u at *
    clear hg hcase
    cases g with
    | true =>
      have HMU := Lib.hid hmu
      clear hmu hin hrow
      go_wp2
      go_ret
      exact ⟨ret_bool HV.out.symm, HMU.out⟩
    | false =>
      have hzu := hmu.size
      have HIN := Lib.hid hin
      have HROW := Lib.hid hrow
      have HMU := Lib.hid hmu
      obtain ⟨a0, a1, a2, a3, a4, a5, a6, a7, a8, a9, a10⟩ := in_cells hin
      obtain ⟨r0, r1, r2, r3, r4⟩ := row_cells hrow
      have hl0 := heap_lt hin
      have hl1 := heap_lt hrow
      have HH := H.out.made hmu
      obtain ⟨hnf, HH⟩ := HH
      subst hnf
      have hR : InAt (u.alloc (.cells (In.cells { x with op := 0 }).toArray 26)) u.heap.size { x with op := 0 } := heap_alloc_new u _
      have HR := Lib.hid hR
      have hxs : ({ x with op := 0 } : In).small := { HX.out with op0 := (by decide : (0 : Int) ≤ 0), op1 := (by decide : (0 : Int) ≤ 255) }
      have HXS := Lib.hid hxs
      clear hmu hin hrow hR hxs
      rcases HH with rfl | ⟨b, rfl, hb, hnc, hcm, hcell⟩
      · clear H
        have hop := run_in_zero0 x
        go_wp2_with (fail)
        refine wp_loop_rounds 1 ?_
        rewrite [rounds_succ]
        go_wp2
        go_ret
        exact ⟨ret_bool (by rw [HV.out]; rfl), HMU.out.alloc (HMU.out.size) _⟩
      · have HC := Lib.hid hcell
        clear hcell H
        unfold maxLen at hcm
        have hbu : b ≠ u.heap.size := by omega
        go_wp2_with (fail)
        go_loopw [25] (fun i wr => ∃ (k : Nat) (y : In), k ≤ fs.length ∧ i = .int .i64 k ∧ validFrom x.ext (fs.drop k) y = validFrom x.ext fs { x with op := 0 } ∧ y.small ∧ InAt wr u.heap.size y ∧ Made u wr) (fun i _ => fs.length - (intOf i).toNat)
        case atStart => exact ⟨0, { x with op := 0 }, Nat.zero_le _, rfl, rfl, HXS.out, HR.out, (Made.refl u).alloc (Nat.le_refl _) _⟩
        case round =>
          obtain ⟨k, y, hk, rfl, hat, hys, hyin, hwr⟩ := hrel
          have HW := Lib.hid hwr
          have HY := Lib.hid hyin
          have HS := Lib.hid hys
          have hbr : b < wr.heap.size := Nat.lt_of_lt_of_le hb hwr.size
          have hRr := heap_lt hyin
          have hin2 := hwr.heap HIN.out
          have e8 := (in_cells hin2).2.2.2.2.2.2.2.2.1
          have hl0r := heap_lt hin2
          by_cases hlt2 : k < fs.length
          · have hd := validFrom_drop x.ext fs k hlt2 y
            have hfl := flat_at fs k hlt2
            have hce := fun r (hr : r < 5) => (bcell HW.out).1 b (k * 5 + r) hb ▸ HC.out (k * 5 + r) (by omega)
            have k0 : wr.cell? ⟨b, k * 5, none⟩ = _ := (hce 0 (by omega)).trans hfl.1
            have k1 := (hce 1 (by omega)).trans hfl.2.1
            have k2 := (hce 2 (by omega)).trans hfl.2.2.1
            have k3 := (hce 3 (by omega)).trans hfl.2.2.2.1
            have k4 := (hce 4 (by omega)).trans hfl.2.2.2.2
            generalize fs[k] = f at *
            rewrite [hat] at hd
            obtain ⟨rb, hrb⟩ : ∃ rb, rb = inRangeB (takeV y f.kind) f x.ext := ⟨_, rfl⟩
            have hI := fun W' => inRange_any (takeV y f.kind) f x.ext (takeV_small HS.out _) W'
            rewrite [← hrb] at hd hI
            have HD := Lib.hid hd
            have HI := Lib.hid hI
            clear hI hrb
            clear hce hfl hat hd hwr hyin hys hin2
            have HYA : ∀ o, InAt (wr.alloc o).drew u.heap.size y := fun o => (Below.heap_alloc wr o _ hRr).trans HY.out
            have HA := Lib.hid HYA
            clear HYA
            go_wp2_with (fail)
            go_region_held3 (fun w' => w'.cell? ⟨wr.heap.size, 0, none⟩ = some (.int .u8 f.kind) ∧ w'.cell? ⟨wr.heap.size, 1, none⟩ = some (.int .i64 f.bits) ∧ w'.cell? ⟨wr.heap.size, 2, none⟩ = some (.int .i64 f.shift) ∧
                w'.cell? ⟨wr.heap.size, 3, none⟩ = some (.bool f.sg) ∧ w'.cell? ⟨wr.heap.size, 4, none⟩ = some (.bool f.ext) ∧ w'.cell? ⟨w.heap.size, 8, none⟩ = some (.bool x.ext))
              ((first
                | exact held_made (by assumption) h3 (by omega) (by omega)
                | exact held_took (by assumption) hT (by omega) (by omega)
                | go_keep))
              (first
                | (go_at_call 124; refine (take_any _ u.heap.size y f.kind (HA.out _) HS.out).mono ?_; rintro e w2 ⟨rfl, hw2⟩; have hT := hw2 ▸ took_any f.kind (HA.out _); have hz2 : w2.heap.size = wr.heap.size + 1 := hT.size.trans (by simp); clear hw2)
                | (go_at_call 123; refine (HI.out _ _ (Made.refl _)).mono ?_; rintro e w3 ⟨rfl, h3⟩))
            have M3 : Made u w3 := Made.trans (hT.made u (Nat.le_refl _) ((HW.out.alloc HW.out.size _).drew)) h3
            have IN3 : InAt w3 u.heap.size (takeR y f.kind) := h3.heap hT.at_
            have MM := Lib.hid M3
            have II := Lib.hid IN3
            have hlR := heap_lt IN3
            have fzR := free_of_lit IN3
            have c3 := (in_cells IN3).2.2.2.2.2.2.2.2.1
            clear M3 IN3 hT h3
            cases rb with
            | false =>
              go_wp2
              go_ret
              exact ⟨ret_bool (by rw [HV.out, HD.out]; rfl), Made.trans HMU.out MM.out⟩
            | true =>
              have hfe : f.ext = true ∨ f.ext = false := by cases f.ext <;> simp
              rcases hfe with hfe | hfe
              · go_wp2
                go_roundw
                case rel => exact ⟨k + 1, dropExt (takeR y f.kind) f, by omega, by go_num, by rw [HD.out]; rfl, dropExt_small (takeR_small HS.out _) f, by unfold dropExt; rw [if_pos hfe]; exact in_setExt II.out, MM.out.setCell (p := ⟨_, _, none⟩) (Nat.le_refl _) _⟩
                case measure => simp [intOf]; omega
              · go_wp2
                go_roundw
                case rel => exact ⟨k + 1, dropExt (takeR y f.kind) f, by omega, by go_num, by rw [HD.out]; rfl, dropExt_small (takeR_small HS.out _) f, by unfold dropExt; rw [hfe]; exact II.out, MM.out⟩
                case measure => simp [intOf]; omega
          · obtain rfl : k = fs.length := by omega
            rewrite [List.drop_length] at hat
            have HF := Lib.hid hat
            have hop := run_in_zero y
            obtain ⟨y0, y1, y2, y3, y4, y5, y6, y7, y8, y9, y10⟩ := in_cells hyin
            clear hat hyin hys hwr hin2
            go_wp2
            go_ret
            exact ⟨ret_bool (by rw [HV.out, ← HF.out]; rfl), Made.trans HMU.out HW.out⟩
end
end
section
open Go.ChangeShapes Go.WideShapes Go.ChangeAt Go.RowKit Go.Sort BigFrame

theorem holds_of {W : World} {op : Int} {e : Ending} {w' : World} (h : IsOf W op e w') : ∃ (p : Option Addr) (cap : Nat) (fs : List Fd) (o : Int) (nm : ByteArray) (c s : Int), fs = fieldsZ (opN op) ∧ c = classZ (opN op) ∧
    e = .returned (.tuple #[.agg #[.int .u8 o, .string nm, .int .u8 c, .int .u8 s, .slice p fs.length cap], .bool (isOp op)]) ∧ Made W w' ∧ Holds w' p fs.length cap fs ∧ (fs = [] ∨ ∃ b, p = some ⟨b, 0, none⟩ ∧ W.heap.size ≤ b) := by
  obtain ⟨p, cap, fs, o, nm, c, s, hfs, _, _, hc, _, he, hm, hr⟩ := isOf_any h
  refine ⟨p, cap, fs, o, nm, c, s, hfs, hc, he, hm, ?_⟩
  rcases hr with h | ⟨b, cur, hp, hlo, hb, _, h1, h2, hcell⟩
  · exact ⟨⟨rfl, .inl h⟩, .inl h⟩
  · exact ⟨⟨rfl, .inr ⟨b, hp, heap_lt hb, h1, h2, hcell⟩⟩, .inr ⟨b, hp, hlo⟩⟩
theorem Holds.set {w : World} {p : Option Addr} {n cap a j : Nat} {fs : List Fd} {v : Value} (h : Holds w p n cap fs) (hs : fs = [] ∨ ∃ b, p = some ⟨b, 0, none⟩ ∧ a < b) : Holds (w.setCell ⟨a, j, none⟩ v) p n cap fs := by
  obtain ⟨hn, h⟩ := h
  refine ⟨hn, ?_⟩
  rcases h with h | ⟨b, hp, hb, h1, h2, hc⟩
  · exact .inl h
  · rcases hs with h | ⟨b', hp', hlt⟩
    · exact .inl h
    · obtain rfl : b = b' := by rw [hp] at hp'; injection hp' with e; injection e
      exact .inr ⟨b, hp, by simpa using hb, h1, h2, fun j' hj' => by
        rw [← hc j' hj']
        have := Below.heap_setCell w ⟨a, j, none⟩ v b (show b ≠ a by omega)
        simp [World.cell?, this]⟩
def IsVRow (W : World) (x : In) (e : Ending) (w' : World) : Prop := ∃ (o : Int) (nm : ByteArray) (c s : Int) (p : Option Addr) (n cap : Nat) (fs : List Fd), e = .returned (.tuple #[rowV o nm c s p n cap, .bool (rightB x)]) ∧ Made W w' ∧ Holds w' p n cap fs ∧ (rightB x = true → fs = fieldsZ x.op)
theorem vrow_close {W w : World} {n0 : Nat} (hM : Made W w) (hz : W.heap.size ≤ n0) (v0 v1 v2 v3 v4 : Value) : Made W (((((w.setCell ⟨n0, 0, none⟩ v0).setCell ⟨n0, 1, none⟩ v1).setCell ⟨n0, 2, none⟩ v2).setCell ⟨n0, 3, none⟩ v3).setCell ⟨n0, 4, none⟩ v4) :=
  ((((Below.setCell hM hz v0).setCell hz v1).setCell hz v2).setCell hz v3).setCell hz v4
section
attribute [local irreducible] World.cell?
set_option maxRecDepth 100000 in
set_option maxHeartbeats 2000000 in
theorem validRow_any (W : World) (hN : Names W) (x : In) (hx : x.small) (w : World) (hm : Made W w) : Calls Tryz.prog 47 #[x.val] w (IsVRow W x) := by
  have hz := hm.size
  have hop0 := hx.op0
  have HX := Lib.hid hx
  clear hx
  have HM2 := Lib.hid ((hm.alloc hz (.cells x.cells.toArray 26)).alloc (by simp; omega) (.cells rowLit 98))
  go_enter Tryz.func47, Tryz.ntmps47
  go_wp2_with (fail)
  refine (of_any _ (hN.made HM2.out) x.op hop0 _ (Made.refl _)).mono ?_
  intro e w1 h
  obtain ⟨p, cap, fs, o, nm, c, s, hfs, -, rfl, h1, hh, hapart⟩ := holds_of h
  have HAP := Lib.hid hapart
  clear h
  have hin : InAt w1 w.heap.size x := h1.heap (keep (o := .cells x.cells.toArray 26) (o' := .cells rowLit 98) (heap_alloc_new w _) (Made.refl _))
  have hrow : w1.heap[w.heap.size + 1]? = some (.cells rowLit 98 (0, 0)) := by
    have := h1.heap (heap_alloc_new (w.alloc (.cells x.cells.toArray 26)) (.cells rowLit 98))
    rwa [World.size_alloc] at this
  obtain ⟨a0, a1, a2, a3, a4, a5, a6, a7, a8, a9, a10⟩ := in_cells hin
  obtain ⟨r0, r1, r2, r3, r4⟩ := row_cells hrow
  have fz := free_of_lit hrow
  have hl0 := heap_lt hin
  have hl1 := heap_lt hrow
  have HIN := Lib.hid hin
  have HROW := Lib.hid hrow
  have HH := Lib.hid hh
  have M1 := Lib.hid (Made.trans HM2.out h1)
  have HFS := Lib.hid hfs
  clear hin hrow hh h1 hfs hapart
  have hz1 : W.heap.size ≤ w1.heap.size := by omega
  generalize hok : isOp x.op = ok at *
  have HOK := Lib.hid hok
  clear hok
  cases ok with
  | false =>
    have HR := Lib.hid (show rightB x = false by unfold rightB; rw [HOK.out]; rfl)
    go_wp2
    refine bodyPost_ret (v := .tuple #[.agg rowLit, .bool false]) (by simp [results, Tryz.results47, go_sem, r0, r1, r2, r3, r4, hl1, rowLit]) rfl ?_
    exact ⟨0, ⟨#[]⟩, 0, 0, none, 0, 0, [], by rw [HR.out]; rfl, (fun K => K.alloc K.size _) (vrow_close M1.out (show W.heap.size ≤ w.heap.size + 1 by omega) _ _ _ _ _), ⟨rfl, .inl rfl⟩, fun h => absurd (HR.out.symm.trans h) (by decide)⟩
  | true =>
    go_wp2_with (fail)
    refine (isValid_any x o c s nm p fs.length cap fs HX.out _ (HH.out.made ((Made.refl w1).alloc (Nat.le_refl _) _))).mono ?_
    rintro e w2 ⟨rfl, h2⟩
    generalize hvb : validB x fs = vb
    have HVB := Lib.hid hvb
    clear hvb
    have hopn : opN x.op = x.op := by unfold opN; rw [HOK.out]; rfl
    have he1 : fs = fieldsZ x.op := by rw [HFS.out, hopn]
    have hr : rightB x = vb := by unfold rightB; rw [HOK.out, ← he1, HVB.out]; rfl
    have HR := Lib.hid hr
    have HE := Lib.hid he1
    clear hopn he1 hr
    have hrow2 := keep HROW.out h2
    have hcp := h2.heap (heap_alloc_new w1 _)
    obtain ⟨b0, b1, b2, b3, b4⟩ := row_cells hrow2
    obtain ⟨d0, d1, d2, d3, d4⟩ := row_cells hcp
    have fz2 := free_of_lit hrow2
    have hl2 := heap_lt hrow2
    have hl3 := heap_lt hcp
    have M2 := Lib.hid (Made.trans (M1.out.alloc hz1 _) h2)
    have H2 := Lib.hid (HH.out.made (Made.trans ((Made.refl w1).alloc (Nat.le_refl _) _) h2))
    clear hrow2 hcp h2
    cases vb with
    | false =>
      go_wp2
      refine bodyPost_ret (v := .tuple #[.agg rowLit, .bool false]) (by simp [results, Tryz.results47, go_sem, b0, b1, b2, b3, b4, rowLit]) rfl ?_
      exact ⟨0, ⟨#[]⟩, 0, 0, none, 0, 0, [], by rw [HR.out]; rfl, vrow_close M2.out (by omega) _ _ _ _ _, ⟨rfl, .inl rfl⟩, fun h => absurd (HR.out.symm.trans h) (by decide)⟩
    | true =>
      go_wp2
      refine bodyPost_ret (v := .tuple #[rowV o nm c s p fs.length cap, .bool true]) (by simp [results, Tryz.results47, go_sem, b0, b1, b2, b3, b4]) rfl ?_
      refine ⟨o, nm, c, s, p, fs.length, cap, fs, by rw [HR.out], vrow_close M2.out (by omega) _ _ _ _ _, ?_, fun _ => HE.out⟩
      have hs : fs = [] ∨ ∃ b, p = some ⟨b, 0, none⟩ ∧ w.heap.size + 1 < b := by
        rcases HAP.out with h | ⟨b, hp, hb⟩
        · exact .inl h
        · exact .inr ⟨b, hp, by simp only [World.size_alloc] at hb; omega⟩
      exact ((((H2.out.set hs).set hs).set hs).set hs).set hs
end
end
section
open Go.ChangeShapes Go.WideShapes Go.ChangeAt Go.RowKit Go.Sort BigFrame

end
section
open Go.ChangeShapes Go.WideShapes Go.ChangeAt Go.RowKit Go.Sort BigFrame

theorem right_any (W : World) (hN : Names W) (x : In) (hx : x.small) : Makes Tryz.prog W 24 #[x.val] (.bool (rightB x)) := by
  intro w hm
  have hz := hm.size
  have HM := Lib.hid (hm.alloc hz (.cells x.cells.toArray 26))
  have HV := Lib.hid (validRow_any _ (hN.made HM.out) x hx _ (Made.refl _))
  clear hx hm
  go_enter Tryz.func24, Tryz.ntmps24
  go_wp2_with (fail)
  refine HV.out.mono ?_
  rintro e w1 ⟨o, nm, c, s, p, n, cap, fs, rfl, h1, -, -⟩
  have M1 := Lib.hid (Made.trans HM.out h1)
  clear h1
  go_wp2
  go_ret
  exact ⟨rfl, M1.out.alloc M1.out.size _⟩
end
section
open Go.ChangeShapes Go.WideShapes Go.ChangeAt Go.RowKit Go.Sort BigFrame

end
section
open Go.ChangeShapes Go.WideShapes Go.ChangeAt Go.RowKit Go.Sort BigFrame

def kindB (op : Int) : Bool :=
  (decide (kindZ op = 14) == decide (op = 29)) && (hasB (fieldsZ op) 3 == ((decide (1 ≤ kindZ op) && decide (kindZ op ≤ 4)) || (decide (7 ≤ kindZ op) && decide (kindZ op ≤ 10)))) && (hasB (fieldsZ op) 4 == (decide (kindZ op = 5) || decide (kindZ op = 6))) &&
    (hasB (fieldsZ op) 10 == (decide (kindZ op = 12) || decide (kindZ op = 14) || decide (kindZ op = 15) || decide (kindZ op = 16))) &&
    (hasB (fieldsZ op) 2 == (decide (kindZ op = 1) || decide (kindZ op = 3) || decide (kindZ op = 4) || decide (kindZ op = 7) || decide (kindZ op = 12) || decide (kindZ op = 13))) &&
    (hasB (fieldsZ op) 1 == (decide (kindZ op = 1) || decide (kindZ op = 3) || decide (kindZ op = 4) || decide (kindZ op = 12) || decide (kindZ op = 13))) &&
    (atB (opN op) 1 == (decide (kindZ op = 1) || decide (kindZ op = 3) || decide (kindZ op = 4) || decide (kindZ op = 12) || decide (kindZ op = 13))) &&
    (hasB (fieldsZ op) 5 == (decide (kindZ op = 1) || decide (kindZ op = 2) || decide (kindZ op = 4) || decide (kindZ op = 5) || decide (kindZ op = 6) || decide (kindZ op = 7) || decide (kindZ op = 8) || decide (kindZ op = 9) || decide (kindZ op = 10) || decide (kindZ op = 11) || decide (kindZ op = 13) || decide (kindZ op = 16))) &&
    (hasB (fieldsZ op) 6 == (decide (kindZ op = 1) || decide (kindZ op = 5) || decide (kindZ op = 7) || decide (kindZ op = 9) || decide (kindZ op = 11)))
theorem kind_tab : ((List.range 31).all fun n => kindB ((n + 1 : Nat) : Int)) = true := by decide +kernel
structure KindHas (op : Int) : Prop where
  call : decide (kindZ op = 14) = decide (op = 29)
  d : hasB (fieldsZ op) 3 = ((decide (1 ≤ kindZ op) && decide (kindZ op ≤ 4)) || (decide (7 ≤ kindZ op) && decide (kindZ op ≤ 10)))
  dp : hasB (fieldsZ op) 4 = (decide (kindZ op = 5) || decide (kindZ op = 6))
  rel : hasB (fieldsZ op) 10 = (decide (kindZ op = 12) || decide (kindZ op = 14) || decide (kindZ op = 15) || decide (kindZ op = 16))
  pred : hasB (fieldsZ op) 2 = (decide (kindZ op = 1) || decide (kindZ op = 3) || decide (kindZ op = 4) || decide (kindZ op = 7) || decide (kindZ op = 12) || decide (kindZ op = 13))
  mode : hasB (fieldsZ op) 1 = (decide (kindZ op = 1) || decide (kindZ op = 3) || decide (kindZ op = 4) || decide (kindZ op = 12) || decide (kindZ op = 13))
  cond : atB (opN op) 1 = (decide (kindZ op = 1) || decide (kindZ op = 3) || decide (kindZ op = 4) || decide (kindZ op = 12) || decide (kindZ op = 13))
  s : hasB (fieldsZ op) 5 = (decide (kindZ op = 1) || decide (kindZ op = 2) || decide (kindZ op = 4) || decide (kindZ op = 5) || decide (kindZ op = 6) || decide (kindZ op = 7) || decide (kindZ op = 8) || decide (kindZ op = 9) || decide (kindZ op = 10) || decide (kindZ op = 11) || decide (kindZ op = 13) || decide (kindZ op = 16))
  t : hasB (fieldsZ op) 6 = (decide (kindZ op = 1) || decide (kindZ op = 5) || decide (kindZ op = 7) || decide (kindZ op = 9) || decide (kindZ op = 11))
theorem kind_has {op : Int} (h0 : 1 ≤ op) (h1 : op ≤ 31) : KindHas op := by
  have h := List.all_eq_true.1 kind_tab (op.toNat - 1) (List.mem_range.2 (by omega))
  rw [show ((op.toNat - 1 + 1 : Nat) : Int) = op by omega] at h
  unfold kindB at h
  simp only [Bool.and_eq_true, beq_iff_eq] at h
  obtain ⟨⟨⟨⟨⟨⟨⟨⟨h1, h2⟩, h3⟩, h4⟩, h5⟩, h6⟩, h7⟩, h8⟩, h9⟩ := h
  exact ⟨h1, h2, h3, h4, h5, h6, h7, h8, h9⟩
/-- What is written, by kinds. -/
theorem writes_kind (x : In) : writesP x = if rightB x then (if kindZ x.op = 14 then (31, true) else if (1 ≤ kindZ x.op ∧ kindZ x.op ≤ 4) ∨ (7 ≤ kindZ x.op ∧ kindZ x.op ≤ 10) then (x.d, true) else (0, false)) else (0, false) := by
  unfold writesP
  cases hr : rightB x with
  | false => rfl
  | true =>
    obtain ⟨h0, h1⟩ := right_op hr
    have hk := kind_has h0 h1
    have h14 : kindZ x.op = 14 ↔ x.op = 29 := decide_eq_decide.1 hk.call
    rw [hk.d, if_pos rfl, if_pos rfl]
    by_cases h29 : x.op = 29
    · rw [if_pos h29, if_pos (h14.2 h29)]
    · rw [if_neg h29, if_neg (fun h => h29 (h14.1 h))]
      simp
theorem wpred_kind (x : In) : wpredP x = if rightB x = true ∧ (kindZ x.op = 5 ∨ kindZ x.op = 6) then (x.d, true) else (0, false) := by
  unfold wpredP
  cases hr : rightB x with
  | false => simp
  | true =>
    obtain ⟨h0, h1⟩ := right_op hr
    rw [(kind_has h0 h1).dp]
    simp
theorem target_kind (x : In) : targP x = if rightB x = true ∧ (kindZ x.op = 12 ∨ kindZ x.op = 14 ∨ kindZ x.op = 15 ∨ kindZ x.op = 16) then (x.imm % 4294967296, true) else (0, false) := by
  unfold targP
  cases hr : rightB x with
  | false => simp
  | true =>
    obtain ⟨h0, h1⟩ := right_op hr
    rw [(kind_has h0 h1).rel]
    simp [or_assoc]
theorem rpred_kind (x : In) (hx : x.small) : rpredP x = if rightB x = true ∧ (kindZ x.op = 7 ∨ x.mode ≠ 0) then (x.pred, decide (2 < x.mode), true) else (0, false, false) := by
  unfold rpredP
  cases hr : rightB x with
  | false => simp
  | true =>
    obtain ⟨h0, h1⟩ := right_op hr
    have hf := ref_of hx hr
    have hk := kind_has h0 h1
    obtain ⟨k0, k1⟩ := kind_range h0 h1
    have hm0 := hx.mode0
    rw [hk.pred, hk.mode]
    obtain ⟨xo, xd, xs, xt, xn, xp, xm, xw, xe, xc, xi⟩ := x
    simp only [] at *
    generalize kindZ xo = k at *
    have hc : k = 1 ∨ k = 2 ∨ k = 3 ∨ k = 4 ∨ k = 5 ∨ k = 6 ∨ k = 7 ∨ k = 8 ∨ k = 9 ∨ k = 10 ∨ k = 11 ∨ k = 12 ∨ k = 13 ∨ k = 14 ∨ k = 15 ∨ k = 16 ∨ k = 17 := by omega
    by_cases hz : xm = 0
    · subst hz
      rcases hc with rfl | rfl | rfl | rfl | rfl | rfl | rfl | rfl | rfl | rfl | rfl | rfl | rfl | rfl | rfl | rfl | rfl <;> simp
    · have hb : (xm == 0) = false := beq_eq_false_iff_ne.2 hz
      have h34 : xm ≤ 4 → (xm == 3 || xm == 4) = decide (2 < xm) := by
        intro h
        have : xm = 1 ∨ xm = 2 ∨ xm = 3 ∨ xm = 4 := by omega
        rcases this with rfl | rfl | rfl | rfl <;> rfl
      rcases hc with rfl | rfl | rfl | rfl | rfl | rfl | rfl | rfl | rfl | rfl | rfl | rfl | rfl | rfl | rfl | rfl | rfl
      all_goals
        simp [refK, okK, condB, isK, inZero] at hf
        first
          | (exfalso; omega)
          | (rw [h34 (by omega)]; simp [hz])
end
end Go.Proofs.YtnfmlmamgkpocaaGreatDoor
