/- What number, name and reads of the laws of parse return; conditions: on lengths, and that the table of names and strconv's errors stand where their variables lie. -/
import Derived.Test.YtnfmlmamgkpocaaGreatDoorGParZ
namespace Go.Proofs.YtnfmlmamgkpocaaGreatDoor
open Go.ChangeShapes Go.WideShapes Go.ChangeAt Go.RowKit Go.Sort BigFrame

def OneTm (w : World) (t : Tm) (e : Ending) (w' : World) : Prop := ∃ so, e = .returned (.slice so 1 1) ∧ Tms w' so 1 [t] ∧ Made w w'
section
attribute [local irreducible] World.cell?
set_option maxRecDepth 100000 in
set_option maxHeartbeats 4000000 in
theorem number16_any (v : Int) (w : World) : Calls Tryz.prog 19 #[.int .i64 v] w (OneTm w ⟨1, v, [], 0, 0⟩) := by
  have HX := Lib.hid (show OneTm w ⟨1, v, [], 0, 0⟩ (.returned (.slice (some ⟨w.heap.size, 0, none⟩) 1 1)) (w.alloc (.cells #[.int .u8 1, .int .i64 v, .string (strOf []), .int .i64 0, .int .i64 0] 38)) from
    ⟨_, rfl, recs_lit (l := [(⟨1, v, [], 0, 0⟩ : Tm)]) tm_len (heap_alloc_new w _) rfl (by decide), (Made.refl w).alloc (Nat.le_refl _) _⟩)
  go_enter Tryz.func19, Tryz.ntmps19
  go_wp2
  go_ret
  exact HX.out
set_option maxRecDepth 100000 in
set_option maxHeartbeats 4000000 in
theorem name16_any (s : List UInt8) (w : World) : Calls Tryz.prog 18 #[.string (strOf s)] w (OneTm w ⟨2, 0, s, 0, 0⟩) := by
  have HX := Lib.hid (show OneTm w ⟨2, 0, s, 0, 0⟩ (.returned (.slice (some ⟨w.heap.size, 0, none⟩) 1 1)) (w.alloc (.cells #[.int .u8 2, .int .i64 0, .string (strOf s), .int .i64 0, .int .i64 0] 38)) from
    ⟨_, rfl, recs_lit (l := [(⟨2, 0, s, 0, 0⟩ : Tm)]) tm_len (heap_alloc_new w _) rfl (by decide), (Made.refl w).alloc (Nat.le_refl _) _⟩)
  go_enter Tryz.func18, Tryz.ntmps18
  go_wp2
  go_ret
  exact HX.out
set_option maxRecDepth 100000 in
set_option maxHeartbeats 16000000 in
/-- A text is an instruction, all of it. -/
theorem reads16_any (S : ByteArray) (s : List UInt8) (hS : IsStr S s) (hl : s.length ≤ 2000) (x : Ln) (hI : instP (cutE s) = ({ x with line := 1, col := 1 }, (cutE s).length, 0)) (hlv : x.value.length ≤ 100000) (hlc : x.count.length ≤ 100000) (w : World) (hN : Names w) (hE : Errs w) (v2 c2 : Option Addr) (a2 b2 : Nat) (hv : Tms w v2 a2 x.value) (hc : Tms w c2 b2 x.count) :
    Calls Tryz.prog 17 #[.string S, lnVal x (.slice v2 x.value.length a2) (.slice c2 x.count.length b2)] w fun e w' => e = .returned (.bool true) ∧ Made w w' := by
  obtain ⟨q, hq⟩ : ∃ q, w.heap.size = q := ⟨_, rfl⟩
  obtain ⟨w1, hw1⟩ : ∃ w1, w.alloc (.cells #[.int .u8 x.op, .int .u8 x.d, .int .u8 x.s, .int .u8 x.t, .int .u8 x.n, .int .u8 x.pred, .int .u8 x.mode, .bool x.new, .bool false, .int .u16 0, .int .i64 0, .slice v2 x.value.length a2, .slice c2 x.count.length b2, .bool x.forced, .int .i64 x.line, .int .i64 x.col] TLN) = w1 := ⟨_, rfl⟩
  have m1 : Made w w1 := by rw [← hw1]; exact (Made.refl w).alloc (Nat.le_refl _) _
  have hqb : w1.heap[q]? = some (.cells [.int .u8 x.op, .int .u8 x.d, .int .u8 x.s, .int .u8 x.t, .int .u8 x.n, .int .u8 x.pred, .int .u8 x.mode, .bool x.new, .bool false, .int .u16 0, .int .i64 0, .slice v2 x.value.length a2, .slice c2 x.count.length b2, .bool x.forced, .int .i64 x.line, .int .i64 x.col].toArray TLN (0, 0)) := by rw [← hw1, ← hq]; exact heap_alloc_new w _
  have M1 := Lib.hid m1
  have HQ := Lib.hid hqb
  have HC := Lib.hid (fun u => cut16_any S s hS (by omega) u)
  have hfew := cutE_few s
  have HV := Lib.hid hv
  have HCN := Lib.hid hc
  have HINST := Lib.hid (fun so c u (hT : Toks u so c (cutE s)) (h : Made w u) => inst_any u so c (cutE s) hT (names_next hN h) (hE.next h) (by omega) (fun t ht => by have := cutE_short s t ht; omega))
  obtain ⟨m, hm⟩ : ∃ m, (cutE s).length = m := ⟨_, rfl⟩
  rewrite [hm] at HINST hI
  have HI := Lib.hid hI
  have HLL := Lib.hid (And.intro hlv hlc)
  have hbm : ((m : Int) == (m : Int)) = true := beq_iff_eq.2 rfl
  have HM := Lib.hid hm
  clear hS hl hI hlv hlc hN hE hv hc m1 hqb hfew hm
  go_enter Tryz.func17, Tryz.ntmps17
  go_wp2_with (fail)
  refine (HC.out _).mono ?_
  rintro e w2 ⟨so, cp, rfl, hT, m2⟩
  rewrite [HM.out]
  have M2 := Lib.hid (Made.trans M1.out m2)
  have HQ2 := Lib.hid (m2.heap HQ.out)
  have HT := Lib.hid hT
  clear hT m2 HQ M1 HC
  go_wp2_with (fail)
  refine (HINST.out so cp _ HT.out M2.out).mono ?_
  intro e w3 h
  obtain ⟨vo, vc, co, cc, rfl, hv1, hc1, m3⟩ : ∃ vo vc co cc, e = .returned (.tuple #[lnVal { x with line := 1, col := 1 } (.slice vo x.value.length vc) (.slice co x.count.length cc), .int .i64 m, .int .i64 0]) ∧ Tms w3 vo vc x.value ∧ Tms w3 co cc x.count ∧ Made w2 w3 := by
    unfold IPost at h
    rw [HI.out] at h
    exact h
  have M3 := Lib.hid (Made.trans M2.out m3)
  have HQ3 := Lib.hid (m3.heap HQ2.out)
  have HX := Lib.hid (show (w3.alloc (.cells #[.int .u8 x.op, .int .u8 x.d, .int .u8 x.s, .int .u8 x.t, .int .u8 x.n, .int .u8 x.pred, .int .u8 x.mode, .bool x.new, .bool false, .int .u16 0, .int .i64 0, .slice vo x.value.length vc, .slice co x.count.length cc, .bool x.forced, .int .i64 1, .int .i64 1] TLN)).heap[w3.heap.size]? = some (.cells [.int .u8 x.op, .int .u8 x.d, .int .u8 x.s, .int .u8 x.t, .int .u8 x.n, .int .u8 x.pred, .int .u8 x.mode, .bool x.new, .bool false, .int .u16 0, .int .i64 0, .slice vo x.value.length vc, .slice co x.count.length cc, .bool x.forced, .int .i64 1, .int .i64 1].toArray TLN (0, 0)) ∧ (w3.alloc (.cells #[.int .u8 x.op, .int .u8 x.d, .int .u8 x.s, .int .u8 x.t, .int .u8 x.n, .int .u8 x.pred, .int .u8 x.mode, .bool x.new, .bool false, .int .u16 0, .int .i64 0, .slice vo x.value.length vc, .slice co x.count.length cc, .bool x.forced, .int .i64 1, .int .i64 1] TLN)).heap[q]? = some (.cells [.int .u8 x.op, .int .u8 x.d, .int .u8 x.s, .int .u8 x.t, .int .u8 x.n, .int .u8 x.pred, .int .u8 x.mode, .bool x.new, .bool false, .int .u16 0, .int .i64 0, .slice v2 x.value.length a2, .slice c2 x.count.length b2, .bool x.forced, .int .i64 x.line, .int .i64 x.col].toArray TLN (0, 0)) ∧ Made w3 (w3.alloc (.cells #[.int .u8 x.op, .int .u8 x.d, .int .u8 x.s, .int .u8 x.t, .int .u8 x.n, .int .u8 x.pred, .int .u8 x.mode, .bool x.new, .bool false, .int .u16 0, .int .i64 0, .slice vo x.value.length vc, .slice co x.count.length cc, .bool x.forced, .int .i64 1, .int .i64 1] TLN)) from
    ⟨heap_alloc_new w3 _, Made.heap ((Made.refl w3).alloc (Nat.le_refl _) _) HQ3.out, (Made.refl w3).alloc (Nat.le_refl _) _⟩)
  have HT1 := Lib.hid (And.intro hv1 hc1)
  obtain ⟨r, hr⟩ : ∃ r, w3.heap.size = r := ⟨_, rfl⟩
  clear h hv1 hc1 m3 HQ2 M2 HT HINST HI
  go_upto_region 3 with (fail)
  refine world_named (fun y => y.heap[w3.heap.size]? = some (.cells [.int .u8 x.op, .int .u8 x.d, .int .u8 x.s, .int .u8 x.t, .int .u8 x.n, .int .u8 x.pred, .int .u8 x.mode, .bool x.new, .bool false, .int .u16 0, .int .i64 0, .slice vo x.value.length vc, .slice co x.count.length cc, .bool x.forced, .int .i64 1, .int .i64 1].toArray TLN (0, 0)) ∧ y.heap[q]? = some (.cells [.int .u8 x.op, .int .u8 x.d, .int .u8 x.s, .int .u8 x.t, .int .u8 x.n, .int .u8 x.pred, .int .u8 x.mode, .bool x.new, .bool false, .int .u16 0, .int .i64 0, .slice v2 x.value.length a2, .slice c2 x.count.length b2, .bool x.forced, .int .i64 x.line, .int .i64 x.col].toArray TLN (0, 0)) ∧ Made w3 y) HX.out ?_
  rintro z ⟨hz1, hz2, mz⟩
  rewrite [hr] at hz1
  have HZ1 := Lib.hid hz1
  have MZ := Lib.hid mz
  clear HX
  have ca0 : z.cell? ⟨r, 0, none⟩ = some (.int .u8 x.op) := cell_of_lit hz1 0
  have ca1 : z.cell? ⟨r, 1, none⟩ = some (.int .u8 x.d) := cell_of_lit hz1 1
  have ca2 : z.cell? ⟨r, 2, none⟩ = some (.int .u8 x.s) := cell_of_lit hz1 2
  have ca3 : z.cell? ⟨r, 3, none⟩ = some (.int .u8 x.t) := cell_of_lit hz1 3
  have ca4 : z.cell? ⟨r, 4, none⟩ = some (.int .u8 x.n) := cell_of_lit hz1 4
  have ca5 : z.cell? ⟨r, 5, none⟩ = some (.int .u8 x.pred) := cell_of_lit hz1 5
  have ca6 : z.cell? ⟨r, 6, none⟩ = some (.int .u8 x.mode) := cell_of_lit hz1 6
  have ca7 : z.cell? ⟨r, 7, none⟩ = some (.bool x.new) := cell_of_lit hz1 7
  have ca8 : z.cell? ⟨r, 8, none⟩ = some (.bool false) := cell_of_lit hz1 8
  have ca9 : z.cell? ⟨r, 9, none⟩ = some (.int .u16 0) := cell_of_lit hz1 9
  have ca10 : z.cell? ⟨r, 10, none⟩ = some (.int .i64 0) := cell_of_lit hz1 10
  have ca11 : z.cell? ⟨r, 11, none⟩ = some (.slice vo x.value.length vc) := cell_of_lit hz1 11
  have ca12 : z.cell? ⟨r, 12, none⟩ = some (.slice co x.count.length cc) := cell_of_lit hz1 12
  have ca13 : z.cell? ⟨r, 13, none⟩ = some (.bool x.forced) := cell_of_lit hz1 13
  have ca14 : z.cell? ⟨r, 14, none⟩ = some (.int .i64 1) := cell_of_lit hz1 14
  have ca15 : z.cell? ⟨r, 15, none⟩ = some (.int .i64 1) := cell_of_lit hz1 15
  have cb0 : z.cell? ⟨q, 0, none⟩ = some (.int .u8 x.op) := cell_of_lit hz2 0
  have cb1 : z.cell? ⟨q, 1, none⟩ = some (.int .u8 x.d) := cell_of_lit hz2 1
  have cb2 : z.cell? ⟨q, 2, none⟩ = some (.int .u8 x.s) := cell_of_lit hz2 2
  have cb3 : z.cell? ⟨q, 3, none⟩ = some (.int .u8 x.t) := cell_of_lit hz2 3
  have cb4 : z.cell? ⟨q, 4, none⟩ = some (.int .u8 x.n) := cell_of_lit hz2 4
  have cb5 : z.cell? ⟨q, 5, none⟩ = some (.int .u8 x.pred) := cell_of_lit hz2 5
  have cb6 : z.cell? ⟨q, 6, none⟩ = some (.int .u8 x.mode) := cell_of_lit hz2 6
  have cb7 : z.cell? ⟨q, 7, none⟩ = some (.bool x.new) := cell_of_lit hz2 7
  have cb8 : z.cell? ⟨q, 8, none⟩ = some (.bool false) := cell_of_lit hz2 8
  have cb9 : z.cell? ⟨q, 9, none⟩ = some (.int .u16 0) := cell_of_lit hz2 9
  have cb10 : z.cell? ⟨q, 10, none⟩ = some (.int .i64 0) := cell_of_lit hz2 10
  have cb11 : z.cell? ⟨q, 11, none⟩ = some (.slice v2 x.value.length a2) := cell_of_lit hz2 11
  have cb12 : z.cell? ⟨q, 12, none⟩ = some (.slice c2 x.count.length b2) := cell_of_lit hz2 12
  have cb13 : z.cell? ⟨q, 13, none⟩ = some (.bool x.forced) := cell_of_lit hz2 13
  have cb14 : z.cell? ⟨q, 14, none⟩ = some (.int .i64 x.line) := cell_of_lit hz2 14
  have cb15 : z.cell? ⟨q, 15, none⟩ = some (.int .i64 x.col) := cell_of_lit hz2 15
  have HSAME := Lib.hid (same16_any { x with line := 1, col := 1 } x.line x.col vo v2 co c2 vc a2 cc b2 z (HT1.out.1.made tm_len mz) (HV.out.made tm_len (Made.trans M3.out mz)) (HT1.out.2.made tm_len mz) (HCN.out.made tm_len (Made.trans M3.out mz)) HLL.out.1 HLL.out.2)
  clear hz1 hz2 mz HQ3 HT1 HV HCN
  go_wp2_with (fail)
  refine HSAME.out.mono ?_
  rintro e w5 ⟨rfl, m5⟩
  have M5 := Lib.hid (Made.trans (Made.trans M3.out MZ.out) m5)
  have h1 := m5.heap HZ1.out
  have d14 : w5.cell? ⟨r, 14, none⟩ = some (.int .i64 1) := cell_of_lit h1 14
  have d15 : w5.cell? ⟨r, 15, none⟩ = some (.int .i64 1) := cell_of_lit h1 15
  clear m5 h1 HSAME HZ1 MZ M3 ca0 ca1 ca2 ca3 ca4 ca5 ca6 ca7 ca8 ca9 ca10 ca11 ca12 ca13 ca14 ca15 cb0 cb1 cb2 cb3 cb4 cb5 cb6 cb7 cb8 cb9 cb10 cb11 cb12 cb13 cb14 cb15
  go_wp2
  go_ret
  exact ⟨rfl, M5.out⟩
end
end Go.Proofs.YtnfmlmamgkpocaaGreatDoor
