/- What Inst of package parse returns where it gives up; conditions: the tokens are at most 5000, none longer than 100000; the table of names and strconv's errors stand where their variables lie. -/
import Derived.Test.YtnfmlmamgkpocaaGreatDoorGParY
namespace Go.Proofs.YtnfmlmamgkpocaaGreatDoor
open Go.ChangeShapes Go.WideShapes Go.ChangeAt Go.RowKit Go.Sort BigFrame

section
attribute [local irreducible] World.cell?
set_option maxRecDepth 100000 in
set_option maxHeartbeats 16000000 in
theorem inst_bad (w : World) (lo : Option Addr) (cap : Nat) (L : List Tk) (hT : Toks w lo cap L) (hN : Names w) (hE : Errs w) (hL : L.length ≤ 5000) (hS : ∀ t ∈ L, t.text.length ≤ 100000) (k : Nat) (y : Int) (hq : readP L = .bad k y) : Calls Tryz.prog 13 #[.slice lo L.length cap] w (IPost w L) := by
  obtain ⟨r, hr⟩ : ∃ r, w.heap.size = r := ⟨_, rfl⟩
  obtain ⟨w1, hw1⟩ : ∃ w1, w.alloc (.cells #[.int .u8 0, .int .u8 0, .int .u8 0, .int .u8 0, .int .u8 0, .int .u8 0, .int .u8 0, .bool false, .bool false, .int .u16 0, .int .i64 0, .slice none 0 0, .slice none 0 0, .bool false, .int .i64 0, .int .i64 0] TLN) = w1 := ⟨_, rfl⟩
  have m1 : Made w w1 := by rw [← hw1]; exact (Made.refl w).alloc (Nat.le_refl _) _
  have hrb : w1.heap[r]? = some (.cells zLine.toArray TLN (0, 0)) := by rw [← hw1, ← hr]; exact heap_alloc_new w _
  have hsz : w1.heap.size = r + 1 := by rw [← hw1, World.size_alloc, hr]
  have HW := Lib.hid (show PW ⟨w1, w1⟩ lo cap L from ⟨toks_made hT m1, names_next hN m1, hE.next m1, hL, hS⟩)
  have HP0 := Lib.hid (show PSx ⟨w1, w1⟩ lo L.length cap (r + 1) (0 : Nat) lnZero none 0 none 0 (w1.alloc (.cells #[.slice lo L.length cap, .int .i64 0, .int .u8 0, .int .u8 0, .int .u8 0, .int .u8 0, .int .u8 0, .int .u8 0, .int .u8 0, .bool false, .bool false, .int .u16 0, .int .i64 0, .slice none 0 0, .slice none 0 0, .bool false, .int .i64 0, .int .i64 0] TPS)) from
    have m2 : Made w1 (w1.alloc (.cells #[.slice lo L.length cap, .int .i64 0, .int .u8 0, .int .u8 0, .int .u8 0, .int .u8 0, .int .u8 0, .int .u8 0, .int .u8 0, .bool false, .bool false, .int .u16 0, .int .i64 0, .slice none 0 0, .slice none 0 0, .bool false, .int .i64 0, .int .i64 0] TPS)) := (Made.refl w1).alloc (Nat.le_refl _) _
    ⟨m2, by rw [← hsz]; exact heap_alloc_new w1 _, recs_none _, recs_none _, by rw [hsz]; exact Nat.le_refl _, ⟨m2.size, fun g _ hg => m2.block g hg⟩⟩)
  have HT := Lib.hid hT
  have HM1 := Lib.hid m1
  have HRB := Lib.hid hrb
  have hlr : r < w1.heap.size := by omega
  clear hT hN hE hS m1 hrb
  go_enter Tryz.func13, Tryz.ntmps13
  go_upto_region 2 with (fail)
  refine world_named (fun y => PSx ⟨w1, w1⟩ lo L.length cap (r + 1) (0 : Nat) lnZero none 0 none 0 y) HP0.out ?_
  intro w2 hp2
  have HP := Lib.hid hp2
  clear hp2 HP0
  clear hsz
  go_wp2_with (fail)
  refine (read_any16 HW.out _ HP.out).mono ?_
  intro e w3 h
  rewrite [hq] at h
  obtain ⟨hk, rfl, x, vo, vc, co, cc, hp⟩ := h
  have hy := read_why L hq
  have hby : (y != 0) = true := bne_iff_ne.2 (by omega)
  have HI := Lib.hid (show instP L = (lnZero, k, y) from by unfold instP; rw [hq])
  have hb := (hp.made.block r hlr).trans HRB.out
  have c1 := ps_c1 hp
  have lt := heap_lt hp.blk
  have ltr := heap_lt hb
  have ftr := free_of_lit hb
  have e0 : w3.cell? ⟨r, 0, none⟩ = some (.int .u8 0) := cell_of_lit hb 0
  have e1 : w3.cell? ⟨r, 1, none⟩ = some (.int .u8 0) := cell_of_lit hb 1
  have e2 : w3.cell? ⟨r, 2, none⟩ = some (.int .u8 0) := cell_of_lit hb 2
  have e3 : w3.cell? ⟨r, 3, none⟩ = some (.int .u8 0) := cell_of_lit hb 3
  have e4 : w3.cell? ⟨r, 4, none⟩ = some (.int .u8 0) := cell_of_lit hb 4
  have e5 : w3.cell? ⟨r, 5, none⟩ = some (.int .u8 0) := cell_of_lit hb 5
  have e6 : w3.cell? ⟨r, 6, none⟩ = some (.int .u8 0) := cell_of_lit hb 6
  have e7 : w3.cell? ⟨r, 7, none⟩ = some (.bool false) := cell_of_lit hb 7
  have e8 : w3.cell? ⟨r, 8, none⟩ = some (.bool false) := cell_of_lit hb 8
  have e9 : w3.cell? ⟨r, 9, none⟩ = some (.int .u16 0) := cell_of_lit hb 9
  have e10 : w3.cell? ⟨r, 10, none⟩ = some (.int .i64 0) := cell_of_lit hb 10
  have e11 : w3.cell? ⟨r, 11, none⟩ = some (.slice none 0 0) := cell_of_lit hb 11
  have e12 : w3.cell? ⟨r, 12, none⟩ = some (.slice none 0 0) := cell_of_lit hb 12
  have e13 : w3.cell? ⟨r, 13, none⟩ = some (.bool false) := cell_of_lit hb 13
  have e14 : w3.cell? ⟨r, 14, none⟩ = some (.int .i64 0) := cell_of_lit hb 14
  have e15 : w3.cell? ⟨r, 15, none⟩ = some (.int .i64 0) := cell_of_lit hb 15
  have hrne : r ≠ r + 1 := by omega
  have hrne2 : r + 1 ≠ r := by omega
  have HX := Lib.hid (line_put hb (Made.trans HM1.out hp.made) (by rw [hr]; exact Nat.le_refl _) (.int .u8 0) (.int .u8 0) (.int .u8 0) (.int .u8 0) (.int .u8 0) (.int .u8 0) (.int .u8 0) (.bool false) (.bool false) (.int .u16 0) (.int .i64 0) (.slice none 0 0) (.slice none 0 0) (.bool false) (.int .i64 0) (.int .i64 0))
  clear hq hy hp hb HP HW HT
  go_wp2_with (fail)
  go_region
  have hxo := HX.out
  clear HX
  generalize (set16 w3 r (.int .u8 0) (.int .u8 0) (.int .u8 0) (.int .u8 0) (.int .u8 0) (.int .u8 0) (.int .u8 0) (.bool false) (.bool false) (.int .u16 0) (.int .i64 0) (.slice none 0 0) (.slice none 0 0) (.bool false) (.int .i64 0) (.int .i64 0)).drew = z at hxo ⊢
  obtain ⟨hzb, hzm, -⟩ := hxo
  have HZ := Lib.hid hzm
  have f0 : z.cell? ⟨r, 0, none⟩ = some (.int .u8 0) := cell_of_lit hzb 0
  have f1 : z.cell? ⟨r, 1, none⟩ = some (.int .u8 0) := cell_of_lit hzb 1
  have f2 : z.cell? ⟨r, 2, none⟩ = some (.int .u8 0) := cell_of_lit hzb 2
  have f3 : z.cell? ⟨r, 3, none⟩ = some (.int .u8 0) := cell_of_lit hzb 3
  have f4 : z.cell? ⟨r, 4, none⟩ = some (.int .u8 0) := cell_of_lit hzb 4
  have f5 : z.cell? ⟨r, 5, none⟩ = some (.int .u8 0) := cell_of_lit hzb 5
  have f6 : z.cell? ⟨r, 6, none⟩ = some (.int .u8 0) := cell_of_lit hzb 6
  have f7 : z.cell? ⟨r, 7, none⟩ = some (.bool false) := cell_of_lit hzb 7
  have f8 : z.cell? ⟨r, 8, none⟩ = some (.bool false) := cell_of_lit hzb 8
  have f9 : z.cell? ⟨r, 9, none⟩ = some (.int .u16 0) := cell_of_lit hzb 9
  have f10 : z.cell? ⟨r, 10, none⟩ = some (.int .i64 0) := cell_of_lit hzb 10
  have f11 : z.cell? ⟨r, 11, none⟩ = some (.slice none 0 0) := cell_of_lit hzb 11
  have f12 : z.cell? ⟨r, 12, none⟩ = some (.slice none 0 0) := cell_of_lit hzb 12
  have f13 : z.cell? ⟨r, 13, none⟩ = some (.bool false) := cell_of_lit hzb 13
  have f14 : z.cell? ⟨r, 14, none⟩ = some (.int .i64 0) := cell_of_lit hzb 14
  have f15 : z.cell? ⟨r, 15, none⟩ = some (.int .i64 0) := cell_of_lit hzb 15
  clear hzb hzm HRB e0 e1 e2 e3 e4 e5 e6 e7 e8 e9 e10 e11 e12 e13 e14 e15
  go_wp2
  refine bodyPost_ret (v := .tuple #[lnVal lnZero (.slice none 0 0) (.slice none 0 0), .int .i64 k, .int .i64 y]) (by simp [results, Tryz.results13, go_sem, lnZero, f0, f1, f2, f3, f4, f5, f6, f7, f8, f9, f10, f11, f12, f13, f14, f15]) rfl ?_
  exact ipost_of (y := lnZero) HI.out (recs_none _) (recs_none _) HZ.out
end
end Go.Proofs.YtnfmlmamgkpocaaGreatDoor
