/- What Inst of package parse returns where it has read an instruction; conditions: the tokens are at most 5000, none longer than 100000; the table of names and strconv's errors stand where their variables lie. -/
import Derived.Test.YtnfmlmamgkpocaaGreatDoorGParY
import Derived.Deep.RegionHeld
import Derived.Laws.CopyOwn
namespace Go.Proofs.YtnfmlmamgkpocaaGreatDoor
open Go.ChangeShapes Go.WideShapes Go.ChangeAt Go.RowKit Go.Sort BigFrame

theorem ln_one (x : Ln) (v c : Value) (hv : v.oneCell' = true) (hc : c.oneCell' = true) : ∀ u ∈ lnCells x v c, u.oneCell' = true := by
  intro u hu
  simp only [lnCells, List.mem_cons, List.not_mem_nil, or_false] at hu
  rcases hu with rfl | rfl | rfl | rfl | rfl | rfl | rfl | rfl | rfl | rfl | rfl | rfl | rfl | rfl | rfl | rfl <;> first | rfl | assumption
section
attribute [local irreducible] World.cell?
set_option maxRecDepth 100000 in
set_option maxHeartbeats 16000000 in
theorem inst_ok (w : World) (lo : Option Addr) (cap : Nat) (L : List Tk) (hT : Toks w lo cap L) (hN : Names w) (hE : Errs w) (hL : L.length ≤ 5000) (hS : ∀ t ∈ L, t.text.length ≤ 100000) (k : Nat) (x : Ln) (hq : readP L = .ok k x) : Calls Tryz.prog 13 #[.slice lo L.length cap] w (IPost w L) := by
  obtain ⟨r, hr⟩ : ∃ r, w.heap.size = r := ⟨_, rfl⟩
  obtain ⟨w1, hw1⟩ : ∃ w1, w.alloc (.cells #[.int .u8 0, .int .u8 0, .int .u8 0, .int .u8 0, .int .u8 0, .int .u8 0, .int .u8 0, .bool false, .bool false, .int .u16 0, .int .i64 0, .slice none 0 0, .slice none 0 0, .bool false, .int .i64 0, .int .i64 0] TLN) = w1 := ⟨_, rfl⟩
  have m1 : Made w w1 := by rw [← hw1]; exact (Made.refl w).alloc (Nat.le_refl _) _
  have hrb : w1.heap[r]? = some (.cells zLine.toArray TLN (0, 0)) := by rw [← hw1, ← hr]; exact heap_alloc_new w _
  have hsz : w1.heap.size = r + 1 := by rw [← hw1, World.size_alloc, hr]
  have HW := Lib.hid (show PW ⟨w1, w1⟩ lo cap L from ⟨toks_made hT m1, names_next hN m1, hE.next m1, hL, hS⟩)
  have HP0 := Lib.hid (show PSx ⟨w1, w1⟩ lo L.length cap (r + 1) (0 : Nat) lnZero none 0 none 0 (w1.alloc (.cells #[.slice lo L.length cap, .int .i64 0, .int .u8 0, .int .u8 0, .int .u8 0, .int .u8 0, .int .u8 0, .int .u8 0, .int .u8 0, .bool false, .bool false, .int .u16 0, .int .i64 0, .slice none 0 0, .slice none 0 0, .bool false, .int .i64 0, .int .i64 0] TPS)) from
    have m2 : Made w1 (w1.alloc (.cells #[.slice lo L.length cap, .int .i64 0, .int .u8 0, .int .u8 0, .int .u8 0, .int .u8 0, .int .u8 0, .int .u8 0, .int .u8 0, .bool false, .bool false, .int .u16 0, .int .i64 0, .slice none 0 0, .slice none 0 0, .bool false, .int .i64 0, .int .i64 0] TPS)) := (Made.refl w1).alloc (Nat.le_refl _) _
    ⟨m2, by rw [← hsz]; exact heap_alloc_new w1 _, recs_none _, recs_none _, by rw [hsz]; exact Nat.le_refl _, ⟨m2.size, fun g _ hg => m2.block g hg⟩⟩)
  have HT := Lib.hid hT
  have HM1 := Lib.hid m1
  have HRB := Lib.hid hrb
  have hlr : r < w1.heap.size := by omega
  clear hT hN hE hS m1 hrb
  go_enter Tryz.func13, Tryz.ntmps13
  go_upto_region 2 with (fail)
  refine world_named (fun y => PSx ⟨w1, w1⟩ lo L.length cap (r + 1) (0 : Nat) lnZero none 0 none 0 y) HP0.out ?_
  intro w2 hp2
  have HP := Lib.hid hp2
  clear hp2 HP0
  clear hsz
  go_wp2_with (fail)
  refine (read_any16 HW.out _ HP.out).mono ?_
  as_aux_lemma =>
    intro e w3 h
    rewrite [hq] at h
    obtain ⟨hk, rfl, vo, vc, co, cc, hp⟩ := h
    have hpos := read_some L hq
    obtain ⟨t, ht⟩ : ∃ t, L[0] = t := ⟨_, rfl⟩
    obtain ⟨g, o, rfl, -, -, -, d3, d4⟩ := toks_cells (toks_made HT.out (Made.trans HM1.out hp.made)) hpos t ht
    obtain ⟨tk, tt, tv, tl, tc⟩ := t
    have HI := Lib.hid (show instP L = ({ x with line := tl, col := tc }, k, 0) from by unfold instP; rw [hq, List.getElem?_eq_getElem hpos, ht]; rfl)
    simp only [Nat.zero_mul, Nat.add_zero] at d3 d4
    have hpi : (0 : Int) < (L.length : Int) := by omega
    have hb := (hp.made.block r hlr).trans HRB.out
    have c16 : w3.cell? ⟨r + 1, 16, none⟩ = some (.int .i64 x.line) := cell_of_lit hp.blk 16
    have c17 : w3.cell? ⟨r + 1, 17, none⟩ = some (.int .i64 x.col) := cell_of_lit hp.blk 17
    have lt := heap_lt hp.blk
    have ft := free_of_lit hp.blk
    have hrne : r ≠ r + 1 := by omega
    have HXX := Lib.hid ((hp.set 16 (.int .i64 tl) (x' := { x with line := tl }) rfl rfl rfl).set 17 (.int .i64 tc) (x' := { x with line := tl, col := tc }) rfl rfl rfl)
    have HX := Lib.hid (HXX.out.next (made_drew (Made.refl _)))
    clear hq hp hb HP HW HT hpos ht HXX
    go_upto_region 5 with (fail)
    go_region
    all_goals
      go_upto_region 6 with (fail)
      refine world_named (fun y => PSx ⟨w1, w1⟩ (some ⟨g, o, none⟩) L.length cap (r + 1) (k : Nat) { x with line := tl, col := tc } vo vc co cc y) HX.out ?_
      intro z hz
      have hb := (hz.made.block r hlr).trans HRB.out
      have c1 := ps_c1 hz
      have hlow : w.heap.size ≤ r := by rw [hr]; exact Nat.le_refl _
      have hpl : ∀ v ∈ zLine, ∀ S, v ≠ .string S := by intro v hv S e; subst e; simp at hv
      obtain ⟨C, hC⟩ : ∃ C : List Value, lnCells { x with line := tl, col := tc } (.slice vo x.value.length vc) (.slice co x.count.length cc) = C := ⟨_, rfl⟩
      have hone : C.toArray.all (·.oneCell') = true := by rw [← hC]; exact all_oneCell_toArray (ln_one _ _ _ rfl rfl)
      have hsz16 : (Tryz.prog.info? TLN).map (·.size) = some C.length := by rw [← hC]; kernel_rfl
      have hold : zLine.toArray.size = C.toArray.size := by rw [← hC]; rfl
      have hrange : z.drew.rangeAt (r + 1) 2 C := by
        rw [World.rangeAt_drew, ← hC]
        intro j v hv
        have h2 : z.cell? ⟨r + 1, j + 2, none⟩ = some v := (cell_of_lit hz.blk (j + 2)).trans hv
        rw [Nat.add_comm 2 j]
        exact h2
      have hbd : z.drew.heap[r]? = some (.cells zLine.toArray TLN (0, 0)) := hb
      have hoth : ∀ g, g ≠ r → (z.drew.setRow r C.toArray).heap[g]? = z.heap[g]? := fun g hg => setRow_other z.drew r g C.toArray hg
      have HY := Lib.hid (And.intro (setRow_heap z.drew r _ C.toArray TLN (0, 0) hbd) (And.intro (show Made w (z.drew.setRow r C.toArray) from below_setRow (made_drew (Made.trans HM1.out hz.made)) hlow _) (And.intro (tms_far hz.val hb hpl hoth) (tms_far hz.cnt hb hpl hoth))))
      have HC := Lib.hid hC
      clear hz hb HX HRB hpl c16 c17 lt ft d3 d4 hC hoth
      refine wp_region_held_drew (S := fun y => y.rangeAt (r + 1) 2 C ∧ y.cell? ⟨r + 1, 1, none⟩ = some (.int .i64 k)) (by kernel_rfl) ⟨hrange, by simpa using c1⟩ (fun hHeld => ?_)
      refine wpAnyH_take (i := 0) (v := .pointer (some ⟨r + 1, 2, none⟩)) rfl (by kernel_rfl) (by kernel_rfl) (by kernel_rfl) (fun _ _ _ h => h) (Or.inl ⟨by rfl, ?_⟩) (by assumption) ?_
      · intro w hSw
        (try dsimp only at hSw)
        go_simp
      (try simp only [Act.put, List.setIfInBounds_toArray])
      refine wpAnyH_take (i := 1) (v := .agg C.toArray) rfl (by kernel_rfl) (by kernel_rfl) (by kernel_rfl) (fun _ _ _ h => h) (yieldsIf_load_mid (by rfl) TLN (.tmp 28) rfl (r + 1) 2 rfl C _ (fun _ hw => hw.1) Tryz.underlying29 rfl hsz16) (by assumption) ?_
      (try simp only [Act.put])
      refine wpAnyH_take (i := 2) (v := .pointer (some ⟨r + 1, 1, none⟩)) rfl (by kernel_rfl) (by kernel_rfl) (by kernel_rfl) (fun _ _ _ h => h) (Or.inl ⟨by rfl, ?_⟩) (by assumption) ?_
      · intro w hSw
        (try dsimp only at hSw)
        go_simp
      (try simp only [Act.put])
      refine wpAnyH_take (i := 3) (v := .int .i64 k) rfl (by kernel_rfl) (by kernel_rfl) (by kernel_rfl) (fun _ _ _ h => h) (Or.inl ⟨by rfl, ?_⟩) (by assumption) ?_
      · intro w hSw
        (try dsimp only at hSw)
        go_simp
      (try simp only [Act.put])
      refine wpAnyH_ready (rs := [4]) (by kernel_rfl) (by simp) ?_
      refine AllReadyH.cons rfl (fun K hK => ?_) AllReadyH.nil
      rw [if_pos (by rfl)]
      refine wp_store_row TLN (.tmp 2) (.tmp 29) rfl r C.toArray rfl rfl TLN zLine.toArray hbd (by simpa using hsz16) hold hone ?_
      (try simp only [Act.put])
      refine hK.out _ _ ?_ (fun hHeld2 => ?_)
      · exact ⟨fun j v hv => by rw [cell_setRow_other _ _ _ _ (by simp)]; exact hHeld.1 j v hv, by rw [cell_setRow_other _ _ _ _ (by simp)]; exact hHeld.2⟩
      refine wpAnyH_take (i := 5) (v := .int .i64 k) rfl (by kernel_rfl) (by kernel_rfl) (by kernel_rfl) (fun _ _ _ h => h) (Or.inl ⟨by rfl, ?_⟩) hHeld2 ?_
      · intro w hSw
        (try dsimp only at hSw)
        go_simp
      (try simp only [Act.put])
      refine wpAnyH_take (i := 6) (v := .int .i64 0) rfl (by kernel_rfl) (by kernel_rfl) (by kernel_rfl) (fun _ _ _ h => h) (Or.inl ⟨by rfl, ?_⟩) hHeld2 ?_
      · intro w hSw
        (try dsimp only at hSw)
        go_simp
      (try simp only [Act.put])
      refine wpAnyH_done (by kernel_rfl) ?_ _
      have hyo := HY.out
      clear HY hHeld hHeld2 hrange hbd hK c1
      generalize z.drew.setRow r C.toArray = y at hyo ⊢
      obtain ⟨hyb, hym, hyv, hyc⟩ := hyo
      have HZ := Lib.hid (And.intro hym (And.intro hyv hyc))
      rw [← HC.out] at hyb
      have f0 : y.cell? ⟨r, 0, none⟩ = some (.int .u8 x.op) := cell_of_lit hyb 0
      have f1 : y.cell? ⟨r, 1, none⟩ = some (.int .u8 x.d) := cell_of_lit hyb 1
      have f2 : y.cell? ⟨r, 2, none⟩ = some (.int .u8 x.s) := cell_of_lit hyb 2
      have f3 : y.cell? ⟨r, 3, none⟩ = some (.int .u8 x.t) := cell_of_lit hyb 3
      have f4 : y.cell? ⟨r, 4, none⟩ = some (.int .u8 x.n) := cell_of_lit hyb 4
      have f5 : y.cell? ⟨r, 5, none⟩ = some (.int .u8 x.pred) := cell_of_lit hyb 5
      have f6 : y.cell? ⟨r, 6, none⟩ = some (.int .u8 x.mode) := cell_of_lit hyb 6
      have f7 : y.cell? ⟨r, 7, none⟩ = some (.bool x.new) := cell_of_lit hyb 7
      have f8 : y.cell? ⟨r, 8, none⟩ = some (.bool false) := cell_of_lit hyb 8
      have f9 : y.cell? ⟨r, 9, none⟩ = some (.int .u16 0) := cell_of_lit hyb 9
      have f10 : y.cell? ⟨r, 10, none⟩ = some (.int .i64 0) := cell_of_lit hyb 10
      have f11 : y.cell? ⟨r, 11, none⟩ = some (.slice vo x.value.length vc) := cell_of_lit hyb 11
      have f12 : y.cell? ⟨r, 12, none⟩ = some (.slice co x.count.length cc) := cell_of_lit hyb 12
      have f13 : y.cell? ⟨r, 13, none⟩ = some (.bool x.forced) := cell_of_lit hyb 13
      have f14 : y.cell? ⟨r, 14, none⟩ = some (.int .i64 tl) := cell_of_lit hyb 14
      have f15 : y.cell? ⟨r, 15, none⟩ = some (.int .i64 tc) := cell_of_lit hyb 15
      clear hyb hym hyv hyc
      go_wp2
      refine bodyPost_ret (v := .tuple #[lnVal { x with line := tl, col := tc } (.slice vo x.value.length vc) (.slice co x.count.length cc), .int .i64 k, .int .i64 0]) (by simp [results, Tryz.results13, go_sem, f0, f1, f2, f3, f4, f5, f6, f7, f8, f9, f10, f11, f12, f13, f14, f15]) rfl ?_
      have hfin := ipost_of (y := { x with line := tl, col := tc }) HI.out HZ.out.2.1 HZ.out.2.2 HZ.out.1
      dsimp only at hfin
      with_reducible exact hfin
end
end Go.Proofs.YtnfmlmamgkpocaaGreatDoor
