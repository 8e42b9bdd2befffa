/- What see, wrong and add of the document's answer for expr return; no condition but those named. -/
import Derived.Test.YtnfmlmamgkpocaaGreatDoorGExprM
import Derived.Test.YtnfmlmamgkpocaaGreatDoorGLexR
import Derived.Test.YtnfmlmamgkpocaaGreatDoorGBase
import Derived.Great.Walk
import Derived.OwnWalk
import Derived.Deep.Cut
namespace Go.Proofs.YtnfmlmamgkpocaaGreatDoor
open Go.ChangeShapes Go.WideShapes Go.ChangeAt Go.RowKit Go.Sort BigFrame

abbrev SC (lo : Option Addr) (n c : Nat) (k d bad : Int) (eo : Option Addr) (en ec : Nat) : List Value := [.slice lo n c, .int .i64 k, .int .i64 d, .int .i64 bad, .slice eo en ec]
abbrev SV (lo : Option Addr) (n c : Nat) (k d bad : Int) (eo : Option Addr) (en ec : Nat) : Value := .agg #[.slice lo n c, .int .i64 k, .int .i64 d, .int .i64 bad, .slice eo en ec]
/-- The reading's variable in block b. -/
structure SAt (W : World) (b : Nat) (cs : List Value) (u : World) : Prop where
  made : Made W u
  blk : u.heap[b]? = some (.cells cs.toArray 216 (0, 0))
theorem s_cells {W u : World} {b : Nat} {lo : Option Addr} {n c : Nat} {k d bad : Int} {eo : Option Addr} {en ec : Nat} (h : SAt W b (SC lo n c k d bad eo en ec) u) :
    u.cell? ⟨b, 0, none⟩ = some (.slice lo n c) ∧ u.cell? ⟨b, 1, none⟩ = some (.int .i64 k) ∧ u.cell? ⟨b, 2, none⟩ = some (.int .i64 d) ∧ u.cell? ⟨b, 3, none⟩ = some (.int .i64 bad) ∧ u.cell? ⟨b, 4, none⟩ = some (.slice eo en ec) :=
  ⟨cell_of_lit h.blk 0, cell_of_lit h.blk 1, cell_of_lit h.blk 2, cell_of_lit h.blk 3, cell_of_lit h.blk 4⟩
/-- What see tells. -/
def seeS (L : List Tk) (k : Nat) (bad : Int) : List UInt8 := if bad = 0 then (match L[k]? with | some t => if t.kind = 3 then t.text else [] | none => []) else []
theorem see_sg (L : List Tk) (k : Nat) (c : UInt8) : isSg c ((L.map Tk.q).drop k) = decide (seeS L k 0 = [c]) := by
  unfold seeS
  rw [if_pos rfl]
  rcases Nat.lt_or_ge k L.length with h | h
  · rw [List.getElem?_eq_getElem h, List.drop_eq_getElem_cons (by rw [List.length_map]; exact h), List.getElem_map]
    show (decide (L[k].kind = 3) && decide (L[k].text = [c])) = _
    by_cases h3 : L[k].kind = 3
    · simp [h3]
    · simp [h3]
  · rw [List.getElem?_eq_none h, List.drop_eq_nil_of_le (by rw [List.length_map]; exact h)]
    rfl
abbrev TQ : TypeId := 216
abbrev TE : TypeId := 38
abbrev set5 (u : World) (r : Nat) (y0 y1 y2 y3 y4 : Value) : World := ((((u.setCell ⟨r, 0, none⟩ y0).setCell ⟨r, 1, none⟩ y1).setCell ⟨r, 2, none⟩ y2).setCell ⟨r, 3, none⟩ y3).setCell ⟨r, 4, none⟩ y4
theorem te_tq : TE ≠ TQ := by decide
/-- All blocks but those of terms stand. -/
structure Kept (w w' : World) : Prop where
  size : w.heap.size ≤ w'.heap.size
  block : ∀ (g : Nat) (cs : Array Value) (T : TypeId) (fr : Nat × Nat), w.heap[g]? = some (Obj.cells cs T fr) → T ≠ TE → w'.heap[g]? = some (Obj.cells cs T fr)
theorem Kept.refl (w : World) : Kept w w := ⟨Nat.le_refl _, fun _ _ _ _ h _ => h⟩
theorem Kept.trans {a b c : World} (h : Kept a b) (k : Kept b c) : Kept a c := ⟨Nat.le_trans h.size k.size, fun g cs T fr hg hT => k.block g cs T fr (h.block g cs T fr hg hT) hT⟩
theorem kept_made {w w' : World} (h : Made w w') : Kept w w' := ⟨h.size, fun _ _ _ _ hg _ => h.heap hg⟩
theorem Kept.setCell {w u : World} (h : Kept w u) {p : Addr} (hp : w.heap.size ≤ p.block) (v : Value) : Kept w (u.setCell p v) := by
  refine ⟨Nat.le_trans h.size (by simp), fun g cs T fr hg hT => ?_⟩
  rw [heap_setCell_other u p g v (by have := heap_lt hg; omega)]
  exact h.block g cs T fr hg hT
/-- The reading's variable in block b, what is told in block r, and the terms, in a call that began at w0. -/
structure SX (W w0 : World) (ev : Value) (e : List Tm) (b : Nat) (cs : List Value) (r : Nat) (rs : List Value) (u : World) : Prop where
  row : Grows Tm.cells 5 TE W W.heap.size ev e u
  kept : Kept w0 u
  blk : u.heap[b]? = some (.cells cs.toArray TQ (0, 0))
  res : u.heap[r]? = some (.cells rs.toArray TQ (0, 0))
  low : W.heap.size ≤ w0.heap.size
  lob : w0.heap.size ≤ b
  lor : w0.heap.size ≤ r
  ne : b ≠ r
theorem post_named {P : Program} {fn : Func} {R : Ending → World → Prop} {e : Exit} {a : Act} {w : World} (F : World → Prop) (hF : F w) (h : ∀ u, F u → bodyPost P fn R e a u) : bodyPost P fn R e a w := h w hF
section
variable {W w0 u u1 : World} {ev : Value} {e : List Tm} {b r : Nat} {cs rs : List Value}
theorem SX.made (h : SX W w0 ev e b cs r rs u) : Made W u := h.row.made
theorem SX.next (h : SX W w0 ev e b cs r rs u) (hm : Made u u1) : SX W w0 ev e b cs r rs u1 := ⟨h.row.next hm, h.kept.trans (kept_made hm), hm.heap h.blk, hm.heap h.res, h.low, h.lob, h.lor, h.ne⟩
theorem SX.call {ev1 : Value} {e1 : List Tm} (h : SX W w0 ev e b cs r rs u) (hk : Kept u u1) (hg : Grows Tm.cells 5 TE W W.heap.size ev1 e1 u1) : SX W w0 ev1 e1 b cs r rs u1 :=
  ⟨hg, h.kept.trans hk, hk.block b _ _ _ h.blk (Ne.symm te_tq), hk.block r _ _ _ h.res (Ne.symm te_tq), h.low, h.lob, h.lor, h.ne⟩
theorem q_far {w : World} {B s n b : Nat} {T T' : TypeId} {v : Value} {xs : List Value} {cs : Array Value} {fr : Nat × Nat} (h : w.ownsRow B T s v n xs) (hb : w.heap[b]? = some (.cells cs T' fr)) (hT : T ≠ T') : ∀ g, v.ownBlock = some g → g ≠ b := by
  intro g hg e
  subst e
  rcases h.2 with ⟨rfl, _⟩ | ⟨a, _, _, rfl, _, ha, _⟩
  · simp [Value.ownBlock] at hg
  simp only [Value.ownBlock, Option.some.injEq] at hg
  subst hg
  rw [ha] at hb
  simp only [Option.some.injEq, Obj.cells.injEq] at hb
  exact hT hb.2.1
theorem q_owns {w w' : World} {B : Nat} {T : TypeId} {s : Nat} {v : Value} {n : Nat} {xs : List Value} (h : w.ownsRow B T s v n xs) (hb : ∀ g, v.ownBlock = some g → w'.heap[g]? = w.heap[g]?) : w'.ownsRow B T s v n xs := by
  refine ⟨h.1, ?_⟩
  rcases h.2 with hn | ⟨g, cap, cur, rfl, hB, hg, r⟩
  · exact .inl hn
  · exact .inr ⟨g, cap, cur, rfl, hB, (hb g rfl).trans hg, r⟩
theorem SX.setB (h : SX W w0 ev e b cs r rs u) (j : Nat) (v : Value) {cs' : List Value} (he : cs.toArray.setIfInBounds j v = cs'.toArray) : SX W w0 ev e b cs' r rs (u.setCell ⟨b, j, none⟩ v) := by
  have hm : Made W (u.setCell ⟨b, j, none⟩ v) := Below.setCell h.made (p := ⟨b, j, none⟩) (Nat.le_trans h.low h.lob) v
  have hb : ∀ g, g ≠ b → (u.setCell ⟨b, j, none⟩ v).heap[g]? = u.heap[g]? := fun g hg => heap_setCell_other u ⟨b, j, none⟩ g v hg
  refine ⟨⟨hm, h.row.low, q_owns h.row.row fun g hg => hb g (q_far h.row.row h.blk te_tq g hg)⟩, h.kept.setCell h.lob v, ?_, (hb r (Ne.symm h.ne)).trans h.res, h.low, h.lob, h.lor, h.ne⟩
  have := heap_setCell_same u b j cs.toArray TQ v h.blk
  rwa [he] at this
theorem SX.setR (h : SX W w0 ev e b cs r rs u) (j : Nat) (v : Value) {rs' : List Value} (he : rs.toArray.setIfInBounds j v = rs'.toArray) : SX W w0 ev e b cs r rs' (u.setCell ⟨r, j, none⟩ v) := by
  have hm : Made W (u.setCell ⟨r, j, none⟩ v) := Below.setCell h.made (p := ⟨r, j, none⟩) (Nat.le_trans h.low h.lor) v
  have hb : ∀ g, g ≠ r → (u.setCell ⟨r, j, none⟩ v).heap[g]? = u.heap[g]? := fun g hg => heap_setCell_other u ⟨r, j, none⟩ g v hg
  refine ⟨⟨hm, h.row.low, q_owns h.row.row fun g hg => hb g (q_far h.row.row h.res te_tq g hg)⟩, h.kept.setCell h.lor v, (hb b h.ne).trans h.blk, ?_, h.low, h.lob, h.lor, h.ne⟩
  have := heap_setCell_same u r j rs.toArray TQ v h.res
  rwa [he] at this
theorem SX.allR {x0 x1 x2 x3 x4 : Value} (h : SX W w0 ev e b cs r [x0, x1, x2, x3, x4] u) (y0 y1 y2 y3 y4 : Value) : SX W w0 ev e b cs r [y0, y1, y2, y3, y4] (set5 u r y0 y1 y2 y3 y4) :=
  ((((h.setR 0 y0 (rs' := [y0, x1, x2, x3, x4]) rfl).setR 1 y1 (rs' := [y0, y1, x2, x3, x4]) rfl).setR 2 y2 (rs' := [y0, y1, y2, x3, x4]) rfl).setR 3 y3 (rs' := [y0, y1, y2, y3, x4]) rfl).setR 4 y4 (rs' := [y0, y1, y2, y3, y4]) rfl
theorem SX.allB {x0 x1 x2 x3 x4 : Value} (h : SX W w0 ev e b [x0, x1, x2, x3, x4] r rs u) (y0 y1 y2 y3 y4 : Value) : SX W w0 ev e b [y0, y1, y2, y3, y4] r rs (set5 u b y0 y1 y2 y3 y4) :=
  ((((h.setB 0 y0 (cs' := [y0, x1, x2, x3, x4]) rfl).setB 1 y1 (cs' := [y0, y1, x2, x3, x4]) rfl).setB 2 y2 (cs' := [y0, y1, y2, x3, x4]) rfl).setB 3 y3 (cs' := [y0, y1, y2, y3, x4]) rfl).setB 4 y4 (cs' := [y0, y1, y2, y3, y4]) rfl
theorem SX.cellB {x0 x1 x2 x3 x4 : Value} (h : SX W w0 ev e b [x0, x1, x2, x3, x4] r rs u) : u.cell? ⟨b, 0, none⟩ = some x0 ∧ u.cell? ⟨b, 1, none⟩ = some x1 ∧ u.cell? ⟨b, 2, none⟩ = some x2 ∧ u.cell? ⟨b, 3, none⟩ = some x3 ∧ u.cell? ⟨b, 4, none⟩ = some x4 :=
  ⟨cell_of_lit h.blk 0, cell_of_lit h.blk 1, cell_of_lit h.blk 2, cell_of_lit h.blk 3, cell_of_lit h.blk 4⟩
theorem SX.cellR {x0 x1 x2 x3 x4 : Value} (h : SX W w0 ev e b cs r [x0, x1, x2, x3, x4] u) : u.cell? ⟨r, 0, none⟩ = some x0 ∧ u.cell? ⟨r, 1, none⟩ = some x1 ∧ u.cell? ⟨r, 2, none⟩ = some x2 ∧ u.cell? ⟨r, 3, none⟩ = some x3 ∧ u.cell? ⟨r, 4, none⟩ = some x4 :=
  ⟨cell_of_lit h.res 0, cell_of_lit h.res 1, cell_of_lit h.res 2, cell_of_lit h.res 3, cell_of_lit h.res 4⟩
theorem sx_start {w : World} (h : Grows Tm.cells 5 TE W W.heap.size ev e w) (c0 c1 c2 c3 c4 r0 r1 r2 r3 r4 : Value) : SX W w ev e w.heap.size [c0, c1, c2, c3, c4] (w.heap.size + 1) [r0, r1, r2, r3, r4] ((w.alloc (.cells #[c0, c1, c2, c3, c4] TQ)).alloc (.cells #[r0, r1, r2, r3, r4] TQ)) := by
  have m1 : Made w (w.alloc (.cells #[c0, c1, c2, c3, c4] TQ)) := (Made.refl w).alloc (Nat.le_refl _) _
  have m2 := m1.alloc m1.size (.cells #[r0, r1, r2, r3, r4] TQ)
  have hz := h.made.size
  refine ⟨h.next m2, kept_made m2, ?_, heap_at (by simp), hz, Nat.le_refl _, by omega, by omega⟩
  exact (heap_alloc_old _ _ (by simp)).trans (heap_alloc_new w _)
theorem kept_grown {n : Nat} {xs : List Value} (h : u.ownsRow W.heap.size TE 5 ev n xs) (gr : u.grownBy u1 ev.ownBlock) : Kept u u1 :=
  ⟨gr.size, fun g _ _ _ hg hT => (gr.block g (heap_lt hg) fun e => q_far h hg (Ne.symm hT) g e.symm rfl).trans hg⟩
end
section
attribute [local irreducible] World.cell?
set_option maxRecDepth 100000 in
set_option maxHeartbeats 4000000 in
theorem see_any (W : World) (lo : Option Addr) (c : Nat) (L : List Tk) (hT : Toks W lo c L) (k : Nat) (d bad : Int) (eo : Option Addr) (en ec : Nat) :
    Makes Tryz.prog W 213 #[SV lo L.length c k d bad eo en ec] (.string (strOf (seeS L k bad))) := by
  intro w hm
  have HM := Lib.hid (show SAt W w.heap.size (SC lo L.length c k d bad eo en ec) (w.alloc (.cells #[.slice lo L.length c, .int .i64 k, .int .i64 d, .int .i64 bad, .slice eo en ec] 216)) from ⟨hm.alloc hm.size _, heap_alloc_new w _⟩)
  have HT := Lib.hid hT
  clear hT hm
  unfold seeS
  by_cases hb : bad = 0
  · rewrite [if_pos hb]
    have hg : (bad == 0) = true := beq_iff_eq.2 hb
    have HB := Lib.hid hb
    clear hb
    by_cases hkl : k < L.length
    · rewrite [List.getElem?_eq_getElem hkl]
      obtain ⟨t, ht⟩ : ∃ t, L[k] = t := ⟨_, rfl⟩
      have hx := fun u hu => toks_cells (toks_made HT.out (w' := u) hu) hkl t ht
      have HX := Lib.hid hx
      rewrite [ht]
      simp only []
      have hki : (k : Int) < (L.length : Int) := by omega
      clear ht hx
      obtain ⟨tk, tt, tv, tl, tc⟩ := t
      simp only []
      by_cases h3 : tk = 3
      · rewrite [if_pos h3]
        have g3 : (tk == 3) = true := beq_iff_eq.2 h3
        clear h3
        go_enter Tryz.func213, Tryz.ntmps213
        go_upto_region 1 with (fail)
        refine world_named (fun u => SAt W w.heap.size (SC lo L.length c k d bad eo en ec) u) HM.out ?_
        intro u hu
        have K := Lib.hid hu.made
        obtain ⟨a0, a1, a2, a3, a4⟩ := s_cells hu
        obtain ⟨tb, o, rfl, e0, e1, e2, e3, e4⟩ := HX.out u hu.made
        clear hu HM HT HX
        go_wp2
        go_ret
        exact ⟨rfl, K.out⟩
      · rewrite [if_neg h3]
        have g3 : (tk == 3) = false := beq_eq_false_iff_ne.2 h3
        clear h3
        go_enter Tryz.func213, Tryz.ntmps213
        go_upto_region 1 with (fail)
        refine world_named (fun u => SAt W w.heap.size (SC lo L.length c k d bad eo en ec) u) HM.out ?_
        intro u hu
        have K := Lib.hid hu.made
        obtain ⟨a0, a1, a2, a3, a4⟩ := s_cells hu
        obtain ⟨tb, o, rfl, e0, e1, e2, e3, e4⟩ := HX.out u hu.made
        clear hu HM HT HX
        go_wp2
        go_ret
        exact ⟨rfl, K.out⟩
    · rewrite [List.getElem?_eq_none (by omega)]
      have hki : (L.length : Int) ≤ (k : Int) := by omega
      go_enter Tryz.func213, Tryz.ntmps213
      go_upto_region 1 with (fail)
      refine world_named (fun u => SAt W w.heap.size (SC lo L.length c k d bad eo en ec) u) HM.out ?_
      intro u hu
      have K := Lib.hid hu.made
      obtain ⟨a0, a1, a2, a3, a4⟩ := s_cells hu
      clear hu HM HT
      go_wp2
      go_ret
      exact ⟨rfl, K.out⟩
  · rewrite [if_neg hb]
    have hg : (bad == 0) = false := beq_eq_false_iff_ne.2 hb
    clear hb
    go_enter Tryz.func213, Tryz.ntmps213
    go_upto_region 1 with (fail)
    refine world_named (fun u => SAt W w.heap.size (SC lo L.length c k d bad eo en ec) u) HM.out ?_
    intro u hu
    have K := Lib.hid hu.made
    obtain ⟨a0, a1, a2, a3, a4⟩ := s_cells hu
    clear hu HM HT
    go_wp2
    go_ret
    exact ⟨rfl, K.out⟩
set_option maxRecDepth 100000 in
set_option maxHeartbeats 4000000 in
theorem wrong_any (W : World) (lo : Option Addr) (n c : Nat) (k d bad : Int) (eo : Option Addr) (en ec : Nat) (why : Int) :
    Makes Tryz.prog W 231 #[SV lo n c k d bad eo en ec, .int .i64 why] (.tuple #[SV lo n c k d (if bad = 0 then why else bad) eo en ec, .int .i64 0]) := by
  intro w hm
  have HX := Lib.hid (sx_start (W := W) (ev := .slice none 0 0) (e := []) (grows_nil hm (Nat.le_refl _)) (.slice lo n c) (.int .i64 k) (.int .i64 d) (.int .i64 bad) (.slice eo en ec) (.slice none 0 0) (.int .i64 0) (.int .i64 0) (.int .i64 0) (.slice none 0 0))
  clear hm
  by_cases hb : bad = 0
  · rewrite [if_pos hb]
    have hg : (bad == 0) = true := beq_iff_eq.2 hb
    clear hb
    go_enter Tryz.func231, Tryz.ntmps231
    go_upto_region 1 with (fail)
    refine world_named (fun u => SX W w (.slice none 0 0) [] w.heap.size _ (w.heap.size + 1) _ u) HX.out ?_
    intro u hu
    have KU := Lib.hid (hu.setB 3 (.int .i64 why) (cs' := [.slice lo n c, .int .i64 k, .int .i64 d, .int .i64 why, .slice eo en ec]) rfl)
    obtain ⟨a0, a1, a2, a3, a4⟩ := hu.cellB
    have ft := free_of_lit hu.blk
    have lt := heap_lt hu.blk
    clear hu HX
    go_upto_region 3 with (fail)
    refine world_named (fun u => SX W w (.slice none 0 0) [] w.heap.size _ (w.heap.size + 1) _ u) KU.out ?_
    intro y hy
    have KY := Lib.hid (hy.allR (.slice lo n c) (.int .i64 k) (.int .i64 d) (.int .i64 why) (.slice eo en ec))
    obtain ⟨a0, a1, a2, a3, a4⟩ := hy.cellB
    obtain ⟨b0, b1, b2, b3, b4⟩ := hy.cellR
    have ft := free_of_lit hy.res
    have lt := heap_lt hy.res
    clear hy KU
    go_wp2
    refine post_named (fun u => SX W w (.slice none 0 0) [] w.heap.size _ (w.heap.size + 1) _ u) KY.out ?_
    intro z hz
    obtain ⟨q0, q1, q2, q3, q4⟩ := hz.cellR
    have HM := Lib.hid hz.made
    clear hz KY
    refine bodyPost_ret (v := .tuple #[SV lo n c k d why eo en ec, .int .i64 0]) (by simp [results, Tryz.results231, go_sem, q0, q1, q2, q3, q4]) rfl ?_
    exact ⟨rfl, HM.out⟩
  · rewrite [if_neg hb]
    have hg : (bad == 0) = false := beq_eq_false_iff_ne.2 hb
    clear hb
    go_enter Tryz.func231, Tryz.ntmps231
    go_upto_region 1 with (fail)
    refine world_named (fun u => SX W w (.slice none 0 0) [] w.heap.size _ (w.heap.size + 1) _ u) HX.out ?_
    intro y hy
    have KY := Lib.hid (hy.allR (.slice lo n c) (.int .i64 k) (.int .i64 d) (.int .i64 bad) (.slice eo en ec))
    obtain ⟨a0, a1, a2, a3, a4⟩ := hy.cellB
    obtain ⟨b0, b1, b2, b3, b4⟩ := hy.cellR
    have ft := free_of_lit hy.res
    have lt := heap_lt hy.res
    clear hy HX
    go_wp2
    refine post_named (fun u => SX W w (.slice none 0 0) [] w.heap.size _ (w.heap.size + 1) _ u) KY.out ?_
    intro z hz
    obtain ⟨q0, q1, q2, q3, q4⟩ := hz.cellR
    have HM := Lib.hid hz.made
    clear hz KY
    refine bodyPost_ret (v := .tuple #[SV lo n c k d bad eo en ec, .int .i64 0]) (by simp [results, Tryz.results231, go_sem, q0, q1, q2, q3, q4]) rfl ?_
    exact ⟨rfl, HM.out⟩
theorem te_row : (Tryz.prog.info? TE).map (fun i => (i.zero, i.size, i.bytes)) = some (some (Tm.val ⟨0, 0, [], 0, 0⟩), 5, 48) := by kernel_rfl
theorem tm_olds (w : World) (t : Tm) : ∀ ad, (some ⟨w.heap.size, 0, none⟩ : Option Addr) = some ad → ∀ j u, ([t].flatMap Tm.cells)[j]? = some u → (w.alloc (.cells ([t].flatMap Tm.cells).toArray TE)).cell? (ad.add j) = some u :=
  recs_olds tm_len (by decide) (recs_lit (l := [t]) (n := 1) tm_len (heap_alloc_new w _) rfl (by omega))
theorem SX.more {W w0 u u1 : World} {ev ev1 : Value} {e : List Tm} {b r : Nat} {cs rs : List Value} {t : Tm} {n : Nat} (h : SX W w0 ev e b cs r rs u) (hn : e.length + [t].length = n) (own : u1.ownsRow W.heap.size TE 5 ev1 n (e.flatMap Tm.cells ++ [t].flatMap Tm.cells)) (gr : u.grownBy u1 ev.ownBlock) : SX W w0 ev1 (e ++ [t]) b cs r rs u1 :=
  h.call (kept_grown h.row.row gr) (h.row.more hn own gr)
/-- A term more. -/
def AddQ (W w : World) (lo : Option Addr) (n c : Nat) (k d : Int) (e : List Tm) (t : Tm) (x : Ending) (w' : World) : Prop :=
  ∃ eo ec, x = .returned (.tuple #[SV lo n c k d 0 eo (e.length + 1) ec, .int .i64 e.length]) ∧ Grows Tm.cells 5 TE W W.heap.size (.slice eo (e.length + 1) ec) (e ++ [t]) w' ∧ Kept w w'
set_option maxRecDepth 100000 in
set_option maxHeartbeats 4000000 in
theorem add_ok (W : World) (lo : Option Addr) (n c : Nat) (k d : Int) (eo : Option Addr) (ec : Nat) (e : List Tm) (he : e.length ≤ 100000) (t : Tm) (w : World) (hG : Grows Tm.cells 5 TE W W.heap.size (.slice eo e.length ec) e w) :
    Calls Tryz.prog 214 #[SV lo n c k d 0 eo e.length ec, t.val] w (AddQ W w lo n c k d e t) := by
  obtain ⟨tk, tv, tn, ta, tb⟩ := t
  have hm := hG.made
  have m1 : Made w (w.alloc (.cells #[.slice lo n c, .int .i64 k, .int .i64 d, .int .i64 0, .slice eo e.length ec] TQ)) := (Made.refl w).alloc (Nat.le_refl _) _
  have m2 := m1.alloc m1.size (.cells #[.int .u8 tk, .int .i64 tv, .string (strOf tn), .int .i64 ta, .int .i64 tb] TE)
  have m3 := m2.alloc m2.size (.cells #[.slice none 0 0, .int .i64 0, .int .i64 0, .int .i64 0, .slice none 0 0] TQ)
  have HX := Lib.hid (show SX W w (.slice eo e.length ec) e w.heap.size [.slice lo n c, .int .i64 k, .int .i64 d, .int .i64 0, .slice eo e.length ec] (w.heap.size + 1 + 1) [.slice none 0 0, .int .i64 0, .int .i64 0, .int .i64 0, .slice none 0 0] (((w.alloc (.cells #[.slice lo n c, .int .i64 k, .int .i64 d, .int .i64 0, .slice eo e.length ec] TQ)).alloc (.cells #[.int .u8 tk, .int .i64 tv, .string (strOf tn), .int .i64 ta, .int .i64 tb] TE)).alloc (.cells #[.slice none 0 0, .int .i64 0, .int .i64 0, .int .i64 0, .slice none 0 0] TQ))
    ∧ ((((w.alloc (.cells #[.slice lo n c, .int .i64 k, .int .i64 d, .int .i64 0, .slice eo e.length ec] TQ)).alloc (.cells #[.int .u8 tk, .int .i64 tv, .string (strOf tn), .int .i64 ta, .int .i64 tb] TE)).alloc (.cells #[.slice none 0 0, .int .i64 0, .int .i64 0, .int .i64 0, .slice none 0 0] TQ)).heap[w.heap.size + 1]? = some (.cells (Tm.cells ⟨tk, tv, tn, ta, tb⟩).toArray TE (0, 0))) from by
      have hz := hm.size
      refine ⟨⟨hG.next m3, kept_made m3, ?_, heap_at (by simp), hz, Nat.le_refl _, by omega, by omega⟩, ?_⟩
      · exact (heap_alloc_old _ _ (by simp; omega)).trans ((heap_alloc_old _ _ (by simp)).trans (heap_alloc_new w _))
      · exact (heap_alloc_old _ _ (by simp)).trans (heap_at (by simp)))
  have HI := Lib.hid (info_parts te_row)
  have hmx : e.length + 1 ≤ maxLen := by unfold maxLen; omega
  have hby : (e.length + 1) * 48 ≤ 140737488355328 := by omega
  have HZ := Lib.hid hm.size
  clear hG hm m1 m2 m3
  go_enter Tryz.func214, Tryz.ntmps214
  go_upto_region 1 with (fail)
  refine world_named (fun u => SX W w (.slice eo e.length ec) e w.heap.size _ (w.heap.size + 1 + 1) _ u ∧ u.heap[w.heap.size + 1]? = some (.cells (Tm.cells ⟨tk, tv, tn, ta, tb⟩).toArray TE (0, 0))) HX.out ?_
  intro u hu
  obtain ⟨a0, a1, a2, a3, a4⟩ := hu.1.cellB
  have t0 : u.cell? ⟨w.heap.size + 1, 0, none⟩ = some (.int .u8 tk) := cell_of_lit hu.2 0
  have t1 : u.cell? ⟨w.heap.size + 1, 1, none⟩ = some (.int .i64 tv) := cell_of_lit hu.2 1
  have t2 : u.cell? ⟨w.heap.size + 1, 2, none⟩ = some (.string (strOf tn)) := cell_of_lit hu.2 2
  have t3 : u.cell? ⟨w.heap.size + 1, 3, none⟩ = some (.int .i64 ta) := cell_of_lit hu.2 3
  have t4 : u.cell? ⟨w.heap.size + 1, 4, none⟩ = some (.int .i64 tb) := cell_of_lit hu.2 4
  have KA := Lib.hid (hu.1.next ((Made.refl u).alloc (Nat.le_refl _) (.cells ([(⟨tk, tv, tn, ta, tb⟩ : Tm)].flatMap Tm.cells).toArray TE)))
  have HOL := Lib.hid (tm_olds u ⟨tk, tv, tn, ta, tb⟩)
  have hsz := Lib.hid KA.out.made.size
  clear hu HX
  obtain ⟨i0, hi0, hz0, hz1, hz2⟩ := HI.out
  go_upto_region 4 with (at_builtin; refine wpList_append_each rfl (.tmp 11) (.tmp 13) 27 rfl W.heap.size TE i0 (Tm.val ⟨0, 0, [], 0, 0⟩) 5 48 Tryz.underlying27 hi0 hz0 hz1 hz2 rfl (by decide) (.slice eo e.length ec) e.length (e.flatMap Tm.cells) rfl KA.out.row.row (some ⟨u.heap.size, 0, none⟩) 1 1 ([(⟨tk, tv, tn, ta, tb⟩ : Tm)].flatMap Tm.cells) rfl (fun h => by simp at h) rfl HOL.out (tm_one _) hmx hby hsz.out ?_; intro v7 w9 own1 gr1; have KG := Lib.hid (KA.out.more rfl own1 gr1); obtain ⟨so, cp, hv, -⟩ := KG.out.row.recs tm_len (by decide); obtain rfl : v7 = .slice so (e.length + 1) cp := (by rw [hv, List.length_append, List.length_singleton]); clear own1 gr1 hv; obtain ⟨b0, b1, b2, b3, b4⟩ := KG.out.cellB; have ft := free_of_lit KG.out.blk; have lt := heap_lt KG.out.blk)
  refine world_named (fun u => SX W w (.slice so (e.length + 1) cp) (e ++ [⟨tk, tv, tn, ta, tb⟩]) w.heap.size [.slice lo n c, .int .i64 k, .int .i64 d, .int .i64 0, .slice so (e.length + 1) cp] (w.heap.size + 1 + 1) _ u) (KG.out.setB 4 (.slice so (e.length + 1) cp) rfl) ?_
  intro y hy
  have KY := Lib.hid ((hy.allR (.slice lo n c) (.int .i64 k) (.int .i64 d) (.int .i64 0) (.slice so (e.length + 1) cp)).next (made_drew (Made.refl _)))
  obtain ⟨b0, b1, b2, b3, b4⟩ := hy.cellB
  obtain ⟨r0, r1, r2, r3, r4⟩ := hy.cellR
  have ft := free_of_lit hy.res
  have lt := heap_lt hy.res
  clear hy KG KA a0 a1 a2 a3 a4 t0 t1 t2 t3 t4 HOL hsz
  go_region
  go_wp2
  refine post_named (fun u => SX W w (.slice so (e.length + 1) cp) (e ++ [⟨tk, tv, tn, ta, tb⟩]) w.heap.size _ (w.heap.size + 1 + 1) _ u) KY.out ?_
  intro z hz
  obtain ⟨q0, q1, q2, q3, q4⟩ := hz.cellR
  have HG := Lib.hid hz.row
  have HKP := Lib.hid hz.kept
  clear hz KY
  refine bodyPost_ret (v := .tuple #[SV lo n c k d 0 so (e.length + 1) cp, .int .i64 e.length]) (by simp [results, Tryz.results214, go_sem, q0, q1, q2, q3, q4]) rfl ?_
  exact ⟨so, cp, rfl, HG.out, HKP.out⟩
set_option maxRecDepth 100000 in
set_option maxHeartbeats 4000000 in
theorem add_bad (W : World) (lo : Option Addr) (n c : Nat) (k d bad : Int) (hb : bad ≠ 0) (eo : Option Addr) (en ec : Nat) (t : Tm) :
    Makes Tryz.prog W 214 #[SV lo n c k d bad eo en ec, t.val] (.tuple #[SV lo n c k d bad eo en ec, .int .i64 0]) := by
  intro w hm
  obtain ⟨tk, tv, tn, ta, tb⟩ := t
  have hg : (bad != 0) = true := bne_iff_ne.2 hb
  have m1 := hm.alloc hm.size (.cells #[.slice lo n c, .int .i64 k, .int .i64 d, .int .i64 bad, .slice eo en ec] TQ)
  have m2 := m1.alloc m1.size (.cells #[.int .u8 tk, .int .i64 tv, .string (strOf tn), .int .i64 ta, .int .i64 tb] TE)
  have m3 := m2.alloc m2.size (.cells #[.slice none 0 0, .int .i64 0, .int .i64 0, .int .i64 0, .slice none 0 0] TQ)
  have m1' : Made w (w.alloc (.cells #[.slice lo n c, .int .i64 k, .int .i64 d, .int .i64 bad, .slice eo en ec] TQ)) := (Made.refl w).alloc (Nat.le_refl _) _
  have m2' := m1'.alloc m1'.size (.cells #[.int .u8 tk, .int .i64 tv, .string (strOf tn), .int .i64 ta, .int .i64 tb] TE)
  have m3' := m2'.alloc m2'.size (.cells #[.slice none 0 0, .int .i64 0, .int .i64 0, .int .i64 0, .slice none 0 0] TQ)
  have HX := Lib.hid (show SX W w (.slice none 0 0) [] w.heap.size [.slice lo n c, .int .i64 k, .int .i64 d, .int .i64 bad, .slice eo en ec] (w.heap.size + 1 + 1) [.slice none 0 0, .int .i64 0, .int .i64 0, .int .i64 0, .slice none 0 0] (((w.alloc (.cells #[.slice lo n c, .int .i64 k, .int .i64 d, .int .i64 bad, .slice eo en ec] TQ)).alloc (.cells #[.int .u8 tk, .int .i64 tv, .string (strOf tn), .int .i64 ta, .int .i64 tb] TE)).alloc (.cells #[.slice none 0 0, .int .i64 0, .int .i64 0, .int .i64 0, .slice none 0 0] TQ)) from by
      have hz := hm.size
      refine ⟨grows_nil m3 (Nat.le_refl _), kept_made m3', ?_, heap_at (by simp), hz, Nat.le_refl _, by omega, by omega⟩
      exact (heap_alloc_old _ _ (by simp; omega)).trans ((heap_alloc_old _ _ (by simp)).trans (heap_alloc_new w _)))
  clear hm m1 m2 m3 m1' m2' m3' hb
  go_enter Tryz.func214, Tryz.ntmps214
  go_upto_region 1 with (fail)
  refine world_named (fun u => SX W w (.slice none 0 0) [] w.heap.size _ (w.heap.size + 1 + 1) _ u) HX.out ?_
  intro y hy
  have KY := Lib.hid (hy.allR (.slice lo n c) (.int .i64 k) (.int .i64 d) (.int .i64 bad) (.slice eo en ec))
  obtain ⟨a0, a1, a2, a3, a4⟩ := hy.cellB
  obtain ⟨b0, b1, b2, b3, b4⟩ := hy.cellR
  have ft := free_of_lit hy.res
  have lt := heap_lt hy.res
  clear hy HX
  go_wp2
  refine post_named (fun u => SX W w (.slice none 0 0) [] w.heap.size _ (w.heap.size + 1 + 1) _ u) KY.out ?_
  intro z hz
  obtain ⟨q0, q1, q2, q3, q4⟩ := hz.cellR
  have HM := Lib.hid hz.made
  clear hz KY
  refine bodyPost_ret (v := .tuple #[SV lo n c k d bad eo en ec, .int .i64 0]) (by simp [results, Tryz.results214, go_sem, q0, q1, q2, q3, q4]) rfl ?_
  exact ⟨rfl, HM.out⟩
end
end Go.Proofs.YtnfmlmamgkpocaaGreatDoor
