/- The table of small instructions in memory; what rowOfOp and rowOfCode of package sub return, in every world that has grown out of one that holds the table. -/
import Derived.Test.YtckekkedjlkljaaDoorSubMath
import Derived.Test.YtckekkedjlkljaaDoorBitsFns
import Derived.Test.YtckekkedjlkljaaDoorTail
import Derived.Deep.CutRange
namespace Go.Proofs.YtckekkedjlkljaaDoor
open Go.ChangeShapes Go.WideShapes Go.ChangeAt Go.RowKit Go.Sort BigFrame

def SRow.cells (r : SRow) : List Value := [.int .u8 r.code, .int .u8 r.op, .int .u8 r.m1, .int .u8 r.m2, .int .i64 r.n, .int .i64 r.scale, .bool r.sg]
abbrev SRow.val (r : SRow) : Value := .agg #[.int .u8 r.code, .int .u8 r.op, .int .u8 r.m1, .int .u8 r.m2, .int .i64 r.n, .int .i64 r.scale, .bool r.sg]
def srowsV : List Value := srows.flatMap SRow.cells
def SRows (W : World) : Prop := ∃ T fr, W.heap[0]? = some (.cells srowsV.toArray T fr)
theorem SRows.made {W w : World} (h : SRows W) (hm : Made W w) : SRows w := let ⟨T, fr, h⟩ := h; ⟨T, fr, hm.heap h⟩
abbrev SRowAt (w : World) (b : Nat) (r : SRow) : Prop := w.heap[b]? = some (.cells r.cells.toArray 54 (0, 0))
theorem srow_cells {w : World} {b : Nat} {r : SRow} (h : SRowAt w b r) :
    w.cell? ⟨b, 0, none⟩ = some (.int .u8 r.code) ∧ w.cell? ⟨b, 1, none⟩ = some (.int .u8 r.op) ∧ w.cell? ⟨b, 2, none⟩ = some (.int .u8 r.m1) ∧ w.cell? ⟨b, 3, none⟩ = some (.int .u8 r.m2) ∧
    w.cell? ⟨b, 4, none⟩ = some (.int .i64 r.n) ∧ w.cell? ⟨b, 5, none⟩ = some (.int .i64 r.scale) ∧ w.cell? ⟨b, 6, none⟩ = some (.bool r.sg) :=
  ⟨cell_of_lit h 0, cell_of_lit h 1, cell_of_lit h 2, cell_of_lit h 3, cell_of_lit h 4, cell_of_lit h 5, cell_of_lit h 6⟩
abbrev set7 (w : World) (b : Nat) (v0 v1 v2 v3 v4 v5 v6 : Value) : World :=
  ((((((w.setCell ⟨b, 0, none⟩ v0).setCell ⟨b, 1, none⟩ v1).setCell ⟨b, 2, none⟩ v2).setCell ⟨b, 3, none⟩ v3).setCell ⟨b, 4, none⟩ v4).setCell ⟨b, 5, none⟩ v5).setCell ⟨b, 6, none⟩ v6
theorem made_set7 {W w : World} {b : Nat} (h : Made W w) (hb : W.heap.size ≤ b) (v0 v1 v2 v3 v4 v5 v6 : Value) : Made W (set7 w b v0 v1 v2 v3 v4 v5 v6) :=
  ((((((h.setCell hb v0).setCell hb v1).setCell hb v2).setCell hb v3).setCell hb v4).setCell hb v5).setCell hb v6
theorem srow_index (k : Nat) (hk : k < srows.length) : ∀ w, (Instr.index 69 (.agg srowsV.toArray) (.int .i64 (k : Int))).run Tryd.prog w = .ok (srows[k]'hk).val w := by
  have hk' : k < 9 := hk
  have hc : k = 0 ∨ k = 1 ∨ k = 2 ∨ k = 3 ∨ k = 4 ∨ k = 5 ∨ k = 6 ∨ k = 7 ∨ k = 8 := by omega
  rcases hc with rfl | rfl | rfl | rfl | rfl | rfl | rfl | rfl | rfl <;> exact fun _ => by kernel_rfl
theorem byOp_drop (op : Int) (k : Nat) (hk : k < srows.length) : byOp op (srows.drop k) = if (srows[k]'hk).op = op then (srows[k]'hk, true) else byOp op (srows.drop (k + 1)) := by
  rw [List.drop_eq_getElem_cons hk]; rfl
theorem byCode_drop (c : Int) (k : Nat) (hk : k < srows.length) : byCode c (srows.drop k) = if (srows[k]'hk).code = c then (srows[k]'hk, true) else byCode c (srows.drop (k + 1)) := by
  rw [List.drop_eq_getElem_cons hk]; rfl
/-- What the numbers of a row are. -/
structure SRow.ok (r : SRow) : Prop where
  code : 0 ≤ r.code ∧ r.code < 32
  op : 0 ≤ r.op ∧ r.op < 256
  m1 : 0 ≤ r.m1 ∧ r.m1 ≤ 4
  m2 : 0 ≤ r.m2 ∧ r.m2 ≤ 4
  n : 0 ≤ r.n ∧ r.n ≤ 7
  scale : r.scale = 0 ∨ r.scale = 2
theorem srows_ok : ∀ r ∈ srows, r.ok := by
  intro r hr
  simp only [srows, List.mem_cons, List.not_mem_nil, or_false] at hr
  rcases hr with rfl | rfl | rfl | rfl | rfl | rfl | rfl | rfl | rfl <;> exact ⟨by decide, by decide, by decide, by decide, by decide, by decide⟩
theorem sNone_ok : sNone.ok := ⟨by decide, by decide, by decide, by decide, by decide, by decide⟩
theorem byOp_ok (op : Int) : ∀ l : List SRow, (∀ r ∈ l, r.ok) → (byOp op l).1.ok
  | [], _ => sNone_ok
  | r :: l, h => by
    unfold byOp
    split
    · exact h r (by simp)
    · exact byOp_ok op l fun q hq => h q (by simp [hq])
theorem byCode_ok (c : Int) : ∀ l : List SRow, (∀ r ∈ l, r.ok) → (byCode c l).1.ok
  | [], _ => sNone_ok
  | r :: l, h => by
    unfold byCode
    split
    · exact h r (by simp)
    · exact byCode_ok c l fun q hq => h q (by simp [hq])
/-- What the loops keep. -/
structure Seeks (W : World) (b : Nat) (wr : World) : Prop where
  made : Made W wr
  res : SRowAt wr b sNone
theorem Seeks.more {W wr : World} {b : Nat} (h : Seeks W b wr) (o : Obj) : Seeks W b (wr.alloc o) := by
  have hm := (Made.refl wr).alloc (Nat.le_refl _) o
  exact ⟨Made.trans h.made hm, Made.heap hm h.res⟩
section
attribute [local irreducible] World.cell?
set_option maxHeartbeats 1000000 in
theorem rowOfOp_any (W : World) (hR : SRows W) (op : Int) : Makes Tryd.prog W 26 #[.int .u8 op] (.tuple #[(byOp op srows).1.val, .bool (byOp op srows).2]) := by
  intro w hm
  obtain ⟨T, fr, hb⟩ := hR.made hm
  have hz := hm.size
  obtain ⟨R, hRR⟩ : ∃ r, r = byOp op srows := ⟨_, rfl⟩
  rewrite [← hRR]
  have HR := Lib.hid hRR
  have H0 := Lib.hid (show Seeks W w.heap.size (w.alloc (.cells sNone.cells.toArray 54)) from ⟨hm.alloc hz _, heap_alloc_new w _⟩)
  have hz1 : 0 < w.heap.size := heap_lt hb
  have hb1 : (w.alloc (.cells sNone.cells.toArray 54)).heap[0]? = _ := (Below.heap_alloc w _ _ hz1).trans hb
  clear hRR hm
  go_enter Tryd.func26, Tryd.ntmps26
  go_wp2_with (refine wpList_load_row rfl 69 _ rfl 0 rfl T _ fr _ hb1 Tryd.underlying69 rfl (by kernel_rfl) ?_)
  clear hb hb1
  go_loopw [7] (fun i wr => ∃ k : Nat, k ≤ srows.length ∧ i = .int .i64 k ∧ byOp op (srows.drop k) = R ∧ Seeks W w.heap.size wr) (fun i _ => 9 - (intOf i).toNat)
  case atStart => exact ⟨0, Nat.zero_le _, rfl, HR.out.symm, H0.out⟩
  case round =>
    obtain ⟨k, hk, rfl, hat, hs⟩ := hrel
    have HS := Lib.hid hs
    by_cases hlt : k < srows.length
    · have hx := srow_index k hlt
      have hd := byOp_drop op k hlt
      have hk9 : k < 9 := hlt
      rewrite [hat] at hd
      generalize srows[k]'hlt = r at *
      have HD := Lib.hid hd
      clear hd hat hs hk
      by_cases ho : r.op = op
      · have e1 : R = (r, true) := by rw [HD.out, if_pos ho]
        have E1 := Lib.hid e1
        have hq : (r.op == op) = true := beq_iff_eq.2 ho
        clear e1 ho
        obtain rfl := E1.out
        obtain ⟨q0, q1, q2, q3, q4, q5, q6⟩ := srow_cells HS.out.res
        have fq := free_of_lit HS.out.res
        have hlq := heap_lt HS.out.res
        go_wp2
        refine bodyPost_ret (v := .tuple #[r.val, .bool true]) (by simp [results, Tryd.results26, go_sem, q0, q1, q2, q3, q4, q5, q6, sNone, hlq]) rfl ?_
        exact ⟨rfl, (made_set7 HS.out.made hz _ _ _ _ _ _ _).alloc (made_set7 HS.out.made hz _ _ _ _ _ _ _).size _⟩
      · have e1 : byOp op (srows.drop (k + 1)) = R := by rw [HD.out, if_neg ho]
        have E1 := Lib.hid e1
        have hq : (r.op == op) = false := beq_eq_false_iff_ne.2 ho
        clear e1 ho
        go_wp2
        go_roundw
        case rel => exact ⟨k + 1, hlt, by go_num, E1.out, HS.out.more _⟩
        case measure => simp [intOf]; omega
    · have hk9 : srows.length = k := by omega
      subst hk9
      rewrite [List.drop_length] at hat
      have e1 : R = (sNone, false) := hat.symm
      have E1 := Lib.hid e1
      obtain ⟨q0, q1, q2, q3, q4, q5, q6⟩ := srow_cells HS.out.res
      have fq := free_of_lit HS.out.res
      have hlq := heap_lt HS.out.res
      have MZ := Lib.hid HS.out.made
      have hl9 : srows.length = 9 := rfl
      clear hat e1 hs hk hlt
      obtain rfl := E1.out
      go_wp2
      refine bodyPost_ret (v := .tuple #[sNone.val, .bool false]) (by simp [results, Tryd.results26, go_sem, q0, q1, q2, q3, q4, q5, q6, sNone]) rfl ?_
      exact ⟨rfl, made_set7 MZ.out hz _ _ _ _ _ _ _⟩
set_option maxHeartbeats 1000000 in
theorem rowOfCode_any (W : World) (hR : SRows W) (op : Int) : Makes Tryd.prog W 34 #[.int .u32 op] (.tuple #[(byCode op srows).1.val, .bool (byCode op srows).2]) := by
  intro w hm
  obtain ⟨T, fr, hb⟩ := hR.made hm
  have hz := hm.size
  obtain ⟨R, hRR⟩ : ∃ r, r = byCode op srows := ⟨_, rfl⟩
  rewrite [← hRR]
  have HR := Lib.hid hRR
  have H0 := Lib.hid (show Seeks W w.heap.size (w.alloc (.cells sNone.cells.toArray 54)) from ⟨hm.alloc hz _, heap_alloc_new w _⟩)
  have hz1 : 0 < w.heap.size := heap_lt hb
  have hb1 : (w.alloc (.cells sNone.cells.toArray 54)).heap[0]? = _ := (Below.heap_alloc w _ _ hz1).trans hb
  clear hRR hm
  go_enter Tryd.func34, Tryd.ntmps34
  go_wp2_with (refine wpList_load_row rfl 69 _ rfl 0 rfl T _ fr _ hb1 Tryd.underlying69 rfl (by kernel_rfl) ?_)
  clear hb hb1
  go_loopw [7] (fun i wr => ∃ k : Nat, k ≤ srows.length ∧ i = .int .i64 k ∧ byCode op (srows.drop k) = R ∧ Seeks W w.heap.size wr) (fun i _ => 9 - (intOf i).toNat)
  case atStart => exact ⟨0, Nat.zero_le _, rfl, HR.out.symm, H0.out⟩
  case round =>
    obtain ⟨k, hk, rfl, hat, hs⟩ := hrel
    have HS := Lib.hid hs
    by_cases hlt : k < srows.length
    · have hx := srow_index k hlt
      have hd := byCode_drop op k hlt
      have hk9 : k < 9 := hlt
      rewrite [hat] at hd
      have hok := (srows_ok _ (List.getElem_mem hlt)).code
      generalize srows[k]'hlt = r at *
      obtain ⟨c0, c1⟩ := hok
      have HD := Lib.hid hd
      clear hd hat hs hk
      by_cases ho : r.code = op
      · have e1 : R = (r, true) := by rw [HD.out, if_pos ho]
        have E1 := Lib.hid e1
        have hq : (r.code == op) = true := beq_iff_eq.2 ho
        clear e1 ho
        obtain rfl := E1.out
        obtain ⟨q0, q1, q2, q3, q4, q5, q6⟩ := srow_cells HS.out.res
        have fq := free_of_lit HS.out.res
        have hlq := heap_lt HS.out.res
        go_wp2
        refine bodyPost_ret (v := .tuple #[r.val, .bool true]) (by simp [results, Tryd.results34, go_sem, q0, q1, q2, q3, q4, q5, q6, sNone, hlq]) rfl ?_
        exact ⟨rfl, (made_set7 HS.out.made hz _ _ _ _ _ _ _).alloc (made_set7 HS.out.made hz _ _ _ _ _ _ _).size _⟩
      · have e1 : byCode op (srows.drop (k + 1)) = R := by rw [HD.out, if_neg ho]
        have E1 := Lib.hid e1
        have hq : (r.code == op) = false := beq_eq_false_iff_ne.2 ho
        clear e1 ho
        go_wp2
        go_roundw
        case rel => exact ⟨k + 1, hlt, by go_num, E1.out, HS.out.more _⟩
        case measure => simp [intOf]; omega
    · have hk9 : srows.length = k := by omega
      subst hk9
      rewrite [List.drop_length] at hat
      have e1 : R = (sNone, false) := hat.symm
      have E1 := Lib.hid e1
      obtain ⟨q0, q1, q2, q3, q4, q5, q6⟩ := srow_cells HS.out.res
      have fq := free_of_lit HS.out.res
      have hlq := heap_lt HS.out.res
      have MZ := Lib.hid HS.out.made
      have hl9 : srows.length = 9 := rfl
      clear hat e1 hs hk hlt
      obtain rfl := E1.out
      go_wp2
      refine bodyPost_ret (v := .tuple #[sNone.val, .bool false]) (by simp [results, Tryd.results34, go_sem, q0, q1, q2, q3, q4, q5, q6, sNone]) rfl ?_
      exact ⟨rfl, made_set7 MZ.out hz _ _ _ _ _ _ _⟩
end
end Go.Proofs.YtckekkedjlkljaaDoor
