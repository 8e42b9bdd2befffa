/- What add and reject of package lex return; no condition but those named. -/
import Derived.Test.YtnfmlmamgkpocaaGreatDoorLexLx
import Derived.Test.YtnfmlmamgkpocaaGreatDoorGLexF
import Derived.Great.Walk
namespace Go.Proofs.YtnfmlmamgkpocaaGreatDoor
open Go.ChangeShapes Go.WideShapes Go.ChangeAt Go.RowKit Go.Sort BigFrame

/-- A token more. -/
def AddSays (W : World) (b : Nat) (S : ByteArray) (f t ln lb : Int) (v2 : Value) (l1 : List Tk) (l2 : List Wr) (k : Tk) (e : Ending) (w' : World) : Prop :=
  ∃ u1, e = .returned (.tuple #[]) ∧ LxP W b S f t ln lb u1 v2 u1 v2 (l1 ++ [k]) l2 w'
theorem tk_row : (Tryz.prog.info? TT).map (fun i => (i.zero, i.size, i.bytes)) = some (some (Tk.val ⟨0, [], 0, 0, 0⟩), 5, 48) := by kernel_rfl
theorem dg_row : (Tryz.prog.info? TD).map (fun i => (i.zero, i.size, i.bytes)) = some (some (Wr.val ⟨0, 0, 0⟩), 3, 24) := by kernel_rfl
section
attribute [local irreducible] World.cell?
variable {W : World} {b : Nat} {S : ByteArray} {v1 v2 : Value} {l1 : List Tk} {l2 : List Wr}
set_option maxRecDepth 100000 in
set_option maxHeartbeats 4000000 in
theorem add_any (f t ln lb : Int) (hf0 : 0 ≤ lb) (hf1 : lb ≤ f) (hf2 : f ≤ 100000) (hl1 : l1.length ≤ 100000) (X : ByteArray) (tx : List UInt8) (hX : IsStr X tx) (hx : X.size ≤ 100000) (ki va : Int) (w : World) (hw : LxP W b S f t ln lb v1 v2 v1 v2 l1 l2 w) :
    Calls Tryz.prog 112 #[lxPtr b, .int .u8 ki, .string X, .int .i64 va] w (AddSays W b S f t ln lb v2 l1 l2 ⟨ki, tx, va, ln, f - lb + 1⟩) := by
  obtain rfl := str_of hX
  have HC := Lib.hid (clone_any w (strOf tx) hx)
  have HL := Lib.hid (column_any f t ln lb hf0 hf1 hf2 w hw)
  have HW := Lib.hid hw
  obtain ⟨a0, a1, a2, a3, a4, a5, a6⟩ := lx_cells hw
  have HI := Lib.hid (info_parts tk_row)
  have hmx : l1.length + 1 ≤ maxLen := by unfold maxLen; omega
  have hby : (l1.length + 1) * 48 ≤ 140737488355328 := by omega
  clear hw hX hx
  go_enter Tryz.func112, Tryz.ntmps112
  go_wp2_with (fail)
  go_region_law (first
    | (obtain ⟨i0, hi0, hz0, hz1, hz2⟩ := HI.out
       refine step_append_each rfl (.tmp 12) (.tmp 24) 33 rfl W.heap.size TT i0 (Tk.val ⟨0, [], 0, 0, 0⟩) 5 48 Tryz.underlying33 hi0 hz0 hz1 hz2 rfl (by decide) v1 l1.length (l1.flatMap Tk.cells) (by simp [Act.eval]) K7.out.two.fst.row ⟨w6.heap.size, 0, none⟩ 1 1 ([(⟨ki, tx, va, ln, f - lb + 1⟩ : Tk)].flatMap Tk.cells) (by simp [Act.eval]) rfl (HOL.out _ rfl) (tk_one _) hmx hby hsz7.out ?_
       intro u1 w9 own1 gr1 _
       have KG := Lib.hid (K7.out.more1 rfl own1 gr1)
       obtain ⟨so, cp, hv, -⟩ := KG.out.two.fst.recs tk_len (by decide)
       obtain rfl : u1 = .slice so (l1.length + 1) cp := by rw [hv, List.length_append]; rfl
       clear hv
       have d5 := (lx_cells KG.out).2.2.2.2.2.1
       have ft := free_of_lit KG.out.blk
       have lt := heap_lt KG.out.blk
       clear own1 gr1 i0 hi0 hz0 hz1 hz2)
    | (go_simp
       go_at_call 154
       refine (HC.out _ (by first | exact made_drew (Made.refl _) | exact Made.refl _)).mono ?_
       rintro e w5 ⟨rfl, hm5⟩
       have M5 := Lib.hid hm5
       obtain ⟨b0, b1, b2, b3, b4, b5, b6⟩ := lx_cells (HW.out.next hm5)
       clear hm5)
    | (go_simp
       go_at_call 155
       refine (HL.out _ (by first | exact M5.out | exact made_drew M5.out)).mono ?_
       rintro e w6 ⟨rfl, hm6⟩
       have K6 := Lib.hid (HW.out.next hm6)
       obtain ⟨e0, e1, e2, e3, e4, e5, e6⟩ := lx_cells K6.out
       have K7 := Lib.hid (K6.out.next ((Made.refl w6).alloc (Nat.le_refl _) (.cells #[.int .u8 ki, .string (strOf tx), .int .i64 va, .int .i64 ln, .int .i64 (f - lb + 1)] 46)))
       obtain ⟨q0, q1, q2, q3, q4, q5, q6⟩ := lx_cells K7.out
       have HOL := Lib.hid (tok_olds w6 TT ⟨ki, tx, va, ln, f - lb + 1⟩)
       have hsz7 := Lib.hid K7.out.made.size
       clear hm6))
  all_goals
    go_wp2
    refine bodyPost_ret (v := .tuple #[]) (by simp [results, Tryz.results112, go_sem]) rfl ?_
    exact ⟨.slice so (l1.length + 1) cp, rfl, KG.out.set 5 (.slice so (l1.length + 1) cp) (S' := S) (f' := f) (t' := t) (ln' := ln) (lb' := lb) (c1' := .slice so (l1.length + 1) cp) (c2' := v2) rfl⟩
/-- One thing more that is wrong, if there are not a hundred. -/
def RejSays (W : World) (b : Nat) (S : ByteArray) (f t ln lb : Int) (v1 : Value) (l1 : List Tk) (l2 : List Wr) (k : Wr) (e : Ending) (w' : World) : Prop :=
  ∃ u2, e = .returned (.tuple #[]) ∧ LxP W b S f t ln lb v1 u2 v1 u2 l1 ((l2 ++ [k]).take 100) w'
set_option maxRecDepth 100000 in
set_option maxHeartbeats 4000000 in
theorem reject_any (f t ln lb : Int) (hf0 : 0 ≤ lb) (hf1 : lb ≤ f) (hf2 : f ≤ 100000) (hl2 : l2.length ≤ 100) (er : Int) (w : World) (hw : LxP W b S f t ln lb v1 v2 v1 v2 l1 l2 w) :
    Calls Tryz.prog 115 #[lxPtr b, .int .i64 er] w (RejSays W b S f t ln lb v1 l1 l2 ⟨ln, f - lb + 1, er⟩) := by
  have HL := Lib.hid (column_any f t ln lb hf0 hf1 hf2 w hw)
  have HW := Lib.hid hw
  obtain ⟨sq, cq, rfl, -⟩ := hw.two.snd.recs wr_len (by decide)
  obtain ⟨a0, a1, a2, a3, a4, a5, a6⟩ := lx_cells hw
  clear hw
  by_cases h100 : l2.length < 100
  · have HT := Lib.hid (show (l2 ++ [(⟨ln, f - lb + 1, er⟩ : Wr)]).take 100 = l2 ++ [⟨ln, f - lb + 1, er⟩] from List.take_of_length_le (by rw [List.length_append]; simp; omega))
    have HI := Lib.hid (info_parts dg_row)
    have hmx : l2.length + 1 ≤ maxLen := by unfold maxLen; omega
    have hby : (l2.length + 1) * 24 ≤ 140737488355328 := by omega
    have hlt : (l2.length : Int) < 100 := by omega
    go_enter Tryz.func115, Tryz.ntmps115
    go_wp2_with (fail)
    go_region_law (first
      | (obtain ⟨i0, hi0, hz0, hz1, hz2⟩ := HI.out
         refine step_append_each rfl (.tmp 14) (.tmp 23) 57 rfl W.heap.size TD i0 (Wr.val ⟨0, 0, 0⟩) 3 24 Tryz.underlying57 hi0 hz0 hz1 hz2 rfl (by decide) (.slice sq l2.length cq) l2.length (l2.flatMap Wr.cells) (by simp [Act.eval]) K7.out.two.snd.row ⟨w6.heap.size, 0, none⟩ 1 1 ([(⟨ln, f - lb + 1, er⟩ : Wr)].flatMap Wr.cells) (by simp [Act.eval]) rfl (HOL.out _ rfl) (wr_one _) hmx hby hsz7.out ?_
         intro u2 w9 own1 gr1 _
         have KG := Lib.hid (K7.out.more2 rfl own1 gr1)
         obtain ⟨so, cp, hv, -⟩ := KG.out.two.snd.recs wr_len (by decide)
         obtain rfl : u2 = .slice so (l2.length + 1) cp := by rw [hv, List.length_append]; rfl
         clear hv
         have d5 := (lx_cells KG.out).2.2.2.2.2.2
         have ft := free_of_lit KG.out.blk
         have lt := heap_lt KG.out.blk
         clear own1 gr1 i0 hi0 hz0 hz1 hz2)
      | (go_simp
         go_at_call 155
         refine (HL.out _ (by first | exact made_drew (Made.refl _) | exact Made.refl _)).mono ?_
         rintro e w6 ⟨rfl, hm6⟩
         have K6 := Lib.hid (HW.out.next hm6)
         obtain ⟨e0, e1, e2, e3, e4, e5, e6⟩ := lx_cells K6.out
         have K7 := Lib.hid (K6.out.next ((Made.refl w6).alloc (Nat.le_refl _) (.cells #[.int .i64 ln, .int .i64 (f - lb + 1), .int .i64 er] 65)))
         obtain ⟨q0, q1, q2, q3, q4, q5, q6⟩ := lx_cells K7.out
         have HOL := Lib.hid (wr_olds w6 TD ⟨ln, f - lb + 1, er⟩)
         have hsz7 := Lib.hid K7.out.made.size
         clear hm6))
    all_goals
      go_wp2
      refine bodyPost_ret (v := .tuple #[]) (by simp [results, Tryz.results115, go_sem]) rfl ?_
      exact ⟨.slice so (l2.length + 1) cp, rfl, by rw [HT.out]; exact KG.out.set 6 (.slice so (l2.length + 1) cp) (S' := S) (f' := f) (t' := t) (ln' := ln) (lb' := lb) (c1' := v1) (c2' := .slice so (l2.length + 1) cp) rfl⟩
  · have HT := Lib.hid (show (l2 ++ [(⟨ln, f - lb + 1, er⟩ : Wr)]).take 100 = l2 by
      rw [List.take_append_of_le_length (by omega), List.take_of_length_le (by omega)])
    have hge : (100 : Int) ≤ (l2.length : Int) := by omega
    go_enter Tryz.func115, Tryz.ntmps115
    go_wp2
    refine bodyPost_ret (v := .tuple #[]) (by simp [results, Tryz.results115, go_sem]) rfl ?_
    exact ⟨_, rfl, by rw [HT.out]; exact HW.out⟩
end
end Go.Proofs.YtnfmlmamgkpocaaGreatDoor
