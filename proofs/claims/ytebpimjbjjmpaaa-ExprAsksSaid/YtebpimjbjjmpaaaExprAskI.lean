/- The function value of ExprAsks: it gathers the names that it is asked for in a captured row, and answers by a list; no condition but that on their number. -/
import Derived.Test.YtebpimjbjjmpaaaExprLaws
import Derived.Test.YtebpimjbjjmpaaaExprXB2
import Derived.Test.YtebpimjbjjmpaaaAppWhere
namespace Go.Proofs.Ytebpimjbjjmpaaa
open Go.ChangeShapes Go.WideShapes Go.ChangeAt Go.RowKit Go.Sort BigFrame

theorem recs_low {α : Type} {f : α → List Value} {s : Nat} {w u : World} {ao : Option Addr} {cap : Nat} {l : List α} (hf : ∀ x, (f x).length = s) (h : Recs f s w ao cap l) (hb : ∀ g, g < w.heap.size → u.heap[g]? = w.heap[g]?) : Recs f s u ao cap l :=
  ⟨h.room, h.max, fun t ht => by
    obtain ⟨b, o, e, hcell⟩ := h.cell t ht
    refine ⟨b, o, e, fun r hr => ?_⟩
    have h1 := hcell r hr
    have h2 : r < (f l[t]).length := by rw [hf]; exact hr
    rw [List.getElem?_eq_getElem h2] at h1 ⊢
    exact (World.cell?_of_block (hb b (World.block_lt_of_cell? w _ h1))).trans h1⟩
/-- What the gathering function value has been asked. -/
structure RB (W : World) (pb : Nat) (acc : List (List UInt8)) (F : Nat → Prop) (v : Value) (u : World) : Prop where
  own : ∀ g, F g ↔ g = pb ∨ v.ownBlock = some g
  box : u.heap[pb]? = some (.cells #[v] 22 (0, 0))
  row : u.ownsRow W.heap.size 9 1 v acc.length (acc.flatMap txC)
  old : ∀ g, g < W.heap.size → g ≠ pb → u.heap[g]? = W.heap[g]?
  os : u.os = W.os
  tape : u.tape = W.tape
  output : u.output = W.output
  size : W.heap.size ≤ u.heap.size
def RA (W : World) (pb : Nat) (acc : List (List UInt8)) (F : Nat → Prop) (u : World) : Prop := ∃ v, RB W pb acc F v u
theorem RB.next {W u u1 : World} {pb : Nat} {acc : List (List UInt8)} {F : Nat → Prop} {v : Value} (h : RB W pb acc F v u) (hm : Made u u1) : RB W pb acc F v u1 :=
  ⟨h.own, hm.heap h.box, owns_made h.row hm, fun g hg hp => (hm.block g (Nat.lt_of_lt_of_le hg h.size)).trans (h.old g hg hp), hm.os.trans h.os, hm.tape.trans h.tape, hm.output.trans h.output, Nat.le_trans h.size hm.size⟩
theorem ra_start {W : World} {pb : Nat} (h : W.heap[pb]? = some (.cells #[.slice none 0 0] 22 (0, 0))) : RA W pb [] (fun g => g = pb) W :=
  ⟨.slice none 0 0, fun g => ⟨fun h => .inl h, fun h => by rcases h with h | h; exact h; simp [Value.ownBlock] at h⟩, h, ⟨by simp, .inl ⟨rfl, rfl⟩⟩, fun _ _ _ => rfl, rfl, rfl, rfl, Nat.le_refl _⟩
theorem ra_keep {W : World} {pb : Nat} (hpb : pb < W.heap.size) (acc : List (List UInt8)) (F : Nat → Prop) (u u' : World) (h : RA W pb acc F u) (hb : ∀ g, F g ∨ g < W.heap.size → u'.heap[g]? = u.heap[g]?) (h1 : u'.os = u.os) (h2 : u'.tape = u.tape) (h3 : u'.output = u.output) (h4 : u.heap.size ≤ u'.heap.size) : RA W pb acc F u' := by
  obtain ⟨v, h⟩ := h
  exact ⟨v, h.own, (hb pb (.inr hpb)).trans h.box, q_owns h.row fun g hg => hb g (.inl ((h.own g).2 (.inr hg))), fun g hg hp => (hb g (.inr hg)).trans (h.old g hg hp), h1.trans h.os, h2.trans h.tape, h3.trans h.output, Nat.le_trans h.size h4⟩
section
attribute [local irreducible] World.cell?
set_option maxRecDepth 100000 in
set_option maxHeartbeats 8000000 in
theorem gather_any (Wl W : World) (hWl : Made Wl W) (pb vb c : Nat) (hpl : Wl.heap.size ≤ pb) (hpb : pb < W.heap.size) (T : TypeId) (hvb : W.heap[vb]? = some (.cells #[.func (.func 33) #[] #[.pointer (some ⟨c, 0, none⟩)]] 32 (0, 0))) (hvp : vb ≠ pb)
    (no : Option Addr) (nc : Nat) (l : List Nm) (hN : Nms Wl no nc l) (hl : l.length ≤ 100000) (hc : W.heap[c]? = some (.cells #[.slice no l.length nc] T (0, 0))) (hcp : c ≠ pb) (acc : List (List UInt8)) (F : Nat → Prop) (u : World) (s : List UInt8) (hac : acc.length ≤ 100000) (hR : RA W pb acc F u) :
    Calls Try.prog 28 #[.string (strOf s), .pointer (some ⟨pb, 0, none⟩), .pointer (some ⟨vb, 0, none⟩)] u fun x u' => x = .returned (.tuple #[.int .i64 (askL l s).1, .int .i64 (askL l s).2]) ∧ ∃ F', RA W pb (acc ++ [s]) F' u' ∧ (∀ g, F' g → F g ∨ u.heap.size ≤ g) ∧ Out F u u' := by
  obtain ⟨v, hB⟩ := hR
  obtain ⟨so, cp, rfl, -⟩ := (owns_recs tx_len (by decide) hB.row).2
  have HB := Lib.hid hB
  have m1 : Made u (u.alloc (.cells ([s].flatMap txC).toArray 9)) := (Made.refl u).alloc (Nat.le_refl _) _
  have KB := Lib.hid (hB.next m1)
  have cv : u.cell? ⟨pb, 0, none⟩ = some (.slice so acc.length cp) := cell_of_lit (cs := [.slice so acc.length cp]) hB.box 0
  have hvu : u.heap[vb]? = some (.cells #[.func (.func 33) #[] #[.pointer (some ⟨c, 0, none⟩)]] 32 (0, 0)) := (hB.old vb (heap_lt hvb) hvp).trans hvb
  have hcu : u.heap[c]? = some (.cells #[.slice no l.length nc] T (0, 0)) := (hB.old c (heap_lt hc) hcp).trans hc
  have hnu : ∀ g, g < Wl.heap.size → u.heap[g]? = Wl.heap[g]? := fun g hg => (hB.old g (Nat.lt_of_lt_of_le hg hWl.size) (by omega)).trans (hWl.block g hg)
  have lpb := heap_lt hB.box
  have hvl := heap_lt hvb
  have hcl := heap_lt hc
  have HI := Lib.hid (info_parts str_row)
  have HOL := Lib.hid (tx_olds u s)
  have hsz := Lib.hid (hB.next m1).size
  have HFACT := Lib.hid (And.intro hvu (And.intro hcu hnu))
  have HN := Lib.hid hN
  have hmx : acc.length + 1 ≤ maxLen := by unfold maxLen; omega
  have hby : (acc.length + 1) * 16 ≤ 140737488355328 := by omega
  have HLOW := Lib.hid (show ∀ g, g < W.heap.size → W.heap.size ≤ g → False from fun g h1 h2 => by omega)
  have hWsz := hWl.size
  clear hB hN hvu hcu hnu m1 hvb hc
  go_enter Try.func28, Try.ntmps28
  obtain ⟨i0, hi0, hz0, hz1, hz2⟩ := HI.out
  go_upto_region 2 with (at_builtin; refine wpList_append_where rfl (.tmp 6) (.tmp 8) 22 rfl W.heap.size 9 i0 (.string ⟨#[]⟩) 1 16 Try.underlying22 hi0 hz0 hz1 hz2 rfl (by decide) (.slice so acc.length cp) acc.length (acc.flatMap txC) rfl KB.out.row ⟨u.heap.size, 0, none⟩ 1 1 ([s].flatMap txC) (by decide) rfl rfl (HOL.out _ rfl) (tx_one _) hmx hby hsz.out ?_; intro v7 w9 own1 gr1 hwh; have HO := Lib.hid own1; have HG := Lib.hid gr1; have HWH := Lib.hid hwh; have hpb9 : w9.heap[pb]? = some (.cells #[.slice so acc.length cp] 22 (0, 0)) := (gr1.block pb (heap_lt KB.out.box) fun e => q_far KB.out.row KB.out.box (by decide) pb e.symm rfl).trans KB.out.box; have cv9 : w9.cell? ⟨pb, 0, none⟩ = some (.slice so acc.length cp) := cell_of_lit (cs := [.slice so acc.length cp]) hpb9 0; have ft9 := free_of_lit hpb9; have lt9 := heap_lt hpb9; have HP9 := Lib.hid hpb9; clear own1 gr1 hwh hpb9; obtain ⟨so7, cp7, hv7, -⟩ := (owns_recs tx_len (by decide) (show w9.ownsRow W.heap.size 9 1 v7 (acc.length + 1) ((acc ++ [s]).flatMap txC) from by have h9 := HO.out; rwa [← List.flatMap_append] at h9)).2; subst hv7)
  have HOWN := Lib.hid (show ∀ g, g < (u.alloc (.cells ([s].flatMap txC).toArray 9)).heap.size → g ≠ pb → (Value.slice so acc.length cp).ownBlock ≠ some g → (w9.setCell ⟨pb, 0, none⟩ (.slice so7 (acc.length + 1) cp7)).heap[g]? = (u.alloc (.cells ([s].flatMap txC).toArray 9)).heap[g]? from fun g h1 h2 h3 =>
    (heap_setCell_other w9 ⟨pb, 0, none⟩ g _ h2).trans (HG.out.block g h1 (fun e => h3 e.symm)))
  have KR := Lib.hid (show RB W pb (acc ++ [s]) (fun g => g = pb ∨ (Value.slice so7 (acc.length + 1) cp7).ownBlock = some g) (.slice so7 (acc.length + 1) cp7) (w9.setCell ⟨pb, 0, none⟩ (.slice so7 (acc.length + 1) cp7)) from by
    have hrow : w9.ownsRow W.heap.size 9 1 (.slice so7 (acc.length + 1) cp7) (acc.length + 1) ((acc ++ [s]).flatMap txC) := by have h9 := HO.out; rwa [← List.flatMap_append] at h9
    have hb9 := heap_setCell_same w9 pb 0 #[.slice so acc.length cp] 22 (.slice so7 (acc.length + 1) cp7) HP9.out
    refine ⟨fun g => Iff.rfl, hb9, ?_, fun g hg hp => ?_, ?_, ?_, ?_, ?_⟩
    · rw [show (acc ++ [s]).length = acc.length + 1 by rw [List.length_append]; rfl]
      exact q_owns hrow fun g hg => heap_setCell_other w9 ⟨pb, 0, none⟩ g _ (q_far hrow HP9.out (by decide) g hg)
    · refine (HOWN.out g (Nat.lt_of_lt_of_le hg KB.out.size) hp (fun e => HLOW.out g hg (KB.out.row.lt g e).1)).trans (KB.out.old g hg hp)
    · exact HG.out.os.trans KB.out.os
    · exact HG.out.tape.trans KB.out.tape
    · exact HG.out.output.trans KB.out.output
    · exact Nat.le_trans KB.out.size (by have := HG.out.size; simpa using this))
  have HOLDS := Lib.hid (show ∀ g, g < W.heap.size → g ≠ pb → (w9.setCell ⟨pb, 0, none⟩ (.slice so7 (acc.length + 1) cp7)).heap[g]? = u.heap[g]? from fun g hg hp => by
    have hgu : g < u.heap.size := Nat.lt_of_lt_of_le hg HB.out.size
    exact (HOWN.out g (by simp only [World.size_alloc]; omega) hp (fun e => HLOW.out g hg (KB.out.row.lt g e).1)).trans (heap_alloc_old u _ hgu))
  refine world_named (fun y => RB W pb (acc ++ [s]) (fun g => g = pb ∨ (Value.slice so7 (acc.length + 1) cp7).ownBlock = some g) (.slice so7 (acc.length + 1) cp7) y ∧ Out F u y ∧ y.heap[vb]? = some (.cells #[.func (.func 33) #[] #[.pointer (some ⟨c, 0, none⟩)]] 32 (0, 0)) ∧ y.heap[c]? = some (.cells #[.slice no l.length nc] T (0, 0)) ∧ ∀ g, g < Wl.heap.size → y.heap[g]? = Wl.heap[g]?) ⟨KR.out, ?_, ?_, ?_, ?_⟩ ?_
  · refine ⟨HG.out.os, HG.out.tape, HG.out.output, Nat.le_trans (by simp) (Nat.le_trans HG.out.size (by simp)), fun g hg hf => ?_⟩
    exact (HOWN.out g (by simp only [World.size_alloc]; omega) (fun e => hf ((HB.out.own g).2 (.inl e))) (fun e => hf ((HB.out.own g).2 (.inr e)))).trans (heap_alloc_old u _ hg)
  · exact (HOLDS.out vb hvl hvp).trans HFACT.out.1
  · exact (HOLDS.out c hcl hcp).trans HFACT.out.2.1
  · exact fun g hg => (HOLDS.out g (by omega) (by omega)).trans (HFACT.out.2.2 g hg)
  rintro y ⟨hR2, hO, hvy, hcy, hny⟩
  have KR2 := Lib.hid hR2
  have HO2 := Lib.hid hO
  have cvb : y.cell? ⟨vb, 0, none⟩ = some (.func (.func 33) #[] #[.pointer (some ⟨c, 0, none⟩)]) := cell_of_lit (cs := [.func (.func 33) #[] #[.pointer (some ⟨c, 0, none⟩)]]) hvy 0
  have HBY := Lib.hid (by_any y no nc l (recs_low nm_len HN.out hny) hl c T hcy s y (Made.refl y))
  have hen := enters_by
  clear hR2 hO hvy hcy hny KR HOWN HG HO cv9 ft9 lt9 HP9 KB cv
  go_wp2_with (fail)
  refine HBY.out.mono ?_
  rintro x y2 ⟨rfl, h2⟩
  have M2 := Lib.hid h2
  clear h2
  go_wp2
  refine bodyPost_ret (v := .tuple #[.int .i64 (askL l s).1, .int .i64 (askL l s).2]) (by simp [results, Try.results28, go_sem]) rfl ?_
  refine ⟨rfl, _, ⟨_, KR2.out.next M2.out⟩, fun g hg => ?_, HO2.out.step M2.out⟩
  rcases hg with hg | hg
  · exact .inl ((HB.out.own g).2 (.inl hg))
  · rcases HWH.out g hg with h9 | h9
    · exact .inl ((HB.out.own g).2 (.inr h9))
    · exact .inr (by simp only [World.size_alloc] at h9; omega)
theorem enters_gather : EntersX 28 := fun args w => enters_of Try.func28 (by kernel_rfl) rfl args w
theorem gather_asks (Wl W : World) (hWl : Made Wl W) (pb vb c : Nat) (hpl : Wl.heap.size ≤ pb) (hpb : pb < W.heap.size) (T : TypeId) (hvb : W.heap[vb]? = some (.cells #[.func (.func 33) #[] #[.pointer (some ⟨c, 0, none⟩)]] 32 (0, 0))) (hvp : vb ≠ pb)
    (no : Option Addr) (nc : Nat) (l : List Nm) (hN : Nms Wl no nc l) (hl : l.length ≤ 100000) (hc : W.heap[c]? = some (.cells #[.slice no l.length nc] T (0, 0))) (hcp : c ≠ pb) :
    AsksB W 28 #[.pointer (some ⟨pb, 0, none⟩), .pointer (some ⟨vb, 0, none⟩)] (askL l) (RA W pb) := by
  refine ⟨enters_gather, fun acc F u u' h hb h1 h2 h3 h4 => ra_keep hpb acc F u u' h hb h1 h2 h3 h4, ?_, ?_⟩
  · rintro acc F u ⟨v, h⟩ g hg
    rcases (h.own g).1 hg with rfl | h9
    · exact heap_lt h.box
    · exact (h.row.lt g h9).2
  · intro acc F u s hac hR
    exact gather_any Wl W hWl pb vb c hpl hpb T hvb hvp no nc l hN hl hc hcp acc F u s hac hR
end
end Go.Proofs.Ytebpimjbjjmpaaa
