/- What a listed package variable without pointers holds, reckoned from its type and its datum; the condition is that the list is met. · awake and EncKnown of the laws of enc return true, in every world that holds the tables of names and of pieces. Written by wip/tools/gen_enclaws.py. · What the walk through the document's Inst needs: a field's step, the variables ahead of the loop. -/
import Derived.Test.YtjeemiabddblhaaDoorBase
import Derived.LaidLaws
import Derived.ChangeArms
import Derived.Deep.DeepHandedRow
import Derived.Test.YtjeemiabddblhaaDoorEncInst
import Derived.Test.YtjeemiabddblhaaDoorEncRefW
import Derived.Deep.CutRange
namespace Go.Proofs.YtjeemiabddblhaaDoor
section
open Go

/-! WHAT A LISTED VARIABLE WITHOUT POINTERS HOLDS: its cells, reckoned from its type and its datum. -/
def contig : Nat → List (Nat × List Value) → Option Nat
  | o, [] => some o
  | o, (off, p) :: r => if off = o then contig (o + p.length) r else none
theorem contig_spec {cs : List Value} : ∀ {l : List (Nat × List Value)} {o : Nat}, contig o l = some cs.length → (∀ x ∈ l, (cs.drop x.1).take x.2.length = x.2) → cs.drop o = l.flatMap (·.2)
  | [], o, h, _ => by
    simp only [contig, Option.some.injEq] at h
    simp [h]
  | (off, p) :: r, o, h, hx => by
    simp only [contig] at h
    split at h
    · rename_i e
      subst e
      have h1 := hx (off, p) (by simp)
      have h2 := contig_spec h (fun x hm => hx x (by simp [hm]))
      simp only [List.flatMap_cons]
      rw [← h2, ← List.drop_drop]
      conv => lhs; rw [← List.take_append_drop p.length (cs.drop off)]
      rw [h1]
    · cases h

def flatT {H : Type} (P : Program) : Nat → TypeId → DataW H → Option (List Value)
  | 0, _, _ => none
  | m + 1, t, d =>
    match P.underlying t, d with
    | some .bool, .lit (.bool b) => some [.bool b]
    | some (.int _), .lit (.int k n) => some [.int k n]
    | some .string, .lit (.string b) => some [.string ⟨b.toArray⟩]
    | some (.struct fs), .agg ds =>
      ((List.range fs.size).mapM fun i => (fs[i]?).bind fun f => (ds[i]?).bind fun d => (flatT P m f.type d).bind fun cs => if cs.length = P.cellsOf f.type then some (f.offset, cs) else none).bind fun l =>
        if contig 0 l = some (P.cellsOf t) then some (l.flatMap (·.2)) else none
    | some (.array n e), .agg ds =>
      ((List.range n).mapM fun i => (ds[i]?).bind fun d => (flatT P m e d).bind fun cs => if cs.length = P.cellsOf e then some (i * P.cellsOf e, cs) else none).bind fun l =>
        if contig 0 l = some (P.cellsOf t) then some (l.flatMap (·.2)) else none
    | _, _ => none

theorem mapM_mem {α β : Type} {f : α → Option β} : ∀ {l : List α} {r : List β}, l.mapM f = some r → ∀ b ∈ r, ∃ a ∈ l, f a = some b
  | [], r, h, b, hb => by
    simp at h
    subst h
    cases hb
  | x :: l, r, h, b, hb => by
    simp only [List.mapM_cons, Option.bind_eq_bind, Option.bind_eq_some_iff, Option.pure_def, Option.some.injEq] at h
    obtain ⟨y, hy, r', hr', rfl⟩ := h
    rcases List.mem_cons.1 hb with rfl | hb
    · exact ⟨x, by simp, hy⟩
    · obtain ⟨a, ha, hf⟩ := mapM_mem hr' b hb
      exact ⟨a, by simp [ha], hf⟩

theorem flatT_spec {H : Type} {enc : TypeId × Value → H} {P : Program} {w : World} {base : Nat} {sp : Nat → Bool} {held : Bool} :
    ∀ (m : Nat) {fuel : Nat} {t : TypeId} {cs : List Value} {d : DataW H} {p : List MemPlace} {vs : List Value}, DataW.trod enc P w base sp held fuel t cs = some (d, p) → flatT P m t d = some vs → cs = vs
  | 0, _, _, _, _, _, _, _, hf => by simp [flatT] at hf
  | m + 1, fuel, t, cs, d, p, vs, h, hf => by
    unfold flatT at hf
    split at hf
    · rename_i ht
      obtain ⟨b, rfl, hx⟩ := DataW.trod_bool ht h
      cases hx
      simpa using hf
    · rename_i ht
      obtain ⟨n, rfl, hx, _⟩ := DataW.trod_int ht h
      cases hx
      simpa using hf
    · rename_i ht
      obtain ⟨s, rfl, hx, _⟩ := DataW.trod_string ht h
      cases hx
      simp only [Option.some.injEq] at hf
      rw [← hf]
    · rename_i fs ds ht
      obtain ⟨xs, n, rfl, hx, hlen, hxl, hall⟩ := DataW.trod_struct ht h
      obtain ⟨l, hl, hc⟩ := Option.bind_eq_some_iff.1 hf
      split at hc
      · rename_i hcon
        simp only [Option.some.injEq] at hc
        subst hc
        have := contig_spec (cs := cs) (l := l) (o := 0) (by rw [hcon, hlen]) (fun x hxm => by
          obtain ⟨i, _, hi⟩ := mapM_mem hl x hxm
          obtain ⟨f, hf1, hi⟩ := Option.bind_eq_some_iff.1 hi
          obtain ⟨d', hd, hi⟩ := Option.bind_eq_some_iff.1 hi
          obtain ⟨c, hcc, hi⟩ := Option.bind_eq_some_iff.1 hi
          split at hi
          · rename_i hcl
            simp only [Option.some.injEq] at hi
            subst hi
            have h1 := hall i f hf1
            simp only [Prod.mk.injEq, DataW.agg.injEq] at hx
            obtain ⟨rfl, rfl⟩ := hx
            simp only [List.getElem?_map, Option.map_eq_some_iff] at hd
            obtain ⟨⟨d'', p''⟩, hd1, rfl⟩ := hd
            rw [hd1] at h1
            have := flatT_spec m h1 hcc
            simp only
            rw [hcl]
            exact this
          · cases hi)
        simpa using this
      · cases hc
    · rename_i k e ds ht
      obtain ⟨xs, n, rfl, hx, hlen, hxl, hall⟩ := DataW.trod_array ht h
      obtain ⟨l, hl, hc⟩ := Option.bind_eq_some_iff.1 hf
      split at hc
      · rename_i hcon
        simp only [Option.some.injEq] at hc
        subst hc
        have := contig_spec (cs := cs) (l := l) (o := 0) (by rw [hcon, hlen]) (fun x hxm => by
          obtain ⟨i, hin, hi⟩ := mapM_mem hl x hxm
          obtain ⟨d', hd, hi⟩ := Option.bind_eq_some_iff.1 hi
          obtain ⟨c, hcc, hi⟩ := Option.bind_eq_some_iff.1 hi
          split at hi
          · rename_i hcl
            simp only [Option.some.injEq] at hi
            subst hi
            have h1 := hall i (by simpa using hin)
            simp only [Prod.mk.injEq, DataW.agg.injEq] at hx
            obtain ⟨rfl, rfl⟩ := hx
            simp only [List.getElem?_map, Option.map_eq_some_iff] at hd
            obtain ⟨⟨d'', p''⟩, hd1, rfl⟩ := hd
            rw [hd1] at h1
            have := flatT_spec m h1 hcc
            simp only
            rw [hcl]
            exact this
          · cases hi)
        simpa using this
      · cases hc
    · cases hf

theorem laidVars_mem {P : Program} {w : World} {n : String} {d : DataW Unit} : ∀ {l : List (String × DataW Unit)} {ps : List MemPlace}, DataW.LaidVars P w l ps → (n, d) ∈ l →
    ∃ g t cs fuel p, P.globalNamed n = some g ∧ (P.globals[g]?).map (·.type) = some t ∧ w.var? P n = some cs ∧ DataW.trod (fun _ => ()) P w 0 (fun _ => true) false fuel t cs.toList = some (d, p)
  | [], _, _, hm => by cases hm
  | (n', d') :: r, ps, h, hm => by
    obtain ⟨g, t, cs, fuel, p, q, e1, e2, e3, e4, hr, rfl⟩ := h
    rcases List.mem_cons.1 hm with h | h
    · cases h
      exact ⟨g, t, cs, fuel, p, e1, e2, e3, e4⟩
    · exact laidVars_mem hr h

/-- WHAT THE ROW's LIST GIVES: the variable's block holds just these cells. -/
theorem laid_block {P : Program} {W : World} {l : List (String × DataW Unit)} {n : String} {d : DataW Unit} {g : Nat} {t : TypeId} {vs : List Value} (m : Nat) (i : Nat) (h : laidMet P l W) (hm : l[i]? = some (n, d))
    (hg : P.globalNamed n = some g) (ht : (P.globals[g]?).map (·.type) = some t) (hf : flatT P m t d = some vs) : ∃ T fr, W.heap[g]? = some (.cells vs.toArray T fr) := by
  obtain ⟨ps, hv, _⟩ := h
  obtain ⟨g', t', cs, fuel, p, e1, e2, e3, e4⟩ := laidVars_mem hv (List.mem_of_getElem? hm)
  obtain rfl := Option.some.inj (hg.symm.trans e1)
  obtain rfl := Option.some.inj (ht.symm.trans e2)
  have hcs := flatT_spec m e4 hf
  unfold World.var? at e3
  rw [hg, Option.bind_some] at e3
  split at e3
  · rename_i c T fr hw
    cases e3
    exact ⟨T, fr, by rw [hw, ← hcs]⟩
  · cases e3
end
section
open Go.ChangeShapes Go.WideShapes Go.ChangeAt Go.RowKit Go.Sort BigFrame

theorem names_of {W : World} (h : laidMet Tryd.prog Rows.encKnownRow.laid W) : Names W :=
  laid_block (vs := namesL.map fun (l : List UInt8) => Value.string (ByteArray.mk l.toArray)) 5 1 h rfl (g := 1) (t := 106) (by kernel_rfl) (by kernel_rfl) (by kernel_rfl)
theorem pieces_of {W : World} (h : laidMet Tryd.prog Rows.encKnownRow.laid W) : Pieces W :=
  laid_block (vs := piecesCells.toList) 5 0 h rfl (g := 0) (t := 98) (by kernel_rfl) (by kernel_rfl) (by kernel_rfl)
/-- The two tables of a row. -/
def Tables (W : World) : Prop := Names W ∧ Pieces W
theorem Tables.made {W w : World} (h : Tables W) (hm : Made W w) : Tables w := ⟨h.1.made hm, h.2.made hm⟩
theorem tables_of {W : World} (h : laidMet Tryd.prog Rows.encKnownRow.laid W) : Tables W := ⟨names_of h, pieces_of h⟩
def layNames : Obj → Obj
  | .cells _ t frozen => .cells (namesL.map fun l => Value.string ⟨l.toArray⟩).toArray t frozen
  | o => o
def layPieces : Obj → Obj
  | .cells _ t frozen => .cells piecesCells t frozen
  | o => o
/-- A world for the witness: the settled one, the tables' blocks holding what their initialisers lay. -/
noncomputable def laidWorld (os : Os) : World :=
  { World.holding Tryd.prog os ⟨#[], #[], []⟩ with heap := ((World.holding Tryd.prog os ⟨#[], #[], []⟩).heap.modify 1 layNames).modify 0 layPieces }
theorem word_lit {W : World} (hT : Tables W) (x : In) (hx : smallB x = true) (pc v u : Int) (b : Bool) (h1 : wordP x pc = v) (h2 : upP x pc = u) (h3 : sayB x pc = b) : Makes Tryd.prog W 8 #[x.val, .int .u32 pc] (.tuple #[.int .u32 v, .int .u32 u, .bool b]) := by
  have := encWord_any W hT.1 hT.2 x (small_of hx) pc
  rwa [h1, h2, h3] at this
theorem inst_lit {W : World} (hT : Tables W) (w u pc : Int) (has : Bool) (hw : isU32 w) (hu : isU32 u) (x : In) (b : Bool) (h1 : instP w u has pc = x) (h2 : instB w u has pc = b) : Makes Tryd.prog W 11 #[.int .u32 w, .int .u32 u, .bool has, .int .u32 pc] (.tuple #[x.val, .bool b]) := by
  have := encInst_any W hT.1 hT.2 w u pc has hw hu
  rwa [h1, h2] at this
section
attribute [local irreducible] World.cell?
set_option maxHeartbeats 1000000 in
theorem awake_any (W : World) (hT : Tables W) : Makes Tryd.prog W 10 #[] (.bool true) := by
  intro w hm
  have H0 := Lib.hid hm
  clear hm
  go_enter Tryd.func10, Tryd.ntmps10
  go_wp2_with (fail)
  refine (word_lit hT (litIn 2 1 2 3 0 0 0 false false 0 0) (by decide +kernel) 0 134284336 0 true (by decide +kernel) (by decide +kernel) (by decide +kernel) _ H0.out).mono ?_
  rintro e w1 ⟨rfl, h1⟩
  have H1 := Lib.hid h1
  clear h1
  go_wp2_with (fail)
  refine (word_lit hT (litIn 8 1 0 0 0 0 0 false true 0 305419896) (by decide +kernel) 0 536936568 1193046 true (by decide +kernel) (by decide +kernel) (by decide +kernel) _ H1.out).mono ?_
  rintro e w2 ⟨rfl, h2⟩
  have H2 := Lib.hid h2
  clear h2
  go_wp2
  go_ret
  exact ⟨rfl, H2.out⟩
namespace encKnown
/-- What EncKnown keeps: its first and its fifth instruction. -/
structure Kept (W : World) (B : Nat) (x : In) (w : World) : Prop where
  made : Made W w
  in_ : InAt w B x
theorem Kept.next {W w w' : World} {B : Nat} {x : In} (h : Kept W B x w) (hm : Made w w') : Kept W B x w' := ⟨Made.trans h.made hm, hm.heap h.in_⟩
set_option maxRecDepth 100000 in
set_option maxHeartbeats 8000000 in
theorem walk (W : World) (hT : Tables W) : Calls Tryd.prog 5 #[] W fun e w' => e = .returned (.bool true) ∧ Made W w' := by
  have H0 := Lib.hid (Made.refl W)
  have hop1 : ∀ w, (binOp .eql 24 (litIn 27 0 0 0 0 0 0 false false 0 96).val (litIn 27 0 0 0 0 0 0 false false 0 96).val).run Tryd.prog w = .ok (.bool true) w := fun w => (run_in_eql _ _ w).trans (by rw [decide_eq_true rfl])
  have hop2 : ∀ w, (binOp .eql 24 (litIn 8 1 0 0 0 0 0 false true 0 305419896).val (litIn 8 1 0 0 0 0 0 false true 0 305419896).val).run Tryd.prog w = .ok (.bool true) w := fun w => (run_in_eql _ _ w).trans (by rw [decide_eq_true rfl])
  go_enter Tryd.func5, Tryd.ntmps5
  go_wp2_with (fail)
  refine (word_lit hT (litIn 27 0 0 0 0 0 0 false false 0 8) (by decide +kernel) 12 1813987327 0 true (by decide +kernel) (by decide +kernel) (by decide +kernel) _ H0.out).mono ?_
  rintro e w1 ⟨rfl, h1⟩
  have H1 := Lib.hid h1
  clear h1
  go_wp2_with (fail)
  refine (inst_lit hT 1813987327 0 100 false ⟨by decide, by decide⟩ ⟨by decide, by decide⟩ (litIn 27 0 0 0 0 0 0 false false 0 96) true (by decide +kernel) (by decide +kernel) _ H1.out).mono ?_
  rintro e w2 ⟨rfl, h2⟩
  have H2 := Lib.hid h2
  clear h2
  go_upto_region 3 with (fail)
  refine name_world (fun v => Kept W w2.heap.size (litIn 27 0 0 0 0 0 0 false false 0 96) v) ⟨H2.out.alloc H2.out.size _, heap_alloc_new w2 _⟩ ?_
  intro v2 hv
  have K2 := Lib.hid hv
  clear hv
  go_wp2_with (fail)
  refine (word_lit (hT.made K2.out.made) (litIn 8 1 0 0 0 0 0 false false 0 (-1)) (by decide +kernel) 0 536952831 0 true (by decide +kernel) (by decide +kernel) (by decide +kernel) _ (Made.refl _)).mono ?_
  rintro e w3 ⟨rfl, h3⟩
  have K3 := Lib.hid (K2.out.next h3)
  clear h3
  go_wp2_with (fail)
  refine (word_lit (hT.made K3.out.made) (litIn 8 1 0 0 0 0 0 false false 0 305419896) (by decide +kernel) 0 0 0 false (by decide +kernel) (by decide +kernel) (by decide +kernel) _ (Made.refl _)).mono ?_
  rintro e w4 ⟨rfl, h4⟩
  have K4 := Lib.hid (K3.out.next h4)
  clear h4
  go_wp2_with (fail)
  refine (inst_lit (hT.made K4.out.made) 0 0 0 false ⟨by decide, by decide⟩ ⟨by decide, by decide⟩ inZero false (by decide +kernel) (by decide +kernel) _ (Made.refl _)).mono ?_
  rintro e w5 ⟨rfl, h5⟩
  have K5 := Lib.hid (K4.out.next h5)
  clear h5
  go_upto_region 6 with (fail)
  refine name_world (fun v => Kept W w2.heap.size (litIn 27 0 0 0 0 0 0 false false 0 96) v) (K5.out.next ((Made.refl _).alloc (Nat.le_refl _) _)) ?_
  intro v5 hv
  have L5 := Lib.hid hv
  clear hv
  go_wp2_with (fail)
  refine (inst_lit (hT.made L5.out.made) 67108865 0 0 false ⟨by decide, by decide⟩ ⟨by decide, by decide⟩ inZero false (by decide +kernel) (by decide +kernel) _ (Made.refl _)).mono ?_
  rintro e w6 ⟨rfl, h6⟩
  have K6 := Lib.hid (L5.out.next h6)
  clear h6
  go_upto_region 7 with (fail)
  refine name_world (fun v => Kept W w2.heap.size (litIn 27 0 0 0 0 0 0 false false 0 96) v) (K6.out.next ((Made.refl _).alloc (Nat.le_refl _) _)) ?_
  intro v6 hv
  have L6 := Lib.hid hv
  clear hv
  go_wp2_with (fail)
  refine (inst_lit (hT.made L6.out.made) 67108864 0 0 true ⟨by decide, by decide⟩ ⟨by decide, by decide⟩ inZero false (by decide +kernel) (by decide +kernel) _ (Made.refl _)).mono ?_
  rintro e w7 ⟨rfl, h7⟩
  have K7 := Lib.hid (L6.out.next h7)
  clear h7
  go_upto_region 8 with (fail)
  refine name_world (fun v => Kept W w2.heap.size (litIn 27 0 0 0 0 0 0 false false 0 96) v) (K7.out.next ((Made.refl _).alloc (Nat.le_refl _) _)) ?_
  intro v7 hv
  have L7 := Lib.hid hv
  clear hv
  go_wp2_with (fail)
  refine (inst_lit (hT.made L7.out.made) 536936824 1193046 0 true ⟨by decide, by decide⟩ ⟨by decide, by decide⟩ inZero false (by decide +kernel) (by decide +kernel) _ (Made.refl _)).mono ?_
  rintro e w8 ⟨rfl, h8⟩
  have K8 := Lib.hid (L7.out.next h8)
  clear h8
  go_upto_region 9 with (fail)
  refine name_world (fun v => Kept W w2.heap.size (litIn 27 0 0 0 0 0 0 false false 0 96) v) (K8.out.next ((Made.refl _).alloc (Nat.le_refl _) _)) ?_
  intro v8 hv
  have L8 := Lib.hid hv
  clear hv
  go_wp2_with (fail)
  refine (inst_lit (hT.made L8.out.made) 536985720 1193046 0 true ⟨by decide, by decide⟩ ⟨by decide, by decide⟩ (litIn 8 1 0 0 0 0 0 false true 0 305419896) true (by decide +kernel) (by decide +kernel) _ (Made.refl _)).mono ?_
  rintro e w9 ⟨rfl, h9⟩
  have K9 := Lib.hid (L8.out.next h9)
  clear h9
  go_upto_region 10 with (fail)
  refine name_world (fun v => Kept W w2.heap.size (litIn 27 0 0 0 0 0 0 false false 0 96) v ∧ InAt v w9.heap.size (litIn 8 1 0 0 0 0 0 false true 0 305419896)) ⟨K9.out.next ((Made.refl _).alloc (Nat.le_refl _) _), heap_alloc_new w9 _⟩ ?_
  rintro v9 ⟨hv, hi⟩
  have L9 := Lib.hid hv
  have I9 := Lib.hid hi
  clear hv hi
  go_wp2_with (fail)
  refine (inst_lit (hT.made L9.out.made) 536936568 17970262 0 true ⟨by decide, by decide⟩ ⟨by decide, by decide⟩ inZero false (by decide +kernel) (by decide +kernel) _ (Made.refl _)).mono ?_
  rintro e w10 ⟨rfl, h10⟩
  have K10 := Lib.hid (L9.out.next h10)
  have J := Lib.hid (Made.heap h10 I9.out)
  clear h10
  go_upto_region 11 with (fail)
  refine name_world (fun v => Kept W w2.heap.size (litIn 27 0 0 0 0 0 0 false false 0 96) v ∧ InAt v w9.heap.size (litIn 8 1 0 0 0 0 0 false true 0 305419896)) ⟨K10.out.next ((Made.refl _).alloc (Nat.le_refl _) _), Made.heap ((Made.refl _).alloc (Nat.le_refl _) _) J.out⟩ ?_
  rintro v10 ⟨hv, hi⟩
  have LL := Lib.hid hv
  have II := Lib.hid hi
  clear hv hi
  obtain ⟨a0, a1, a2, a3, a4, a5, a6, a7, a8, a9, a10⟩ := in_cells LL.out.in_
  obtain ⟨b0, b1, b2, b3, b4, b5, b6, b7, b8, b9, b10⟩ := in_cells II.out
  have hl1 := heap_lt LL.out.in_
  have hl2 := heap_lt II.out
  go_wp2_with (fail)
  refine (awake_any _ (hT.made LL.out.made) _ (Made.refl _)).mono ?_
  rintro e z ⟨rfl, hz⟩
  have KZ := Lib.hid (LL.out.next hz)
  clear hz
  go_wp2
  go_ret
  exact ⟨rfl, KZ.out.made⟩
end encKnown
end
end
section
open Go.ChangeShapes Go.WideShapes Go.ChangeAt Go.RowKit Go.Sort BigFrame

theorem lread_drop (p u : Int) (has : Bool) (pc : Int) (l : List Fd) (k : Nat) (h : k < l.length) (low : Int) (y : In) : lreadFrom p u has pc (l.drop k) low y =
    lreadFrom p u has pc (l.drop (k + 1)) (low - l[k].bits) (if isVal l[k] then { y with imm := lval l[k] (getZ p (low - l[k].bits) l[k].bits) u has pc } else setZ y l[k].kind (getZ p (low - l[k].bits) l[k].bits)) := by
  rw [List.drop_eq_getElem_cons h]; rfl
theorem get_parts (w : Int) : getZ w 26 6 = codeZ w ∧ getZ w 16 10 * 16384 + getZ w 0 14 = payZ w := by
  constructor
  · unfold getZ codeZ
    rw [if_pos (by decide)]
    show w / 67108864 % 64 = _
    rfl
  · unfold getZ payZ
    rw [if_pos (by decide), if_pos (by decide)]
    show w / 65536 % 1024 * 16384 + w / 1 % 16384 = _
    omega
theorem get_step (p low n : Int) (hp : 0 ≤ p) (hn : 0 ≤ n) (hl : 0 ≤ low - n) (h : low ≤ 24) : (p / 2 ^ (low - n).toNat).tmod (2 ^ n.toNat) = getZ p (low - n) n ∧ p / 2 ^ (low - n).toNat % 2 ^ n.toNat = getZ p (low - n) n ∧ 0 ≤ p / 2 ^ (low - n).toNat ∧ p / 2 ^ (low - n).toNat ≤ p := by
  obtain ⟨b, rfl⟩ := Int.eq_ofNat_of_zero_le hn
  obtain ⟨l, e⟩ := Int.eq_ofNat_of_zero_le hl
  have hq := Int.ediv_nonneg hp (Int.le_of_lt (ipow_pos l))
  rw [e, Int.toNat_natCast, Int.toNat_natCast, getZ_pos p l b (by omega)]
  exact ⟨Int.tmod_eq_emod_of_nonneg hq, rfl, hq, Int.ediv_le_self _ hp⟩
/-- The variables ahead of the loop. -/
structure IAt (W : World) (A : Nat) (p : Option Addr) (n cap : Nat) (fs : List Fd) (v : World) : Prop where
  own : Own W A inZero v
  holds : HoldsP v p n cap fs
theorem IAt.next {W v v' : World} {A : Nat} {p : Option Addr} {n cap : Nat} {fs : List Fd} (h : IAt W A p n cap fs v) (hm : Made v v') : IAt W A p n cap fs v' := ⟨h.own.next hm, h.holds.made hm⟩
theorem set11_far (w : World) (b i : Nat) (h : i ≠ b) (v0 v1 v2 v3 v4 v5 v6 v7 v8 v9 v10 : Value) : (set11 w b v0 v1 v2 v3 v4 v5 v6 v7 v8 v9 v10).heap[i]? = w.heap[i]? := by
  have k := fun (u : World) j v => Below.heap_setCell u ⟨b, j, none⟩ v i h
  exact (k _ 10 _).trans ((k _ 9 _).trans ((k _ 8 _).trans ((k _ 7 _).trans ((k _ 6 _).trans ((k _ 5 _).trans ((k _ 4 _).trans ((k _ 3 _).trans ((k _ 2 _).trans ((k _ 1 _).trans (k _ 0 _))))))))))
end
end Go.Proofs.YtjeemiabddblhaaDoor
