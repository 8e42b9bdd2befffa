/- What in, value and number of the document's answer for lex return; strings byte by byte; no condition but those named. · Two rows of a call's own, tokens and what is wrong, that grow in turn, and a token's variable beside them; no condition but those named. · What value and number of the document's answer for lex return; no condition but those named. · What number of the document's answer for lex returns; no condition but those named. · Strings put together, as lists of bytes; no condition but those named. -/
import Derived.Test.YtnfmlmamgkpocaaGreatDoorGLexM
import Derived.IntWalk
import Derived.Deep.Cut
import Derived.Laws.Concat
namespace Go.Proofs.YtnfmlmamgkpocaaGreatDoor
section
open Go.ChangeShapes Go.WideShapes Go.ChangeAt Go.RowKit Go.Sort BigFrame

theorem run_index (S : ByteArray) (k : Nat) (b : UInt8) (h : k < S.size) (hb : S[k] = b) (w : World) : (Instr.index 9 (.string S) (.int .i64 k)).run Tryz.prog w = .ok (.int .u8 b.toNat) w := by
  go_simp
/-- A string's bytes are a list. -/
abbrev IsStr (S : ByteArray) (l : List UInt8) : Prop := S.data.toList = l
theorem str_size {S : ByteArray} {l : List UInt8} (h : IsStr S l) : S.size = l.length := by
  subst h
  exact Array.length_toList.symm
theorem str_at {S : ByteArray} {l : List UInt8} (h : IsStr S l) {k : Nat} (hk : k < l.length) (b : UInt8) (hb : l[k] = b) (w : World) : (Instr.index 9 (.string S) (.int .i64 k)).run Tryz.prog w = .ok (.int .u8 b.toNat) w := by
  have hs := str_size h
  refine run_index S k b (by omega) ?_ w
  subst h
  show S.data[k]'(by rw [← Array.length_toList]; exact hk) = b
  rw [← Array.getElem_toList]
  exact hb
theorem str_part {S : ByteArray} {l : List UInt8} (h : IsStr S l) (f k : Nat) : IsStr (S.extract f k) ((l.drop f).take (k - f)) := by
  show (S.extract f k).data.toList = _
  rw [ByteArray.data_extract, Array.toList_extract, List.extract_eq_take_drop, h]
theorem str_of {S : ByteArray} {l : List UInt8} (h : IsStr S l) : S = strOf l := by subst h; rfl
theorem byte_inj {a b : UInt8} : ((a.toNat : Int) == (b.toNat : Int)) = (a == b) := by
  rw [Bool.eq_iff_iff, beq_iff_eq, beq_iff_eq]
  constructor
  · intro h
    exact UInt8.toNat_inj.1 (by omega)
  · rintro rfl
    rfl
section
attribute [local irreducible] World.cell?
set_option maxRecDepth 100000 in
set_option maxHeartbeats 4000000 in
theorem rin_any (S : ByteArray) (l : List UInt8) (h : IsStr S l) (hl : l.length ≤ 1000) (c : UInt8) : Still Tryz.prog 136 #[.string S, .int .u8 c.toNat] (.bool (l.any (· == c))) := by
  intro w
  have hz := str_size h
  have H := Lib.hid h
  have hsz : S.size ≤ 1000 := by omega
  have HZ := Lib.hid hz
  clear h hz
  go_enter Tryz.func136, Tryz.ntmps136
  go_wp2_with (fail)
  go_loopw [5] (fun i wr => ∃ k : Nat, k ≤ S.size ∧ i = .int .i64 k ∧ (l.drop k).any (· == c) = l.any (· == c) ∧ w = wr) (fun i _ => S.size - (intOf i).toNat)
  case atStart => exact ⟨0, Nat.zero_le _, rfl, rfl, rfl⟩
  case round =>
    obtain ⟨k, hk, rfl, hat, rfl⟩ := hrel
    by_cases hlt : k < S.size
    · have hkl : k < l.length := by have := HZ.out; omega
      obtain ⟨b, hb⟩ : ∃ b, l[k] = b := ⟨_, rfl⟩
      have hidx := str_at H.out hkl b hb
      have hst : (l.drop k).any (· == c) = ((b == c) || (l.drop (k + 1)).any (· == c)) := by rw [List.drop_eq_getElem_cons hkl, List.any_cons, hb]
      rewrite [hat] at hst
      have HST := Lib.hid hst
      have hbc := byte_inj (a := b) (b := c)
      clear hst hat hb
      cases hc : (b == c) with
      | true =>
        rewrite [hc] at hbc
        have HR := Lib.hid (show l.any (· == c) = true by rw [HST.out, hc]; rfl)
        clear hc
        go_wp2
        go_ret
        exact ⟨ret_bool HR.out.symm, rfl⟩
      | false =>
        rewrite [hc] at hbc
        have HR := Lib.hid (show (l.drop (k + 1)).any (· == c) = l.any (· == c) by rw [HST.out, hc]; rfl)
        clear hc
        go_wp2
        go_roundw
        case rel => exact ⟨k + 1, by omega, by go_num, HR.out, trivial⟩
        case measure => simp [intOf]; omega
    · obtain rfl : k = S.size := by omega
      have HR := Lib.hid (show l.any (· == c) = false by rw [← hat, HZ.out, List.drop_length]; rfl)
      clear hat
      go_wp2
      go_ret
      exact ⟨ret_bool HR.out.symm, rfl⟩
end
/-! The document's rows of bytes. -/
def letL : List UInt8 := [97, 98, 99, 100, 101, 102, 103, 104, 105, 106, 107, 108, 109, 110, 111, 112, 113, 114, 115, 116, 117, 118, 119, 120, 121, 122, 65, 66, 67, 68, 69, 70, 71, 72, 73, 74, 75, 76, 77, 78, 79, 80, 81, 82, 83, 84, 85, 86, 87, 88, 89, 90, 95]
def digL : List UInt8 := [48, 49, 50, 51, 52, 53, 54, 55, 56, 57]
def sgnL : List UInt8 := [123, 125, 59, 58, 40, 41, 44, 61, 43, 45, 42, 33, 35]
def rowL : List UInt8 := [48, 49, 50, 51, 52, 53, 54, 55, 56, 57, 97, 98, 99, 100, 101, 102]
/-- A byte's small letter. -/
def lowB (b : UInt8) : Int := if 65 ≤ b.toNat ∧ b.toNat ≤ 70 then (b.toNat : Int) + 32 else b.toNat
theorem all_bytes {p : UInt8 → Bool} (h : (List.range 256).all (fun n => p (UInt8.ofNat n)) = true) (b : UInt8) : p b = true := by
  have hb : b.toNat < 256 := b.toNat_lt
  have := List.all_eq_true.1 h b.toNat (List.mem_range.2 hb)
  rwa [UInt8.ofNat_toNat] at this
theorem in_blk (b : UInt8) : ([32, 9, 13] : List UInt8).any (· == b) = isBlk b := by
  have := all_bytes (p := fun b => ([32, 9, 13] : List UInt8).any (· == b) == isBlk b) (by decide +kernel) b
  exact beq_iff_eq.1 this
theorem in_let (b : UInt8) : letL.any (· == b) = isLet b := by
  have := all_bytes (p := fun b => letL.any (· == b) == isLet b) (by decide +kernel) b
  exact beq_iff_eq.1 this
theorem in_dig (b : UInt8) : digL.any (· == b) = isDig b := by
  have := all_bytes (p := fun b => digL.any (· == b) == isDig b) (by decide +kernel) b
  exact beq_iff_eq.1 this
theorem in_sgn (b : UInt8) : sgnL.any (· == b) = isSgn b := by
  have := all_bytes (p := fun b => sgnL.any (· == b) == isSgn b) (by decide +kernel) b
  exact beq_iff_eq.1 this
theorem row_hex (b : UInt8) (j : Nat) (hj : j < 16) (r : UInt8) (hr : rowL[j]'(by show j < 16; exact hj) = r) : ((r.toNat : Int) == lowB b) = decide (hexZ b = j) := by
  subst hr
  have := all_bytes (p := fun b => (List.range 16).all fun j => ((((rowL.getD j 0).toNat : Int) == lowB b) == decide (hexZ b = j))) (by decide +kernel) b
  have h2 := List.all_eq_true.1 this j (List.mem_range.2 hj)
  have e : rowL.getD j 0 = rowL[j]'(by show j < 16; exact hj) := by
    rw [List.getD_eq_getElem?_getD, List.getElem?_eq_getElem (by show j < 16; exact hj)]
    rfl
  rw [e] at h2
  exact beq_iff_eq.1 h2
theorem hex_range (b : UInt8) : -1 ≤ hexZ b ∧ hexZ b ≤ 15 := by
  unfold hexZ
  repeat' split
  all_goals omega
/-- What is found up to j. -/
def seenZ (b : UInt8) (j : Nat) : Int := if 0 ≤ hexZ b ∧ hexZ b < j then hexZ b else -1
theorem seen_next (b : UInt8) (j : Nat) : seenZ b (j + 1) = if hexZ b = j then (j : Int) else seenZ b j := by
  unfold seenZ
  by_cases h : hexZ b = j
  · rw [if_pos h, if_pos (by omega), h]
  · rw [if_neg h]
    by_cases h2 : 0 ≤ hexZ b ∧ hexZ b < j
    · rw [if_pos h2, if_pos (by omega)]
    · rw [if_neg h2, if_neg (by omega)]
theorem seen_dig {b : UInt8} {base : Nat} (h : lxDig base b = true) : seenZ b base = hexZ b ∧ 0 ≤ hexZ b ∧ hexZ b < base := by
  have h2 := (dig_iff base b).1 h
  exact ⟨by unfold seenZ; rw [if_pos h2], h2⟩
theorem seen_none {b : UInt8} {base : Nat} (h : lxDig base b = false) : seenZ b base = -1 := by
  unfold seenZ
  rw [if_neg]
  intro h2
  have := (dig_iff (base : Int) b).2 h2
  rw [h] at this
  cases this
end
section
open Go.ChangeShapes Go.WideShapes Go.ChangeAt Go.RowKit Go.Sort BigFrame

theorem owns_of_block {w w' : World} {B : Nat} {T : TypeId} {s : Nat} {v : Value} {n : Nat} {xs : List Value} (h : w.ownsRow B T s v n xs) (hb : ∀ g, v.ownBlock = some g → w'.heap[g]? = w.heap[g]?) : w'.ownsRow B T s v n xs := by
  refine ⟨h.1, ?_⟩
  rcases h.2 with hn | ⟨g, cap, cur, rfl, hB, hg, r⟩
  · exact .inl hn
  · exact .inr ⟨g, cap, cur, rfl, hB, (hb g rfl).trans hg, r⟩
/-- Rows of other types lie in other blocks. -/
theorem owns_apart {w : World} {B B' : Nat} {T T' : TypeId} {s s' : Nat} {v v' : Value} {n n' : Nat} {xs xs' : List Value} (h : w.ownsRow B T s v n xs) (k : w.ownsRow B' T' s' v' n' xs') (hT : T ≠ T') : ∀ g, v.ownBlock = some g → v'.ownBlock ≠ some g := by
  intro g hg hg'
  rcases h.2 with ⟨rfl, _⟩ | ⟨a, _, _, rfl, _, ha, _⟩
  · simp [Value.ownBlock] at hg
  rcases k.2 with ⟨rfl, _⟩ | ⟨b, _, _, rfl, _, hb, _⟩
  · simp [Value.ownBlock] at hg'
  simp only [Value.ownBlock, Option.some.injEq] at hg hg'
  subst hg
  subst hg'
  rw [ha] at hb
  simp only [Option.some.injEq, Obj.cells.injEq] at hb
  exact hT hb.2.1
theorem Grows.kept {α : Type} {f : α → List Value} {s : Nat} {T : TypeId} {W w w1 : World} {B : Nat} {v : Value} {l : List α} {row : Option Nat} (h : Grows f s T W B v l w) (gr : w.grownBy w1 row) (hm : Made W w1) (hne : ∀ g, v.ownBlock = some g → row ≠ some g) : Grows f s T W B v l w1 := by
  refine ⟨hm, h.low, owns_of_block h.row fun g hg => gr.block g (h.row.lt g hg).2 fun e => hne g hg e.symm⟩
/-- The two rows. -/
structure LineTwo (T1 T2 : TypeId) (W : World) (v1 v2 : Value) (l1 : List Tk) (l2 : List Wr) (w : World) : Prop where
  fst : Grows Tk.cells 5 T1 W W.heap.size v1 l1 w
  snd : Grows Wr.cells 3 T2 W W.heap.size v2 l2 w
section
variable {T1 T2 : TypeId} {W w w1 : World} {v1 v2 : Value} {l1 : List Tk} {l2 : List Wr}
theorem two_start (W : World) : LineTwo T1 T2 W (.slice none 0 0) (.slice none 0 0) [] [] W := ⟨grows_nil (Made.refl W) (Nat.le_refl _), grows_nil (Made.refl W) (Nat.le_refl _)⟩
theorem LineTwo.made (h : LineTwo T1 T2 W v1 v2 l1 l2 w) : Made W w := h.fst.made
theorem LineTwo.next (h : LineTwo T1 T2 W v1 v2 l1 l2 w) (hm : Made w w1) : LineTwo T1 T2 W v1 v2 l1 l2 w1 := ⟨h.fst.next hm, h.snd.next hm⟩
theorem LineTwo.more1 {u1 : Value} {m1 : List Tk} {n : Nat} (hT : T1 ≠ T2) (h : LineTwo T1 T2 W v1 v2 l1 l2 w) (hn : l1.length + m1.length = n) (own : w1.ownsRow W.heap.size T1 5 u1 n (l1.flatMap Tk.cells ++ m1.flatMap Tk.cells)) (gr : w.grownBy w1 v1.ownBlock) : LineTwo T1 T2 W u1 v2 (l1 ++ m1) l2 w1 := by
  have h1 := h.fst.more hn own gr
  exact ⟨h1, h.snd.kept gr h1.made (fun g hg => owns_apart h.snd.row h.fst.row (Ne.symm hT) g hg)⟩
theorem LineTwo.more2 {u2 : Value} {m2 : List Wr} {n : Nat} (hT : T1 ≠ T2) (h : LineTwo T1 T2 W v1 v2 l1 l2 w) (hn : l2.length + m2.length = n) (own : w1.ownsRow W.heap.size T2 3 u2 n (l2.flatMap Wr.cells ++ m2.flatMap Wr.cells)) (gr : w.grownBy w1 v2.ownBlock) : LineTwo T1 T2 W v1 u2 l1 (l2 ++ m2) w1 := by
  have h1 := h.snd.more hn own gr
  exact ⟨h.fst.kept gr h1.made (fun g hg => owns_apart h.fst.row h.snd.row hT g hg), h1⟩
/-- .. and a token's variable. -/
structure LineTok (T1 T2 : TypeId) (W : World) (v1 v2 : Value) (l1 : List Tk) (l2 : List Wr) (B : Nat) (t : Tk) (w : World) : Prop where
  two : LineTwo T1 T2 W v1 v2 l1 l2 w
  blk : w.heap[B]? = some (.cells t.cells.toArray T1 (0, 0))
  lo : W.heap.size ≤ B
  far1 : ∀ g, v1.ownBlock = some g → g < B
  far2 : ∀ g, v2.ownBlock = some g → g < B
theorem tok_start (h : LineTwo T1 T2 W v1 v2 l1 l2 w) (t : Tk) : LineTok T1 T2 W v1 v2 l1 l2 w.heap.size t (w.alloc (.cells t.cells.toArray T1)) :=
  ⟨h.next ((Made.refl w).alloc (Nat.le_refl _) _), heap_alloc_new w _, h.made.size, fun g hg => (h.fst.row.lt g hg).2, fun g hg => (h.snd.row.lt g hg).2⟩
variable {B : Nat} {t : Tk}
theorem LineTok.next (h : LineTok T1 T2 W v1 v2 l1 l2 B t w) (hm : Made w w1) : LineTok T1 T2 W v1 v2 l1 l2 B t w1 := ⟨h.two.next hm, hm.heap h.blk, h.lo, h.far1, h.far2⟩
theorem LineTok.set (h : LineTok T1 T2 W v1 v2 l1 l2 B t w) (j : Nat) (v : Value) (u : Tk) (he : t.cells.toArray.setIfInBounds j v = u.cells.toArray) : LineTok T1 T2 W v1 v2 l1 l2 B u (w.setCell ⟨B, j, none⟩ v) := by
  have hm : Made W (w.setCell ⟨B, j, none⟩ v) := Below.setCell h.two.made (p := ⟨B, j, none⟩) h.lo v
  have hb : ∀ g, g < B → (w.setCell ⟨B, j, none⟩ v).heap[g]? = w.heap[g]? := fun g hg => heap_setCell_other w ⟨B, j, none⟩ g v (show g ≠ B by omega)
  refine ⟨⟨⟨hm, h.two.fst.low, owns_of_block h.two.fst.row fun g hg => hb g (h.far1 g hg)⟩, ⟨hm, h.two.snd.low, owns_of_block h.two.snd.row fun g hg => hb g (h.far2 g hg)⟩⟩, ?_, h.lo, h.far1, h.far2⟩
  have := heap_setCell_same w B j t.cells.toArray T1 v h.blk
  rwa [he] at this
theorem tok_cells (h : LineTok T1 T2 W v1 v2 l1 l2 B t w) : w.cell? ⟨B, 0, none⟩ = some (.int .u8 t.kind) ∧ w.cell? ⟨B, 1, none⟩ = some (.string (strOf t.text)) ∧ w.cell? ⟨B, 2, none⟩ = some (.int .i64 t.v) ∧ w.cell? ⟨B, 3, none⟩ = some (.int .i64 t.line) ∧ w.cell? ⟨B, 4, none⟩ = some (.int .i64 t.col) :=
  ⟨cell_of_lit h.blk 0, cell_of_lit h.blk 1, cell_of_lit h.blk 2, cell_of_lit h.blk 3, cell_of_lit h.blk 4⟩
end
theorem tk_one (l : List Tk) : ∀ u ∈ l.flatMap Tk.cells, u.oneCell' = true := by
  intro u hu
  obtain ⟨x, _, h⟩ := List.mem_flatMap.1 hu
  simp only [List.mem_cons, List.not_mem_nil, or_false] at h
  rcases h with rfl | rfl | rfl | rfl | rfl <;> rfl
theorem wr_one (l : List Wr) : ∀ u ∈ l.flatMap Wr.cells, u.oneCell' = true := by
  intro u hu
  obtain ⟨x, _, h⟩ := List.mem_flatMap.1 hu
  simp only [List.mem_cons, List.not_mem_nil, or_false] at h
  rcases h with rfl | rfl | rfl <;> rfl
theorem tok_olds (w : World) (T : TypeId) (t : Tk) : ∀ ad, (some ⟨w.heap.size, 0, none⟩ : Option Addr) = some ad → ∀ j u, ([t].flatMap Tk.cells)[j]? = some u → (w.alloc (.cells ([t].flatMap Tk.cells).toArray T)).cell? (ad.add j) = some u :=
  recs_olds tk_len (by decide) (recs_lit (l := [t]) (n := 1) tk_len (heap_alloc_new w _) rfl (by omega))
theorem wr_olds (w : World) (T : TypeId) (t : Wr) : ∀ ad, (some ⟨w.heap.size, 0, none⟩ : Option Addr) = some ad → ∀ j u, ([t].flatMap Wr.cells)[j]? = some u → (w.alloc (.cells ([t].flatMap Wr.cells).toArray T)).cell? (ad.add j) = some u :=
  recs_olds wr_len (by decide) (recs_lit (l := [t]) (n := 1) wr_len (heap_alloc_new w _) rfl (by omega))
end
section
open Go.ChangeShapes Go.WideShapes Go.ChangeAt Go.RowKit Go.Sort BigFrame

theorem low_range (b : UInt8) : 0 ≤ lowB b ∧ lowB b ≤ 255 := by
  have := b.toNat_lt
  unfold lowB
  split
  · omega
  · omega
section
attribute [local irreducible] World.cell?
set_option maxRecDepth 100000 in
set_option maxHeartbeats 16000000 in
theorem rvalue_any (S : ByteArray) (l : List UInt8) (h : IsStr S l) (hl : l.length ≤ 100000) (base : Nat) (hbase : base = 10 ∨ base = 16) : Still Tryz.prog 182 #[.string S, .int .i64 base] (.int .i64 (lxWord base l)) := by
  intro w
  have hz := str_size h
  have H := Lib.hid h
  have hsz : S.size ≤ 100000 := by omega
  have HZ := Lib.hid hz
  have hb1 : base ≤ 16 := by omega
  have hb0 : 10 ≤ base := by omega
  clear h hz hbase
  by_cases h0 : S.size = 0
  · have HL := Lib.hid (show lxWord base l = -1 by
      have : l = [] := List.eq_nil_of_length_eq_zero (by have := HZ.out; omega)
      rw [this]
      exact word_nil _)
    have hg : ((S.size : Int) == 0) = true := by rw [h0]; rfl
    clear h0
    go_enter Tryz.func182, Tryz.ntmps182
    go_wp2
    go_ret
    exact ⟨ret_int HL.out.symm, rfl⟩
  have hg : ((S.size : Int) == 0) = false := beq_eq_false_iff_ne.2 (by omega)
  have HNE := Lib.hid (show l ≠ [] from fun e => h0 (by have := HZ.out; rw [e] at this; exact this))
  clear h0
  go_enter Tryz.func182, Tryz.ntmps182
  go_wp2_with (fail)
  go_loopw [5, 6, 7] (fun vv gv iv wr => ∃ (k : Nat) (v : Int) (great : Bool), k ≤ S.size ∧ vv = .int .i64 v ∧ gv = .bool great ∧ iv = .int .i64 k ∧ ValAt base l k v great ∧ w = wr) (fun _ _ iv _ => S.size - (intOf iv).toNat)
  case atStart => exact ⟨0, 0, false, Nat.zero_le _, rfl, rfl, rfl, valAt_begin _ _, rfl⟩
  case round =>
    obtain ⟨k, v, great, hk, rfl, rfl, rfl, hva, rfl⟩ := hrel
    have HV := Lib.hid hva
    have hv0 := hva.low
    have hv1 := hva.max
    clear hva
    by_cases hlt : k < S.size
    · have hkl : k < l.length := by have := HZ.out; omega
      obtain ⟨b, hb⟩ : ∃ b, l[k] = b := ⟨_, rfl⟩
      have hidx := str_at H.out hkl b hb
      have HNX := Lib.hid (fun hd => valAt_next (show (1 : Int) ≤ base by omega) HV.out hkl b hb hd)
      have HBAD := Lib.hid (fun hd => word_bad (base := base) hkl b hb hd)
      have hlow : (65 ≤ b.toNat ∧ b.toNat ≤ 70 ∧ lowB b = (b.toNat : Int) + 32) ∨ (¬ (65 ≤ b.toNat ∧ b.toNat ≤ 70) ∧ lowB b = b.toNat) := by
        unfold lowB
        by_cases h : 65 ≤ b.toNat ∧ b.toNat ≤ 70
        · rw [if_pos h]; exact .inl ⟨h.1, h.2, rfl⟩
        · rw [if_neg h]; exact .inr ⟨h, rfl⟩
      have hrng := hex_range b
      have HSN := Lib.hid (seen_next b)
      have HRG := Lib.hid hrng
      clear hb hrng
      have hways : ∃ d : Int, 0 ≤ d ∧ d ≤ 255 ∧ d = lowB b := ⟨lowB b, (low_range b).1, (low_range b).2, rfl⟩
      obtain ⟨d, d0, d1, hd⟩ := hways
      rewrite [← hd] at hlow
      have HROW := Lib.hid (fun j hj r hr => by have := row_hex b j hj r hr; rwa [← hd] at this)
      have hbt := b.toNat_lt
      clear hd
      have hlow3 : ((65 : Int) ≤ (b.toNat : Int) ∧ (b.toNat : Int) ≤ 70 ∧ d = (b.toNat : Int) + 32) ∨ ((b.toNat : Int) < 65 ∧ d = b.toNat) ∨ ((65 : Int) ≤ (b.toNat : Int) ∧ (70 : Int) < (b.toNat : Int) ∧ d = b.toNat) := by omega
      clear hlow
      rcases hlow3 with ⟨h1, h2, h3⟩ | ⟨h1, h3⟩ | ⟨h1, h2, h3⟩
      all_goals
        have HD := Lib.hid h3
        clear h3
        go_upto_region 12 with (fail)
        rewrite [← HD.out]
        clear h1 HD hidx
        try clear h2
        go_wp2_with (fail)
        go_loopw [8, 10] (fun xv jv wq => ∃ (j : Nat) (x : Int), j ≤ base ∧ xv = .int .i64 x ∧ jv = .int .i64 j ∧ x = seenZ b j ∧ w = wq) (fun _ jv _ => base - (intOf jv).toNat)
        case atStart => exact ⟨0, -1, Nat.zero_le _, rfl, rfl, by unfold seenZ; rw [if_neg (by omega)], rfl⟩
        case round =>
          obtain ⟨j, x, hj, rfl, rfl, hx, rfl⟩ := hrel
          have HX := Lib.hid hx
          clear hx
          by_cases hjl : j < base
          · have hj16 : j < 16 := by omega
            obtain ⟨r, hr⟩ : ∃ r, rowL[j]'(by show j < 16; exact hj16) = r := ⟨_, rfl⟩
            have hrx : (Instr.index 9 (.string ⟨#[48, 49, 50, 51, 52, 53, 54, 55, 56, 57, 97, 98, 99, 100, 101, 102]⟩) (.int .i64 j)).run Tryz.prog w = .ok (.int .u8 r.toNat) w := str_at (l := rowL) rfl (by show j < 16; exact hj16) r hr w
            have hbe := HROW.out j hj16 r hr
            have hsn := HSN.out j
            clear hr
            by_cases he : hexZ b = j
            · rewrite [decide_eq_true he] at hbe
              rewrite [if_pos he] at hsn
              have HN := Lib.hid hsn
              clear he hsn
              go_wp2
              go_roundw
              case rel => exact ⟨j + 1, j, by omega, rfl, by go_num, HN.out.symm, trivial⟩
              case measure => simp [intOf]; omega
            · rewrite [decide_eq_false he] at hbe
              rewrite [if_neg he] at hsn
              have HN := Lib.hid hsn
              clear he hsn
              go_wp2
              go_roundw
              case rel => exact ⟨j + 1, x, by omega, rfl, by go_num, by rw [HN.out]; exact HX.out, trivial⟩
              case measure => simp [intOf]; omega
          · obtain rfl : j = base := by omega
            cases hdg : lxDig j b with
            | false =>
              obtain rfl : x = -1 := HX.out.trans (seen_none hdg)
              have HR := Lib.hid (HBAD.out hdg)
              clear hdg
              go_wp2
              go_ret
              exact ⟨ret_int HR.out.symm, rfl⟩
            | true =>
              obtain ⟨e1, e2, e3⟩ := seen_dig hdg
              have hxe : x = hexZ b := HX.out.trans e1
              have HN := HNX.out hdg
              rewrite [← hxe] at HN e2 e3
              have HNL := Lib.hid HN.1
              have HNG := Lib.hid HN.2
              have m0 : 0 ≤ v * (j : Int) := Int.mul_nonneg hv0 (by omega)
              have m1 : v * (j : Int) ≤ 17592186044416 := by
                have h7 : v * (j : Int) ≤ 1099511627776 * 16 := Int.mul_le_mul hv1 (by omega) (by omega) (by omega)
                omega
              clear hxe HN e1 hdg HX HNX HBAD HSN HROW
              generalize hm : v * (j : Int) = vm at *
              have hw : wrap64 (v * (j : Int)) = vm := by
                rw [hm]
                unfold wrap64
                omega
              clear hm
              by_cases hgt : 1099511627776 < vm + x
              · have HVN := Lib.hid (HNG.out hgt)
                clear HNL HNG
                go_wp2
                go_roundw
                case rel => exact ⟨k + 1, 0, true, by omega, rfl, rfl, by go_num, HVN.out, trivial⟩
                case measure => simp [intOf]; omega
              · have HVN := Lib.hid (HNL.out (by omega))
                have hle : vm + x ≤ 1099511627776 := by omega
                clear HNL HNG hgt
                go_wp2
                go_roundw
                case rel => exact ⟨k + 1, vm + x, great, by omega, by go_num, rfl, by go_num, HVN.out, trivial⟩
                case measure => simp [intOf]; omega
    · obtain rfl : k = S.size := by omega
      have hva := HV.out
      rewrite [HZ.out] at hva
      have HR := Lib.hid (word_all HNE.out hva)
      clear hva HV
      cases great with
      | true =>
        have HR2 := Lib.hid (show lxWord base l = -2 by rw [HR.out]; rfl)
        clear HR
        go_wp2
        go_ret
        exact ⟨ret_int HR2.out.symm, rfl⟩
      | false =>
        have HR2 := Lib.hid (show lxWord base l = v by rw [HR.out]; rfl)
        clear HR
        go_wp2
        go_ret
        exact ⟨ret_int HR2.out.symm, rfl⟩
end
end
section
open Go.ChangeShapes Go.WideShapes Go.ChangeAt Go.RowKit Go.Sort BigFrame

section
attribute [local irreducible] World.cell?
theorem str_tail {S : ByteArray} {a b : UInt8} {r : List UInt8} (h : IsStr S (a :: b :: r)) : IsStr (S.extract 2 S.size) r := by
  have h2 := str_part h 2 S.size
  have hs := str_size h
  rw [hs] at h2 ⊢
  have e : (List.drop 2 (a :: b :: r)).take ((a :: b :: r).length - 2) = r := by
    show r.take (r.length + 1 + 1 - 2) = r
    rw [List.take_of_length_le (by omega)]
  rw [e] at h2
  exact h2
set_option maxRecDepth 100000 in
set_option maxHeartbeats 8000000 in
theorem rnumber_any (S : ByteArray) (l : List UInt8) (h : IsStr S l) (hl : l.length ≤ 100000) : Still Tryz.prog 137 #[.string S] (.int .i64 (lxNum l)) := by
  intro w
  have hz := str_size h
  have H := Lib.hid h
  have hsz : S.size ≤ 100000 := by omega
  have H10 := Lib.hid (show Calls Tryz.prog 182 #[.string S, .int .i64 10] w fun e w' => e = .returned (.int .i64 (lxWord 10 l)) ∧ w = w' from rvalue_any S l h hl 10 (.inl rfl) w)
  have hways : (S.size ≤ 1 ∧ lxNum l = lxWord 10 l) ∨ (∃ a x r, l = a :: x :: r ∧ (a.toNat ≠ 48 ∨ (a.toNat = 48 ∧ x.toNat ≠ 120 ∧ x.toNat ≠ 88)) ∧ lxNum l = lxWord 10 l) ∨ (∃ a x r, l = a :: x :: r ∧ a.toNat = 48 ∧ (x.toNat = 120 ∨ (x.toNat ≠ 120 ∧ x.toNat = 88)) ∧ lxNum l = lxWord 16 r) := by
    match l, hz with
    | [], hz => exact .inl ⟨by rw [hz]; exact Nat.zero_le _, rfl⟩
    | [a], hz => exact .inl ⟨by rw [hz]; exact Nat.le_refl _, rfl⟩
    | a :: x :: r, hz =>
      by_cases h1 : a.toNat = 48 ∧ (x.toNat = 120 ∨ x.toNat = 88)
      · exact .inr (.inr ⟨a, x, r, rfl, h1.1, by omega, num_hex h1.1 h1.2⟩)
      · exact .inr (.inl ⟨a, x, r, rfl, by omega, num_dec fun a' x' r' e hc => h1 (by obtain ⟨rfl, e2⟩ := List.cons.inj e; obtain ⟨rfl, -⟩ := List.cons.inj e2; exact hc)⟩)
  have HZ := Lib.hid hz
  clear h hz
  rcases hways with ⟨hs, he⟩ | ⟨a, x, r, hlr, hax, he⟩ | ⟨a, x, r, hlr, ha, hx, he⟩
  · have HE := Lib.hid he
    have hs2 : (S.size : Int) ≤ 1 := by omega
    clear he
    go_enter Tryz.func137, Tryz.ntmps137
    go_wp2_with (fail)
    refine H10.out.mono ?_
    rintro e w' ⟨rfl, rfl⟩
    go_wp2
    go_ret
    exact ⟨ret_int HE.out.symm, rfl⟩
  · have HE := Lib.hid he
    have hs2 : (1 : Int) < (S.size : Int) := by rw [HZ.out, hlr]; simp; omega
    have hi0 : (Instr.index 9 (.string S) (.int .i64 0)).run Tryz.prog w = .ok (.int .u8 a.toNat) w := str_at (w := w) H.out (k := 0) (by rw [hlr]; simp) a (by subst hlr; rfl)
    have hi1 : (Instr.index 9 (.string S) (.int .i64 1)).run Tryz.prog w = .ok (.int .u8 x.toNat) w := str_at (w := w) H.out (k := 1) (by rw [hlr]; simp) x (by subst hlr; rfl)
    clear he hlr
    have hax2 : ((a.toNat : Int) == 48) = false ∨ (((a.toNat : Int) == 48) = true ∧ ((x.toNat : Int) == 120) = false ∧ ((x.toNat : Int) == 88) = false) := by
      rcases hax with h | ⟨h1, h2, h3⟩
      · exact .inl (beq_eq_false_iff_ne.2 (by omega))
      · exact .inr ⟨beq_iff_eq.2 (by omega), beq_eq_false_iff_ne.2 (by omega), beq_eq_false_iff_ne.2 (by omega)⟩
    clear hax
    rcases hax2 with g0 | ⟨g0, g1, g2⟩
    all_goals
      go_enter Tryz.func137, Tryz.ntmps137
      go_wp2_with (fail)
      refine H10.out.mono ?_
      rintro e w' ⟨rfl, rfl⟩
      go_wp2
      go_ret
      exact ⟨ret_int HE.out.symm, rfl⟩
  · have HE := Lib.hid he
    have hs2 : (1 : Int) < (S.size : Int) := by rw [HZ.out, hlr]; simp; omega
    have hi0 : (Instr.index 9 (.string S) (.int .i64 0)).run Tryz.prog w = .ok (.int .u8 a.toNat) w := str_at (w := w) H.out (k := 0) (by rw [hlr]; simp) a (by subst hlr; rfl)
    have hi1 : (Instr.index 9 (.string S) (.int .i64 1)).run Tryz.prog w = .ok (.int .u8 x.toNat) w := str_at (w := w) H.out (k := 1) (by rw [hlr]; simp) x (by subst hlr; rfl)
    have H16 := Lib.hid (show Calls Tryz.prog 182 #[.string (S.extract 2 S.size), .int .i64 16] w fun e w' => e = .returned (.int .i64 (lxWord 16 r)) ∧ w = w' from rvalue_any _ r (by subst hlr; exact str_tail H.out) (by subst hlr; simp at hl; omega) 16 (.inr rfl) w)
    have hsl := run_slice_string_l (P := Tryz.prog) w 9 S (by kernel_rfl) .i64 2 (by omega) (by omega)
    have g0 : ((a.toNat : Int) == 48) = true := beq_iff_eq.2 (by omega)
    clear he hlr ha H10
    have hx2 : ((x.toNat : Int) == 120) = true ∨ (((x.toNat : Int) == 120) = false ∧ ((x.toNat : Int) == 88) = true) := by
      rcases hx with h | ⟨h1, h2⟩
      · exact .inl (beq_iff_eq.2 (by omega))
      · exact .inr ⟨beq_eq_false_iff_ne.2 (by omega), beq_iff_eq.2 (by omega)⟩
    clear hx
    rcases hx2 with g1 | ⟨g1, g2⟩
    all_goals
      go_enter Tryz.func137, Tryz.ntmps137
      go_wp2_with (fail)
      refine H16.out.mono ?_
      rintro e w' ⟨rfl, rfl⟩
      go_wp2
      go_ret
      exact ⟨ret_int HE.out.symm, rfl⟩
end
end
section
open Go.ChangeShapes Go.WideShapes Go.ChangeAt Go.RowKit Go.Sort BigFrame

theorem str_add (S T : ByteArray) (h : S.size + T.size ≤ 1000000) (w : World) : (binOp .add 9 (.string S) (.string T)).run Tryz.prog w = .ok (.string (S ++ T)) w := by
  have h2 := run_string_add_sum (P := Tryz.prog) w S T (by omega)
  simp only [binOp]
  exact h2
theorem str_cat {S T : ByteArray} {a b : List UInt8} (h : IsStr S a) (k : IsStr T b) : IsStr (S ++ T) (a ++ b) := by
  subst h k
  show (S ++ T).data.toList = _
  rw [ByteArray.data_append, Array.toList_append]
theorem strOf_is (l : List UInt8) : IsStr (strOf l) l := rfl
/-- How long the text is that is written out of a text's tokens. -/
theorem back_few : ∀ (n : Nat) (l : List UInt8), l.length ≤ n → ∀ line col : Int, (backL (lxRun line col l).1).length ≤ 2 * l.length + 1
  | _, [], _, line, col => by
    rw [lxRun_nil]
    exact Nat.zero_le _
  | 0, b :: r, h, _, _ => by simp at h
  | n + 1, b :: r, h, line, col => by
    rw [List.length_cons] at h
    by_cases hb : b.toNat = 10
    · rw [lxRun_lf _ _ hb]
      have hne := run_ne r.length r (Nat.le_refl _) (line + 1) 1
      have ih := back_few n r (by omega) (line + 1) 1
      simp only []
      rw [back_cons _ hne, List.length_append, List.length_cons]
      have : (oneB (lxEnd line col)).length = 1 := rfl
      omega
    · rw [lxRun_cut _ _ hb]
      have hle := cut_le b r
      have hne := run_ne (r.drop (lxCut b r).more).length (r.drop (lxCut b r).more) (Nat.le_refl _) line (col + ((lxCut b r).more : Nat) + 1)
      have ih := back_few n (r.drop (lxCut b r).more) (by rw [List.length_drop]; omega) line (col + ((lxCut b r).more : Nat) + 1)
      rw [List.length_drop] at ih
      simp only []
      generalize (lxRun line (col + ((lxCut b r).more : Nat) + 1) (r.drop (lxCut b r).more)).1 = T at *
      rw [List.length_cons]
      unfold lxTok
      split
      · rw [List.singleton_append, back_cons _ hne, List.length_append]
        have h1 : (oneB ⟨(lxCut b r).kind, (b :: r).take ((lxCut b r).more + 1), (lxCut b r).v, line, col⟩).length ≤ (lxCut b r).more + 2 := by
          unfold oneB
          split
          · simp
          · rw [List.length_append, List.length_take, List.length_cons, List.length_singleton]
            omega
        omega
      · rw [List.nil_append]
        omega
theorem back_len (l : List UInt8) : (backL (lexT l)).length ≤ 2 * l.length + 1 := back_few l.length l (Nat.le_refl _) 1 1
/-- What is written of one token. -/
theorem back_drop {T : List Tk} {k : Nat} (h : k < T.length) (x : Tk) (hx : T[k] = x) : backL (T.drop k) = (if x.kind = 4 then (if k + 1 < T.length then [10] else []) else x.text ++ [32]) ++ backL (T.drop (k + 1)) := by
  rw [List.drop_eq_getElem_cons h, hx]
  by_cases hk : k + 1 < T.length
  · rw [back_cons _ (by intro e; have := List.drop_eq_nil_iff.1 e; omega), if_pos hk]
    rfl
  · have e : T.drop (k + 1) = [] := List.drop_eq_nil_of_le (by omega)
    rw [e, if_neg hk]
    show (if x.kind = 4 then [] else x.text ++ [32]) = (if x.kind = 4 then [] else x.text ++ [32]) ++ []
    rw [List.append_nil]
end
end Go.Proofs.YtnfmlmamgkpocaaGreatDoor
