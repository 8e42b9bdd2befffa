/- A packet among a law's arguments, opened into its instructions and marks; it reads behind a call that makes new memory alone as before it. -/
import Derived.Test.YtdaildmoodfocaaDoorInstOpen
import Derived.Test.YtdaildmoodfocaaDoorRulesMath
import Derived.Test.YtdaildmoodfocaaDoorClose
import Derived.Deep.Slices
import Derived.Carry
namespace Go.Proofs.YtdaildmoodfocaaDoor
open Go.ChangeShapes Go.WideShapes Go.ChangeAt Go.RowKit Go.Deep

/-- A slice of instructions in memory, wherever it lies. -/
structure Insts (w : World) (ao : Option Addr) (cap : Nat) (l : List In) : Prop where
  room : l.length ≤ cap
  max : cap ≤ maxLen
  small : ∀ x ∈ l, x.small
  bare : ao = none → l = [] ∧ cap = 0
  cell : ∀ t (h : t < l.length), ∃ b o, ao = some ⟨b, o, none⟩ ∧ ∀ r, r < 11 → w.cell? ⟨b, o + t * 11 + r, none⟩ = (l[t].cells)[r]?
theorem Insts.keep {w w' : World} {ao : Option Addr} {cap : Nat} {l : List In} (h : Insts w ao cap l) (hc : ∀ a v, w.cell? a = some v → w'.cell? a = some v) : Insts w' ao cap l :=
  ⟨h.room, h.max, h.small, h.bare, fun t ht => by
    obtain ⟨b, o, e, hcell⟩ := h.cell t ht
    refine ⟨b, o, e, fun r hr => ?_⟩
    have h1 := hcell r hr
    have h2 : r < (l[t].cells).length := hr
    rw [List.getElem?_eq_getElem h2] at h1 ⊢
    exact hc _ _ h1⟩
theorem insts_made {w w' : World} {ao : Option Addr} {cap : Nat} {l : List In} (h : Insts w ao cap l) (hm : Made w w') : Insts w' ao cap l :=
  h.keep fun a _ k => (World.cell?_of_block (hm.block a.block (World.block_lt_of_cell? w a k))).trans k
/-- The cells of one of them. -/
theorem insts_cells {w : World} {ao : Option Addr} {cap : Nat} {l : List In} (h : Insts w ao cap l) {t : Nat} (ht : t < l.length) (x : In) (hx : l[t] = x) : ∃ b o, ao = some ⟨b, o, none⟩ ∧
    w.cell? ⟨b, o + t * 11, none⟩ = some (.int .u8 x.op) ∧ w.cell? ⟨b, o + t * 11 + 1, none⟩ = some (.int .u8 x.d) ∧ w.cell? ⟨b, o + t * 11 + 2, none⟩ = some (.int .u8 x.s) ∧ w.cell? ⟨b, o + t * 11 + 3, none⟩ = some (.int .u8 x.t) ∧
    w.cell? ⟨b, o + t * 11 + 4, none⟩ = some (.int .u8 x.n) ∧ w.cell? ⟨b, o + t * 11 + 5, none⟩ = some (.int .u8 x.pred) ∧ w.cell? ⟨b, o + t * 11 + 6, none⟩ = some (.int .u8 x.mode) ∧ w.cell? ⟨b, o + t * 11 + 7, none⟩ = some (.bool x.new) ∧
    w.cell? ⟨b, o + t * 11 + 8, none⟩ = some (.bool x.ext) ∧ w.cell? ⟨b, o + t * 11 + 9, none⟩ = some (.int .u16 x.count) ∧ w.cell? ⟨b, o + t * 11 + 10, none⟩ = some (.int .i64 x.imm) := by
  subst hx
  obtain ⟨b, o, e, hc⟩ := h.cell t ht
  exact ⟨b, o, e, hc 0 (by omega), hc 1 (by omega), hc 2 (by omega), hc 3 (by omega), hc 4 (by omega), hc 5 (by omega), hc 6 (by omega), hc 7 (by omega), hc 8 (by omega), hc 9 (by omega), hc 10 (by omega)⟩
abbrev pkV (ao : Option Addr) (n cap : Nat) (e0 e1 raw dup : Bool) : Value := .agg #[.slice ao n cap, .bool e0, .bool e1, .bool raw, .bool dup]
theorem laid_out10 : laidOutB Tryd.prog = true := by kernel_rfl
theorem cells_pk : Tryd.prog.cellsOf 27 = 5 := by kernel_rfl
theorem cells_sl : Tryd.prog.cellsOf 25 = 1 := by kernel_rfl
theorem array5 {α : Type} {cs : Array α} (h : cs.size = 5) : ∃ c0 c1 c2 c3 c4, cs = #[c0, c1, c2, c3, c4] := by
  obtain ⟨l⟩ := cs
  match l, h with
  | [c0, c1, c2, c3, c4], _ => exact ⟨c0, c1, c2, c3, c4, rfl⟩
theorem list5 {α : Type} {l : List α} (h : l.length = 5) : ∃ c0 c1 c2 c3 c4, l = [c0, c1, c2, c3, c4] := by
  match l, h with
  | [c0, c1, c2, c3, c4], _ => exact ⟨c0, c1, c2, c3, c4, rfl⟩
section
variable {H : Type} {enc : TypeId × Value → H} {w : World} {base : Nat} {spare : Nat → Bool} {held : Bool}
set_option maxRecDepth 100000 in
theorem open_inst_cells {fuel : Nat} {cs : List Value} {z : DataW H × List MemPlace} (hlen0 : cs.length = 11) (hf : DataW.trod enc Tryd.prog w base spare held fuel 24 cs = some z) : ∃ x : In, cs = x.cells ∧ x.small := by
  obtain ⟨xs, n, _, hx, _, hlen, hfld⟩ := DataW.trod_struct Tryd.underlying24 hf
  obtain ⟨c0, c1, c2, c3, c4, c5, c6, c7, c8, c9, c10, rfl⟩ := list11 hlen0
  obtain ⟨y0, y1, y2, y3, y4, y5, y6, y7, y8, y9, y10, rfl⟩ := list11 hlen
  have h0 : DataW.trod enc Tryd.prog w base spare held n 5 [c0] = some y0 := by simpa [cells_u8] using hfld 0 _ rfl
  obtain ⟨a0, e0, hy0, w0⟩ := DataW.trod_int Tryd.underlying5 h0
  obtain rfl : c0 = _ := List.head_eq_of_cons_eq e0
  subst hy0
  have h1 : DataW.trod enc Tryd.prog w base spare held n 5 [c1] = some y1 := by simpa [cells_u8] using hfld 1 _ rfl
  obtain ⟨a1, e1, hy1, w1⟩ := DataW.trod_int Tryd.underlying5 h1
  obtain rfl : c1 = _ := List.head_eq_of_cons_eq e1
  subst hy1
  have h2 : DataW.trod enc Tryd.prog w base spare held n 5 [c2] = some y2 := by simpa [cells_u8] using hfld 2 _ rfl
  obtain ⟨a2, e2, hy2, w2⟩ := DataW.trod_int Tryd.underlying5 h2
  obtain rfl : c2 = _ := List.head_eq_of_cons_eq e2
  subst hy2
  have h3 : DataW.trod enc Tryd.prog w base spare held n 5 [c3] = some y3 := by simpa [cells_u8] using hfld 3 _ rfl
  obtain ⟨a3, e3, hy3, w3⟩ := DataW.trod_int Tryd.underlying5 h3
  obtain rfl : c3 = _ := List.head_eq_of_cons_eq e3
  subst hy3
  have h4 : DataW.trod enc Tryd.prog w base spare held n 5 [c4] = some y4 := by simpa [cells_u8] using hfld 4 _ rfl
  obtain ⟨a4, e4, hy4, w4⟩ := DataW.trod_int Tryd.underlying5 h4
  obtain rfl : c4 = _ := List.head_eq_of_cons_eq e4
  subst hy4
  have h5 : DataW.trod enc Tryd.prog w base spare held n 5 [c5] = some y5 := by simpa [cells_u8] using hfld 5 _ rfl
  obtain ⟨a5, e5, hy5, w5⟩ := DataW.trod_int Tryd.underlying5 h5
  obtain rfl : c5 = _ := List.head_eq_of_cons_eq e5
  subst hy5
  have h6 : DataW.trod enc Tryd.prog w base spare held n 5 [c6] = some y6 := by simpa [cells_u8] using hfld 6 _ rfl
  obtain ⟨a6, e6, hy6, w6⟩ := DataW.trod_int Tryd.underlying5 h6
  obtain rfl : c6 = _ := List.head_eq_of_cons_eq e6
  subst hy6
  have h7 : DataW.trod enc Tryd.prog w base spare held n 4 [c7] = some y7 := by simpa [cells_bool] using hfld 7 _ rfl
  obtain ⟨a7, e7, hy7⟩ := DataW.trod_bool Tryd.underlying4 h7
  obtain rfl : c7 = _ := List.head_eq_of_cons_eq e7
  subst hy7
  have h8 : DataW.trod enc Tryd.prog w base spare held n 4 [c8] = some y8 := by simpa [cells_bool] using hfld 8 _ rfl
  obtain ⟨a8, e8, hy8⟩ := DataW.trod_bool Tryd.underlying4 h8
  obtain rfl : c8 = _ := List.head_eq_of_cons_eq e8
  subst hy8
  have h9 : DataW.trod enc Tryd.prog w base spare held n 22 [c9] = some y9 := by simpa [cells_u16] using hfld 9 _ rfl
  obtain ⟨a9, e9, hy9, w9⟩ := DataW.trod_int Tryd.underlying22 h9
  obtain rfl : c9 = _ := List.head_eq_of_cons_eq e9
  subst hy9
  have h10 : DataW.trod enc Tryd.prog w base spare held n 2 [c10] = some y10 := by simpa [cells_i64] using hfld 10 _ rfl
  obtain ⟨a10, e10, hy10, w10⟩ := DataW.trod_int Tryd.underlying2 h10
  obtain rfl : c10 = _ := List.head_eq_of_cons_eq e10
  subst hy10
  exact ⟨⟨a0, a1, a2, a3, a4, a5, a6, a7, a8, a9, a10⟩, rfl, ⟨(u8_wf w0).1, (u8_wf w0).2, (u8_wf w1).1, (u8_wf w1).2, (u8_wf w2).1, (u8_wf w2).2, (u8_wf w3).1, (u8_wf w3).2, (u8_wf w4).1, (u8_wf w4).2, (u8_wf w5).1, (u8_wf w5).2, (u8_wf w6).1, (u8_wf w6).2, (u16_wf w9).1, (u16_wf w9).2, (i64_wf w10).1, (i64_wf w10).2⟩⟩
end
theorem add_plain (b o k : Nat) : (⟨b, o, none⟩ : Addr).add k = ⟨b, o + k, none⟩ := by
  unfold Addr.add
  split
  · rename_i h; subst h; rfl
  · rfl
section
variable {H : Type} {enc : TypeId × Value → H} {w : World}
theorem choose_list {P : Nat → In → Prop} : ∀ n : Nat, (∀ t, t < n → ∃ x, P t x) → ∃ l : List In, l.length = n ∧ ∀ t (h : t < l.length), P t l[t]
  | 0, _ => ⟨[], rfl, fun t h => absurd h (Nat.not_lt_zero t)⟩
  | n + 1, h => by
    obtain ⟨l, hl, hp⟩ := choose_list n fun t ht => h t (by omega)
    obtain ⟨x, hx⟩ := h n (by omega)
    refine ⟨l ++ [x], by simp [hl], fun t ht => ?_⟩
    simp only [List.length_append, List.length_cons, List.length_nil] at ht
    by_cases h1 : t < l.length
    · rw [List.getElem_append_left h1]
      exact hp t h1
    · obtain rfl : t = n := by omega
      subst hl
      simpa using hx
/-- A slice of instructions, opened. -/
theorem open_insts {fuel : Nat} {ao : Option Addr} {n cap : Nat} {z : DataW H × List MemPlace} (hf : DataW.trod enc Tryd.prog w 0 (fun _ => true) true fuel 25 [.slice ao n cap] = some z) : ∃ l : List In, l.length = n ∧ Insts w ao cap l := by
  rcases open_slice Tryd.underlying25 hf with ⟨hcs, _⟩ | ⟨a, len, cap', m, k, D, Pl, hcs, _, hl, hm, hmm, _, hx⟩
  · simp only [List.cons.injEq, Value.slice.injEq, and_true] at hcs
    obtain ⟨rfl, rfl, rfl⟩ := hcs
    exact ⟨[], rfl, Nat.le_refl _, Nat.zero_le _, fun x hx => by simp at hx, fun _ => ⟨rfl, rfl⟩, fun t ht => absurd ht (Nat.not_lt_zero t)⟩
  · simp only [List.cons.injEq, Value.slice.injEq, and_true] at hcs
    obtain ⟨rfl, rfl, rfl⟩ := hcs
    simp only [if_true] at hmm
    subst hmm
    rw [cells_inst] at hx
    have hspot : 0 < n → a.spot = none := fun h0 => by
      obtain ⟨cs', h1, h2⟩ := hx 0 (by omega)
      obtain ⟨h3, h4, h5⟩ := World.cells?_some h1
      obtain ⟨x, rfl, _⟩ := open_inst_cells h4 h2
      have h6 := h5 0 (by omega)
      simpa [Addr.add] using World.cell?_spot (h6.trans rfl)
    obtain ⟨l, hll, hp⟩ := choose_list (P := fun t x => x.small ∧ ∃ b o, a = ⟨b, o, none⟩ ∧ ∀ r, r < 11 → w.cell? ⟨b, o + t * 11 + r, none⟩ = (x.cells)[r]?) n (fun t ht => by
      obtain ⟨cs', h1, h2⟩ := hx t (by omega)
      obtain ⟨h3, h4, h5⟩ := World.cells?_some h1
      obtain ⟨x, rfl, hs⟩ := open_inst_cells h4 h2
      have hsp := hspot (by omega)
      obtain ⟨b, o, sp⟩ := a
      have hsp2 : sp = none := hsp
      subst hsp2
      refine ⟨x, hs, b, o, rfl, fun r hr => ?_⟩
      rw [← h5 r hr, add_plain, add_plain])
    exact ⟨l, hll, by omega, hm, fun x hx => by
      obtain ⟨t, ht, rfl⟩ := List.mem_iff_getElem.1 hx
      exact (hp t ht).1, fun h => by simp at h, fun t ht => by
      obtain ⟨b, o, e, hc⟩ := (hp t ht).2
      exact ⟨b, o, by rw [e], hc⟩⟩
set_option maxRecDepth 100000 in
theorem open_packet {base : Nat} {v : Value} {d : DataW H} {p : List MemPlace} (hval : Value.okWide Tryd.prog w .any base 27 v) (h : DataW.Trod enc Tryd.prog w 0 (fun _ => true) true 27 v d p) :
    ∃ (ao : Option Addr) (cap : Nat) (l : List In) (e0 e1 raw dup : Bool), v = pkV ao l.length cap e0 e1 raw dup ∧ Insts w ao cap l := by
  obtain ⟨cs, rfl, hsz⟩ := okWide_struct Tryd.underlying27 hval
  obtain ⟨fuel, hf⟩ := h
  obtain ⟨xs, n, _, hx, _, hlen, hfld⟩ := DataW.trod_struct Tryd.underlying27 hf
  obtain ⟨c0, c1, c2, c3, c4, rfl⟩ := array5 (hsz.trans cells_pk)
  obtain ⟨y0, y1, y2, y3, y4, rfl⟩ := list5 hlen
  have h0 : DataW.trod enc Tryd.prog w 0 (fun _ => true) true n 25 [c0] = some y0 := by simpa [Value.cells, cells_sl] using hfld 0 _ rfl
  have h1 : DataW.trod enc Tryd.prog w 0 (fun _ => true) true n 4 [c1] = some y1 := by simpa [Value.cells, cells_bool, cells_sl] using hfld 1 _ rfl
  obtain ⟨a1, e1, hy1⟩ := DataW.trod_bool Tryd.underlying4 h1
  obtain rfl : c1 = _ := List.head_eq_of_cons_eq e1
  have h2 : DataW.trod enc Tryd.prog w 0 (fun _ => true) true n 4 [c2] = some y2 := by simpa [Value.cells, cells_bool, cells_sl] using hfld 2 _ rfl
  obtain ⟨a2, e2, hy2⟩ := DataW.trod_bool Tryd.underlying4 h2
  obtain rfl : c2 = _ := List.head_eq_of_cons_eq e2
  have h3 : DataW.trod enc Tryd.prog w 0 (fun _ => true) true n 4 [c3] = some y3 := by simpa [Value.cells, cells_bool, cells_sl] using hfld 3 _ rfl
  obtain ⟨a3, e3, hy3⟩ := DataW.trod_bool Tryd.underlying4 h3
  obtain rfl : c3 = _ := List.head_eq_of_cons_eq e3
  have h4 : DataW.trod enc Tryd.prog w 0 (fun _ => true) true n 4 [c4] = some y4 := by simpa [Value.cells, cells_bool, cells_sl] using hfld 4 _ rfl
  obtain ⟨a4, e4, hy4⟩ := DataW.trod_bool Tryd.underlying4 h4
  obtain rfl : c4 = _ := List.head_eq_of_cons_eq e4
  have hs : ∃ ao n cap, c0 = .slice ao n cap := by
    rcases open_slice Tryd.underlying25 h0 with ⟨hcs, _⟩ | ⟨a, len, cap', m, k, D, Pl, hcs, _⟩
    · exact ⟨_, _, _, List.head_eq_of_cons_eq hcs⟩
    · exact ⟨_, _, _, List.head_eq_of_cons_eq hcs⟩
  obtain ⟨ao, n0, cap, rfl⟩ := hs
  obtain ⟨l, rfl, hi⟩ := open_insts h0
  exact ⟨ao, cap, l, a1, a2, a3, a4, rfl, hi⟩
theorem keep_packet {w' : World} {v : Value} {d : DataW H} {p : List MemPlace} (h : DataW.Trod enc Tryd.prog w 0 (fun _ => true) true 27 v d p)
    (hm : Made w w') (hlt : ∀ x ∈ p, x.block < w.heap.size) (sp : Nat → Bool) (hs : ∀ x ∈ p, sp x.block = true) : DataW.Trod enc Tryd.prog w' 0 sp true 27 v d p :=
  WideElems.Trod_stays laid_out10 (by kernel_rfl) (of_decide_eq_true (by kernel_rfl)) h (fun x hx => hm.same (hlt x hx)) hs
end
end Go.Proofs.YtdaildmoodfocaaDoor
