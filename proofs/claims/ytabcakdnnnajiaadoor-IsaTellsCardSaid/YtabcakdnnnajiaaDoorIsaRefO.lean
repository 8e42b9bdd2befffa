/- What Of of the document's answer for isa returns, for every op. -/
import Derived.Test.YtabcakdnnnajiaaDoorIsaRefF
import Derived.Test.YtabcakdnnnajiaaDoorIsaRefL
import Derived.Test.YtabcakdnnnajiaaDoorIsaAt
import Derived.Deep.RegionLaw
namespace Go.Proofs.YtabcakdnnnajiaaDoor
open Go.ChangeShapes Go.WideShapes Go.ChangeAt Go.RowKit Go.Sort BigFrame

/-- A row and whether it is there, the row's fields a slice of elements of type E. -/
def IsOfE (E : TypeId) (W : World) (op : Int) (e : Ending) (w' : World) : Prop := ∃ p n cap, e = .returned (.tuple #[.agg #[.int .u8 (opN op), .string (nameZ (opN op)), .int .u8 (classZ (opN op)), .int .u8 (slotsZ (classZ (opN op))), .slice p n cap], .bool (isOp op)]) ∧ Made W w' ∧
  w'.ownsRow W.heap.size E 5 (.slice p n cap) (fieldsZ (opN op)).length (flatF (fieldsZ (opN op)))
theorem class_at : ∀ op, op < 32 → 1 ≤ op → ∃ k, k < 6 ∧ ((classC op).toNat : Int) = [65, 88, 76, 83, 74, 67].getD k 0 ∧ classZ (op : Nat) = (k : Int) + 1 := by
  have h : ∀ op, op < 32 → 1 ≤ op → (List.range 6).any (fun k => decide (((classC op).toNat : Int) = [65, 88, 76, 83, 74, 67].getD k 0) && decide (classZ (op : Nat) = (k : Int) + 1)) = true := by decide +kernel
  intro op h1 h2
  obtain ⟨k, hk, hh⟩ := List.any_eq_true.1 (h op h1 h2)
  simp only [Bool.and_eq_true, decide_eq_true_eq] at hh
  exact ⟨k, List.mem_range.1 hk, hh.1, hh.2⟩
theorem class_range : ∀ op, op < 32 → 0 ≤ classZ (op : Nat) ∧ classZ (op : Nat) ≤ 6 := by decide +kernel
theorem info_ref : (Tryd.prog.info? 39).map (fun i => (i.zero, i.size, i.bytes)) = some (some (.agg #[.int .u8 0, .int .i64 0, .int .i64 0, .bool false, .bool false]), 5, 32) := by kernel_rfl
/-- The world while the fields are laid. -/
def RefRel (W : World) (b2 b8 : Nat) (op : Nat) (wr : World) (k : Nat) : Prop := ∃ p n cap, Made W wr ∧ W.heap.size ≤ b2 ∧ b2 < b8 ∧ b8 < wr.heap.size ∧ wr.heap[b2]? = some (.cells rowLit 36 (0, 0)) ∧
  wr.heap[b8]? = some (.cells #[.int .u8 op, .string (nameZ op), .int .u8 (classZ op), .int .u8 (slotsZ (classZ op)), .slice p n cap] 36 (0, 0)) ∧
  wr.ownsRow (b8 + 1) 39 5 (.slice p n cap) (((letters op).take k).flatMap fun c => letterF c.toNat).length (flatF (((letters op).take k).flatMap fun c => letterF c.toNat))
theorem take_letters (op k : Nat) (h : k < (letters op).length) : ((letters op).take (k + 1)).flatMap (fun c => letterF c.toNat) = ((letters op).take k).flatMap (fun c => letterF c.toNat) ++ letterF (letters op)[k].toNat := by
  rw [List.take_succ_eq_append_getElem h, List.flatMap_append]; simp
theorem letterF_few {c : Int} (hc : isLetter c) : (letterF c).length ≤ 2 ∧ letterF c ≠ [] := by
  simp only [isLetter, List.mem_cons, List.not_mem_nil, or_false] at hc
  rcases hc with rfl | rfl | rfl | rfl | rfl | rfl | rfl | rfl | rfl | rfl | rfl | rfl | rfl | rfl | rfl | rfl | rfl <;> decide
theorem step_append_own {P : Program} {ops : Array Oper} {o : Oper} {a : Act} {w : World} {K : Act → World → Prop} {Q : Exit → Act → World → Prop} {X : Prop} (hg : o.guard = none) (s x : Operand) (t : TypeId)
    (ho : o.op = .call { callee := .builtin .append, args := #[s, x], argTypes := #[t, t] })
    (base : Nat) (e : TypeId) (i : TypeInfo) (z : Value) (size bytes : Nat) (ht : P.underlying t = some (.slice e)) (hi : P.info? e = some i) (hz : i.zero = some z)
    (hsize : i.size = size) (hby : i.bytes = bytes) (hzs : z.cells.size = size) (hsz : 0 < size)
    (v : Value) (n : Nat) (xs : List Value) (hs : a.eval s = v) (hown : w.ownsRow base e size v n xs)
    (ad : Addr) (m c : Nat) (news : List Value) (hx : a.eval x = .slice (some ad) m c) (hl : news.length = m * size) (hnews : ∀ j u, news[j]? = some u → w.cell? (ad.add j) = some u) (h1 : ∀ u ∈ news, u.oneCell' = true)
    (h63 : n + m ≤ maxLen) (hbytes : (n + m) * bytes ≤ 140737488355328) (hbase : base ≤ w.heap.size)
    (h : ∀ v' w', w'.ownsRow base e size v' (n + m) (xs ++ news) → w.grownBy w' v.ownBlock → (v' = .slice none 0 0 ↔ v = .slice none 0 0 ∧ m = 0) → K (a.put o.dst v') w') :
    if Region.wanted o (yielded ops a.tmps) = true then Oper.wp P o a w K Q else X := by
  rw [if_pos (by simp [Region.wanted, hg])]
  exact wp_append_own w s x t ho base e i z size bytes ht hi hz hsize hby hzs hsz v n xs hs hown ad m c news hx hl hnews h1 h63 hbytes hbase h
/-- What fields tells: a slice of new memory. -/
def FieldsAt (w : World) (fs : List Fd) (e : Ending) (w' : World) : Prop := ∃ g cap, e = .returned (.slice (some ⟨g, 0, none⟩) fs.length cap) ∧ Made w w' ∧ ∀ j u, (flatF fs)[j]? = some u → w'.cell? ((⟨g, 0, none⟩ : Addr).add j) = some u
theorem refFields_at (c : Int) (hc : isLetter c) (w : World) : Calls Tryd.prog 19 #[.int .u8 c] w (FieldsAt w (letterF c)) := by
  refine (refFields_any c hc w w (Made.refl w)).mono ?_
  rintro e w' ⟨p, n, cap, rfl, hm, ho⟩
  rcases owns_cells ho with ⟨h, _⟩ | ⟨b, rfl, rfl, hb, hbl, hnc, hcm, hcell⟩
  · exact absurd h (letterF_few hc).2
  · refine ⟨b, cap, rfl, hm, fun j u hu => ?_⟩
    have hj : j < (letterF c).length * 5 := by
      have := (List.getElem?_eq_some_iff.1 hu).1
      rwa [flat_len] at this
    rw [addr_add, hcell j hj, hu]
theorem ref_after {W w5 w6 : World} {b2 b8 : Nat} {E R T2 : TypeId} {c2 c8 : Array Value} {p : Option Addr} {n cap m len : Nat} {xs ys : List Value} {v : Value} (hM : Made W w5) (hz : W.heap.size ≤ b2) (h28 : b2 < b8) (h8 : b8 + 1 ≤ w5.heap.size)
    (k1 : w5.heap[b2]? = some (.cells c2 T2 (0, 0))) (k2 : w5.heap[b8]? = some (.cells c8 R (0, 0))) (_hown : w6.ownsRow (b8 + 1) E 5 v m ys) (hgrow : w5.grownBy w6 (Value.slice p n cap).ownBlock) (ho : w5.ownsRow (b8 + 1) E 5 (.slice p n cap) len xs) :
    Made W w6 ∧ w6.heap[b2]? = some (.cells c2 T2 (0, 0)) ∧ w6.heap[b8]? = some (.cells c8 R (0, 0)) := by
  have hb := ho.lt
  refine ⟨hM.grown hgrow hM.size (fun k hk => by have := (hb k hk).1; omega), ?_, ?_⟩
  · exact (hgrow.block b2 (by omega) (fun e => by have := (hb b2 e.symm).1; omega)).trans k1
  · exact (hgrow.block b8 (by omega) (fun e => by have := (hb b8 e.symm).1; omega)).trans k2
theorem ref_next {W w6 : World} {b2 b8 op k : Nat} {p6 : Option Addr} {p : Option Addr} {n cap n6 cap6 : Nat} {fk x : List Fd}
    (hK : Made W w6 ∧ w6.heap[b2]? = some (.cells rowLit 36 (0, 0)) ∧ w6.heap[b8]? = some (.cells #[.int .u8 op, .string (nameZ op), .int .u8 (classZ op), .int .u8 (slotsZ (classZ op)), .slice p n cap] 36 (0, 0)))
    (hz : W.heap.size ≤ b2) (h28 : b2 < b8) (ho : w6.ownsRow (b8 + 1) 39 5 (.slice p6 n6 cap6) (fk.length + x.length) (flatF fk ++ flatF x)) (ht : ((letters op).take (k + 1)).flatMap (fun c => letterF c.toNat) = fk ++ x) :
    RefRel W b2 b8 op (w6.setCell ⟨b8, 4, none⟩ (.slice p6 n6 cap6)) (k + 1) := by
  obtain ⟨hM, k1, k2⟩ := hK
  refine ⟨p6, n6, cap6, hM.setCell (by show W.heap.size ≤ b8; omega) _, hz, h28, by simpa [World.setCell] using heap_lt k2, (Below.heap_setCell w6 _ _ b2 (by show b2 ≠ b8; omega)).trans k1, heap_setCell_same w6 b8 4 _ 36 _ k2, ?_⟩
  rw [ht, flat_append, List.length_append]
  exact ownsRow_setCell_below ho (Nat.lt_succ_self b8) _
theorem opN_self {op : Nat} (h1 : 1 ≤ op) (h2 : op ≤ 31) : opN op = op ∧ isOp op = true := by
  have : isOp (op : Int) = true := by unfold isOp; simp; omega
  exact ⟨by unfold opN; rw [this]; rfl, this⟩
theorem ref_end {W w : World} {op : Nat} {n0 b8 : Nat} {p : Option Addr} {n cap : Nat} {E : TypeId} (he : opN op = op ∧ isOp op = true) (hM : Made W w) (hz : W.heap.size ≤ n0) (_h : n0 ≤ b8 + 1) (h28 : n0 < b8)
    (ho : w.ownsRow (b8 + 1) E 5 (.slice p n cap) (fieldsZ op).length (flatF (fieldsZ op))) (v0 v1 v2 v3 v4 : Value) :
    IsOfE E W op (.returned (.tuple #[.agg #[.int .u8 op, .string (nameZ op), .int .u8 (classZ op), .int .u8 (slotsZ (classZ op)), .slice p n cap], .bool true]))
      (((((w.setCell ⟨n0, 0, none⟩ v0).setCell ⟨n0, 1, none⟩ v1).setCell ⟨n0, 2, none⟩ v2).setCell ⟨n0, 3, none⟩ v3).setCell ⟨n0, 4, none⟩ v4) := by
  unfold IsOfE
  rw [he.1, he.2]
  refine ⟨p, n, cap, rfl, (((((hM.setCell (p := ⟨n0, 0, none⟩) hz v0).setCell (p := ⟨n0, 1, none⟩) hz v1).setCell (p := ⟨n0, 2, none⟩) hz v2).setCell (p := ⟨n0, 3, none⟩) hz v3).setCell (p := ⟨n0, 4, none⟩) hz v4), ?_⟩
  have hn : n0 < b8 + 1 := by omega
  exact owns_mono (ownsRow_setCell_below (ownsRow_setCell_below (ownsRow_setCell_below (ownsRow_setCell_below (ownsRow_setCell_below ho hn v0) hn v1) hn v2) hn v3) hn v4) (by omega)
theorem chain2 (w : World) (o1 o2 : Obj) (n : Nat) : ((((w.alloc o1).drewN n).alloc o2).heap[w.heap.size]? = some o1) ∧ ((((w.alloc o1).drewN n).alloc o2).heap[w.heap.size + 1]? = some o2) :=
  ⟨(Below.heap_alloc ((w.alloc o1).drewN n) o2 w.heap.size (by show w.heap.size < (w.alloc o1).heap.size; simp only [World.size_alloc]; omega)).trans (heap_alloc_new w o1),
    heap_at (by show w.heap.size + 1 = (w.alloc o1).heap.size; simp only [World.size_alloc])⟩
section
attribute [local irreducible] World.cell?
set_option maxHeartbeats 1000000 in
theorem refOf_yes (op : Nat) (h1 : 1 ≤ op) (h2 : op ≤ 31) (W w : World) (hm : Made W w) : Calls Tryd.prog 11 #[.int .u8 op] w (IsOfE 39 W op) := by
  have hz := hm.size
  have hline := refLine_any op (by omega)
  rewrite [if_pos ⟨h1, h2⟩] at hline
  have hcr := class_range op (by omega)
  obtain ⟨kc, hk6, hcl, hcz⟩ := class_at op (by omega) h1
  have hclass := refClass_any _ kc hk6 hcl
  rewrite [← hcz] at hclass
  have hslots := refSlots_any (classZ op) hcr.1 (by omega)
  have hidx0 : ∀ w, (Instr.index 9 (.string ⟨#[classC op]⟩) (.int .i64 0)).run Tryd.prog w = .ok (.int .u8 (classC op).toNat) w := str_index ⟨#[classC op]⟩ 0 (classC op) (show 0 < 1 by omega) rfl
  have HL := Lib.hid hline
  have HC := Lib.hid hclass
  have HS := Lib.hid hslots
  have hll := name_len op (by omega)
  have hlo := letters_ok op (by omega)
  generalize hS : (⟨(letters op).toArray⟩ : ByteArray) = S at *
  have hSl : S.data.toList = letters op := by rw [← hS]
  have hSz : S.size = (letters op).length := by show S.data.size = _; rw [← Array.length_toList, hSl]
  clear hline hclass hslots hcl hcz
  have HLO := Lib.hid hlo
  have HSL := Lib.hid hSl
  have HSZ := Lib.hid hSz
  have hs4 : S.size ≤ 4 := by omega
  clear hlo hSl hSz hS
  go_enter Tryd.func11, Tryd.ntmps11
  go_wp2_with (fail)
  refine (HL.out _).mono ?_
  rintro e w1 ⟨rfl, nd, rfl⟩
  go_wp2_with (fail)
  refine (HC.out _).mono ?_
  rintro e w2 ⟨rfl, rfl⟩
  go_wp2_with (fail)
  refine (HS.out _ _ (Made.refl _)).mono ?_
  rintro e w3 ⟨rfl, h3⟩
  obtain ⟨g1, g2⟩ := chain2 w (.cells rowLit 36) (.cells #[.int .u8 op, .string (nameZ op), .int .u8 (classZ op), .int .u8 0, .slice none 0 0] 36) nd
  have k1 := h3.heap g1
  have k2 := h3.heap g2
  have hb8 := heap_lt k2
  have hW3 : Made W w3 := Made.trans ((below_drewN (hm.alloc hz _) nd).alloc (by show W.heap.size ≤ (w.alloc _).heap.size; simp only [World.size_alloc]; omega) _) h3
  have d3 : w3.cell? ⟨w.heap.size + 1, 3, none⟩ = some (.int .u8 0) := cell_of_lit (cs := [.int .u8 op, .string (nameZ op), .int .u8 (classZ op), .int .u8 0, .slice none 0 0]) k2 3
  have d3f := free_of_lit k2 3
  have k1' : (w3.setCell ⟨w.heap.size + 1, 3, none⟩ (.int .u8 (slotsZ (classZ op)))).heap[w.heap.size]? = some (.cells rowLit 36 (0, 0)) := (Below.heap_setCell w3 _ _ w.heap.size (by simp)).trans k1
  have k2' := heap_setCell_same w3 (w.heap.size + 1) 3 _ 36 (.int .u8 (slotsZ (classZ op))) k2
  have hRel : RefRel W w.heap.size (w.heap.size + 1) op (w3.setCell ⟨w.heap.size + 1, 3, none⟩ (.int .u8 (slotsZ (classZ op)))) 0 :=
    ⟨none, 0, 0, hW3.setCell (by show W.heap.size ≤ w.heap.size + 1; omega) _, hz, by omega, by simpa [World.setCell] using hb8, k1', k2', World.ownsRow_nil _ _ _ _⟩
  have HR := Lib.hid hRel
  clear g1 g2 k1 k2 k1' k2' hRel h3 hW3 hb8
  go_wp2_with (fail)
  go_loopw [9] (fun i wr => ∃ k : Nat, k ≤ (letters op).length ∧ i = .int .i64 k ∧ RefRel W w.heap.size (w.heap.size + 1) op wr k) (fun i _ => (letters op).length - (intOf i).toNat)
  case atStart => exact ⟨0, Nat.zero_le _, rfl, HR.out⟩
  case round =>
    obtain ⟨k, hk, rfl, hrel⟩ := hrel
    have HSZ' := HSZ.out
    obtain ⟨p, n, cap, hM, hz2, hb28, hb8, k1, k2, ho⟩ := hrel
    generalize hb : w.heap.size + 1 = b8 at *
    have HB := Lib.hid hb
    clear hb
    have K1 := Lib.hid k1
    have K2 := Lib.hid k2
    have HO := Lib.hid ho
    have HM := Lib.hid hM
    have hzr := hM.size
    by_cases hlt : k < (letters op).length
    · have hidx := str_index S k (letters op)[k] (by omega) (by
        show S.data[k]'_ = _
        rw [← Array.getElem_toList]; simp only [HSL.out])
      have hlet := HLO.out _ (List.getElem_mem hlt)
      have c4 : wr.cell? ⟨b8, 4, none⟩ = some (.slice p n cap) := cell_of_lit (cs := [.int .u8 op, .string (nameZ op), .int .u8 (classZ op), .int .u8 (slotsZ (classZ op)), .slice p n cap]) k2 4
      have f4 := free_of_lit k2 4
      have hks : (k : Int) < S.size := by omega
      obtain ⟨i0, hi, hz0, hz1, hzz⟩ := info_parts info_ref
      have Hi := Lib.hid (And.intro hi (And.intro hz0 (And.intro hz1 hzz)))
      have ht := take_letters op k hlt
      have hfew := letters_flat_few op (by omega) k (by omega)
      have hfew2 := (letterF_few hlet).1
      have HT := Lib.hid ht
      clear k1 k2 ho hM hi hz0 hz1 hzz ht
      have HL2 := Lib.hid hlet
      clear hlet
      generalize (letters op)[k] = ch at *
      generalize (((letters op).take k).flatMap fun c => letterF c.toNat) = fk at *
      go_wp2_with (fail)
      go_region_law (first
        | (refine step_append_own rfl (.tmp 38) (.tmp 42) 34 rfl (b8 + 1) 39 i0 _ 5 32 Tryd.underlying34 Hi.out.1 Hi.out.2.1 Hi.out.2.2.1 Hi.out.2.2.2 rfl (by decide) (.slice p n cap) fk.length (flatF fk) (by simp [Act.eval]) HO5.out ⟨g, 0, none⟩ (letterF ch.toNat).length c5 (flatF (letterF ch.toNat)) (by simp [Act.eval]) (flat_len _) HC5.out (flat_one _) (by unfold maxLen; omega) (by omega) hz5 ?_
           intro v' w6 hown6 hgrow6 _
           obtain ⟨p6, n6, cap6, rfl⟩ := owns_slice hown6
           have hK6 := Lib.hid (ref_after HM5.out hz2 hb28 hz5 HK1.out HK2.out hown6 hgrow6 HO5.out)
           have d4 : w6.cell? ⟨b8, 4, none⟩ = some (.slice p n cap) := cell_of_lit (cs := [.int .u8 op, .string (nameZ op), .int .u8 (classZ op), .int .u8 (slotsZ (classZ op)), .slice p n cap]) hK6.out.2.2 4
           have e4 := free_of_lit hK6.out.2.2 4
           have HO6 := Lib.hid hown6
           clear hown6 hgrow6)
        | (go_simp
           go_at_call 19
           refine (refFields_at _ HL2.out _).mono ?_
           rintro e w5 ⟨g, c5, rfl, h5d, hc5⟩
           have h5 : Made wr w5 := ⟨h5d.os, h5d.tape, h5d.output, h5d.size, h5d.block⟩
           have HC5 := Lib.hid hc5
           have HO5 := Lib.hid (owns_made HO.out h5)
           have HK1 := Lib.hid (h5.heap K1.out)
           have HK2 := Lib.hid (h5.heap K2.out)
           have HM5 := Lib.hid (Made.trans HM.out h5)
           have hz5 : b8 + 1 ≤ w5.heap.size := Nat.lt_of_lt_of_le hb8 h5.size
           have g4 : w5.cell? ⟨b8, 4, none⟩ = some (.slice p n cap) := cell_of_lit (cs := [.int .u8 op, .string (nameZ op), .int .u8 (classZ op), .int .u8 (slotsZ (classZ op)), .slice p n cap]) HK2.out 4
           have gf := free_of_lit HK2.out 4
           clear hc5 h5 h5d))
      all_goals
        go_wp2
        go_roundw
        case rel => exact ⟨k + 1, by omega, by go_num, ref_next hK6.out hz2 hb28 HO6.out HT.out⟩
        case measure => simp [intOf]; omega
    · obtain rfl : k = (letters op).length := by omega
      rewrite [List.take_length, fields_letters op (by omega)] at ho
      have HO2 := Lib.hid ho
      have e0 : wr.cell? ⟨w.heap.size, 0, none⟩ = some (.int .u8 0) := cell_of_lit k1 0
      have e1 : wr.cell? ⟨w.heap.size, 1, none⟩ = some (.string { data := #[] }) := cell_of_lit k1 1
      have e2 : wr.cell? ⟨w.heap.size, 2, none⟩ = some (.int .u8 0) := cell_of_lit k1 2
      have e3 : wr.cell? ⟨w.heap.size, 3, none⟩ = some (.int .u8 0) := cell_of_lit k1 3
      have e4 : wr.cell? ⟨w.heap.size, 4, none⟩ = some (.slice none 0 0) := cell_of_lit k1 4
      have ef := free_of_lit k1
      have c0 : wr.cell? ⟨b8, 0, none⟩ = some (.int .u8 op) := cell_of_lit (cs := [.int .u8 op, .string (nameZ op), .int .u8 (classZ op), .int .u8 (slotsZ (classZ op)), .slice p n cap]) k2 0
      have c1 : wr.cell? ⟨b8, 1, none⟩ = some (.string (nameZ op)) := cell_of_lit (cs := [.int .u8 op, .string (nameZ op), .int .u8 (classZ op), .int .u8 (slotsZ (classZ op)), .slice p n cap]) k2 1
      have c2 : wr.cell? ⟨b8, 2, none⟩ = some (.int .u8 (classZ op)) := cell_of_lit (cs := [.int .u8 op, .string (nameZ op), .int .u8 (classZ op), .int .u8 (slotsZ (classZ op)), .slice p n cap]) k2 2
      have c3 : wr.cell? ⟨b8, 3, none⟩ = some (.int .u8 (slotsZ (classZ op))) := cell_of_lit (cs := [.int .u8 op, .string (nameZ op), .int .u8 (classZ op), .int .u8 (slotsZ (classZ op)), .slice p n cap]) k2 3
      have c4 : wr.cell? ⟨b8, 4, none⟩ = some (.slice p n cap) := cell_of_lit (cs := [.int .u8 op, .string (nameZ op), .int .u8 (classZ op), .int .u8 (slotsZ (classZ op)), .slice p n cap]) k2 4
      clear k1 k2 ho hM
      have eop := opN_self h1 h2
      have HE := Lib.hid eop
      clear eop
      go_wp2
      refine bodyPost_ret (v := .tuple #[.agg #[.int .u8 op, .string (nameZ op), .int .u8 (classZ op), .int .u8 (slotsZ (classZ op)), .slice p n cap], .bool true]) (by simp [results, Tryd.results11, go_sem, e0, e1, e2, e3, e4]) rfl ?_
      exact ref_end HE.out HM.out hz2 (Nat.le_of_lt (Nat.lt_succ_of_lt hb28)) hb28 HO2.out _ _ _ _ _
end
section
attribute [local irreducible] World.cell?
set_option maxHeartbeats 1000000 in
theorem refOf_no (op : Nat) (h256 : op < 256) (h1 : ¬ (1 ≤ op ∧ op ≤ 31)) (W w : World) (hm : Made W w) : Calls Tryd.prog 11 #[.int .u8 op] w (IsOfE 39 W op) := by
  have hz := hm.size
  have hline := refLine_any op h256
  rewrite [if_neg h1] at hline
  have hno : isOp (op : Int) = false := by unfold isOp; simp; omega
  have he : opN (op : Int) = 0 := by unfold opN; rw [hno]; rfl
  have HE := Lib.hid (And.intro he hno)
  have HL := Lib.hid hline
  clear hline he hno h1
  go_enter Tryd.func11, Tryd.ntmps11
  go_wp2_with (fail)
  refine (HL.out _).mono ?_
  rintro e w1 ⟨rfl, nd, rfl⟩
  have hk : (((w.alloc (.cells rowLit 36)).drewN nd)).heap[w.heap.size]? = some (.cells rowLit 36 (0, 0)) := heap_alloc_new w _
  have hwd : Made W ((w.alloc (.cells rowLit 36)).drewN nd) := below_drewN (hm.alloc hz _) nd
  unfold rowLit at hk hwd
  generalize (w.alloc _).drewN nd = wd at *
  have HK := Lib.hid hk
  have HW := Lib.hid hwd
  have e0 : wd.cell? ⟨w.heap.size, 0, none⟩ = some (.int .u8 0) := cell_of_lit (cs := rowLit.toList) hk 0
  have e1 : wd.cell? ⟨w.heap.size, 1, none⟩ = some (.string { data := #[] }) := cell_of_lit (cs := rowLit.toList) hk 1
  have e2 : wd.cell? ⟨w.heap.size, 2, none⟩ = some (.int .u8 0) := cell_of_lit (cs := rowLit.toList) hk 2
  have e3 : wd.cell? ⟨w.heap.size, 3, none⟩ = some (.int .u8 0) := cell_of_lit (cs := rowLit.toList) hk 3
  have e4 : wd.cell? ⟨w.heap.size, 4, none⟩ = some (.slice none 0 0) := cell_of_lit (cs := rowLit.toList) hk 4
  have ef := free_of_lit hk
  clear hk hwd
  go_wp2
  refine bodyPost_ret (v := .tuple #[.agg #[.int .u8 0, .string { data := #[] }, .int .u8 0, .int .u8 0, .slice none 0 0], .bool false]) (by simp [results, Tryd.results11, go_sem, e0, e1, e2, e3, e4]) rfl ?_
  unfold IsOfE
  rewrite [HE.out.1, HE.out.2]
  exact ⟨none, 0, 0, rfl, (((((HW.out.setCell (p := ⟨w.heap.size, 0, none⟩) hz _).setCell (p := ⟨w.heap.size, 1, none⟩) hz _).setCell (p := ⟨w.heap.size, 2, none⟩) hz _).setCell (p := ⟨w.heap.size, 3, none⟩) hz _).setCell (p := ⟨w.heap.size, 4, none⟩) hz _), World.ownsRow_nil _ _ _ _⟩
end
theorem refOf_any (op : Int) (h0 : 0 ≤ op) (h256 : op < 256) (W w : World) (hm : Made W w) : Calls Tryd.prog 11 #[.int .u8 op] w (IsOfE 39 W op) := by
  obtain ⟨k, rfl⟩ := Int.eq_ofNat_of_zero_le h0
  by_cases h : 1 ≤ k ∧ k ≤ 31
  · exact refOf_yes k h.1 h.2 W w hm
  · exact refOf_no k (by omega) h W w hm
end Go.Proofs.YtabcakdnnnajiaaDoor
