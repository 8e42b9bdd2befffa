/- What the method slots of package match returns: the slots as a list, in memory of its own. -/
import Derived.Test.YtplafgegjbppmaaMatchAdmit
namespace Go.Proofs.Ytplafgegjbppmaa
open Go.ChangeShapes Go.WideShapes Go.ChangeAt Go.RowKit Go.Sort BigFrame

theorem int_row : (Try.prog.info? 3).map (fun i => (i.zero, i.size, i.bytes)) = some (some (.int .i64 0), 1, 8) := by kernel_rfl
abbrev intsV (zs : List Nat) : List Value := zs.map fun x : Nat => Value.int .i64 (x : Int)
theorem made_zeros (n : Nat) : (madeCells (Value.int .i64 0).cells (n * 1)).toList = intsV (List.replicate n 0) := by
  have h : (Value.int .i64 0).cells = #[.int .i64 0] := rfl
  rw [h, Nat.mul_one]
  refine List.ext_getElem (by simp [madeCells]) fun i h1 h2 => ?_
  simp [madeCells, Nat.mod_one]
theorem new_cell (w : World) (v : Value) (T : TypeId) : ∀ j u, [v][j]? = some u → (w.alloc (.cells #[v] T)).cell? ((⟨w.heap.size, 0, none⟩ : Addr).add j) = some u := fun j u h =>
  cells_of_lit (cs := [v]) (heap_alloc_new w (.cells #[v] T)) j u h
theorem owns_nums {w : World} {B n cap g : Nat} {zs : List Nat} (h : w.ownsRow B 3 1 (.slice (some ⟨g, 0, none⟩) n cap) n (intsV zs)) : zs.length = n ∧ Nums .i64 w (some ⟨g, 0, none⟩) cap zs := by
  have hl : zs.length = n := by have := h.1; simpa using this
  refine ⟨hl, ?_⟩
  have hc := h.cells (g := g) rfl
  rcases h.2 with ⟨h', _⟩ | ⟨g', cap', cur, h', _, hg, hn, hm, _⟩
  · simp at h'
  · simp only [Value.slice.injEq, Option.some.injEq, Addr.mk.injEq, and_true, true_and] at h'
    obtain ⟨rfl, rfl⟩ := h'
    refine ⟨by omega, hm, fun h => by simp at h, fun a ha t ht => ?_⟩
    obtain rfl := Option.some.inj ha
    refine hc t _ ?_
    simp [List.getD, ht]
theorem fill_keep (o : Nat → Int) (n k : Nat) (h : o k = -1) : fillL o n (k + 1) = fillL o n k := if_pos h
theorem fill_put (o : Nat → Int) (n k j : Nat) (h : o k = j) : intsV (fillL o n (k + 1)) = (intsV (fillL o n k)).set j (.int .i64 k) := by
  have e : fillL o n (k + 1) = (fillL o n k).set (o k).toNat k := if_neg (by omega)
  rw [e, h]
  simp [intsV, List.map_set]
theorem owns_drewN {w : World} {B n : Nat} {v : Value} {xs : List Value} (h : w.ownsRow B 3 1 v n xs) (k : Nat) : (w.drewN k).ownsRow B 3 1 v n xs := ⟨h.1, h.2⟩
section
attribute [local irreducible] World.cell?
set_option maxHeartbeats 2000000 in
theorem slots_any' (b : Nat) (o : Nat → Int) (n : Nat) (w : World) (hO : Occ w b o) (hn : n ≤ 1000) (ho : ∀ s, s < 4 → o s = -1 ∨ (0 ≤ o s ∧ o s < n)) :
    Calls Try.prog 18 #[.pointer (some ⟨b, 0, none⟩), .int .i64 n] w fun e w' => e = .returned (.slice (some ⟨w.heap.size, 0, none⟩) n n) ∧ Made w w' ∧ w'.ownsRow w.heap.size 3 1 (.slice (some ⟨w.heap.size, 0, none⟩) n n) n (intsV (fillL o n 4)) := by
  obtain ⟨i0, hi, hz0, hz1, hz2⟩ := info_parts int_row
  have HO := Lib.hid hO
  have HV := Lib.hid ho
  have hzb : i0.bytes * n ≤ 281474976710656 := by rw [hz2]; omega
  clear hO ho
  go_enter Try.func18, Try.ntmps18
  go_upto_region 2 with (at_make; refine wpList_make_full _ rfl _ _ 24 rfl w.heap.size 3 i0 (.int .i64 0) 1 Try.underlying24 hi hz0 hz1 _ _ _ _ n rfl rfl rfl rfl hzb (by unfold maxLen; omega) (Nat.le_refl _) ?_; intro w1 hown hgr)
  rewrite [made_zeros] at hown
  have KO := Lib.hid hown
  have KM := Lib.hid (show Made w w1 from ⟨hgr.os, hgr.tape, hgr.output, hgr.size, fun k hk => hgr.block k hk (by simp)⟩)
  clear hown hgr hzb
  go_wp2_with (fail)
  go_loopw [11] (fun x wr => ∃ k : Nat, k ≤ 4 ∧ x = .int .i64 k ∧ Made w wr ∧ wr.ownsRow w.heap.size 3 1 (.slice (some ⟨w.heap.size, 0, none⟩) n n) n (intsV (fillL o n k))) (fun x _ => 4 - (intOf x).toNat)
  case atStart => exact ⟨0, by omega, rfl, KM.out, KO.out⟩
  case round =>
    obtain ⟨k, hk, rfl, hm, hown⟩ := hrel
    have K1 := Lib.hid hm
    have K2 := Lib.hid hown
    clear hm hown KO KM
    by_cases hlt : k < 4
    · have hc := occ_cell (Made.heap K1.out HO.out) hlt
      have hv := HV.out k hlt
      by_cases he : o k = -1
      · rewrite [he] at hc
        have KX := Lib.hid (show wr.ownsRow w.heap.size 3 1 (.slice (some ⟨w.heap.size, 0, none⟩) n n) n (intsV (fillL o n (k + 1))) by rw [fill_keep o n k he]; exact K2.out)
        clear he hv
        go_upto_region 4 with (fail)
        go_quiet (fail)
        go_wp2
        go_roundw
        case rel => exact ⟨k + 1, by omega, by go_num, below_drewN K1.out _, owns_drewN KX.out _⟩
        case measure => simp [intOf]; omega
      · have hv2 := hv.resolve_left he
        obtain ⟨j, hj⟩ : ∃ j : Nat, o k = j := ⟨(o k).toNat, by omega⟩
        rewrite [hj] at hc
        have hjn : j < n := by omega
        have hne : ((j : Int) != -1) = true := by simp
        have HF := Lib.hid (fill_put o n k j hj)
        have fr := K2.out.frozenAt
        have cj := (K2.out.cellAt j (by omega)).trans (List.getElem?_eq_getElem (by simp [fillL_len]; exact hjn))
        clear he hv hv2 hj
        go_upto_region 4 with (fail)
        go_quiet (fail)
        rename_i nq
        have KX := Lib.hid ((owns_drewN K2.out nq).stored j (.int .i64 k)).1
        go_wp2
        go_roundw
        case rel => exact ⟨k + 1, by omega, by go_num, (below_drewN K1.out _).setCell (p := ⟨w.heap.size, j, none⟩) (Nat.le_refl _) _, by rw [HF.out]; exact KX.out⟩
        case measure => simp [intOf]; omega
    · obtain rfl : k = 4 := by omega
      go_wp2
      go_ret
      exact ⟨rfl, K1.out, K2.out⟩
end
end Go.Proofs.Ytplafgegjbppmaa
