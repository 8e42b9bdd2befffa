/- What same and awake of match's laws return. -/
import Derived.Test.YtplafgegjbppmaaMatchRef
namespace Go.Proofs.Ytplafgegjbppmaa
open Go.ChangeShapes Go.WideShapes Go.ChangeAt Go.RowKit Go.Sort BigFrame

theorem same_step {zs ys : List Nat} {k : Nat} (h1 : k < zs.length) (h2 : k < ys.length) : (zs.drop k == ys.drop k) = ((zs.getD k 0 == ys.getD k 0) && (zs.drop (k + 1) == ys.drop (k + 1))) := by
  rw [List.drop_eq_getElem_cons h1, List.drop_eq_getElem_cons h2]
  rw [List.cons_beq_cons]
  simp only [List.getD, List.getElem?_eq_getElem h1, List.getElem?_eq_getElem h2, Option.getD_some]
theorem made_drewN (w : World) (n : Nat) : Made w (w.drewN n) := below_drewN (Made.refl w) n
section
attribute [local irreducible] World.cell?
set_option maxHeartbeats 1000000 in
theorem same_any (ao bo : Option Addr) (ca cb : Nat) (zs ys : List Nat) (w : World) (h1 : Nums .i64 w ao ca zs) (h2 : Nums .i64 w bo cb ys) (hl : zs.length ≤ 1000) :
    Calls Try.prog 10 #[.slice ao zs.length ca, .slice bo ys.length cb] w fun e w' => e = .returned (.bool (zs == ys)) ∧ Made w w' := by
  by_cases he : zs.length = ys.length
  · have hb : ((zs.length : Int) != (ys.length : Int)) = false := by rw [he]; simp
    have HE := Lib.hid he
    clear he
    go_enter Try.func10, Try.ntmps10
    go_wp2_with (fail)
    go_loopw [5] (fun i wr => ∃ k nd : Nat, k ≤ zs.length ∧ i = .int .i64 k ∧ (zs.drop k == ys.drop k) = (zs == ys) ∧ wr = w.drewN nd) (fun i _ => zs.length - (intOf i).toNat)
    case atStart => exact ⟨0, 0, Nat.zero_le _, rfl, rfl, rfl⟩
    case round =>
      obtain ⟨k, nd, hk, rfl, hat, hwr⟩ := hrel
      have HW := Lib.hid hwr
      have hmw : Made w wr := hwr ▸ made_drewN w nd
      clear hwr
      by_cases hlt : k < zs.length
      · have hlt2 : k < ys.length := by have := HE.out; omega
        obtain ⟨a, rfl⟩ := h1.some hlt
        obtain ⟨b, rfl⟩ := h2.some hlt2
        have hc := made_cell hmw _ _ (h1.cell a rfl k hlt)
        have hc2 := made_cell hmw _ _ (h2.cell b rfl k hlt2)
        have hstep := same_step hlt hlt2
        rewrite [hat] at hstep
        have HS := Lib.hid hstep
        generalize zs.getD k 0 = z at *
        generalize ys.getD k 0 = y at *
        clear hstep hat
        go_upto_region 6 with (fail)
        go_quiet (fail)
        rename_i nq
        by_cases hz : z = y
        · subst hz
          go_wp2
          go_roundw
          case rel => exact ⟨k + 1, nd + nq, by omega, by go_num, by rw [HS.out]; simp, by rw [HW.out]; simp only [World.drewN_drewN]⟩
          case measure => simp [intOf]; omega
        · have hzb : ((z : Int) == (y : Int)) = false := beq_eq_false_iff_ne.2 (by omega)
          have hzb2 : (z == y) = false := beq_eq_false_iff_ne.2 hz
          have HZ := Lib.hid hzb2
          clear hz hzb2
          go_wp2
          go_ret
          exact ⟨ret_bool (by rw [HS.out, HZ.out]; rfl), below_drewN hmw _⟩
      · obtain rfl : k = zs.length := by omega
        have HX := Lib.hid (show (zs == ys) = true by rw [← hat, List.drop_length, HE.out, List.drop_length]; rfl)
        clear hat
        go_wp2
        go_ret
        exact ⟨ret_bool HX.out.symm, hmw⟩
  · have hb : ((zs.length : Int) != (ys.length : Int)) = true := by simp; omega
    have HX := Lib.hid (show (zs == ys) = false from beq_eq_false_iff_ne.2 fun e => he (by rw [e]))
    clear he
    go_enter Try.func10, Try.ntmps10
    go_wp2
    go_ret
    exact ⟨ret_bool HX.out.symm, Made.refl _⟩
end
/-! Literals. -/
abbrev numsV (k : IntKind) (zs : List Nat) : List Value := zs.map fun x : Nat => Value.int k (x : Int)
theorem nums_lit (k : IntKind) {w : World} {b : Nat} {zs : List Nat} {n : Nat} {T : TypeId} (h : w.heap[b]? = some (.cells (numsV k zs).toArray T (0, 0))) (hn : zs.length = n) (hl : n ≤ 1000) : Nums k w (some ⟨b, 0, none⟩) n zs := by
  refine ⟨by omega, by unfold maxLen; omega, fun h => by simp at h, fun a ha t ht => ?_⟩
  obtain rfl := Option.some.inj ha
  rw [addr_add, cell_of_lit h t]
  simp [numsV, List.getD, ht]
theorem bytes_ok {zs : List Nat} (h : zs.all (· < 256) = true) (t : Nat) : zs.getD t 0 < 256 := by
  by_cases ht : t < zs.length
  · rw [getD_lt zs t ht]
    simpa using List.all_eq_true.1 h _ (List.getElem_mem ht)
  · simp [List.getD, List.getElem?_eq_none (Nat.le_of_not_lt ht)]
theorem slots_lit (ns l : List Nat) (n : Nat) (hn : ns.length = n) (hf : n ≤ 1000) (hby : ns.all (· < 256) = true) (hs : search ns [] = some l) (w : World) (b : Nat) (T : TypeId) (h : w.heap[b]? = some (.cells (numsV .u8 ns).toArray T (0, 0))) :
    Calls Try.prog 8 #[.slice (some ⟨b, 0, none⟩) n n] w fun e w' => ∃ so, e = .returned (.tuple #[.slice so n n, .bool true]) ∧ Nums .i64 w' so n l ∧ Made w w' := by
  subst hn
  refine (slots_any ns _ _ w ⟨nums_lit .u8 h rfl hf, hf, bytes_ok hby⟩).mono ?_
  rintro e w' ⟨hm, ⟨h0, _⟩ | ⟨so, l', h1, rfl, ha⟩⟩
  · rw [hs] at h0; exact absurd h0 (by simp)
  · rw [hs] at h1
    obtain rfl := Option.some.inj h1
    exact ⟨so, rfl, ha.nums, hm⟩
theorem slots_lit_none (ns : List Nat) (n : Nat) (hn : ns.length = n) (hf : n ≤ 1000) (hby : ns.all (· < 256) = true) (hs : search ns [] = none) (w : World) (b : Nat) (T : TypeId) (h : w.heap[b]? = some (.cells (numsV .u8 ns).toArray T (0, 0))) :
    Calls Try.prog 8 #[.slice (some ⟨b, 0, none⟩) n n] w fun e w' => e = .returned (.tuple #[.slice none 0 0, .bool false]) ∧ Made w w' := by
  subst hn
  refine (slots_any ns _ _ w ⟨nums_lit .u8 h rfl hf, hf, bytes_ok hby⟩).mono ?_
  rintro e w' ⟨hm, ⟨_, rfl⟩ | ⟨so, l', h1, rfl, ha⟩⟩
  · exact ⟨rfl, hm⟩
  · rw [hs] at h1; exact absurd h1 (by simp)
theorem fits_lit (ns : List Nat) (n : Nat) (hn : ns.length = n) (hf : n ≤ 1000) (hby : ns.all (· < 256) = true) (r : Bool) (hs : fitsN ns = r) (w : World) (b : Nat) (T : TypeId) (h : w.heap[b]? = some (.cells (numsV .u8 ns).toArray T (0, 0))) :
    Calls Try.prog 11 #[.slice (some ⟨b, 0, none⟩) n n] w fun e w' => e = .returned (.bool r) ∧ Made w w' := by
  subst hn
  subst hs
  exact fits_any ns _ _ w ⟨nums_lit .u8 h rfl hf, hf, bytes_ok hby⟩
theorem same_lit (zs ys : List Nat) (n m : Nat) (hn : zs.length = n) (hm : ys.length = m) (hf : n ≤ 1000) (hg : m ≤ 1000) (r : Bool) (he : (zs == ys) = r) (so : Option Addr) (c : Nat) (w : World) (h1 : Nums .i64 w so c zs) (b : Nat) (T : TypeId)
    (h : w.heap[b]? = some (.cells (numsV .i64 ys).toArray T (0, 0))) :
    Calls Try.prog 10 #[.slice so n c, .slice (some ⟨b, 0, none⟩) m m] w fun e w' => e = .returned (.bool r) ∧ Made w w' := by
  subst hn
  subst hm
  subst he
  exact same_any _ _ _ _ zs ys w h1 (nums_lit .i64 h rfl hg) hf
theorem made_new {W w : World} (h : Made W w) (o : Obj) : Made W (w.alloc o) := h.alloc h.size o
section
attribute [local irreducible] World.cell?
set_option maxHeartbeats 4000000 in
theorem awake_any (W : World) : Makes Try.prog W 7 #[] (.bool true) := by
  intro w hm
  have K0 := Lib.hid hm
  clear hm
  go_enter Try.func7, Try.ntmps7
  go_wp2_with (fail)
  refine (slots_lit [15, 15, 1] [1, 2, 0] 3 rfl (by omega) (by decide) (by decide +kernel) _ _ 5 (by exact heap_alloc_new _ _)).mono ?_
  rintro e w1 ⟨so, rfl, hn1, hm1⟩
  have K1 := Lib.hid (Made.trans (made_new K0.out _) hm1)
  have N1 := Lib.hid hn1
  clear hn1 hm1 K0
  go_wp2_with (fail)
  refine (slots_lit_none [1, 1] 2 rfl (by omega) (by decide) (by decide +kernel) _ _ 5 (by exact heap_alloc_new _ _)).mono ?_
  rintro e w2 ⟨rfl, hm2⟩
  have N2 := Lib.hid ((N1.out.made (made_new (Made.refl _) _)).made hm2)
  have K2 := Lib.hid (Made.trans (made_new K1.out _) hm2)
  clear hm2 K1 N1
  go_wp2_with (fail)
  refine (same_lit [1, 2, 0] [1, 2, 0] 3 3 rfl rfl (by omega) (by omega) true (by decide) so 3 _ (N2.out.made (made_new (Made.refl _) _)) _ 3 (by exact heap_alloc_new _ _)).mono ?_
  rintro e w3 ⟨rfl, hm3⟩
  have K3 := Lib.hid (Made.trans (made_new K2.out _) hm3)
  clear hm3 K2 N2
  go_wp2_with (fail)
  refine (fits_lit [12, 8, 3] 3 rfl (by omega) (by decide) true (by decide +kernel) _ _ 5 (by exact heap_alloc_new _ _)).mono ?_
  rintro e w4 ⟨rfl, hm4⟩
  have K4 := Lib.hid (Made.trans (made_new K3.out _) hm4)
  clear hm4 K3
  go_wp2_with (fail)
  refine (fits_lit [8, 8] 2 rfl (by omega) (by decide) false (by decide +kernel) _ _ 5 (by exact heap_alloc_new _ _)).mono ?_
  rintro e w5 ⟨rfl, hm5⟩
  have K5 := Lib.hid (Made.trans (made_new K4.out _) hm5)
  clear hm5 K4
  go_wp2
  go_ret
  exact ⟨rfl, K5.out⟩
end
end Go.Proofs.Ytplafgegjbppmaa
