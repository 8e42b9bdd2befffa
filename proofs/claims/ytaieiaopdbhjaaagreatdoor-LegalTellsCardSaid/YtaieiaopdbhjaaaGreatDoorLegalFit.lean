/- What slots and fit of package legal return, for any instructions in memory. -/
import Derived.Test.YtaieiaopdbhjaaaGreatDoorLegalMask
import Derived.Test.YtaieiaopdbhjaaaGreatDoorGRules
import Derived.Test.YtaieiaopdbhjaaaGreatDoorGMatchB
import Derived.Test.YtaieiaopdbhjaaaGreatDoorGFns
import Derived.Test.YtaieiaopdbhjaaaGreatDoorGOf
namespace Go.Proofs.YtaieiaopdbhjaaaGreatDoor
open Go.ChangeShapes Go.WideShapes Go.ChangeAt Go.RowKit Go.Sort BigFrame

theorem byte_row : (Tryz.prog.info? 5).map (fun i => (i.zero, i.size, i.bytes)) = some (some (.int .u8 0), 1, 1) := by kernel_rfl
abbrev masksV (zs : List Nat) : List Value := zs.map fun x : Nat => Value.int .u8 (x : Int)
theorem made_bytes (n : Nat) : (madeCells (Value.int .u8 0).cells (n * 1)).toList = masksV (List.replicate n 0) := by
  have h : (Value.int .u8 0).cells = #[.int .u8 0] := rfl
  rw [h, Nat.mul_one]
  refine List.ext_getElem (by simp [madeCells]) fun i h1 h2 => ?_
  simp [madeCells, Nat.mod_one]
theorem owns_masks {w : World} {B n cap g : Nat} {zs : List Nat} (h : w.ownsRow B 5 1 (.slice (some ⟨g, 0, none⟩) n cap) n (masksV zs)) (hl : n ≤ 1000) (hb : ∀ t, zs.getD t 0 < 256) : zs.length = n ∧ Masks w (some ⟨g, 0, none⟩) cap zs := by
  have e : zs.length = n := by have := h.1; simpa using this
  refine ⟨e, ⟨?_, by omega, hb⟩⟩
  have hc := h.cells (g := g) rfl
  rcases h.2 with ⟨h', _⟩ | ⟨g', cap', cur, h', _, hg, hn, hm, _⟩
  · simp at h'
  · simp only [Value.slice.injEq, Option.some.injEq, Addr.mk.injEq, and_true, true_and] at h'
    obtain ⟨rfl, rfl⟩ := h'
    refine ⟨by omega, hm, fun h => by simp at h, fun a ha t ht => ?_⟩
    obtain rfl := Option.some.inj ha
    refine hc t _ ?_
    simp [List.getD, ht]
theorem masks_put (o : Nat) (l : List In) {k : Nat} (h : k < l.length) (x : In) (hx : l[k] = x) : (masksV (maskL o l k)).set k (.int .u8 (outN o x : Int)) = masksV (maskL o l (k + 1)) := by
  rw [← maskL_next o l h, hx]
  simp [masksV, List.map_set]
theorem mask_byte (o : Nat) (l : List In) : ∀ t, (l.map (outN o)).getD t 0 < 256 := fun t => by
  simp only [List.getD, List.getElem?_map]
  cases l[t]? with
  | none => exact Nat.zero_lt_succ _
  | some x => exact Nat.lt_of_lt_of_le (outN_lt o x) (by decide)
section
attribute [local irreducible] World.cell?
set_option maxRecDepth 100000 in
set_option maxHeartbeats 4000000 in
theorem lslots_any (W : World) (hN : Names W) (x : In) (hx : x.small) : Makes Tryz.prog W 46 #[x.val] (.int .u8 (slotN x)) := by
  intro w hm
  have hz := hm.size
  have HM := Lib.hid (hm.alloc hz (.cells x.cells.toArray 34))
  have HI := Lib.hid (heap_alloc_new w (.cells x.cells.toArray 34))
  have HR := right_any _ (hN.made HM.out) x hx _ (Made.refl _)
  have HC := Lib.hid (fun (u : World) (hu : Made W u) => class_any u (hN.made hu) x hx u (Made.refl u))
  obtain ⟨c0, c6⟩ := lclass_le x
  have HS := Lib.hid (slots_any (classZ (opN x.op)) c0 (Int.lt_of_le_of_lt c6 (by decide)))
  have HZ := Lib.hid (slotsZ_nat (classZ (opN x.op)))
  have hv : slotN x = if rightB x then (slotsZ (classZ (opN x.op))).toNat else 0 := rfl
  clear hx hm c0 c6
  generalize slotN x = v at *
  generalize rightB x = b at *
  generalize slotsZ (classZ (opN x.op)) = sz at *
  generalize classZ (opN x.op) = c at *
  have HV := Lib.hid hv
  have H := Lib.hid HR
  clear hv HR
  cases b with
  | false =>
    go_enter Tryz.func46, Tryz.ntmps46
    go_wp2_with (fail)
    refine H.out.mono ?_
    rintro e w1 ⟨rfl, h1⟩
    have M1 := Lib.hid (Made.trans HM.out h1)
    clear h1
    go_wp2
    go_ret
    exact ⟨ret_int (by rw [HV.out]; rfl), M1.out⟩
  | true =>
    have HV2 := Lib.hid (show sz = (v : Int) by rw [HZ.out, HV.out]; rfl)
    go_enter Tryz.func46, Tryz.ntmps46
    go_wp2_with (fail)
    refine H.out.mono ?_
    rintro e w1 ⟨rfl, h1⟩
    obtain ⟨a0, a1, a2, a3, a4, a5, a6, a7, a8, a9, a10⟩ := in_cells (h1.heap HI.out)
    have M1 := Lib.hid (Made.trans HM.out h1)
    clear h1
    go_wp2_with (fail)
    refine (HC.out _ M1.out).mono ?_
    rintro e w2 ⟨rfl, h2⟩
    have M2 := Lib.hid (Made.trans M1.out h2)
    clear h2
    go_wp2_with (fail)
    refine (HS.out _).mono ?_
    rintro e w3 ⟨rfl, rfl⟩
    go_wp2
    go_ret
    exact ⟨ret_int HV2.out, M2.out⟩
/-- The row of masks, as far as it is filled. -/
structure MaskAt (W : World) (g n c : Nat) (zs : List Nat) (w : World) : Prop where
  made : Made W w
  row : w.ownsRow W.heap.size 5 1 (.slice (some ⟨g, 0, none⟩) n c) n (masksV zs)
theorem MaskAt.next {W w w' : World} {g n c : Nat} {zs : List Nat} (h : MaskAt W g n c zs w) (hm : Made w w') : MaskAt W g n c zs w' := ⟨Made.trans h.made hm, owns_made h.row hm⟩
theorem MaskAt.drewN {W w : World} {g n c : Nat} {zs : List Nat} (h : MaskAt W g n c zs w) (k : Nat) : MaskAt W g n c zs (w.drewN k) := ⟨below_drewN h.made k, ⟨h.row.1, h.row.2⟩⟩
theorem MaskAt.put {W w : World} {g n c o k : Nat} {l : List In} (h : MaskAt W g n c (maskL o l k) w) (hk : k < l.length) (x : In) (hx : l[k] = x) : MaskAt W g n c (maskL o l (k + 1)) (w.setCell ⟨g, k, none⟩ (.int .u8 (outN o x : Int))) := by
  have hg := (h.row.lt g rfl).1
  refine ⟨h.made.setCell (p := ⟨g, k, none⟩) hg _, ?_⟩
  rw [← masks_put o l hk x hx]
  exact (h.row.stored k _).1
set_option maxRecDepth 100000 in
set_option maxHeartbeats 8000000 in
theorem lfit_any (o : Nat) (ho : o = 12 ∨ o = 15) (ao : Option Addr) (cap : Nat) (l : List In) (w : World) (hN : Names w) (hI : Insts w ao cap l) (hl : l.length ≤ 1000) :
    Calls Tryz.prog 26 #[.slice ao l.length cap, .int .u8 (o : Int)] w fun e w' => e = .returned (.bool (fitsN (l.map (outN o)))) ∧ Made w w' := by
  obtain ⟨i0, hi, hz0, hz1, hz2⟩ := info_parts byte_row
  have hroom := hI.room
  have hmax := hI.max
  unfold maxLen at hmax
  have H := Lib.hid hI
  have HO := Lib.hid (fun x => out_code o ho x)
  have HS := Lib.hid (fun (u : World) (hu : Made w u) (x : In) (hx : x.small) => lslots_any u (hN.made hu) x hx u (Made.refl u))
  clear hI hN ho
  have hzb : i0.bytes * l.length ≤ 281474976710656 := by rw [hz2]; omega
  go_enter Tryz.func26, Tryz.ntmps26
  go_upto_region 2 with (at_make; refine wpList_make_full _ rfl _ _ 57 rfl w.heap.size 5 i0 (.int .u8 0) 1 Tryz.underlying57 hi hz0 hz1 _ _ _ _ l.length rfl rfl rfl rfl hzb (by unfold maxLen; omega) (Nat.le_refl _) ?_; intro w1 hown hgr)
  rewrite [made_bytes] at hown
  have K0 := Lib.hid (show MaskAt w w.heap.size l.length l.length (maskL o l 0) w1 from ⟨⟨hgr.os, hgr.tape, hgr.output, hgr.size, fun k hk => hgr.block k hk (by simp)⟩, by rw [maskL_start]; exact hown⟩)
  clear hown hgr hzb
  go_wp2_with (fail)
  go_loopw [13] (fun x wr => ∃ k : Nat, k ≤ l.length ∧ x = .int .i64 k ∧ MaskAt w w.heap.size l.length l.length (maskL o l k) wr) (fun x _ => l.length - (intOf x).toNat)
  case atStart => exact ⟨0, by omega, rfl, K0.out⟩
  case round =>
    obtain ⟨k, hk, rfl, hM⟩ := hrel
    have K1 := Lib.hid hM
    clear hM K0
    by_cases hlt : k < l.length
    · obtain ⟨x, hx⟩ : ∃ x, l[k] = x := ⟨_, rfl⟩
      obtain ⟨b, o1, rfl, c0, c1, c2, c3, c4, c5, c6, c7, c8, c9, c10⟩ := insts_cells (insts_made H.out K1.out.made) hlt x hx
      have lb := World.block_lt_of_cell? wr _ c0
      have hsm := Lib.hid (H.out.small x (hx ▸ List.getElem_mem hlt))
      have m2 : Made wr (wr.alloc (.cells x.cells.toArray 34)) := (Made.refl wr).alloc (Nat.le_refl _) _
      have K2 := Lib.hid (K1.out.next m2)
      have HX := Lib.hid hx
      have hand := HO.out x
      have HG := Lib.hid (HS.out _ K2.out.made x hsm.out)
      have HPUT := Lib.hid (fun (u : World) (hu : MaskAt w w.heap.size l.length l.length (maskL o l k) u) => hu.put hlt x hx)
      clear hx m2
      generalize outN o x = mn at *
      generalize slotN x = sn at *
      go_wp2_with (fail)
      refine HG.out.mono ?_
      rintro e w5 ⟨rfl, h5⟩
      have K5 := Lib.hid (K2.out.next h5)
      clear h5 c0 c1 c2 c3 c4 c5 c6 c7 c8 c9 c10 lb
      have fr := K5.out.row.frozenAt
      have cj := (K5.out.row.cellAt k (by omega)).trans (List.getElem?_eq_getElem (by simp [maskL_len o l hk]; exact hlt))
      have KX := Lib.hid (HPUT.out _ K5.out)
      go_wp2
      go_roundw
      case rel => exact ⟨k + 1, by omega, by go_num, KX.out⟩
      case measure => simp [intOf]; omega
    · obtain rfl : k = l.length := by omega
      have hrow := K1.out.row
      rewrite [maskL_end] at hrow
      obtain ⟨e1, e2⟩ := owns_masks hrow hl (mask_byte o l)
      have HF := mfits_any (l.map (outN o)) (some ⟨w.heap.size, 0, none⟩) l.length wr e2
      rewrite [e1] at HF
      have HFF := Lib.hid HF
      have KM := Lib.hid K1.out.made
      clear hrow e1 e2 HF
      go_wp2_with (fail)
      refine HFF.out.mono ?_
      rintro e w6 ⟨rfl, h6⟩
      have M6 := Lib.hid (Made.trans KM.out h6)
      clear h6
      go_wp2
      go_ret
      exact ⟨rfl, M6.out⟩
end
end Go.Proofs.YtaieiaopdbhjaaaGreatDoor
