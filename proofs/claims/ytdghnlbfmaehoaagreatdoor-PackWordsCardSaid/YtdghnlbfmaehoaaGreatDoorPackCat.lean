/- What Go's slices.Grow of nil and slices.Concat return of keyed instructions in memory; no condition but those named. -/
import Derived.Test.YtdghnlbfmaehoaaGreatDoorPackFn
import Derived.Lib.AppendZeros
namespace Go.Proofs.YtdghnlbfmaehoaaGreatDoor
open Go.ChangeShapes Go.WideShapes Go.ChangeAt Go.RowKit Go.Sort BigFrame

/-- A row of keyed instructions of a call's own. -/
structure CatAt (W : World) (v : Value) (l : List Ent) (w : World) : Prop where
  made : Made W w
  row : w.ownsRow W.heap.size 69 15 v l.length (flatE l)
theorem CatAt.next {W w w' : World} {v : Value} {l : List Ent} (h : CatAt W v l w) (hm : Made w w') : CatAt W v l w' := ⟨Made.trans h.made hm, owns_made h.row hm⟩
theorem CatAt.grows {W w w1 : World} {v v1 : Value} {l l2 : List Ent} (h : CatAt W v l w) (own : w1.ownsRow W.heap.size 69 15 v1 (l.length + l2.length) (flatE l ++ flatE l2)) (gr : w.grownBy w1 v.ownBlock) : CatAt W v1 (l ++ l2) w1 := by
  refine ⟨Below.grown h.made gr h.made.size (fun t ht => (h.row.lt t ht).1), ?_⟩
  rw [flatE_app, List.length_append]
  exact own
/-- Slices of keyed instructions, in a block. -/
structure Lists (w : World) (b : Nat) (LL : List (List Ent)) : Prop where
  lt : b < w.heap.size
  cell : ∀ k (h : k < LL.length), ∃ p c, w.cell? ⟨b, k, none⟩ = some (.slice p (LL[k]).length c) ∧ Ents w p c LL[k]
theorem Lists.made {w w' : World} {b : Nat} {LL : List (List Ent)} (h : Lists w b LL) (hm : Made w w') : Lists w' b LL := ⟨Nat.lt_of_lt_of_le h.lt hm.size, fun k hk => by
  obtain ⟨p, c, h1, h2⟩ := h.cell k hk
  exact ⟨p, c, (World.cell?_of_block (hm.block b h.lt)).trans h1, ents_made h2 hm⟩⟩
theorem flat_next {LL : List (List Ent)} {k : Nat} (h : k < LL.length) (l : List Ent) (hl : LL[k] = l) : (LL.take (k + 1)).flatten = (LL.take k).flatten ++ l := by
  rw [List.take_succ_eq_append_getElem h, List.flatten_append, hl]
  simp
theorem flat_le (LL : List (List Ent)) (k : Nat) : (LL.take k).flatten.length ≤ LL.flatten.length := by
  have h : LL.flatten = (LL.take k).flatten ++ (LL.drop k).flatten := by rw [← List.flatten_append, List.take_append_drop]
  rw [h, List.length_append]
  omega
def GrowSays (w : World) (e : Ending) (w' : World) : Prop := ∃ v, e = .returned v ∧ CatAt w v [] w'
def CatSays (L : List Ent) (w : World) (e : Ending) (w' : World) : Prop := ∃ so c, e = .returned (.slice so L.length c) ∧ Ents w' so c L ∧ Made w w'
section
attribute [local irreducible] World.cell?
set_option maxRecDepth 100000 in
set_option maxHeartbeats 4000000 in
theorem grow_any (n : Nat) (hn : n ≤ 1000) (w : World) : Calls Tryz.prog 84 #[.slice none 0 0, .int .i64 n] w (GrowSays w) := by
  obtain ⟨i0, hi, hz0, hz1, hz2⟩ := info_parts ent_row
  by_cases h0 : n = 0
  · subst h0
    go_enter Tryz.func84, Tryz.ntmps84
    go_wp2
    go_ret
    exact ⟨_, rfl, Made.refl w, World.ownsRow_nil _ _ _ _⟩
  · have hrun := fun ty => Lib.run_append_nil_zeros w 48 3 ty 69 i0 (Ent.val zeroE) .i64 .i64 Tryz.underlying48 Tryz.underlying3 hi hz0 n (by omega) (by omega) (by omega) (by rw [hz2]; omega)
    have hge := grownCap_ge w n 0 69
    have hle := grownCap_le_maxLen w n 0 69 (by unfold maxLen; omega)
    have hg1 : decide ((n : Int) > 0) = true := decide_eq_true (by omega)
    have hg2 : decide ((n : Int) < 0) = false := decide_eq_false (by omega)
    generalize grownCap w n 0 69 = G at *
    have hsz : (Builtin.zeroCells (Ent.val zeroE).cells n ++ Builtin.zeroCells (Ent.val zeroE).cells (G - n)).size = G * 15 := by
      have e15 : (Ent.val zeroE).cells.size = 15 := rfl
      rw [Array.size_append, size_zeroCells, size_zeroCells, e15]
      omega
    generalize Builtin.zeroCells (Ent.val zeroE).cells n ++ Builtin.zeroCells (Ent.val zeroE).cells (G - n) = cur at *
    have hown := World.ownsRow_made (e := 69) (size := 15) (base := w.heap.size) w.drew cur G (Nat.le_refl _) hle hsz
    have HOWN := Lib.hid (show CatAt w (.slice (some ⟨w.heap.size, 0, none⟩) 0 G) [] (w.drew.alloc (.cells cur 69)) from ⟨(made_drew (Made.refl w)).alloc (Nat.le_refl _) _, hown⟩)
    clear hown hsz
    unfold maxLen at hle
    go_enter Tryz.func84, Tryz.ntmps84
    go_wp2_with (at_builtin; refine Lib.wpList_append_run _ rfl _ _ _ _ rfl _ _ rfl rfl _ _ (hrun _) ?_)
    go_ret
    exact ⟨_, rfl, HOWN.out⟩
set_option maxRecDepth 100000 in
set_option maxHeartbeats 8000000 in
theorem concat_any (LL : List (List Ent)) (b : Nat) (w : World) (hL : Lists w b LL) (hn : LL.length ≤ 1000) (ht : LL.flatten.length ≤ 1000) :
    Calls Tryz.prog 51 #[.slice (some ⟨b, 0, none⟩) LL.length LL.length] w (CatSays LL.flatten w) := by
  obtain ⟨i0, hi0, hz0, hz1, hz2⟩ := info_parts ent_row
  have HL := Lib.hid hL
  have HG := Lib.hid (fun n hn u => grow_any n hn u)
  obtain ⟨tot, htot⟩ : ∃ f : Nat → Nat, f = fun k => (LL.take k).flatten.length := ⟨_, rfl⟩
  have HT0 := Lib.hid (show tot 0 = 0 by rw [htot]; simp)
  have HTE := Lib.hid (show tot LL.length = LL.flatten.length by rw [htot]; simp)
  have HTN := Lib.hid (show ∀ k (h : k < LL.length) (l : List Ent), LL[k] = l → tot (k + 1) = tot k + l.length by
    intro k h l hl
    rw [htot]
    simp only []
    rw [flat_next h l hl, List.length_append])
  have HTL := Lib.hid (show ∀ k, tot k ≤ 1000 by
    intro k
    rw [htot]
    exact Nat.le_trans (flat_le LL k) ht)
  clear hL htot
  go_enter Tryz.func51, Tryz.ntmps51
  go_wp2_with (fail)
  go_loopw [3, 11] (fun sv iv wr => ∃ k : Nat, k ≤ LL.length ∧ iv = .int .i64 k ∧ sv = .int .i64 (tot k : Nat) ∧ w = wr) (fun _ iv _ => LL.length - (intOf iv).toNat)
  case atStart => exact ⟨0, by omega, rfl, by rw [HT0.out]; rfl, rfl⟩
  case round =>
    obtain ⟨k, hk, rfl, rfl, rfl⟩ := hrel
    by_cases hlt : k < LL.length
    · obtain ⟨l, hl⟩ : ∃ l, LL[k] = l := ⟨_, rfl⟩
      obtain ⟨p, c, hc, -⟩ := HL.out.cell k hlt
      rewrite [hl] at hc
      have lb := HL.out.lt
      have HE1 := Lib.hid (HTN.out k hlt l hl)
      have hb0 := HTL.out (k + 1)
      rewrite [HE1.out] at hb0
      clear hl
      have hb : decide (((tot k : Nat) : Int) + (l.length : Int) < 0) = false := decide_eq_false (by omega)
      go_wp2
      go_roundw
      case rel => exact ⟨k + 1, by omega, by go_num, by rw [HE1.out]; go_num, trivial⟩
      case measure => simp [intOf]; omega
    · obtain rfl : k = LL.length := by omega
      have hle := HTL.out LL.length
      go_wp2_with (fail)
      refine (HG.out _ hle _).mono ?_
      rintro e w1 ⟨v0, rfl, hK⟩
      have K0 := Lib.hid hK
      clear hK
      go_wp2_with (fail)
      go_loopw [6, 27] (fun nv iv wz => ∃ (k : Nat) (v : Value), k ≤ LL.length ∧ iv = .int .i64 k ∧ v = nv ∧ CatAt w v (LL.take k).flatten wz) (fun _ iv _ => LL.length - (intOf iv).toNat)
      case atStart => exact ⟨0, v0, by omega, rfl, rfl, by simpa using K0.out⟩
      case round =>
        obtain ⟨k, v, hk, rfl, rfl, hO⟩ := hrel
        have KV := Lib.hid hO
        clear hO K0
        by_cases hlt : k < LL.length
        · obtain ⟨l, hl⟩ : ∃ l, LL[k] = l := ⟨_, rfl⟩
          have HLW := HL.out.made KV.out.made
          obtain ⟨p, c, hc, hE⟩ := HLW.cell k hlt
          rewrite [hl] at hc hE
          have lb := HLW.lt
          have hfn := flat_next hlt l hl
          have hb2 : (LL.take k).flatten.length + l.length ≤ 1000 := by
            have h5 := flat_le LL (k + 1)
            rw [hfn, List.length_append] at h5
            omega
          have HFN := Lib.hid hfn
          have HE := Lib.hid hE
          have hnone := Lib.hid (show p = none → l.length = 0 ∧ c = 0 from fun h => ⟨by rw [(hE.bare h).1]; rfl, (hE.bare h).2⟩)
          have hol := Lib.hid (ents_olds hE)
          have hfl := flatE_len l
          have hsz := Lib.hid KV.out.made.size
          clear hl hfn hE HLW
          have hmx : (LL.take k).flatten.length + l.length ≤ maxLen := by unfold maxLen; omega
          have hby : ((LL.take k).flatten.length + l.length) * 48 ≤ 140737488355328 := by omega
          go_upto_region 14 with (at_builtin; refine wpList_append_each rfl (.tmp 31) (.tmp 32) 48 rfl w.heap.size 69 i0 (Ent.val zeroE) 15 48 Tryz.underlying48 hi0 hz0 hz1 hz2 rfl (by decide) v (LL.take k).flatten.length (flatE (LL.take k).flatten) rfl KV.out.row p l.length c (flatE l) rfl hnone.out hfl hol.out (flatE_one l) hmx hby hsz.out ?_; intro v7 w9 own1 gr1; have KG := Lib.hid (KV.out.grows own1 gr1); clear own1 gr1)
          have KN := Lib.hid (show CatAt w v7 (LL.take (k + 1)).flatten w9 by rw [HFN.out]; exact KG.out)
          go_wp2
          go_roundw
          case rel => exact ⟨k + 1, _, by omega, by go_num, rfl, KN.out⟩
          case measure => simp [intOf]; omega
        · obtain rfl : k = LL.length := by omega
          have KV1 := KV.out
          rewrite [List.take_length] at KV1
          obtain ⟨-, so, c, rfl, hE⟩ := owns_ents KV1.row
          have HE := Lib.hid hE
          have HM := Lib.hid KV1.made
          clear KV1 hE KV
          go_wp2
          go_ret
          exact ⟨_, _, rfl, HE.out, HM.out⟩
end
end Go.Proofs.YtdghnlbfmaehoaaGreatDoor
