/- DuplexBack of the laws of duplex returns true, for every two instructions, in every world that holds the three tables. -/
import Derived.Test.YtckekkedjlkljaaDoorDupAwake
import Derived.Test.YtckekkedjlkljaaDoorInstOpen
namespace Go.Proofs.YtckekkedjlkljaaDoor
open Go.ChangeShapes Go.WideShapes Go.ChangeAt Go.RowKit Go.Sort BigFrame

namespace duplexBack
section
attribute [local irreducible] World.cell?
set_option maxRecDepth 100000 in
set_option maxHeartbeats 8000000 in
theorem walk (W : World) (hT : Tabs W) (a b : In) (ha : a.small) (hb : b.small) :
    Calls Tryd.prog 5 #[a.val, b.val] W fun e w' => e = .returned (.bool true) ∧ Made W w' := by
  have K0 := Lib.hid ((Held.start (Made.refl W)).push2 a b)
  have CP := Lib.hid (fun v (hv : Tabs v) => pair_any v hv a b ha hb v (Made.refl v))
  have hq := fun v (hv : Tabs v) => pair_any v hv b a hb ha v (Made.refl v)
  rewrite [← pair_turned a b] at hq
  have DP := Lib.hid hq
  have CA := Lib.hid (fun v (hv : SRows v) => subOf_any v hv a ha v (Made.refl v))
  have CB := Lib.hid (fun v (hv : SRows v) => subOf_any v hv b hb v (Made.refl v))
  have hpn := pair_none a b
  have hpy := fun p => paired a b p
  clear hq ha hb
  generalize pairP a b = Q at *
  obtain ⟨p, q⟩ := Q
  have ho1 : (p != p) = false := by simp
  have ho2 : (q != q) = false := by simp
  have hopa := fun w => (run_in_eql a a w).trans (by rw [decide_eq_true rfl])
  have hopb := fun w => (run_in_eql b b w).trans (by rw [decide_eq_true rfl])
  have HN := Lib.hid (show q = false → p = 0 from fun h => (Prod.mk.inj (hpn h)).1)
  have HY := Lib.hid (show q = true → Paired a b p from fun h => hpy p (by rw [h]))
  clear hpn hpy
  go_enter Tryd.func5, Tryd.ntmps5
  go_upto_region 1 with (fail)
  refine name_world (fun v => Held W [(W.heap.size + 1, b), (W.heap.size, a)] v) K0.out ?_
  intro v1 hv
  have K1 := Lib.hid hv
  clear hv K0
  obtain ⟨a0, a1, a2, a3, a4, a5, a6, a7, a8, a9, a10⟩ := in_cells (K1.out.one (b := W.heap.size + 1) (x := b) (by simp))
  have hla := heap_lt (K1.out.one (b := W.heap.size + 1) (x := b) (by simp))
  obtain ⟨b0, b1, b2, b3, b4, b5, b6, b7, b8, b9, b10⟩ := in_cells (K1.out.one (b := W.heap.size) (x := a) (by simp))
  have hlb := heap_lt (K1.out.one (b := W.heap.size) (x := a) (by simp))
  go_wp2_with (fail)
  refine (CP.out v1 (hT.made K1.out.made)).mono ?_
  rintro e v2 ⟨rfl, hz⟩
  have K2 := Lib.hid (K1.out.next hz)
  clear hz a0 a1 a2 a3 a4 a5 a6 a7 a8 a9 a10 hla b0 b1 b2 b3 b4 b5 b6 b7 b8 b9 b10 hlb
  obtain ⟨a0, a1, a2, a3, a4, a5, a6, a7, a8, a9, a10⟩ := in_cells (K2.out.one (b := W.heap.size + 1) (x := b) (by simp))
  have hla := heap_lt (K2.out.one (b := W.heap.size + 1) (x := b) (by simp))
  obtain ⟨b0, b1, b2, b3, b4, b5, b6, b7, b8, b9, b10⟩ := in_cells (K2.out.one (b := W.heap.size) (x := a) (by simp))
  have hlb := heap_lt (K2.out.one (b := W.heap.size) (x := a) (by simp))
  go_wp2_with (fail)
  refine (DP.out v2 (hT.made K2.out.made)).mono ?_
  rintro e v3 ⟨rfl, hz⟩
  have K3 := Lib.hid (K2.out.next hz)
  clear hz a0 a1 a2 a3 a4 a5 a6 a7 a8 a9 a10 hla b0 b1 b2 b3 b4 b5 b6 b7 b8 b9 b10 hlb
  cases q with
  | false =>
    obtain rfl : p = 0 := HN.out rfl
    obtain ⟨a0, a1, a2, a3, a4, a5, a6, a7, a8, a9, a10⟩ := in_cells (K3.out.one (b := W.heap.size) (x := a) (by simp))
    have hla := heap_lt (K3.out.one (b := W.heap.size) (x := a) (by simp))
    go_wp2_with (fail)
    refine (CA.out v3 (hT.rows.made K3.out.made)).mono ?_
    rintro e v4 ⟨rfl, hz⟩
    have K4 := Lib.hid (K3.out.next hz)
    clear hz a0 a1 a2 a3 a4 a5 a6 a7 a8 a9 a10 hla
    obtain ⟨a0, a1, a2, a3, a4, a5, a6, a7, a8, a9, a10⟩ := in_cells (K4.out.one (b := W.heap.size + 1) (x := b) (by simp))
    have hla := heap_lt (K4.out.one (b := W.heap.size + 1) (x := b) (by simp))
    go_wp2_with (fail)
    refine (CB.out v4 (hT.rows.made K4.out.made)).mono ?_
    rintro e v5 ⟨rfl, hz⟩
    have K5 := Lib.hid (K4.out.next hz)
    clear hz a0 a1 a2 a3 a4 a5 a6 a7 a8 a9 a10 hla
    go_wp2_with (fail)
    refine (awake_any v5 (hT.made K5.out.made) v5 (Made.refl _)).mono ?_
    rintro e v6 ⟨rfl, hz⟩
    have K6 := Lib.hid (K5.out.next hz)
    clear hz 
    go_wp2
    go_ret
    exact ⟨rfl, K6.out.made⟩
  | true =>
    have hP := HY.out rfl
    have hofa := hP.ofa
    have hofb := hP.ofb
    generalize subOf a = ca at *
    obtain ⟨s, oa⟩ := ca
    generalize subOf b = cb at *
    obtain ⟨t, ob⟩ := cb
    obtain rfl : oa = true := hofa
    obtain rfl : ob = true := hofb
    have CZ := fun v (hv : Pieces v) => parts_made v hv p hP.u32 v (Made.refl v)
    have CS := fun v (hv : Tabs v) => split_any v hv p hP.u32 v (Made.refl v)
    have CC := fun v (hv : Tabs v) => canon_any v hv p hP.u32 v (Made.refl v)
    rewrite [hP.parse] at CZ
    rewrite [hP.canon] at CC
    have DZ := Lib.hid CZ
    have DC := Lib.hid CC
    have htwo := hP.two
    generalize codeZ p = cd at *
    generalize payZ p = pay at *
    clear hP CZ CC HY HN
    obtain ⟨a0, a1, a2, a3, a4, a5, a6, a7, a8, a9, a10⟩ := in_cells (K3.out.one (b := W.heap.size) (x := a) (by simp))
    have hla := heap_lt (K3.out.one (b := W.heap.size) (x := a) (by simp))
    go_wp2_with (fail)
    refine (CA.out v3 (hT.rows.made K3.out.made)).mono ?_
    rintro e v4 ⟨rfl, hz⟩
    have K4 := Lib.hid (K3.out.next hz)
    clear hz a0 a1 a2 a3 a4 a5 a6 a7 a8 a9 a10 hla
    obtain ⟨a0, a1, a2, a3, a4, a5, a6, a7, a8, a9, a10⟩ := in_cells (K4.out.one (b := W.heap.size + 1) (x := b) (by simp))
    have hla := heap_lt (K4.out.one (b := W.heap.size + 1) (x := b) (by simp))
    go_wp2_with (fail)
    refine (CB.out v4 (hT.rows.made K4.out.made)).mono ?_
    rintro e v5 ⟨rfl, hz⟩
    have K5 := Lib.hid (K4.out.next hz)
    clear hz a0 a1 a2 a3 a4 a5 a6 a7 a8 a9 a10 hla
    go_wp2_with (fail)
    refine (DZ.out v5 (hT.pieces.made K5.out.made)).mono ?_
    rintro e v6 ⟨rfl, hz⟩
    have K6 := Lib.hid (K5.out.next hz)
    clear hz 
    rcases htwo with htwo | htwo
    · skip
      rewrite [htwo] at CS
      have DS := Lib.hid CS
      clear CS htwo
      go_wp2_with (fail)
      refine (DS.out v6 (hT.made K6.out.made)).mono ?_
      rintro e z7 ⟨rfl, hz⟩
      have G7 := Lib.hid ((K6.out.next hz).push2 a b)
      clear hz 
      go_upto_region 11 with (fail)
      refine name_world (fun v => Held W [(z7.heap.size + 1, b), (z7.heap.size, a), (W.heap.size + 1, b), (W.heap.size, a)] v) G7.out ?_
      intro v7 hv
      have K7 := Lib.hid hv
      clear hv G7
      obtain ⟨a0, a1, a2, a3, a4, a5, a6, a7, a8, a9, a10⟩ := in_cells (K7.out.one (b := z7.heap.size + 1) (x := b) (by simp))
      have hla := heap_lt (K7.out.one (b := z7.heap.size + 1) (x := b) (by simp))
      obtain ⟨b0, b1, b2, b3, b4, b5, b6, b7, b8, b9, b10⟩ := in_cells (K7.out.one (b := z7.heap.size) (x := a) (by simp))
      have hlb := heap_lt (K7.out.one (b := z7.heap.size) (x := a) (by simp))
      obtain ⟨c0, c1, c2, c3, c4, c5, c6, c7, c8, c9, c10⟩ := in_cells (K7.out.one (b := W.heap.size + 1) (x := b) (by simp))
      have hlc := heap_lt (K7.out.one (b := W.heap.size + 1) (x := b) (by simp))
      obtain ⟨d0, d1, d2, d3, d4, d5, d6, d7, d8, d9, d10⟩ := in_cells (K7.out.one (b := W.heap.size) (x := a) (by simp))
      have hld := heap_lt (K7.out.one (b := W.heap.size) (x := a) (by simp))
      go_wp2_with (fail)
      refine (DC.out v7 (hT.made K7.out.made)).mono ?_
      rintro e v8 ⟨rfl, hz⟩
      have K8 := Lib.hid (K7.out.next hz)
      clear hz a0 a1 a2 a3 a4 a5 a6 a7 a8 a9 a10 hla b0 b1 b2 b3 b4 b5 b6 b7 b8 b9 b10 hlb c0 c1 c2 c3 c4 c5 c6 c7 c8 c9 c10 hlc d0 d1 d2 d3 d4 d5 d6 d7 d8 d9 d10 hld
      go_wp2_with (fail)
      refine (awake_any v8 (hT.made K8.out.made) v8 (Made.refl _)).mono ?_
      rintro e v9 ⟨rfl, hz⟩
      have K9 := Lib.hid (K8.out.next hz)
      clear hz 
      go_wp2
      go_ret
      exact ⟨rfl, K9.out.made⟩
    · skip
      rewrite [htwo] at CS
      have DS := Lib.hid CS
      clear CS htwo
      go_wp2_with (fail)
      refine (DS.out v6 (hT.made K6.out.made)).mono ?_
      rintro e z7 ⟨rfl, hz⟩
      have G7 := Lib.hid ((K6.out.next hz).push2 b a)
      clear hz 
      go_upto_region 11 with (fail)
      refine name_world (fun v => Held W [(z7.heap.size + 1, a), (z7.heap.size, b), (W.heap.size + 1, b), (W.heap.size, a)] v) G7.out ?_
      intro v7 hv
      have K7 := Lib.hid hv
      clear hv G7
      by_cases hba : b = a
      · subst hba
        obtain ⟨a0, a1, a2, a3, a4, a5, a6, a7, a8, a9, a10⟩ := in_cells (K7.out.one (b := z7.heap.size + 1) (x := b) (by simp))
        have hla := heap_lt (K7.out.one (b := z7.heap.size + 1) (x := b) (by simp))
        obtain ⟨b0, b1, b2, b3, b4, b5, b6, b7, b8, b9, b10⟩ := in_cells (K7.out.one (b := z7.heap.size) (x := b) (by simp))
        have hlb := heap_lt (K7.out.one (b := z7.heap.size) (x := b) (by simp))
        obtain ⟨c0, c1, c2, c3, c4, c5, c6, c7, c8, c9, c10⟩ := in_cells (K7.out.one (b := W.heap.size + 1) (x := b) (by simp))
        have hlc := heap_lt (K7.out.one (b := W.heap.size + 1) (x := b) (by simp))
        obtain ⟨d0, d1, d2, d3, d4, d5, d6, d7, d8, d9, d10⟩ := in_cells (K7.out.one (b := W.heap.size) (x := b) (by simp))
        have hld := heap_lt (K7.out.one (b := W.heap.size) (x := b) (by simp))
        go_wp2_with (fail)
        refine (DC.out v7 (hT.made K7.out.made)).mono ?_
        rintro e v8 ⟨rfl, hz⟩
        have K8 := Lib.hid (K7.out.next hz)
        clear hz a0 a1 a2 a3 a4 a5 a6 a7 a8 a9 a10 hla b0 b1 b2 b3 b4 b5 b6 b7 b8 b9 b10 hlb c0 c1 c2 c3 c4 c5 c6 c7 c8 c9 c10 hlc d0 d1 d2 d3 d4 d5 d6 d7 d8 d9 d10 hld
        go_wp2_with (fail)
        refine (awake_any v8 (hT.made K8.out.made) v8 (Made.refl _)).mono ?_
        rintro e v9 ⟨rfl, hz⟩
        have K9 := Lib.hid (K8.out.next hz)
        clear hz 
        go_wp2
        go_ret
        exact ⟨rfl, K9.out.made⟩
      · have hopn := fun w => (run_in_eql b a w).trans (by rw [decide_eq_false hba])
        clear hba
        obtain ⟨a0, a1, a2, a3, a4, a5, a6, a7, a8, a9, a10⟩ := in_cells (K7.out.one (b := z7.heap.size + 1) (x := a) (by simp))
        have hla := heap_lt (K7.out.one (b := z7.heap.size + 1) (x := a) (by simp))
        obtain ⟨b0, b1, b2, b3, b4, b5, b6, b7, b8, b9, b10⟩ := in_cells (K7.out.one (b := z7.heap.size) (x := b) (by simp))
        have hlb := heap_lt (K7.out.one (b := z7.heap.size) (x := b) (by simp))
        obtain ⟨c0, c1, c2, c3, c4, c5, c6, c7, c8, c9, c10⟩ := in_cells (K7.out.one (b := W.heap.size + 1) (x := b) (by simp))
        have hlc := heap_lt (K7.out.one (b := W.heap.size + 1) (x := b) (by simp))
        obtain ⟨d0, d1, d2, d3, d4, d5, d6, d7, d8, d9, d10⟩ := in_cells (K7.out.one (b := W.heap.size) (x := a) (by simp))
        have hld := heap_lt (K7.out.one (b := W.heap.size) (x := a) (by simp))
        go_wp2_with (fail)
        refine (DC.out v7 (hT.made K7.out.made)).mono ?_
        rintro e v8 ⟨rfl, hz⟩
        have K8 := Lib.hid (K7.out.next hz)
        clear hz a0 a1 a2 a3 a4 a5 a6 a7 a8 a9 a10 hla b0 b1 b2 b3 b4 b5 b6 b7 b8 b9 b10 hlb c0 c1 c2 c3 c4 c5 c6 c7 c8 c9 c10 hlc d0 d1 d2 d3 d4 d5 d6 d7 d8 d9 d10 hld
        go_wp2_with (fail)
        refine (awake_any v8 (hT.made K8.out.made) v8 (Made.refl _)).mono ?_
        rintro e v9 ⟨rfl, hz⟩
        have K9 := Lib.hid (K8.out.next hz)
        clear hz 
        go_wp2
        go_ret
        exact ⟨rfl, K9.out.made⟩
theorem walkA (W : World) (hT : Tabs W) (a0 a1 : In) (w0 : a0.small) (w1 : a1.small) :
    Calls Tryd.prog 5 #[a0.val, a1.val] W fun e w' => e = .returned (.bool true) ∧ Made W w' :=
  walk W hT a0 a1 w0 w1
end
end duplexBack
end Go.Proofs.YtckekkedjlkljaaDoor
