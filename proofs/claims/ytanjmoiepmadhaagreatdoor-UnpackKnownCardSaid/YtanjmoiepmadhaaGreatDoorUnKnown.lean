/- UnpackKnown of the laws of unpack returns true, in every world that holds the tables. -/
import Derived.Test.YtanjmoiepmadhaaGreatDoorUnLaws3
namespace Go.Proofs.YtanjmoiepmadhaaGreatDoor
open Go.ChangeShapes Go.WideShapes Go.ChangeAt Go.RowKit Go.Sort BigFrame

theorem tell_none {pc : Int} {zs : List Int} (h1 : lenP zs = (zs.length, true)) (h2 : unP pc zs = none) : unTell pc zs = (8, pkZero) := by
  unfold unTell
  rw [if_pos h1, h2]
theorem tell_arg {pc : Int} {zs : List Int} (h1 : lenP zs ≠ (zs.length, true)) : unTell pc zs = (1, pkZero) := by
  unfold unTell
  rw [if_neg h1]
theorem tell_ok {pc : Int} {zs : List Int} {s : UnSt} {q : Pk} (h1 : lenP zs = (zs.length, true)) (h2 : unP pc zs = some s) (hq : unPk zs s = q) (h3 : legalP q = 0) : unTell pc zs = (0, q) := by
  unfold unTell
  rw [if_pos h1, h2]
  show (if legalP (unPk zs s) = 0 then (0, unPk zs s) else (legalP (unPk zs s), pkZero)) = _
  rw [hq, if_pos h3]
theorem unpack_pk (zs : List Int) (n : Nat) (hn : zs.length = n) (er : Int) (q : Pk) (m : Nat) (hm : q.insts.length = m) (e0 e1 r d : Bool) (k0 : q.e0 = e0) (k1 : q.e1 = e1) (k2 : q.raw = r) (k3 : q.dup = d) (ht : unTell 0 zs = (er, q)) (w : World) (hT : Tabs w) (ao : Option Addr) (cap : Nat) (hW : Ws w ao cap zs) (hu : zs.all (fun z => decide (0 ≤ z ∧ z < 4294967296)) = true) (hl : n ≤ 1000) :
    Calls Tryz.prog 10 #[.slice ao n cap, .int .u32 0] w fun e w' => ∃ so c, e = .returned (.tuple #[pkV so m c e0 e1 r d, .int .i64 er]) ∧ Insts w' so c q.insts ∧ Made w w' := by
  subst hn hm k0 k1 k2 k3
  exact unpack_at hT hW (fun z hz => by have := List.all_eq_true.1 hu z hz; simpa [isU32] using this) hl (by unfold isU32; omega) ht
theorem len_pk (zs : List Int) (n : Nat) (hn : zs.length = n) (m : Int) (ok : Bool) (j : Nat) (hj : (j : Int) = m) (ht : lenP zs = (j, ok)) (w : World) (hT : Tabs w) (ao : Option Addr) (cap : Nat) (hW : Ws w ao cap zs) (hu : zs.all (fun z => decide (0 ≤ z ∧ z < 4294967296)) = true) (hl : n ≤ 1000) :
    Calls Tryz.prog 8 #[.slice ao n cap] w fun e w' => e = .returned (.tuple #[.int .i64 m, .bool ok]) ∧ Made w w' := by
  subst hn hj
  exact len_at hT hW (fun z hz => by have := List.all_eq_true.1 hu z hz; simpa [isU32] using this) hl ht
abbrev turnL : List In := [⟨8, 4, 0, 0, 0, 0, 0, false, false, 0, 5⟩, ⟨2, 1, 2, 3, 0, 0, 0, false, false, 0, 0⟩]
abbrev turnP : Pk := ⟨turnL, false, false, true, false⟩
abbrev extL : List In := [⟨8, 1, 0, 0, 0, 0, 0, false, true, 0, 305419896⟩]
abbrev extP : Pk := ⟨extL, false, false, false, false⟩
theorem turn_tell : unTell 0 [537149445, 134333488] = (0, turnP) := tell_ok (s := ⟨turnL, false, 0, false⟩) (by decide +kernel) (by kernel_rfl) (by kernel_rfl) (by decide +kernel)
theorem ext_tell : unTell 0 [4748374, 536985720] = (0, extP) := tell_ok (s := ⟨extL, false, 0, false⟩) (by decide +kernel) (by kernel_rfl) (by kernel_rfl) (by decide +kernel)
theorem turn_can {ok : Bool} {p : Pk} (h : IsCan 0 [537149445, 134333488] ok p) : ok = false ∧ p = pkZero := by
  cases ok with
  | false => exact ⟨rfl, (h.no rfl).2⟩
  | true =>
    obtain ⟨-, -, hw, -⟩ := h.yes rfl
    rw [turn_tell] at hw
    have hs : Said 0 turnL := said_of (fun x hx => small_of (List.all_eq_true.1 (by decide +kernel : turnL.all smallB = true) x hx)) (by decide +kernel)
    have e : rowP 0 turnL = wakeL := (row_one hs (List.Perm.swap _ _ _) (by decide +kernel)).symm
    have hy : IsWords 0 turnP (endsL false false false (bareW 0 wakeL)) := ⟨0, 0, fun h => (by cases h), fun _ => ⟨rfl, rfl⟩, by
      show _ = endsL false false false (bareW 0 (rowP 0 turnL))
      rw [e]⟩
    have hne := words_one hw hy
    exact absurd hne (by decide +kernel)
theorem can_pk (w : World) (hT : Tabs w) (ao : Option Addr) (cap : Nat) (hW : Ws w ao cap [537149445, 134333488]) :
    Calls Tryz.prog 14 #[.slice ao 2 cap, .int .u32 0] w fun e w' => ∃ so c, e = .returned (.tuple #[pkV so 0 c false false false false, .bool false]) ∧ Made w w' :=
  (ucan_any ao cap [537149445, 134333488] w hT hW (fun z hz => by simp only [List.mem_cons, List.not_mem_nil, or_false] at hz; unfold isU32; omega) (by decide) 0 (by unfold isU32; omega)).mono fun e w' h => by
    obtain ⟨so, c, p, ok, he, -, hm, hk⟩ := h
    obtain ⟨rfl, rfl⟩ := turn_can hk
    exact ⟨so, c, he, hm⟩
namespace unpackKnown
section
attribute [local irreducible] World.cell?
set_option maxRecDepth 100000 in
set_option maxHeartbeats 32000000 in
theorem walk (W : World) (hT : Tabs W) : Calls Tryz.prog 4 #[] W fun e w' => e = .returned (.bool true) ∧ Made W w' := by
  have HT := Lib.hid (fun (u : World) (hu : Made W u) => hT.made hu)
  have HA := Lib.hid (fun (u : World) (hu : Made W u) => awake13_any u (hT.made hu))
  have M0 := Lib.hid (Made.refl W)
  clear hT
  go_enter Tryz.func4, Tryz.ntmps4
  have m1 := Lib.hid (made_alloc (Made.refl W) (.cells (wordsV [67158016, 5]).toArray 23))
  have S1 := Lib.hid (ws_lit (zs := [67158016, 5]) (n := 2) (heap_alloc_new W (.cells (wordsV [67158016, 5]).toArray 23)) rfl (by omega))
  have C1 := Lib.hid (len_pk [67158016, 5] 2 rfl 1 true 1 rfl (by decide +kernel) _ (HT.out _ (Made.trans M0.out m1.out)) _ _ S1.out (by decide) (by omega))
  go_wp2_with (fail)
  refine C1.out.mono ?_
  rintro e v1 ⟨rfl, h1⟩
  have n1 := Lib.hid (Made.trans m1.out h1)
  clear h1 C1 S1 m1
  go_upto_region 2 with (fail)
  refine world_named (fun u => Made W u) (Made.trans M0.out n1.out) ?_
  intro w1 k1
  clear n1 M0
  have M1 := Lib.hid k1
  clear k1
  have m2 := Lib.hid (made_alloc (Made.refl w1) (.cells (wordsV [67125248, 67125248, 67141632, 67125248, 67158016]).toArray 23))
  have S2 := Lib.hid (ws_lit (zs := [67125248, 67125248, 67141632, 67125248, 67158016]) (n := 5) (heap_alloc_new w1 (.cells (wordsV [67125248, 67125248, 67141632, 67125248, 67158016]).toArray 23)) rfl (by omega))
  have C2 := Lib.hid (len_pk [67125248, 67125248, 67141632, 67125248, 67158016] 5 rfl 0 false 0 rfl (by decide +kernel) _ (HT.out _ (Made.trans M1.out m2.out)) _ _ S2.out (by decide) (by omega))
  go_wp2_with (fail)
  refine C2.out.mono ?_
  rintro e v2 ⟨rfl, h2⟩
  have n2 := Lib.hid (Made.trans m2.out h2)
  clear h2 C2 S2 m2
  go_upto_region 3 with (fail)
  refine world_named (fun u => Made W u) (Made.trans M1.out n2.out) ?_
  intro w2 k2
  clear n2 M1
  have M2 := Lib.hid k2
  clear k2
  have m3 := Lib.hid (made_alloc (Made.refl w2) (.cells (wordsV [537149445, 134333488]).toArray 23))
  have S3 := Lib.hid (ws_lit (zs := [537149445, 134333488]) (n := 2) (heap_alloc_new w2 (.cells (wordsV [537149445, 134333488]).toArray 23)) rfl (by omega))
  have C3 := Lib.hid (unpack_pk [537149445, 134333488] 2 rfl 0 turnP 2 rfl false false true false rfl rfl rfl rfl turn_tell _ (HT.out _ (Made.trans M2.out m3.out)) _ _ S3.out (by decide) (by omega))
  go_wp2_with (fail)
  refine C3.out.mono ?_
  rintro e v3 ⟨s3, c3, rfl, hI3, h3⟩
  have n3 := Lib.hid (made_alloc (Made.trans m3.out h3) (.cells (boxL s3 2 c3 false false true false).toArray 29))
  have B3 := Lib.hid (And.intro (heap_alloc_new v3 (.cells (boxL s3 2 c3 false false true false).toArray 29)) (insts_made hI3 (made_alloc (Made.refl v3) (.cells (boxL s3 2 c3 false false true false).toArray 29))))
  clear hI3
  clear h3 C3 S3 m3
  go_upto_region 4 with (fail)
  refine world_named (fun u => Made W u ∧ u.heap[v3.heap.size]? = some (.cells (boxL s3 2 c3 false false true false).toArray 29 (0, 0)) ∧ Insts u s3 c3 turnL) ⟨Made.trans M2.out n3.out, B3.out.1, B3.out.2⟩ ?_
  rintro w3 ⟨k3, d3, i3⟩
  clear n3 M2 B3
  have M3 := Lib.hid k3
  have D3 := Lib.hid (And.intro d3 i3)
  clear k3 d3 i3
  have m4 := Lib.hid (made_alloc (Made.refl w3) (.cells (wordsV [537149445, 134333488]).toArray 23))
  have S4 := Lib.hid (ws_lit (zs := [537149445, 134333488]) (n := 2) (heap_alloc_new w3 (.cells (wordsV [537149445, 134333488]).toArray 23)) rfl (by omega))
  have C4 := Lib.hid (can_pk _ (HT.out _ (Made.trans M3.out m4.out)) _ _ S4.out)
  go_wp2_with (fail)
  refine C4.out.mono ?_
  rintro e v4 ⟨s4, c4, rfl, h4⟩
  have n4 := Lib.hid (made_alloc (Made.trans m4.out h4) (.cells (boxL s4 0 c4 false false false false).toArray 29))
  clear h4 C4 S4 m4
  go_upto_region 5 with (fail)
  refine world_named (fun u => Made W u ∧ u.heap[v3.heap.size]? = some (.cells (boxL s3 2 c3 false false true false).toArray 29 (0, 0)) ∧ Insts u s3 c3 turnL) ⟨Made.trans M3.out n4.out, n4.out.heap D3.out.1, insts_made D3.out.2 n4.out⟩ ?_
  rintro w4 ⟨k4, d3, i3⟩
  clear n4 M3 D3
  have M4 := Lib.hid k4
  have D3 := Lib.hid (And.intro d3 i3)
  clear k4 d3 i3
  have m5 := Lib.hid (made_alloc (Made.refl w4) (.cells (wordsV [0]).toArray 23))
  have S5 := Lib.hid (ws_lit (zs := [0]) (n := 1) (heap_alloc_new w4 (.cells (wordsV [0]).toArray 23)) rfl (by omega))
  have C5 := Lib.hid (unpack_pk [0] 1 rfl 8 pkZero 0 rfl false false false false rfl rfl rfl rfl (tell_none (by decide +kernel) (by kernel_rfl)) _ (HT.out _ (Made.trans M4.out m5.out)) _ _ S5.out (by decide) (by omega))
  go_wp2_with (fail)
  refine C5.out.mono ?_
  rintro e v5 ⟨s5, c5, rfl, hI5, h5⟩
  have n5 := Lib.hid (made_alloc (Made.trans m5.out h5) (.cells (boxL s5 0 c5 false false false false).toArray 29))
  clear hI5
  clear h5 C5 S5 m5
  go_upto_region 6 with (fail)
  refine world_named (fun u => Made W u ∧ u.heap[v3.heap.size]? = some (.cells (boxL s3 2 c3 false false true false).toArray 29 (0, 0)) ∧ Insts u s3 c3 turnL) ⟨Made.trans M4.out n5.out, n5.out.heap D3.out.1, insts_made D3.out.2 n5.out⟩ ?_
  rintro w5 ⟨k5, d3, i3⟩
  clear n5 M4 D3
  have M5 := Lib.hid k5
  have D3 := Lib.hid (And.intro d3 i3)
  clear k5 d3 i3
  have m6 := Lib.hid (made_alloc (Made.refl w5) (.cells (wordsV [4748374, 67158016]).toArray 23))
  have S6 := Lib.hid (ws_lit (zs := [4748374, 67158016]) (n := 2) (heap_alloc_new w5 (.cells (wordsV [4748374, 67158016]).toArray 23)) rfl (by omega))
  have C6 := Lib.hid (unpack_pk [4748374, 67158016] 2 rfl 8 pkZero 0 rfl false false false false rfl rfl rfl rfl (tell_none (by decide +kernel) (by kernel_rfl)) _ (HT.out _ (Made.trans M5.out m6.out)) _ _ S6.out (by decide) (by omega))
  go_wp2_with (fail)
  refine C6.out.mono ?_
  rintro e v6 ⟨s6, c6, rfl, hI6, h6⟩
  have n6 := Lib.hid (made_alloc (Made.trans m6.out h6) (.cells (boxL s6 0 c6 false false false false).toArray 29))
  clear hI6
  clear h6 C6 S6 m6
  go_upto_region 7 with (fail)
  refine world_named (fun u => Made W u ∧ u.heap[v3.heap.size]? = some (.cells (boxL s3 2 c3 false false true false).toArray 29 (0, 0)) ∧ Insts u s3 c3 turnL) ⟨Made.trans M5.out n6.out, n6.out.heap D3.out.1, insts_made D3.out.2 n6.out⟩ ?_
  rintro w6 ⟨k6, d3, i3⟩
  clear n6 M5 D3
  have M6 := Lib.hid k6
  have D3 := Lib.hid (And.intro d3 i3)
  clear k6 d3 i3
  have m7 := Lib.hid (made_alloc (Made.refl w6) (.cells (wordsV [67125248]).toArray 23))
  have S7 := Lib.hid (ws_lit (zs := [67125248]) (n := 1) (heap_alloc_new w6 (.cells (wordsV [67125248]).toArray 23)) rfl (by omega))
  have C7 := Lib.hid (unpack_pk [67125248] 1 rfl 1 pkZero 0 rfl false false false false rfl rfl rfl rfl (tell_arg (by decide +kernel)) _ (HT.out _ (Made.trans M6.out m7.out)) _ _ S7.out (by decide) (by omega))
  go_wp2_with (fail)
  refine C7.out.mono ?_
  rintro e v7 ⟨s7, c7, rfl, hI7, h7⟩
  have n7 := Lib.hid (made_alloc (Made.trans m7.out h7) (.cells (boxL s7 0 c7 false false false false).toArray 29))
  clear hI7
  clear h7 C7 S7 m7
  go_upto_region 8 with (fail)
  refine world_named (fun u => Made W u ∧ u.heap[v3.heap.size]? = some (.cells (boxL s3 2 c3 false false true false).toArray 29 (0, 0)) ∧ Insts u s3 c3 turnL) ⟨Made.trans M6.out n7.out, n7.out.heap D3.out.1, insts_made D3.out.2 n7.out⟩ ?_
  rintro w7 ⟨k7, d3, i3⟩
  clear n7 M6 D3
  have M7 := Lib.hid k7
  have D3 := Lib.hid (And.intro d3 i3)
  clear k7 d3 i3
  have m8 := Lib.hid (made_alloc (Made.refl w7) (.cells (wordsV [67125248, 67125248, 67141632, 67158016]).toArray 23))
  have S8 := Lib.hid (ws_lit (zs := [67125248, 67125248, 67141632, 67158016]) (n := 4) (heap_alloc_new w7 (.cells (wordsV [67125248, 67125248, 67141632, 67158016]).toArray 23)) rfl (by omega))
  have C8 := Lib.hid (unpack_pk [67125248, 67125248, 67141632, 67158016] 4 rfl 8 pkZero 0 rfl false false false false rfl rfl rfl rfl (tell_none (by decide +kernel) (by kernel_rfl)) _ (HT.out _ (Made.trans M7.out m8.out)) _ _ S8.out (by decide) (by omega))
  go_wp2_with (fail)
  refine C8.out.mono ?_
  rintro e v8 ⟨s8, c8, rfl, hI8, h8⟩
  have n8 := Lib.hid (made_alloc (Made.trans m8.out h8) (.cells (boxL s8 0 c8 false false false false).toArray 29))
  clear hI8
  clear h8 C8 S8 m8
  go_upto_region 9 with (fail)
  refine world_named (fun u => Made W u ∧ u.heap[v3.heap.size]? = some (.cells (boxL s3 2 c3 false false true false).toArray 29 (0, 0)) ∧ Insts u s3 c3 turnL) ⟨Made.trans M7.out n8.out, n8.out.heap D3.out.1, insts_made D3.out.2 n8.out⟩ ?_
  rintro w8 ⟨k8, d3, i3⟩
  clear n8 M7 D3
  have M8 := Lib.hid k8
  have D3 := Lib.hid (And.intro d3 i3)
  clear k8 d3 i3
  have m9 := Lib.hid (made_alloc (Made.refl w8) (.cells (wordsV [4748374, 536985720]).toArray 23))
  have S9 := Lib.hid (ws_lit (zs := [4748374, 536985720]) (n := 2) (heap_alloc_new w8 (.cells (wordsV [4748374, 536985720]).toArray 23)) rfl (by omega))
  have C9 := Lib.hid (unpack_pk [4748374, 536985720] 2 rfl 0 extP 1 rfl false false false false rfl rfl rfl rfl ext_tell _ (HT.out _ (Made.trans M8.out m9.out)) _ _ S9.out (by decide) (by omega))
  go_wp2_with (fail)
  refine C9.out.mono ?_
  rintro e v9 ⟨s9, c9, rfl, hI9, h9⟩
  have n9 := Lib.hid (made_alloc (Made.trans m9.out h9) (.cells (boxL s9 1 c9 false false false false).toArray 29))
  have B9 := Lib.hid (And.intro (heap_alloc_new v9 (.cells (boxL s9 1 c9 false false false false).toArray 29)) (insts_made hI9 (made_alloc (Made.refl v9) (.cells (boxL s9 1 c9 false false false false).toArray 29))))
  clear hI9
  clear h9 C9 S9 m9
  go_upto_region 10 with (fail)
  refine world_named (fun u => Made W u ∧ u.heap[v3.heap.size]? = some (.cells (boxL s3 2 c3 false false true false).toArray 29 (0, 0)) ∧ Insts u s3 c3 turnL ∧ u.heap[v9.heap.size]? = some (.cells (boxL s9 1 c9 false false false false).toArray 29 (0, 0)) ∧ Insts u s9 c9 extL) ⟨Made.trans M8.out n9.out, n9.out.heap D3.out.1, insts_made D3.out.2 n9.out, B9.out.1, B9.out.2⟩ ?_
  rintro w9 ⟨k9, d3, i3, d9, i9⟩
  clear n9 M8 D3 B9
  have M9 := Lib.hid k9
  have D3 := Lib.hid (And.intro d3 i3)
  have D9 := Lib.hid (And.intro d9 i9)
  clear k9 d3 i3 d9 i9
  have m10 := Lib.hid (made_alloc (Made.refl w9) (.cells (wordsV [4748374]).toArray 23))
  have S10 := Lib.hid (ws_lit (zs := [4748374]) (n := 1) (heap_alloc_new w9 (.cells (wordsV [4748374]).toArray 23)) rfl (by omega))
  have C10 := Lib.hid (unpack_pk [4748374] 1 rfl 1 pkZero 0 rfl false false false false rfl rfl rfl rfl (tell_arg (by decide +kernel)) _ (HT.out _ (Made.trans M9.out m10.out)) _ _ S10.out (by decide) (by omega))
  go_wp2_with (fail)
  refine C10.out.mono ?_
  rintro e v10 ⟨s10, c10, rfl, hI10, h10⟩
  have n10 := Lib.hid (made_alloc (Made.trans m10.out h10) (.cells (boxL s10 0 c10 false false false false).toArray 29))
  clear hI10
  clear h10 C10 S10 m10
  go_upto_region 11 with (fail)
  refine world_named (fun u => Made W u ∧ u.heap[v3.heap.size]? = some (.cells (boxL s3 2 c3 false false true false).toArray 29 (0, 0)) ∧ Insts u s3 c3 turnL ∧ u.heap[v9.heap.size]? = some (.cells (boxL s9 1 c9 false false false false).toArray 29 (0, 0)) ∧ Insts u s9 c9 extL) ⟨Made.trans M9.out n10.out, n10.out.heap D3.out.1, insts_made D3.out.2 n10.out, n10.out.heap D9.out.1, insts_made D9.out.2 n10.out⟩ ?_
  rintro w10 ⟨k10, d3, i3, d9, i9⟩
  clear n10 M9 D3 D9
  have M10 := Lib.hid k10
  have D3 := Lib.hid (And.intro d3 i3)
  have D9 := Lib.hid (And.intro d9 i9)
  clear k10 d3 i3 d9 i9
  have S11 := Lib.hid (ws_nil w10)
  have C11 := Lib.hid (unpack_pk [] 0 rfl 1 pkZero 0 rfl false false false false rfl rfl rfl rfl (tell_arg (by decide +kernel)) _ (HT.out _ M10.out) _ _ S11.out (by decide) (by omega))
  go_wp2_with (fail)
  refine C11.out.mono ?_
  rintro e v11 ⟨s11, c11, rfl, hI11, h11⟩
  have n11 := Lib.hid (made_alloc (Made.trans (Made.refl w10) h11) (.cells (boxL s11 0 c11 false false false false).toArray 29))
  clear hI11
  clear h11 C11 S11
  go_upto_region 12 with (fail)
  refine world_named (fun u => Made W u ∧ u.heap[v3.heap.size]? = some (.cells (boxL s3 2 c3 false false true false).toArray 29 (0, 0)) ∧ Insts u s3 c3 turnL ∧ u.heap[v9.heap.size]? = some (.cells (boxL s9 1 c9 false false false false).toArray 29 (0, 0)) ∧ Insts u s9 c9 extL) ⟨Made.trans M10.out n11.out, n11.out.heap D3.out.1, insts_made D3.out.2 n11.out, n11.out.heap D9.out.1, insts_made D9.out.2 n11.out⟩ ?_
  rintro w11 ⟨k11, d3, i3, d9, i9⟩
  clear n11 M10 D3 D9
  have M11 := Lib.hid k11
  have D3 := Lib.hid (And.intro d3 i3)
  have D9 := Lib.hid (And.intro d9 i9)
  clear k11 d3 i3 d9 i9
  have m12 := Lib.hid (made_alloc (Made.refl w11) (.cells (wordsV [4734976, 4734976, 536985720]).toArray 23))
  have S12 := Lib.hid (ws_lit (zs := [4734976, 4734976, 536985720]) (n := 3) (heap_alloc_new w11 (.cells (wordsV [4734976, 4734976, 536985720]).toArray 23)) rfl (by omega))
  have C12 := Lib.hid (unpack_pk [4734976, 4734976, 536985720] 3 rfl 8 pkZero 0 rfl false false false false rfl rfl rfl rfl (tell_none (by decide +kernel) (by kernel_rfl)) _ (HT.out _ (Made.trans M11.out m12.out)) _ _ S12.out (by decide) (by omega))
  go_wp2_with (fail)
  refine C12.out.mono ?_
  rintro e v12 ⟨s12, c12, rfl, hI12, h12⟩
  have n12 := Lib.hid (made_alloc (Made.trans m12.out h12) (.cells (boxL s12 0 c12 false false false false).toArray 29))
  clear hI12
  clear h12 C12 S12 m12
  have MZ := Lib.hid (Made.trans M11.out n12.out)
  have DA := Lib.hid (And.intro (n12.out.heap D3.out.1) (insts_made D3.out.2 n12.out))
  have DB := Lib.hid (And.intro (n12.out.heap D9.out.1) (insts_made D9.out.2 n12.out))
  clear n12 M11 D3 D9
  obtain ⟨a0, a1, a2, a3, a4⟩ := pk5 DA.out.1
  obtain ⟨b0, b1, b2, b3, b4⟩ := pk5 DB.out.1
  have la := heap_lt DA.out.1
  have lb := heap_lt DB.out.1
  have mY := Lib.hid (made_alloc (Made.refl (v12.alloc (.cells (boxL s12 0 c12 false false false false).toArray 29))) (.cells (turnL.flatMap In.cells).toArray 40))
  have LY := Lib.hid (insts_lit (b := v12.heap.size + 1) (l := turnL) (n := 2) (show ((v12.alloc (.cells (boxL s12 0 c12 false false false false).toArray 29)).alloc (.cells (turnL.flatMap In.cells).toArray 40)).heap[v12.heap.size + 1]? = _ from heap_at (by simp)) rfl (by omega) (fun x hx => small_of (List.all_eq_true.1 (by decide +kernel : turnL.all smallB = true) x hx)))
  have HS1 := Lib.hid (same_pk turnP turnP 2 2 rfl rfl false false true false false false true false rfl rfl rfl rfl rfl rfl rfl rfl true (samePk_self _) _ s3 (some ⟨v12.heap.size + 1, 0, none⟩) c3 2 (insts_made DA.out.2 mY.out) LY.out (by omega))
  go_wp2_with (fail)
  refine HS1.out.mono ?_
  rintro e v13 ⟨rfl, h13⟩
  have MZ2 := Lib.hid (Made.trans (Made.trans MZ.out mY.out) h13)
  have DC := Lib.hid (And.intro ((Made.trans mY.out h13).heap DB.out.1) (insts_made DB.out.2 (Made.trans mY.out h13)))
  clear h13 mY LY HS1 a0 a1 a2 a3 a4 b0 b1 b2 b3 b4 la lb DA DB MZ
  obtain ⟨b0, b1, b2, b3, b4⟩ := pk5 DC.out.1
  have lb := heap_lt DC.out.1
  have mX := Lib.hid (made_alloc (Made.refl v13) (.cells (extL.flatMap In.cells).toArray 40))
  have LX := Lib.hid (insts_lit (l := extL) (n := 1) (heap_alloc_new v13 (.cells (extL.flatMap In.cells).toArray 40)) rfl (by omega) (fun x hx => small_of (List.all_eq_true.1 (by decide +kernel : extL.all smallB = true) x hx)))
  have HS2 := Lib.hid (same_pk extP extP 1 1 rfl rfl false false false false false false false false rfl rfl rfl rfl rfl rfl rfl rfl true (samePk_self _) _ s9 (some ⟨v13.heap.size, 0, none⟩) c9 1 (insts_made DC.out.2 mX.out) LX.out (by omega))
  go_wp2_with (fail)
  refine HS2.out.mono ?_
  rintro e v14 ⟨rfl, h14⟩
  have MX := Lib.hid (Made.trans (Made.trans MZ2.out mX.out) h14)
  clear h14 mX LX HS2 b0 b1 b2 b3 b4 lb DC MZ2
  go_wp2_with (fail)
  refine (HA.out _ MX.out).mono ?_
  rintro e v15 ⟨rfl, h15⟩
  have MF := Lib.hid (Made.trans MX.out h15)
  clear h15
  go_wp2
  go_ret
  exact ⟨rfl, MF.out⟩
end
end unpackKnown
end Go.Proofs.YtanjmoiepmadhaaGreatDoor
