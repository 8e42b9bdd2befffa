/- What Same and awake of the laws of unpack return. -/
import Derived.Test.YtanjmoiepmadhaaGreatDoorUnCode
import Derived.Test.YtanjmoiepmadhaaGreatDoorGPack
import Derived.Test.YtanjmoiepmadhaaGreatDoorGLegal
import Derived.Great.BuildSlice
import Derived.Deep.Cut
namespace Go.Proofs.YtanjmoiepmadhaaGreatDoor
open Go.ChangeShapes Go.WideShapes Go.ChangeAt Go.RowKit Go.Sort BigFrame

/-- Two packets' variables. -/
structure Pk2 (W : World) (B : Nat) (cs ds : List Value) (w : World) : Prop where
  made : Made W w
  fst : w.heap[B]? = some (.cells cs.toArray 29 (0, 0))
  snd : w.heap[B + 1]? = some (.cells ds.toArray 29 (0, 0))
theorem Pk2.next {W w w' : World} {B : Nat} {cs ds : List Value} (h : Pk2 W B cs ds w) (hm : Made w w') : Pk2 W B cs ds w' := ⟨Made.trans h.made hm, hm.heap h.fst, hm.heap h.snd⟩
theorem pk2_start (w : World) (cs ds : List Value) : Pk2 w w.heap.size cs ds ((w.alloc (.cells cs.toArray 29)).alloc (.cells ds.toArray 29)) := by
  have m1 := (Made.refl w).alloc (Nat.le_refl _) (.cells cs.toArray 29)
  have b1 : (w.alloc (.cells cs.toArray 29)).heap[w.heap.size]? = some (.cells cs.toArray 29 (0, 0)) := heap_alloc_new w _
  exact ⟨m1.alloc m1.size _, (Below.heap_alloc _ _ _ (heap_lt b1)).trans b1, heap_at (by simp)⟩
/-- Whether two packets are one. -/
def samePk (p q : Pk) : Bool := decide (p.insts = q.insts) && (p.e0 == q.e0) && (p.e1 == q.e1) && (p.raw == q.raw) && (p.dup == q.dup)
theorem samePk_self (p : Pk) : samePk p p = true := by
  unfold samePk
  simp
theorem samePk_iff (p q : Pk) : samePk p q = true ↔ p = q := by
  obtain ⟨a, b, c, d, e⟩ := p
  obtain ⟨f, g, h, i, j⟩ := q
  unfold samePk
  simp
  constructor
  · rintro ⟨⟨⟨⟨rfl, rfl⟩, rfl⟩, rfl⟩, rfl⟩
    exact ⟨rfl, rfl, rfl, rfl, rfl⟩
  · rintro ⟨rfl, rfl, rfl, rfl, rfl⟩
    exact ⟨⟨⟨⟨rfl, rfl⟩, rfl⟩, rfl⟩, rfl⟩
section
attribute [local irreducible] World.cell?
set_option maxRecDepth 100000 in
set_option maxHeartbeats 8000000 in
theorem same13_any (ao bo : Option Addr) (ca cb : Nat) (p q : Pk) (w : World) (h1 : Insts w ao ca p.insts) (h2 : Insts w bo cb q.insts) (hl : p.insts.length ≤ 1000) :
    Calls Tryz.prog 11 #[pkOf ao ca p, pkOf bo cb q] w fun e w' => e = .returned (.bool (samePk p q)) ∧ Made w w' := by
  obtain ⟨l, e0, e1, er, ed⟩ := p
  obtain ⟨m, f0, f1, fr, fd⟩ := q
  have K0 := Lib.hid (pk2_start w (boxL ao l.length ca e0 e1 er ed) (boxL bo m.length cb f0 f1 fr fd))
  have HI := Lib.hid (fun (u : World) (hu : Made w u) => pinsts_any ao bo ca cb l m u (insts_made h1 hu) (insts_made h2 hu) hl)
  obtain ⟨v, hv⟩ : ∃ v, v = samePk ⟨l, e0, e1, er, ed⟩ ⟨m, f0, f1, fr, fd⟩ := ⟨_, rfl⟩
  rewrite [← hv]
  unfold samePk at hv
  simp only [] at hv
  clear h1 h2
  generalize decide (l = m) = lm at *
  have hways : (lm = false ∧ v = false) ∨ (lm = true ∧ (e0 == f0) = false ∧ v = false) ∨ (lm = true ∧ (e0 == f0) = true ∧ (e1 == f1) = false ∧ v = false) ∨ (lm = true ∧ (e0 == f0) = true ∧ (e1 == f1) = true ∧ (er == fr) = false ∧ v = false) ∨
      (lm = true ∧ (e0 == f0) = true ∧ (e1 == f1) = true ∧ (er == fr) = true ∧ v = (ed == fd)) := by
    rw [hv]
    cases lm <;> cases (e0 == f0) <;> cases (e1 == f1) <;> cases (er == fr) <;> simp
  have HV := Lib.hid hways
  clear hv hways
  go_enter Tryz.func11, Tryz.ntmps11
  have cf := fun k => cell_of_lit K0.out.fst k
  have a0 : _ = some (Value.slice ao l.length ca) := cf 0
  have df := fun k => cell_of_lit K0.out.snd k
  have b0 : _ = some (Value.slice bo m.length cb) := df 0
  have la := heap_lt K0.out.fst
  have lb := heap_lt K0.out.snd
  clear cf df
  go_wp2_with (fail)
  refine (HI.out _ K0.out.made).mono ?_
  rintro e w1 ⟨rfl, h1⟩
  have K1 := Lib.hid (K0.out.next h1)
  clear h1 a0 b0 la lb K0 HI
  have cf := fun k => cell_of_lit K1.out.fst k
  have a1 : _ = some (Value.bool e0) := cf 1
  have a2 : _ = some (Value.bool e1) := cf 2
  have a3 : _ = some (Value.bool er) := cf 3
  have a4 : _ = some (Value.bool ed) := cf 4
  have df := fun k => cell_of_lit K1.out.snd k
  have b1 : _ = some (Value.bool f0) := df 1
  have b2 : _ = some (Value.bool f1) := df 2
  have b3 : _ = some (Value.bool fr) := df 3
  have b4 : _ = some (Value.bool fd) := df 4
  have la := heap_lt K1.out.fst
  have lb := heap_lt K1.out.snd
  clear cf df
  rcases HV.out with ⟨rfl, rfl⟩ | ⟨rfl, g1, rfl⟩ | ⟨rfl, g1, g2, rfl⟩ | ⟨rfl, g1, g2, g3, rfl⟩ | ⟨rfl, g1, g2, g3, rfl⟩
  all_goals
    go_wp2
    go_ret
    exact ⟨rfl, K1.out.made⟩
theorem same_pk (p q : Pk) (n m : Nat) (hn : p.insts.length = n) (hm : q.insts.length = m) (e0 e1 er ed f0 f1 fr fd : Bool) (k0 : p.e0 = e0) (k1 : p.e1 = e1) (k2 : p.raw = er) (k3 : p.dup = ed) (j0 : q.e0 = f0) (j1 : q.e1 = f1) (j2 : q.raw = fr) (j3 : q.dup = fd)
    (v : Bool) (hv : samePk p q = v) (w : World) (ao bo : Option Addr) (ca cb : Nat) (h1 : Insts w ao ca p.insts) (h2 : Insts w bo cb q.insts) (hl : n ≤ 1000) :
    Calls Tryz.prog 11 #[pkV ao n ca e0 e1 er ed, pkV bo m cb f0 f1 fr fd] w fun e w' => e = .returned (.bool v) ∧ Made w w' := by
  subst hn hm k0 k1 k2 k3 j0 j1 j2 j3 hv
  exact same13_any ao bo ca cb p q w h1 h2 hl
/-! The two words that are awake. -/
abbrev wakeL : List In := [⟨2, 1, 2, 3, 0, 0, 0, false, false, 0, 0⟩, ⟨8, 4, 0, 0, 0, 0, 0, false, false, 0, 5⟩]
abbrev wakeZ : List Int := [134317104, 537182213]
abbrev wakeP : Pk := ⟨wakeL, true, false, true, false⟩
theorem wake_legal : legalP wakeP = 0 := by decide +kernel
theorem wake_words : IsWords 0 wakeP wakeZ := by
  have hs : Said 0 wakeL := said_of (fun x hx => small_of (List.all_eq_true.1 (by decide +kernel : wakeL.all smallB = true) x hx)) (by decide +kernel)
  refine ⟨0, 0, fun h => (by cases h), fun _ => ⟨rfl, rfl⟩, ?_⟩
  have e : rowP 0 wakeL = wakeL := (row_one hs (List.Perm.refl _) (by decide +kernel)).symm
  show wakeZ = endsL true false false (bareW 0 (rowP 0 wakeL))
  rw [e]
  decide +kernel
theorem wake_len : lenP wakeZ = (2, true) := by decide +kernel
theorem wake_tell : unTell 0 wakeZ = (0, wakeP) := by
  have hu : unP 0 wakeZ = some ⟨wakeL, false, 0, false⟩ := by kernel_rfl
  unfold unTell
  rw [wake_len, if_pos (show ((2 : Nat), true) = (wakeZ.length, true) from rfl), hu]
  have hq : unPk wakeZ ⟨wakeL, false, 0, false⟩ = wakeP := by kernel_rfl
  show (if legalP (unPk wakeZ ⟨wakeL, false, 0, false⟩) = 0 then (0, unPk wakeZ ⟨wakeL, false, 0, false⟩) else (legalP (unPk wakeZ ⟨wakeL, false, 0, false⟩), pkZero)) = _
  rw [hq, if_pos wake_legal]
theorem wake_can {ok : Bool} {p : Pk} (h : IsCan 0 wakeZ ok p) : ok = true ∧ p = wakeP := by
  have hy : sayAll 0 wakeL = true := by decide +kernel
  cases ok with
  | true => exact ⟨rfl, by rw [(h.yes rfl).2.2.2, wake_tell]⟩
  | false =>
    refine absurd ?_ (h.no rfl).1
    rw [wake_tell]
    exact ⟨rfl, hy, wake_words⟩
theorem wake_u32 : U32s wakeZ := fun z hz => by
  simp only [wakeZ, List.mem_cons, List.not_mem_nil, or_false] at hz
  unfold isU32
  omega
theorem wake_small : ∀ x ∈ wakeL, x.small := fun x hx => small_of (List.all_eq_true.1 (by decide +kernel : wakeL.all smallB = true) x hx)
/-- The two words, and the packet that they are to say. -/
structure WakeAt (W : World) (B : Nat) (w : World) : Prop where
  made : Made W w
  words : w.heap[B]? = some (.cells (wordsV wakeZ).toArray 23 (0, 0))
  insts : w.heap[B + 1]? = some (.cells (wakeL.flatMap In.cells).toArray 40 (0, 0))
  want : w.heap[B + 2]? = some (.cells (boxL (some ⟨B + 1, 0, none⟩) 2 2 true false true false).toArray 29 (0, 0))
theorem WakeAt.next {W w w' : World} {B : Nat} (h : WakeAt W B w) (hm : Made w w') : WakeAt W B w' := ⟨Made.trans h.made hm, hm.heap h.words, hm.heap h.insts, hm.heap h.want⟩
theorem wake_start (w : World) : WakeAt w w.heap.size (((w.alloc (.cells (wordsV wakeZ).toArray 23)).alloc (.cells (wakeL.flatMap In.cells).toArray 40)).alloc (.cells (boxL (some ⟨w.heap.size + 1, 0, none⟩) 2 2 true false true false).toArray 29)) := by
  have m1 := made_alloc (Made.refl w) (.cells (wordsV wakeZ).toArray 23)
  have m2 := made_alloc m1 (.cells (wakeL.flatMap In.cells).toArray 40)
  have b1 : (w.alloc (.cells (wordsV wakeZ).toArray 23)).heap[w.heap.size]? = some (.cells (wordsV wakeZ).toArray 23 (0, 0)) := heap_alloc_new w _
  have b2 := (Below.heap_alloc (w.alloc (.cells (wordsV wakeZ).toArray 23)) (.cells (wakeL.flatMap In.cells).toArray 40) _ (heap_lt b1)).trans b1
  have b3 := heap_alloc_new (w.alloc (.cells (wordsV wakeZ).toArray 23)) (.cells (wakeL.flatMap In.cells).toArray 40)
  refine ⟨made_alloc m2 _, (Below.heap_alloc _ _ _ (heap_lt b2)).trans b2, ?_, heap_at (by simp)⟩
  have e : (w.alloc (.cells (wordsV wakeZ).toArray 23)).heap.size = w.heap.size + 1 := by simp
  rw [e] at b3
  exact (Below.heap_alloc _ _ _ (heap_lt b3)).trans b3
set_option maxRecDepth 100000 in
set_option maxHeartbeats 8000000 in
theorem awake13_any (w : World) (hT : Tabs w) : Calls Tryz.prog 7 #[] w fun e w' => e = .returned (.bool true) ∧ Made w w' := by
  have K0 := Lib.hid (wake_start w)
  have HW := Lib.hid (fun (u : World) (hu : WakeAt w w.heap.size u) => ws_lit (zs := wakeZ) (n := 2) hu.words rfl (by omega))
  have HC := Lib.hid (fun (u : World) (hu : WakeAt w w.heap.size u) => ucan_any (some ⟨w.heap.size, 0, none⟩) 2 wakeZ u (hT.made hu.made) (HW.out u hu) wake_u32 (by decide) 0 (by unfold isU32; omega))
  have HL := Lib.hid (fun (u : World) (hu : WakeAt w w.heap.size u) => ulen_any (some ⟨w.heap.size, 0, none⟩) 2 wakeZ u (hT.made hu.made) (HW.out u hu) wake_u32 (by decide))
  clear hT
  go_enter Tryz.func7, Tryz.ntmps7
  go_upto_region 3 with (fail)
  refine world_named (fun z => WakeAt w w.heap.size z) K0.out ?_
  intro z0 hz
  have K1 := Lib.hid hz
  clear hz K0
  go_wp2_with (fail)
  refine (HC.out z0 K1.out).mono ?_
  rintro e w1 ⟨so, cap, p, ok, rfl, hI, h1, hcan⟩
  obtain ⟨rfl, rfl⟩ := wake_can hcan
  have K2 := Lib.hid (K1.out.next h1)
  have HI := Lib.hid hI
  have PB := Lib.hid (heap_alloc_new w1 (.cells (boxL so 2 cap true false true false).toArray 29))
  have m2 := Lib.hid (made_alloc (Made.refl w1) (.cells (boxL so 2 cap true false true false).toArray 29))
  have K3 := Lib.hid (K2.out.next m2.out)
  have HI3 := Lib.hid (insts_made HI.out m2.out)
  clear hcan hI h1 K1 K2 HI
  go_upto_region 4 with (fail)
  refine world_named (fun z => z.heap[w1.heap.size]? = some (.cells (boxL so 2 cap true false true false).toArray 29 (0, 0)) ∧ WakeAt w w.heap.size z ∧ Insts z so cap wakeL) ⟨PB.out, K3.out, HI3.out⟩ ?_
  rintro z1 ⟨hz1, hz2, hz3⟩
  have B1 := Lib.hid hz1
  have K4 := Lib.hid hz2
  have I4 := Lib.hid hz3
  clear hz1 hz2 hz3 PB m2 K3 HI3
  go_wp2_with (fail)
  refine (HL.out z1 K4.out).mono ?_
  rintro e w2 ⟨rfl, h2⟩
  rewrite [wake_len]
  have K5 := Lib.hid (K4.out.next h2)
  have I5 := Lib.hid (insts_made I4.out h2)
  have B5 := Lib.hid (h2.heap B1.out)
  clear h2 B1 K4 I4
  have HS := Lib.hid (same_pk wakeP wakeP 2 2 rfl rfl true false true false true false true false rfl rfl rfl rfl rfl rfl rfl rfl true (samePk_self _) w2 so (some ⟨w.heap.size + 1, 0, none⟩) cap 2 I5.out (insts_lit (l := wakeL) K5.out.insts rfl (by omega) wake_small) (by omega))
  have cf := fun k => cell_of_lit B5.out k
  have c0 : _ = some (Value.slice so 2 cap) := cf 0
  have c1 : _ = some (Value.bool true) := cf 1
  have c2 : _ = some (Value.bool false) := cf 2
  have c3 : _ = some (Value.bool true) := cf 3
  have c4 : _ = some (Value.bool false) := cf 4
  have df := fun k => cell_of_lit K5.out.want k
  have d0 : _ = some (Value.slice (some ⟨w.heap.size + 1, 0, none⟩) 2 2) := df 0
  have d1 : _ = some (Value.bool true) := df 1
  have d2 : _ = some (Value.bool false) := df 2
  have d3 : _ = some (Value.bool true) := df 3
  have d4 : _ = some (Value.bool false) := df 4
  have lc := heap_lt B5.out
  have ld := heap_lt K5.out.want
  clear cf df
  go_wp2_with (fail)
  refine HS.out.mono ?_
  rintro e w3 ⟨rfl, h3⟩
  have M3 := Lib.hid (Made.trans K5.out.made h3)
  clear h3 c0 c1 c2 c3 c4 d0 d1 d2 d3 d4 lc ld
  go_wp2
  go_ret
  exact ⟨rfl, M3.out⟩
end
end Go.Proofs.YtanjmoiepmadhaaGreatDoor
