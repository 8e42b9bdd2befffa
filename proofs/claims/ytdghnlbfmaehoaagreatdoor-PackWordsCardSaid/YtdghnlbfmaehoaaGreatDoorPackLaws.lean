/- What two and awake of the laws of pack return; packets written out, and what their words are. -/
import Derived.Test.YtdghnlbfmaehoaaGreatDoorPackCode
import Derived.Test.YtdghnlbfmaehoaaGreatDoorGPack
import Derived.Great.BuildSlice
namespace Go.Proofs.YtdghnlbfmaehoaaGreatDoor
open Go.ChangeShapes Go.WideShapes Go.ChangeAt Go.RowKit Go.Sort BigFrame

theorem lit_said {pc : Int} {l : List In} (hs : l.all smallB = true) (h : sayAll pc l = true) : Said pc l := said_of (fun x hx => small_of (List.all_eq_true.1 hs x hx)) h
/-- The words of a packet that is written out. -/
theorem out_lit {pc : Int} {l r : List In} {e0 e1 raw : Bool} {er : Int} {zs : List Int} (h : IsOut pc ⟨l, e0, e1, raw, false⟩ er zs) (hl : legalP ⟨l, e0, e1, raw, false⟩ = 0) (hs : l.all smallB = true) (hy : sayAll pc l = true) (hp : r.Perm l)
    (ho : r.Pairwise (fun a b => leB pc a b = true)) : er = 0 ∧ zs = endsL e0 e1 false (bareW pc r) := by
  obtain ⟨h1, i, j, -, -, h2⟩ := h.ok hl hy
  refine ⟨h1, ?_⟩
  rw [h2, row_one (lit_said hs hy) hp ho]
  rfl
theorem out_len {pc : Int} {p : Pk} {er : Int} {zs : List Int} (h : IsOut pc p er zs) (_ : p.insts.length ≤ 1000) : zs.length ≤ 1000 := by
  by_cases h0 : legalP p = 0
  · cases h1 : sayAll pc p.insts with
    | false => rw [(h.far h0 h1).2]; simp
    | true =>
      have h2 := words_len (h.ok h0 h1).2
      have h3 := ((legal_iff _).1 h0).few
      omega
  · rw [(h.bad h0).2]; simp
abbrev twoL : List In := [⟨8, 4, 0, 0, 0, 0, 0, false, false, 0, 5⟩, ⟨2, 1, 2, 3, 0, 0, 0, false, false, 0, 0⟩]
theorem two_out {er : Int} {zs : List Int} (h : IsOut 0 ⟨twoL, true, false, false, false⟩ er zs) : er = 0 ∧ zs = [134317104, 537182213] := by
  obtain ⟨h1, h2⟩ := out_lit (r := [⟨2, 1, 2, 3, 0, 0, 0, false, false, 0, 0⟩, ⟨8, 4, 0, 0, 0, 0, 0, false, false, 0, 5⟩]) h (by decide +kernel) (by decide +kernel) (by decide +kernel) (by decide +kernel) (by decide +kernel)
  exact ⟨h1, h2.trans (by decide +kernel)⟩
/-- The two, in memory. -/
def TwoAt (w : World) (e : Ending) (w' : World) : Prop := ∃ b, e = .returned (pkV (some ⟨b, 0, none⟩) 2 2 true false false false) ∧ w'.heap[b]? = some (.cells (twoL.flatMap In.cells).toArray 42 (0, 0)) ∧ Made w w'
section
attribute [local irreducible] World.cell?
set_option maxRecDepth 100000 in
set_option maxHeartbeats 4000000 in
theorem two12_any (w : World) : Calls Tryz.prog 18 #[] w (TwoAt w) := by
  go_enter Tryz.func18, Tryz.ntmps18
  go_wp2
  refine bodyPost_ret (v := pkV (some ⟨w.heap.size + 1, 0, none⟩) 2 2 true false false false) (by simp [results, Tryz.results18, go_sem]) rfl ?_
  exact ⟨w.heap.size + 1, rfl, heap_at (by simp), Made.trans (made_alloc (Made.refl w) _) (made_alloc (Made.refl _) _)⟩
theorem words_at (l : List In) (n : Nat) (hn : l.length = n) (h1 : n ≤ 1000) (e0 e1 raw dup : Bool) (pc : Int) (hp : isU32 pc) (w : World) (hT : Tabs w) (ao : Option Addr) (cap : Nat) (hI : Insts w ao cap l) : Calls Tryz.prog 12 #[pkV ao n cap e0 e1 raw dup, .int .u32 pc] w (Worded pc ⟨l, e0, e1, raw, dup⟩ w) := by
  subst hn
  exact pwords_any ao cap l e0 e1 raw dup w hT hI h1 pc hp
theorem same_at (zs ys : List Int) (n m : Nat) (hn : zs.length = n) (hm : ys.length = m) (h1 : n ≤ 1000) (v : Bool) (hv : decide (zs = ys) = v) (w : World) (ao bo : Option Addr) (ca cb : Nat) (h2 : Ws w ao ca zs) (h3 : Ws w bo cb ys) :
    Calls Tryz.prog 15 #[.slice ao n ca, .slice bo m cb] w fun e w' => e = .returned (.bool v) ∧ Made w w' := by
  subst hn hm hv
  exact psame_any ao bo ca cb zs ys w h2 h3 h1
theorem insts_at (l : List In) (n : Nat) (hn : l.length = n) (h1 : n ≤ 1000) (w : World) (ao bo : Option Addr) (ca cb : Nat) (h2 : Insts w ao ca l) (h3 : Insts w bo cb l) :
    Calls Tryz.prog 11 #[.slice ao n ca, .slice bo n cb] w fun e w' => e = .returned (.bool true) ∧ Made w w' := by
  subst hn
  have h := pinsts_any ao bo ca cb l l w h2 h3 h1
  rw [decide_eq_true rfl] at h
  exact h
theorem u32_lit {a : Int} (h : (Lit.int .u32 a).wf = true) : isU32 a := by
  have e1 : IntKind.u32.min = 0 := rfl
  have e2 : IntKind.u32.max = 4294967295 := rfl
  simp only [Lit.wf, Bool.and_eq_true, decide_eq_true_eq] at h
  unfold isU32
  omega
set_option maxRecDepth 100000 in
set_option maxHeartbeats 8000000 in
theorem awake12_any (W : World) (hT : Tabs W) : Makes Tryz.prog W 8 #[] (.bool true) := by
  intro w hm
  have M0 := Lib.hid hm
  have HT := Lib.hid hT
  clear hm hT
  go_enter Tryz.func8, Tryz.ntmps8
  go_wp2_with (fail)
  refine (two12_any w).mono ?_
  rintro e w1 ⟨b, rfl, hb, h1⟩
  have M1 := Lib.hid (Made.trans M0.out h1)
  have HI := Lib.hid (insts_lit (l := twoL) (n := 2) hb rfl (by omega) (fun x hx => small_of (List.all_eq_true.1 (show twoL.all smallB = true by decide +kernel) x hx)))
  clear hb h1
  go_wp2_with (fail)
  refine (words_at twoL 2 rfl (by decide) true false false false 0 (by unfold isU32; omega) w1 (HT.out.made M1.out) _ _ HI.out).mono ?_
  rintro e w2 ⟨so, n, c, er, zs, rfl, hn, hws, h2, ho⟩
  obtain ⟨rfl, rfl⟩ := two_out ho
  obtain rfl : n = 2 := hn.symm
  have M2 := Lib.hid (Made.trans M1.out h2)
  have HWS := Lib.hid hws
  clear hn ho h2 hws HI
  go_wp2_with (fail)
  refine (same_at [134317104, 537182213] [134317104, 537182213] 2 2 rfl rfl (by omega) true (by decide +kernel) _ so _ c 2 (HWS.out.made (made_alloc (Made.refl w2) _)) (ws_lit (zs := [134317104, 537182213]) (T := 23) (heap_alloc_new w2 _) rfl (by omega))).mono ?_
  rintro e w3 ⟨rfl, h3⟩
  have M3 := Lib.hid (Made.trans (made_alloc M2.out _) h3)
  clear h3
  go_wp2
  go_ret
  exact ⟨rfl, M3.out⟩
end
end Go.Proofs.YtdghnlbfmaehoaaGreatDoor
