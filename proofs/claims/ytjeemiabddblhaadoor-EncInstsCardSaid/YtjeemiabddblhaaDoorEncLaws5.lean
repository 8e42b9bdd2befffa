/- What Inst of the document's answer returns, for every word, upper part and address, in every world. · EncInsts of the laws of enc returns true, for every word, upper part and address, in every world that holds the tables of names and of pieces. -/
import Derived.Test.YtjeemiabddblhaaDoorEncRefIT
import Derived.Test.YtjeemiabddblhaaDoorEncRefIF
import Derived.Test.YtjeemiabddblhaaDoorEncLawsH
namespace Go.Proofs.YtjeemiabddblhaaDoor
section
theorem refInst6_any (W : World) (wd u pc : Int) (has : Bool) (hw : isU32 wd) (hu : isU32 u) (hp : isU32 pc) (hn : has = false → u = 0) : Makes Tryd.prog W 12 #[.int .u32 wd, .int .u32 u, .bool has, .int .u32 pc] (.tuple #[(instP wd u has pc).val, .bool (instB wd u has pc)]) := by
  cases h : has with
  | true => exact refInst6_true W wd u pc true rfl hw hu hp (fun h => by cases h)
  | false => exact refInst6_false W wd u pc false rfl hw hu hp (fun _ => hn h)
end
section
open Go.ChangeShapes Go.WideShapes Go.ChangeAt Go.RowKit Go.Sort BigFrame

namespace encInsts
theorem u32_wf {n : Int} (h : (Lit.int .u32 n).wf = true) : isU32 n := by
  simp only [Lit.wf, Bool.and_eq_true, decide_eq_true_eq] at h
  have h1 : IntKind.u32.min = 0 := rfl
  have h2 : IntKind.u32.max = 4294967295 := rfl
  exact ⟨by omega, by omega⟩
/-- The two variables. -/
structure Two (W : World) (A B : Nat) (x : In) (w : World) : Prop where
  made : Made W w
  fst : InAt w A x
  snd : InAt w B x
theorem Two.next {W w w' : World} {A B : Nat} {x : In} (h : Two W A B x w) (hm : Made w w') : Two W A B x w' := ⟨Made.trans h.made hm, hm.heap h.fst, hm.heap h.snd⟩
section
attribute [local irreducible] World.cell?
set_option maxRecDepth 100000 in
set_option maxHeartbeats 4000000 in
theorem walk (W : World) (hT : Tables W) (wd u0 : Int) (has : Bool) (pc : Int) (hw : isU32 wd) (hu : isU32 u0) (hp : isU32 pc) :
    Calls Tryd.prog 4 #[.int .u32 wd, .int .u32 u0, .bool has, .int .u32 pc] W fun e w' => e = .returned (.bool true) ∧ Made W w' := by
  obtain ⟨U, hU⟩ : ∃ U, U = if has then u0 else 0 := ⟨_, rfl⟩
  have hUu : isU32 U := by
    rw [hU]
    split
    · exact hu
    · exact ⟨by decide, by decide⟩
  have hUn : has = false → U = 0 := fun h => by rw [hU, h]; rfl
  have hUc : (has = false ∧ U = 0) ∨ (has = true ∧ U = u0) := by
    rw [hU]
    cases has
    · exact .inl ⟨rfl, rfl⟩
    · exact .inr ⟨rfl, rfl⟩
  have C1 := Lib.hid (fun v (hv : Tables v) => encInst_any v hv.1 hv.2 wd U pc has hw hUu)
  have C2 := Lib.hid (fun v => refInst6_any v wd U pc has hw hUu hp hUn)
  have C9 := Lib.hid (fun v (hv : Tables v) => awake_any v hv)
  clear hU hUn hUu hw hu hp
  generalize instP wd U has pc = X at *
  generalize instB wd U has pc = ok at *
  have hxx : ∀ w, (binOp .eql 24 X.val X.val).run Tryd.prog w = .ok (.bool true) w := fun w => (run_in_eql X X w).trans (by rw [decide_eq_true rfl])
  have K0 := Lib.hid (Made.refl W)
  go_enter Tryd.func4, Tryd.ntmps4
  rcases hUc with ⟨rfl, rfl⟩ | ⟨rfl, rfl⟩
  all_goals
    go_wp2_with (fail)
    refine (C1.out _ (hT.made K0.out) _ (Made.refl _)).mono ?_
    rintro e z1 ⟨rfl, h1⟩
    have K1 := Lib.hid (Made.trans K0.out h1)
    clear h1
    go_upto_region 4 with (fail)
    refine name_world (fun v => Own W z1.heap.size X v) ⟨K1.out.alloc K1.out.size _, heap_alloc_new z1 _⟩ ?_
    intro y1 hk
    have L1 := Lib.hid hk
    clear hk
    go_wp2_with (fail)
    refine (C2.out _ _ (Made.refl _)).mono ?_
    rintro e z2 ⟨rfl, h2⟩
    have L2 := Lib.hid (L1.out.next h2)
    clear h2
    go_upto_region 5 with (fail)
    refine name_world (fun v => Two W z1.heap.size z2.heap.size X v) ⟨(L2.out.next ((Made.refl _).alloc (Nat.le_refl _) _)).made, (L2.out.next ((Made.refl _).alloc (Nat.le_refl _) _)).in_, heap_alloc_new z2 _⟩ ?_
    intro y2 hb
    have B2 := Lib.hid hb
    obtain ⟨a0, a1, a2, a3, a4, a5, a6, a7, a8, a9, a10⟩ := in_cells hb.fst
    obtain ⟨c0, c1, c2, c3, c4, c5, c6, c7, c8, c9, c10⟩ := in_cells hb.snd
    have hl1 := heap_lt hb.fst
    have hl2 := heap_lt hb.snd
    clear hb
    go_wp2_with (fail)
    refine (C9.out _ (hT.made B2.out.made) _ (Made.refl _)).mono ?_
    rintro e z9 ⟨rfl, h9⟩
    have B9 := Lib.hid (B2.out.next h9)
    clear h9
    go_wp2
    go_ret
    exact ⟨by simp, B9.out.made⟩
end
theorem walkA (W : World) (hT : Tables W) (a0 a1 : Int) (a2 : Bool) (a3 : Int) (w0 : (Lit.int .u32 a0).wf = true) (w1 : (Lit.int .u32 a1).wf = true) (w3 : (Lit.int .u32 a3).wf = true) :
    Calls Tryd.prog 4 #[.int .u32 a0, .int .u32 a1, .bool a2, .int .u32 a3] W fun e w' => e = .returned (.bool true) ∧ Made W w' :=
  walk W hT a0 a1 a2 a3 (u32_wf w0) (u32_wf w1) (u32_wf w3)
end encInsts
end
end Go.Proofs.YtjeemiabddblhaaDoor
