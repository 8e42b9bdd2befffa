/- What the small functions of package rules return, for every two instructions: which register and predicate they write, whether at most one of them is due, whether they clash. · What Go's slices.IndexFunc and slices.ContainsFunc return of instructions in memory, for every function of an instruction that tells a bool and makes new memory alone. · The rules for what is done at once, in the program's own words, are those of the plain data: two branches, a clash with one ahead, what lacks its fresh predicate or register, what disturbs a loop. No condition but those named. · What the closures and the parts of Check of package rules return, for any instructions in memory. · What Clash and Check of package rules return, for every packet in memory, in every world that holds the table of names. -/
import Derived.Test.YtdaildmoodfocaaDoorInstFns
import Derived.Test.YtdaildmoodfocaaDoorRulesMath
import Derived.Laws.Small
import Derived.Test.YtdaildmoodfocaaDoorRulesOpen
import Derived.Test.YtdaildmoodfocaaDoorIsaUse
import Derived.Test.YtdaildmoodfocaaDoorInstKinds
import Derived.Test.YtdaildmoodfocaaDoorInstAsks
namespace Go.Proofs.YtdaildmoodfocaaDoor
section
open Go.ChangeShapes Go.WideShapes Go.ChangeAt Go.RowKit Go.Sort BigFrame

theorem low_high (a b : Int) : (((if b < a then b else a) == 1 && (if b > a then b else a) == 2) || ((if b < a then b else a) == 3 && (if b > a then b else a) == 4)) = ((a == 1 && b == 2) || (a == 2 && b == 1) || (a == 3 && b == 4) || (a == 4 && b == 3)) := by
  rw [Bool.eq_iff_iff]
  simp only [Bool.or_eq_true, Bool.and_eq_true, beq_iff_eq]
  split <;> omega
/-- Two instructions in blocks of a call's own. -/
structure Both (W : World) (B : Nat) (a b : In) (w : World) : Prop where
  made : Made W w
  fst : InAt w B a
  snd : InAt w (B + 1) b
theorem Both.next {W w w' : World} {B : Nat} {a b : In} (h : Both W B a b w) (hm : Made w w') : Both W B a b w' := ⟨Made.trans h.made hm, hm.heap h.fst, hm.heap h.snd⟩
theorem boxes_start {W w : World} (hm : Made W w) (a b : In) : Both W w.heap.size a b ((w.alloc (.cells a.cells.toArray 24)).alloc (.cells b.cells.toArray 24)) := by
  have m1 := hm.alloc hm.size (.cells a.cells.toArray 24)
  have b1 : (w.alloc (.cells a.cells.toArray 24)).heap[w.heap.size]? = some (.cells a.cells.toArray 24 (0, 0)) := heap_alloc_new w _
  exact ⟨m1.alloc m1.size _, (Below.heap_alloc _ _ _ (heap_lt b1)).trans b1, heap_at (by simp)⟩
section
attribute [local irreducible] World.cell?
set_option maxRecDepth 100000 in
set_option maxHeartbeats 4000000 in
theorem regw_any (W : World) (hN : Names W) (x : In) (hx : x.small) (r : Int) : Makes Tryd.prog W 46 #[x.val, .int .u8 r] (.bool (regB x r)) := by
  intro w hm
  have hz := hm.size
  have HM := Lib.hid (hm.alloc hz (.cells x.cells.toArray 24))
  have HV := writes_any _ (hN.made HM.out) x hx _ (Made.refl _)
  have HR := Lib.hid (show regB x r = ((writesP x).2 && (writesP x).1 == r) from rfl)
  clear hx hm
  generalize writesP x = p at *
  obtain ⟨v, b⟩ := p
  have H := Lib.hid HV
  clear HV
  cases b with
  | true =>
    go_enter Tryd.func46, Tryd.ntmps46
    go_wp2_with (fail)
    refine H.out.mono ?_
    rintro e w1 ⟨rfl, h1⟩
    have M1 := Lib.hid (Made.trans HM.out h1)
    clear h1
    go_wp2
    go_ret
    exact ⟨ret_bool (by rw [HR.out]; simp), M1.out⟩
  | false =>
    go_enter Tryd.func46, Tryd.ntmps46
    go_wp2_with (fail)
    refine H.out.mono ?_
    rintro e w1 ⟨rfl, h1⟩
    have M1 := Lib.hid (Made.trans HM.out h1)
    clear h1
    go_wp2
    go_ret
    exact ⟨ret_bool (by rw [HR.out]; rfl), M1.out⟩
set_option maxRecDepth 100000 in
set_option maxHeartbeats 4000000 in
theorem setw_any (W : World) (hN : Names W) (x : In) (hx : x.small) (r : Int) : Makes Tryd.prog W 47 #[x.val, .int .u8 r] (.bool (setB x r)) := by
  intro w hm
  have hz := hm.size
  have HM := Lib.hid (hm.alloc hz (.cells x.cells.toArray 24))
  have HV := writesPred_any _ (hN.made HM.out) x hx _ (Made.refl _)
  have HR := Lib.hid (show setB x r = ((wpredP x).2 && (wpredP x).1 == r) from rfl)
  clear hx hm
  generalize wpredP x = p at *
  obtain ⟨v, b⟩ := p
  have H := Lib.hid HV
  clear HV
  cases b with
  | true =>
    go_enter Tryd.func47, Tryd.ntmps47
    go_wp2_with (fail)
    refine H.out.mono ?_
    rintro e w1 ⟨rfl, h1⟩
    have M1 := Lib.hid (Made.trans HM.out h1)
    clear h1
    go_wp2
    go_ret
    exact ⟨ret_bool (by rw [HR.out]; simp), M1.out⟩
  | false =>
    go_enter Tryd.func47, Tryd.ntmps47
    go_wp2_with (fail)
    refine H.out.mono ?_
    rintro e w1 ⟨rfl, h1⟩
    have M1 := Lib.hid (Made.trans HM.out h1)
    clear h1
    go_wp2
    go_ret
    exact ⟨ret_bool (by rw [HR.out]; rfl), M1.out⟩
set_option maxRecDepth 100000 in
set_option maxHeartbeats 4000000 in
theorem wone_any (W : World) (hN : Names W) (a b : In) (ha : a.small) (hb : b.small) : Makes Tryd.prog W 29 #[a.val, b.val] (.bool ((writesP a).2 && regB b (writesP a).1)) := by
  intro w hm
  have hz := hm.size
  have m1 := hm.alloc hz (.cells a.cells.toArray 24)
  have HM := Lib.hid (m1.alloc m1.size (.cells b.cells.toArray 24))
  have HV := writes_any _ (hN.made HM.out) a ha _ (Made.refl _)
  have HB := Lib.hid (fun (r : Int) (u : World) (hu : Made W u) => regw_any W hN b hb r u hu)
  have HI := Lib.hid (show InAt ((w.alloc (.cells a.cells.toArray 24)).alloc (.cells b.cells.toArray 24)) (w.heap.size + 1) b from heap_at (by simp))
  clear ha hb hm m1
  generalize writesP a = p at *
  obtain ⟨v, k⟩ := p
  have H := Lib.hid HV
  clear HV
  cases k with
  | true =>
    go_enter Tryd.func29, Tryd.ntmps29
    go_wp2_with (fail)
    refine H.out.mono ?_
    rintro e w1 ⟨rfl, h1⟩
    have M1 := Lib.hid (Made.trans HM.out h1)
    have K := h1.heap HI.out
    obtain ⟨b0, b1, b2, b3, b4, b5, b6, b7, b8, b9, b10⟩ := in_cells K
    clear h1 K
    go_wp2_with (fail)
    refine (HB.out _ _ M1.out).mono ?_
    rintro e w2 ⟨rfl, h2⟩
    have M2 := Lib.hid h2
    clear h2
    go_wp2
    go_ret
    exact ⟨rfl, M2.out⟩
  | false =>
    go_enter Tryd.func29, Tryd.ntmps29
    go_wp2_with (fail)
    refine H.out.mono ?_
    rintro e w1 ⟨rfl, h1⟩
    have M1 := Lib.hid (Made.trans HM.out h1)
    clear h1
    go_wp2
    go_ret
    exact ⟨rfl, M1.out⟩
set_option maxRecDepth 100000 in
set_option maxHeartbeats 4000000 in
theorem pone_any (W : World) (hN : Names W) (a b : In) (ha : a.small) (hb : b.small) : Makes Tryd.prog W 31 #[a.val, b.val] (.bool (pClash a b)) := by
  intro w hm
  have hz := hm.size
  have m1 := hm.alloc hz (.cells a.cells.toArray 24)
  have HM := Lib.hid (m1.alloc m1.size (.cells b.cells.toArray 24))
  have HV := writesPred_any _ (hN.made HM.out) a ha _ (Made.refl _)
  have HB := Lib.hid (fun (r : Int) (u : World) (hu : Made W u) => setw_any W hN b hb r u hu)
  have HI := Lib.hid (show InAt ((w.alloc (.cells a.cells.toArray 24)).alloc (.cells b.cells.toArray 24)) (w.heap.size + 1) b from heap_at (by simp))
  have HP := Lib.hid (show pClash a b = ((wpredP a).2 && setB b (wpredP a).1) from rfl)
  clear ha hb hm m1
  generalize wpredP a = p at *
  obtain ⟨v, k⟩ := p
  have H := Lib.hid HV
  clear HV
  cases k with
  | true =>
    go_enter Tryd.func31, Tryd.ntmps31
    go_wp2_with (fail)
    refine H.out.mono ?_
    rintro e w1 ⟨rfl, h1⟩
    have M1 := Lib.hid (Made.trans HM.out h1)
    have K := h1.heap HI.out
    obtain ⟨b0, b1, b2, b3, b4, b5, b6, b7, b8, b9, b10⟩ := in_cells K
    clear h1 K
    go_wp2_with (fail)
    refine (HB.out _ _ M1.out).mono ?_
    rintro e w2 ⟨rfl, h2⟩
    have M2 := Lib.hid h2
    clear h2
    go_wp2
    go_ret
    exact ⟨ret_bool (by rw [HP.out]; rfl), M2.out⟩
  | false =>
    go_enter Tryd.func31, Tryd.ntmps31
    go_wp2_with (fail)
    refine H.out.mono ?_
    rintro e w1 ⟨rfl, h1⟩
    have M1 := Lib.hid (Made.trans HM.out h1)
    clear h1
    go_wp2
    go_ret
    exact ⟨ret_bool (by rw [HP.out]; rfl), M1.out⟩
set_option maxRecDepth 100000 in
set_option maxHeartbeats 4000000 in
theorem excl_any (W : World) (a b : In) : Makes Tryd.prog W 30 #[a.val, b.val] (.bool (exclB a b)) := by
  intro w hm
  have hz := hm.size
  have m1 := hm.alloc hz (.cells a.cells.toArray 24)
  have HM := Lib.hid (m1.alloc m1.size (.cells b.cells.toArray 24))
  have HE := Lib.hid (show exclB a b = (a.pred == b.pred && ((a.mode == 1 && b.mode == 2) || (a.mode == 2 && b.mode == 1) || (a.mode == 3 && b.mode == 4) || (a.mode == 4 && b.mode == 3))) from rfl)
  have HL := low_high a.mode b.mode
  obtain ⟨a0, a1, a2, a3, a4, ap, am, a7, a8, a9, a10⟩ := a
  obtain ⟨b0, b1, b2, b3, b4, bp, bm, b7, b8, b9, b10⟩ := b
  clear hm m1
  simp only at HL
  obtain ⟨lo, hlo⟩ : ∃ lo, (if bm < am then bm else am) = lo := ⟨_, rfl⟩
  obtain ⟨hi, hhi⟩ : ∃ hi, (if bm > am then bm else am) = hi := ⟨_, rfl⟩
  rewrite [hlo, hhi] at HL
  by_cases hp : ap = bp
  · subst hp
    have HV := Lib.hid (show exclB ⟨a0, a1, a2, a3, a4, ap, am, a7, a8, a9, a10⟩ ⟨b0, b1, b2, b3, b4, ap, bm, b7, b8, b9, b10⟩ = ((lo == 1 && hi == 2) || (lo == 3 && hi == 4)) by rw [HE.out, HL]; simp)
    clear HL HE
    go_enter Tryd.func30, Tryd.ntmps30
    go_wp2
    go_region
    cases h1 : (lo == 1) <;> cases h2 : (hi == 2) <;> cases h3 : (lo == 3) <;> cases h4 : (hi == 4)
    all_goals
      go_wp2
      go_ret
      exact ⟨ret_bool (by rw [HV.out]; simp [*]), HM.out.drew⟩
  · have hb : (ap == bp) = false := beq_eq_false_iff_ne.2 hp
    have HV := Lib.hid (show exclB ⟨a0, a1, a2, a3, a4, ap, am, a7, a8, a9, a10⟩ ⟨b0, b1, b2, b3, b4, bp, bm, b7, b8, b9, b10⟩ = false by rw [HE.out]; simp [hb])
    clear HL HE hlo hhi
    go_enter Tryd.func30, Tryd.ntmps30
    go_wp2
    go_ret
    exact ⟨ret_bool (by rw [HV.out]), HM.out⟩
set_option maxRecDepth 100000 in
set_option maxHeartbeats 4000000 in
theorem clash_any (W : World) (hN : Names W) (a b : In) (ha : a.small) (hb : b.small) : Makes Tryd.prog W 13 #[a.val, b.val] (.bool (clashP a b)) := by
  intro w hm
  have B0 := Lib.hid (boxes_start hm a b)
  have H1 := Lib.hid (fun (u : World) (hu : Made W u) => wone_any u (hN.made hu) a b ha hb u (Made.refl u))
  have H2 := Lib.hid (fun (u : World) => excl_any u a b u (Made.refl u))
  have H3 := Lib.hid (fun (u : World) (hu : Made W u) => pone_any u (hN.made hu) a b ha hb u (Made.refl u))
  have HP := Lib.hid (show clashP a b = ((((writesP a).2 && regB b (writesP a).1) && !exclB a b) || pClash a b) from rfl)
  clear ha hb hm
  generalize ((writesP a).2 && regB b (writesP a).1) = k1 at *
  generalize exclB a b = k2 at *
  generalize pClash a b = k3 at *
  cases k1 with
  | true =>
    cases k2 with
    | true =>
      go_enter Tryd.func13, Tryd.ntmps13
      go_wp2_with (fail)
      refine (H1.out _ B0.out.made).mono ?_
      rintro e w1 ⟨rfl, h1⟩
      have B1 := Lib.hid (B0.out.next h1)
      clear h1
      obtain ⟨a0, a1, a2, a3, a4, a5, a6, a7, a8, a9, a10⟩ := in_cells B1.out.fst
      obtain ⟨b0, b1, b2, b3, b4, b5, b6, b7, b8, b9, b10⟩ := in_cells B1.out.snd
      go_wp2_with (fail)
      refine (H2.out _).mono ?_
      rintro e w2 ⟨rfl, h2⟩
      have B2 := Lib.hid (B1.out.next h2)
      clear h2 a0 a1 a2 a3 a4 a5 a6 a7 a8 a9 a10 b0 b1 b2 b3 b4 b5 b6 b7 b8 b9 b10
      obtain ⟨a0, a1, a2, a3, a4, a5, a6, a7, a8, a9, a10⟩ := in_cells B2.out.fst
      obtain ⟨b0, b1, b2, b3, b4, b5, b6, b7, b8, b9, b10⟩ := in_cells B2.out.snd
      go_wp2_with (fail)
      refine (H3.out _ B2.out.made).mono ?_
      rintro e w3 ⟨rfl, h3⟩
      have B3 := Lib.hid (B2.out.next h3)
      clear h3
      go_wp2
      go_ret
      exact ⟨ret_bool (by rw [HP.out]; rfl), B3.out.made⟩
    | false =>
      go_enter Tryd.func13, Tryd.ntmps13
      go_wp2_with (fail)
      refine (H1.out _ B0.out.made).mono ?_
      rintro e w1 ⟨rfl, h1⟩
      have B1 := Lib.hid (B0.out.next h1)
      clear h1
      obtain ⟨a0, a1, a2, a3, a4, a5, a6, a7, a8, a9, a10⟩ := in_cells B1.out.fst
      obtain ⟨b0, b1, b2, b3, b4, b5, b6, b7, b8, b9, b10⟩ := in_cells B1.out.snd
      go_wp2_with (fail)
      refine (H2.out _).mono ?_
      rintro e w2 ⟨rfl, h2⟩
      have B2 := Lib.hid (B1.out.next h2)
      clear h2
      go_wp2
      go_ret
      exact ⟨ret_bool (by rw [HP.out]; rfl), B2.out.made⟩
  | false =>
    go_enter Tryd.func13, Tryd.ntmps13
    go_wp2_with (fail)
    refine (H1.out _ B0.out.made).mono ?_
    rintro e w1 ⟨rfl, h1⟩
    have B1 := Lib.hid (B0.out.next h1)
    clear h1
    obtain ⟨a0, a1, a2, a3, a4, a5, a6, a7, a8, a9, a10⟩ := in_cells B1.out.fst
    obtain ⟨b0, b1, b2, b3, b4, b5, b6, b7, b8, b9, b10⟩ := in_cells B1.out.snd
    go_wp2_with (fail)
    refine (H3.out _ B1.out.made).mono ?_
    rintro e w3 ⟨rfl, h3⟩
    have B3 := Lib.hid (B1.out.next h3)
    clear h3
    go_wp2
    go_ret
    exact ⟨ret_bool (by rw [HP.out]; rfl), B3.out.made⟩
/-! Of one instruction. -/
set_option maxRecDepth 100000 in
set_option maxHeartbeats 4000000 in
theorem branch_any (W : World) (hN : Names W) (x : In) (hx : x.small) : Makes Tryd.prog W 39 #[x.val] (.bool (classP x == 5)) := by
  intro w hm
  have hz := hm.size
  have HM := Lib.hid (hm.alloc hz (.cells x.cells.toArray 24))
  have HV := class_any _ (hN.made HM.out) x hx _ (Made.refl _)
  have hc : classZ (opN x.op) = classP x := rfl
  rewrite [hc] at HV
  clear hx hm hc
  generalize classP x = c at *
  have H := Lib.hid HV
  clear HV
  go_enter Tryd.func39, Tryd.ntmps39
  go_wp2_with (fail)
  refine H.out.mono ?_
  rintro e w1 ⟨rfl, h1⟩
  have M1 := Lib.hid (Made.trans HM.out h1)
  clear h1
  go_wp2
  go_ret
  exact ⟨rfl, M1.out⟩
set_option maxRecDepth 100000 in
set_option maxHeartbeats 4000000 in
theorem disturbs_any (W : World) (hN : Names W) (x : In) (hx : x.small) : Makes Tryd.prog W 25 #[x.val] (.bool (classP x == 5 || classP x == 6)) := by
  intro w hm
  have hz := hm.size
  have HM := Lib.hid (hm.alloc hz (.cells x.cells.toArray 24))
  have HV := class_any _ (hN.made HM.out) x hx _ (Made.refl _)
  have hc : classZ (opN x.op) = classP x := rfl
  rewrite [hc] at HV
  clear hx hm hc
  generalize classP x = c at *
  have H := Lib.hid HV
  clear HV
  cases h5 : (c == 5)
  all_goals
    go_enter Tryd.func25, Tryd.ntmps25
    go_wp2_with (fail)
    refine H.out.mono ?_
    rintro e w1 ⟨rfl, h1⟩
    have M1 := Lib.hid (Made.trans HM.out h1)
    clear h1
    go_wp2
    go_ret
    exact ⟨rfl, M1.out⟩
set_option maxRecDepth 100000 in
set_option maxHeartbeats 4000000 in
theorem gives_any (W : World) (hN : Names W) (x : In) (hx : x.small) : Makes Tryd.prog W 56 #[x.val] (.bool (x.mode == 0 && (classP x == 1 || classP x == 2))) := by
  intro w hm
  have hz := hm.size
  have HM := Lib.hid (hm.alloc hz (.cells x.cells.toArray 24))
  have HI := Lib.hid (heap_alloc_new w (.cells x.cells.toArray 24))
  have HV := class_any _ (hN.made HM.out) x hx _ (Made.refl _)
  have hc : classZ (opN x.op) = classP x := rfl
  rewrite [hc] at HV
  clear hx hm hc
  generalize classP x = c at *
  have H := Lib.hid HV
  clear HV
  cases h0 : (x.mode == 0) <;> cases h5 : (c == 1)
  all_goals
    go_enter Tryd.func56, Tryd.ntmps56
    go_wp2_with (fail)
    refine H.out.mono ?_
    rintro e w1 ⟨rfl, h1⟩
    obtain ⟨a0, a1, a2, a3, a4, a5, a6, a7, a8, a9, a10⟩ := in_cells (h1.heap HI.out)
    have M1 := Lib.hid (Made.trans HM.out h1)
    clear h1
    go_wp2
    go_ret
    exact ⟨rfl, M1.out⟩
end
end
section
open Go.ChangeShapes Go.WideShapes Go.ChangeAt Go.RowKit Go.Sort BigFrame

/-- Where the first one is of which q holds. -/
def FirstAt (l : List In) (q : In → Bool) (i : Int) : Prop := (i = -1 ∧ l.any q = false) ∨ ∃ k : Nat, i = k ∧ k < l.length ∧ (l.take k).any q = false ∧ l.any q = true ∧ ∀ h : k < l.length, q l[k] = true
theorem any_step (l : List In) (q : In → Bool) {k : Nat} (h : k < l.length) : (l.take (k + 1)).any q = ((l.take k).any q || q l[k]) := by
  rw [List.take_succ_eq_append_getElem h, List.any_append]
  simp
theorem any_true (l : List In) (q : In → Bool) {k : Nat} (h : k < l.length) (hq : q l[k] = true) : l.any q = true := List.any_eq_true.2 ⟨l[k], List.getElem_mem h, hq⟩
abbrev Enters (K : FuncId) : Prop := ∀ (args : Array Value) (w : World), Sem.run Tryd.prog (callFunc K args) w = .ok (.enter K args) w
theorem enters_of {f : FuncId} {fn : Func} (hf : Tryd.prog.funcs[f]? = some fn) (hname : (fn.name == "runtime.NumGoroutine") = false) (hb : fn.body.isNone = false) : Enters f := fun args w => by
  have h1 : ¬ fn.name = "runtime.NumGoroutine" := by simpa using hname
  have h2 : ¬ fn.body = none := fun h => by
    rw [h] at hb
    exact absurd hb (by simp)
  simp [callFunc, program, Sem.run, hf, go_sem, h1, h2]
theorem enters_isBranch : Enters 39 := enters_of Tryd.func39 (by kernel_rfl) (by kernel_rfl)
theorem enters_disturbs : Enters 25 := enters_of Tryd.func25 (by kernel_rfl) (by kernel_rfl)
theorem enters_clash : Enters 40 := enters_of Tryd.func40 (by kernel_rfl) (by kernel_rfl)
theorem enters_new : Enters 41 := enters_of Tryd.func41 (by kernel_rfl) (by kernel_rfl)
theorem enters_pred : Enters 54 := enters_of Tryd.func54 (by kernel_rfl) (by kernel_rfl)
theorem enters_register : Enters 55 := enters_of Tryd.func55 (by kernel_rfl) (by kernel_rfl)
/-- What a function value tells of each instruction, in every world that has grown out of w. -/
abbrev TellsOf (w : World) (K : FuncId) (caps : Array Value) (q : In → Bool) (l : List In) : Prop := ∀ x : In, x ∈ l → x.small → ∀ u : World, Made w u → Calls Tryd.prog K (#[x.val] ++ caps) u fun e u' => e = .returned (.bool (q x)) ∧ Made u u'
section
attribute [local irreducible] World.cell?
set_option maxRecDepth 100000 in
set_option maxHeartbeats 4000000 in
theorem first_any (K : FuncId) (caps : Array Value) (q : In → Bool) (ao : Option Addr) (cap : Nat) (l : List In) (w : World) (hI : Insts w ao cap l) (hK : Enters K) (hq : TellsOf w K caps q l) :
    Calls Tryd.prog 38 #[.slice ao l.length cap, .func (.func K) #[] caps] w fun e w' => ∃ i : Int, e = .returned (.int .i64 i) ∧ FirstAt l q i ∧ Made w w' := by
  have hmax := hI.max
  have hroom := hI.room
  unfold maxLen at hmax
  have H := Lib.hid hI
  have HQ := Lib.hid hq
  clear hI hq
  go_enter Tryd.func38, Tryd.ntmps38
  go_wp2_with (fail)
  go_loopw [8] (fun i wr => ∃ k : Nat, k ≤ l.length ∧ i = .int .i64 k ∧ (l.take k).any q = false ∧ Made w wr) (fun i _ => l.length - (intOf i).toNat)
  case atStart => exact ⟨0, Nat.zero_le _, rfl, by simp, Made.refl _⟩
  case round =>
    obtain ⟨k, hk, rfl, hat, hwr⟩ := hrel
    have KA := Lib.hid hat
    have HM := Lib.hid hwr
    clear hat hwr
    by_cases hlt : k < l.length
    · obtain ⟨x, hx⟩ : ∃ x, l[k] = x := ⟨_, rfl⟩
      obtain ⟨b, o, rfl, c0, c1, c2, c3, c4, c5, c6, c7, c8, c9, c10⟩ := insts_cells (insts_made H.out HM.out) hlt x hx
      have HX := Lib.hid (HQ.out x (hx ▸ List.getElem_mem hlt) (H.out.small x (hx ▸ List.getElem_mem hlt)) wr HM.out)
      have HN := Lib.hid (any_step l q hlt)
      have HT := Lib.hid (fun h => any_true l q hlt h)
      have HG := Lib.hid hx
      rewrite [hx] at HN HT
      clear hx
      go_wp2_with (fail)
      refine HX.out.mono ?_
      rintro e w2 ⟨rfl, h2⟩
      have M2 := Lib.hid (Made.trans HM.out h2)
      clear h2 c0 c1 c2 c3 c4 c5 c6 c7 c8 c9 c10
      cases hqx : q x with
      | true =>
        have HK := Lib.hid (HT.out hqx)
        have HY := Lib.hid hqx
        clear hqx
        go_wp2
        go_ret
        exact ⟨_, rfl, .inr ⟨k, rfl, hlt, KA.out, HK.out, fun h => by rw [HG.out]; exact HY.out⟩, M2.out⟩
      | false =>
        have HK := Lib.hid (show (l.take (k + 1)).any q = false by rw [HN.out, KA.out, hqx]; rfl)
        clear hqx
        go_wp2
        go_roundw
        case rel => exact ⟨k + 1, by omega, by go_num, HK.out, M2.out⟩
        case measure => simp [intOf]; omega
    · obtain rfl : k = l.length := by omega
      have KN := Lib.hid (show l.any q = false by have h := KA.out; rwa [List.take_length] at h)
      go_wp2
      go_ret
      exact ⟨-1, rfl, .inl ⟨rfl, KN.out⟩, HM.out⟩
set_option maxRecDepth 100000 in
theorem any_any (K : FuncId) (caps : Array Value) (q : In → Bool) (ao : Option Addr) (cap : Nat) (l : List In) (w : World) (hI : Insts w ao cap l) (hK : Enters K) (hq : TellsOf w K caps q l) :
    Calls Tryd.prog 24 #[.slice ao l.length cap, .func (.func K) #[] caps] w fun e w' => e = .returned (.bool (l.any q)) ∧ Made w w' := by
  have H := Lib.hid (first_any K caps q ao cap l w hI hK hq)
  clear hI hK hq
  go_enter Tryd.func24, Tryd.ntmps24
  go_wp2_with (fail)
  refine H.out.mono ?_
  rintro e w1 ⟨i, rfl, hi, h1⟩
  have M1 := Lib.hid h1
  clear h1
  rcases hi with ⟨rfl, hf⟩ | ⟨k, rfl, -, -, hf, -⟩
  · have HF := Lib.hid hf
    clear hf
    go_wp2
    go_ret
    exact ⟨ret_bool HF.out.symm, M1.out⟩
  · have HF := Lib.hid hf
    clear hf
    go_wp2
    go_ret
    exact ⟨ret_bool (by rw [HF.out]), M1.out⟩
end
end
section
theorem any_pos (l : List In) (q : In → Bool) : l.any q = decide (0 < l.countP q) := by
  rw [Bool.eq_iff_iff, List.any_eq_true, decide_eq_true_eq, List.countP_pos_iff]
theorem split_at {l : List In} {k : Nat} (h : k < l.length) : l = l.take k ++ l[k] :: l.drop (k + 1) := by
  rw [← List.drop_eq_getElem_cons h, List.take_append_drop]
theorem any_zero {l : List In} {q : In → Bool} (h : l.any q = false) : l.countP q = 0 := by
  rw [any_pos, decide_eq_false_iff_not] at h
  omega
/-- The rest behind the first one of which q holds has one, just if there are two. -/
theorem two_first {l : List In} {q : In → Bool} {k : Nat} (hk : k < l.length) (h0 : (l.take k).any q = false) (h1 : q l[k] = true) : (l.drop (k + 1)).any q = decide (1 < l.countP q) := by
  have e : l.countP q = 1 + (l.drop (k + 1)).countP q := by
    conv => lhs; rw [split_at hk]
    rw [List.countP_append, any_zero h0, List.countP_cons, h1]
    simp; omega
  rw [any_pos, e]
  congr 1
  simp only [eq_iff_iff]
  omega
theorem clash_end (m : List In) (x : In) : clashL (m ++ [x]) = (clashL m || m.any (clashP x)) := by
  have key : clashL (m ++ [x]) = false ↔ (clashL m || m.any (clashP x)) = false := by
    rw [Bool.or_eq_false_iff, clashL_iff, clashL_iff, List.pairwise_append]
    constructor
    · rintro ⟨h1, -, h3⟩
      refine ⟨h1, ?_⟩
      rw [List.any_eq_false]
      intro a ha
      rw [clashP_comm, h3 a ha x (by simp)]
      simp
    · rintro ⟨h1, h2⟩
      refine ⟨h1, by simp, ?_⟩
      intro a ha b hb
      obtain rfl : b = x := by simpa using hb
      rw [List.any_eq_false] at h2
      rw [clashP_comm]
      simpa using h2 a ha
  cases h1 : clashL (m ++ [x]) with
  | false => exact (key.1 h1).symm
  | true =>
    cases h2 : (clashL m || m.any (clashP x)) with
    | true => rfl
    | false => rw [key.2 h2] at h1; exact absurd h1 (by simp)
theorem clash_step (l : List In) {k : Nat} (h : k < l.length) : clashL (l.take (k + 1)) = (clashL (l.take k) || (l.take k).any (clashP l[k])) := by
  rw [List.take_succ_eq_append_getElem h, clash_end]
theorem clash_more (l : List In) (k : Nat) (h : clashL (l.take k) = true) : clashL l = true := by
  cases hl : clashL l with
  | true => rfl
  | false =>
    have := (clashL_iff _).2 (List.Pairwise.sublist (List.take_sublist k l) ((clashL_iff l).1 hl))
    rw [this] at h
    exact absurd h (by simp)

/-! What lacks what it asks for. -/
def lackPred (l : List In) (x : In) : Bool := ((rpredP x).2.2 && (rpredP x).2.1) && !setsB l (rpredP x).1
def goodQ (y : In) (r : Int) : Bool := regB y r && (y.mode == 0 && (classP y == 1 || classP y == 2))
def lackReg (l : List In) (x : In) : Bool := x.new && !l.any fun y => goodQ y x.t
theorem goodQ_eq (y : In) (r : Int) : goodQ y r = goodB y r := by
  unfold goodQ goodB
  cases regB y r <;> cases (y.mode == 0) <;> cases (classP y == 1 || classP y == 2) <;> rfl
/-- One that gives its register whatever the predicates is the only one that writes it. -/
theorem good_alone {l : List In} (hc : clashL l = false) {r : Int} {y : In} (hy : y ∈ l) (hg : goodB y r = true) : writers l r = 1 ∧ goods l r = 1 := by
  obtain ⟨s, t, rfl⟩ := List.append_of_mem hy
  have hg' := hg
  unfold goodB at hg'
  simp only [Bool.and_eq_true, beq_iff_eq] at hg'
  obtain ⟨⟨hr, -⟩, hm⟩ := hg'
  have ey : (writesP y).2 = true ∧ (writesP y).1 = r := by simpa [regB] using hr
  have none : ∀ z, clashP y z = false → regB z r = false := fun z hz => by
    have h1 : wClash y z = false := by
      unfold clashP at hz
      exact (Bool.or_eq_false_iff.1 hz).1
    have he : exclB y z = false := by simp [exclB, hm]
    unfold wClash at h1
    rw [ey.1, ey.2, he] at h1
    simpa using h1
  have hp := (clashL_iff _).1 hc
  rw [List.pairwise_append, List.pairwise_cons] at hp
  obtain ⟨-, ⟨h2, -⟩, h3⟩ := hp
  have hs : ∀ z ∈ s, regB z r = false := fun z hz => none z (by rw [clashP_comm]; exact h3 z hz y (by simp))
  have ht : ∀ z ∈ t, regB z r = false := fun z hz => none z (h2 z hz)
  have z1 : ∀ m : List In, (∀ z ∈ m, regB z r = false) → (m.countP fun y => regB y r) = 0 ∧ (m.countP fun y => goodB y r) = 0 := fun m h =>
    ⟨List.countP_eq_zero.2 fun z hz => by rw [h z hz]; simp, List.countP_eq_zero.2 fun z hz => by unfold goodB; rw [h z hz]; simp⟩
  constructor
  · unfold writers
    rw [List.countP_append, List.countP_cons, (z1 s hs).1, (z1 t ht).1, hr]
    rfl
  · unfold goods
    rw [List.countP_append, List.countP_cons, (z1 s hs).2, (z1 t ht).2, hg]
    rfl
theorem good_one {l : List In} (hc : clashL l = false) (r : Int) : (writers l r == 1 && goods l r == 1) = l.any fun y => goodQ y r := by
  simp only [goodQ_eq]
  cases h : l.any fun y => goodB y r with
  | true =>
    obtain ⟨y, hy, hg⟩ := List.any_eq_true.1 h
    obtain ⟨h1, h2⟩ := good_alone hc hy hg
    rw [h1, h2]
    rfl
  | false =>
    have : goods l r = 0 := any_zero (q := fun y => goodB y r) h
    rw [this]
    simp
theorem lack_pred {l : List In} {x : In} (hx : x.small) (hr : rightB x = true) : lackPred l x = !(decide (x.mode ≤ 2) || setsB l x.pred) := by
  unfold lackPred
  rw [rpred_kind x hx]
  by_cases h : 2 < x.mode
  · rw [if_pos ⟨hr, .inr (by omega)⟩, decide_eq_false (show ¬ x.mode ≤ 2 by omega)]
    simp [h]
  · rw [decide_eq_true (show x.mode ≤ 2 by omega)]
    split <;> simp [h]
theorem lacks_new {l : List In} (hc : clashL l = false) (hr : ∀ x ∈ l, x.small ∧ rightB x = true) : (l.any fun x => lackPred l x || lackReg l x) = !freshB l := by
  have key : ∀ x ∈ l, (lackPred l x || lackReg l x) = !freshOne l x := fun x hx => by
    rw [lack_pred (hr x hx).1 (hr x hx).2]
    unfold lackReg freshOne
    rw [good_one hc]
    cases (decide (x.mode ≤ 2) || setsB l x.pred) <;> cases x.new <;> cases (l.any fun y => goodQ y x.t) <;> rfl
  unfold freshB
  rw [Bool.eq_iff_iff]
  simp only [List.any_eq_true, Bool.not_eq_true', List.all_eq_false, Bool.not_eq_true]
  constructor
  · rintro ⟨x, hx, h⟩
    exact ⟨x, hx, by rw [key x hx] at h; simpa using h⟩
  · rintro ⟨x, hx, h⟩
    exact ⟨x, hx, by rw [key x hx, h]; rfl⟩
theorem loops (l : List In) : (l.any fun x => classP x == 5 || classP x == 6) = decide (0 < countC l 5 + countC l 6) := by
  rw [Bool.eq_iff_iff, List.any_eq_true, decide_eq_true_eq]
  unfold countC
  constructor
  · rintro ⟨x, hx, h⟩
    simp only [Bool.or_eq_true] at h
    rcases h with h | h
    · have := List.countP_pos_iff (p := fun x => classP x == 5).2 ⟨x, hx, h⟩
      omega
    · have := List.countP_pos_iff (p := fun x => classP x == 6).2 ⟨x, hx, h⟩
      omega
  · intro h
    by_cases h5 : 0 < l.countP fun x => classP x == 5
    · obtain ⟨x, hx, h⟩ := List.countP_pos_iff.1 h5
      exact ⟨x, hx, by rw [h]; rfl⟩
    · obtain ⟨x, hx, h⟩ := List.countP_pos_iff.1 (show 0 < l.countP fun x => classP x == 6 by omega)
      exact ⟨x, hx, by rw [h]; simp⟩
end
section
open Go.ChangeShapes Go.WideShapes Go.ChangeAt Go.RowKit Go.Sort BigFrame

section
attribute [local irreducible] World.cell?
set_option maxRecDepth 100000 in
set_option maxHeartbeats 4000000 in
theorem tells_clash (w : World) (hN : Names w) (a : In) (ha : a.small) (c : Nat) (hc : InAt w c a) (l : List In) : TellsOf w 40 #[.pointer (some ⟨c, 0, none⟩)] (clashP a) l := by
  intro x _ hx u hu
  show Calls Tryd.prog 40 #[x.val, .pointer (some ⟨c, 0, none⟩)] u _
  have hi := hu.heap hc
  have hb := heap_lt hi
  obtain ⟨a0, a1, a2, a3, a4, a5, a6, a7, a8, a9, a10⟩ := in_cells hi
  have m1 : Made u (u.alloc (.cells x.cells.toArray 24)) := (Made.refl u).alloc (Nat.le_refl _) _
  have HM := Lib.hid m1
  have H := Lib.hid (clash_any _ (hN.made (Made.trans hu m1)) a x ha hx _ (Made.refl _))
  clear hi hc hu m1 ha hx
  go_enter Tryd.func40, Tryd.ntmps40
  go_wp2_with (fail)
  refine H.out.mono ?_
  rintro e w1 ⟨rfl, h1⟩
  have M1 := Lib.hid (Made.trans HM.out h1)
  clear h1
  go_wp2
  go_ret
  exact ⟨rfl, M1.out⟩
set_option maxRecDepth 100000 in
set_option maxHeartbeats 4000000 in
theorem tells_pred (w : World) (hN : Names w) (r : Int) (c : Nat) (T : TypeId) (hc : w.heap[c]? = some (.cells #[.int .u8 r] T (0, 0))) (l : List In) : TellsOf w 54 #[.pointer (some ⟨c, 0, none⟩)] (fun y => setB y r) l := by
  intro x _ hx u hu
  show Calls Tryd.prog 54 #[x.val, .pointer (some ⟨c, 0, none⟩)] u _
  have hi := hu.heap hc
  have hb := heap_lt hi
  have c0 : u.cell? ⟨c, 0, none⟩ = some (.int .u8 r) := cell_of_lit (cs := [.int .u8 r]) hi 0
  have m1 : Made u (u.alloc (.cells x.cells.toArray 24)) := (Made.refl u).alloc (Nat.le_refl _) _
  have HM := Lib.hid m1
  have H := Lib.hid (setw_any _ (hN.made (Made.trans hu m1)) x hx r _ (Made.refl _))
  clear hi hc hu m1 hx
  go_enter Tryd.func54, Tryd.ntmps54
  go_wp2_with (fail)
  refine H.out.mono ?_
  rintro e w1 ⟨rfl, h1⟩
  have M1 := Lib.hid (Made.trans HM.out h1)
  clear h1
  go_wp2
  go_ret
  exact ⟨rfl, M1.out⟩
set_option maxRecDepth 100000 in
set_option maxHeartbeats 4000000 in
theorem tells_register (w : World) (hN : Names w) (a : In) (c : Nat) (hc : InAt w c a) (l : List In) : TellsOf w 55 #[.pointer (some ⟨c, 0, none⟩)] (fun y => goodQ y a.t) l := by
  intro x _ hx u hu
  show Calls Tryd.prog 55 #[x.val, .pointer (some ⟨c, 0, none⟩)] u _
  have hi := hu.heap hc
  have hb := heap_lt hi
  obtain ⟨a0, a1, a2, a3, a4, a5, a6, a7, a8, a9, a10⟩ := in_cells hi
  have m1 : Made u (u.alloc (.cells x.cells.toArray 24)) := (Made.refl u).alloc (Nat.le_refl _) _
  have HM := Lib.hid m1
  have HX := Lib.hid (show InAt (u.alloc (.cells x.cells.toArray 24)) u.heap.size x from heap_alloc_new u _)
  have HN := Lib.hid (hN.made (Made.trans hu m1))
  have H := Lib.hid (regw_any _ HN.out x hx a.t _ (Made.refl _))
  have HG := Lib.hid (fun (v : World) (hv : Made (u.alloc (.cells x.cells.toArray 24)) v) => gives_any v (HN.out.made hv) x hx v (Made.refl v))
  have HQ := Lib.hid (show goodQ x a.t = (regB x a.t && (x.mode == 0 && (classP x == 1 || classP x == 2))) from rfl)
  clear hi hc hu m1 hx
  generalize regB x a.t = k1 at *
  generalize (x.mode == 0 && (classP x == 1 || classP x == 2)) = k2 at *
  cases k1 with
  | true =>
    go_enter Tryd.func55, Tryd.ntmps55
    go_wp2_with (fail)
    refine H.out.mono ?_
    rintro e w1 ⟨rfl, h1⟩
    have M1 := Lib.hid h1
    obtain ⟨b0, b1, b2, b3, b4, b5, b6, b7, b8, b9, b10⟩ := in_cells (h1.heap HX.out)
    clear h1
    go_wp2_with (fail)
    refine (HG.out _ M1.out).mono ?_
    rintro e w2 ⟨rfl, h2⟩
    have M2 := Lib.hid (Made.trans HM.out (Made.trans M1.out h2))
    clear h2
    go_wp2
    go_ret
    exact ⟨ret_bool (by rw [HQ.out]; rfl), M2.out⟩
  | false =>
    go_enter Tryd.func55, Tryd.ntmps55
    go_wp2_with (fail)
    refine H.out.mono ?_
    rintro e w1 ⟨rfl, h1⟩
    have M1 := Lib.hid (Made.trans HM.out h1)
    clear h1
    go_wp2
    go_ret
    exact ⟨ret_bool (by rw [HQ.out]; rfl), M1.out⟩

/-! The parts of Check. -/
set_option maxRecDepth 100000 in
set_option maxHeartbeats 4000000 in
theorem lackReg_any (ao : Option Addr) (cap : Nat) (l : List In) (x : In) (w : World) (hN : Names w) (hI : Insts w ao cap l) :
    Calls Tryd.prog 43 #[.slice ao l.length cap, x.val] w fun e w' => e = .returned (.bool (lackReg l x)) ∧ Made w w' := by
  have m1 : Made w (w.alloc (.cells x.cells.toArray 24)) := (Made.refl w).alloc (Nat.le_refl _) _
  have HM := Lib.hid m1
  have HA := Lib.hid (any_any _ _ _ ao cap l _ (insts_made hI m1) enters_register (tells_register _ (hN.made m1) x w.heap.size (heap_alloc_new w _) l))
  have HV := Lib.hid (show lackReg l x = (x.new && !l.any fun y => goodQ y x.t) from rfl)
  clear hI m1
  obtain ⟨a0, a1, a2, a3, a4, ap, am, an, a8, a9, a10⟩ := x
  cases an with
  | true =>
    go_enter Tryd.func43, Tryd.ntmps43
    go_wp2_with (fail)
    refine HA.out.mono ?_
    rintro e w1 ⟨rfl, h1⟩
    have M1 := Lib.hid (Made.trans HM.out h1)
    clear h1
    go_wp2
    go_ret
    exact ⟨ret_bool (by rw [HV.out]; rfl), M1.out⟩
  | false =>
    go_enter Tryd.func43, Tryd.ntmps43
    go_wp2
    go_ret
    exact ⟨ret_bool (by rw [HV.out]; rfl), HM.out⟩
set_option maxRecDepth 100000 in
set_option maxHeartbeats 4000000 in
theorem lackPred_any (ao : Option Addr) (cap : Nat) (l : List In) (x : In) (hx : x.small) (w : World) (hN : Names w) (hI : Insts w ao cap l) :
    Calls Tryd.prog 42 #[.slice ao l.length cap, x.val] w fun e w' => e = .returned (.bool (lackPred l x)) ∧ Made w w' := by
  have m1 : Made w (w.alloc (.cells x.cells.toArray 24)) := (Made.refl w).alloc (Nat.le_refl _) _
  have HM := Lib.hid m1
  have HR := readsPred_any _ (hN.made m1) x hx _ (Made.refl _)
  have HV := Lib.hid (show lackPred l x = (((rpredP x).2.2 && (rpredP x).2.1) && !setsB l (rpredP x).1) from rfl)
  have HA := Lib.hid (fun (u : World) (hu : Made w u) (r : Int) (c : Nat) (hc : u.heap[c]? = some (.cells #[.int .u8 r] 5 (0, 0))) => any_any _ _ _ ao cap l u (insts_made hI hu) enters_pred (tells_pred u (hN.made hu) r c 5 hc l))
  clear hI m1 hx
  generalize rpredP x = p at *
  obtain ⟨r, f, k⟩ := p
  have H := Lib.hid HR
  clear HR
  cases k <;> cases f
  case true.true =>
    go_enter Tryd.func42, Tryd.ntmps42
    go_wp2_with (fail)
    refine H.out.mono ?_
    rintro e w1 ⟨rfl, h1⟩
    have M1 := Lib.hid (Made.trans HM.out h1)
    have hz1 := M1.out.size
    clear h1
    go_wp2_with (fail)
    refine (HA.out _ (M1.out.alloc hz1 _) r w1.heap.size (heap_alloc_new w1 _)).mono ?_
    rintro e w2 ⟨rfl, h2⟩
    have M2 := Lib.hid (Made.trans (M1.out.alloc hz1 _) h2)
    clear h2
    go_wp2
    go_ret
    exact ⟨ret_bool (by rw [HV.out]; rfl), M2.out⟩
  all_goals
    go_enter Tryd.func42, Tryd.ntmps42
    go_wp2_with (fail)
    refine H.out.mono ?_
    rintro e w1 ⟨rfl, h1⟩
    have M1 := Lib.hid (Made.trans HM.out h1)
    have hz1 := M1.out.size
    clear h1
    go_wp2
    go_ret
    exact ⟨ret_bool (by rw [HV.out]; rfl), M1.out.alloc hz1 _⟩
end
end
section
open Go.ChangeShapes Go.WideShapes Go.ChangeAt Go.RowKit Go.Sort BigFrame

/-- The first ones of a slice, and the ones behind. -/
theorem insts_take {w : World} {ao : Option Addr} {cap : Nat} {l : List In} (h : Insts w ao cap l) (k : Nat) : Insts w ao cap (l.take k) := by
  have hl : (l.take k).length ≤ l.length := by rw [List.length_take]; omega
  refine ⟨Nat.le_trans hl h.room, h.max, fun x hx => h.small x (List.mem_of_mem_take hx), fun e => ?_, fun t ht => ?_⟩
  · obtain ⟨e1, e2⟩ := h.bare e
    exact ⟨by rw [e1]; simp, e2⟩
  · obtain ⟨b, o, e, hc⟩ := h.cell t (Nat.lt_of_lt_of_le ht hl)
    refine ⟨b, o, e, fun r hr => ?_⟩
    rw [List.getElem_take]
    exact hc r hr
theorem insts_drop {w : World} {b o cap k : Nat} {l : List In} (h : Insts w (some ⟨b, o, none⟩) cap l) (hk : k ≤ l.length) (hlt : k < cap) : Insts w (some ⟨b, o + k * 11, none⟩) (cap - k) (l.drop k) := by
  have hr := h.room
  have hm := h.max
  refine ⟨by rw [List.length_drop]; omega, by omega, fun x hx => h.small x (List.mem_of_mem_drop hx), fun e => by simp at e, fun t ht => ?_⟩
  rw [List.length_drop] at ht
  obtain ⟨b', o', e, hc⟩ := h.cell (k + t) (by omega)
  cases e
  refine ⟨b, o + k * 11, rfl, fun r hr => ?_⟩
  rw [List.getElem_drop, ← hc r hr]
  congr 2
  simp only [Nat.add_mul]; omega
theorem insts_empty (w : World) (ao : Option Addr) (h : ao ≠ none) : Insts w ao 0 [] := ⟨Nat.le_refl _, by unfold maxLen; omega, fun x hx => by simp at hx, fun e => absurd e h, fun t ht => absurd ht (Nat.not_lt_zero t)⟩
section
attribute [local irreducible] World.cell?
set_option maxRecDepth 100000 in
set_option maxHeartbeats 4000000 in
theorem tells_new (w : World) (hN : Names w) (ao : Option Addr) (cap : Nat) (l : List In) (hI : Insts w ao cap l) (c : Nat) (T : TypeId) (hc : w.heap[c]? = some (.cells #[.slice ao l.length cap] T (0, 0))) : TellsOf w 41 #[.pointer (some ⟨c, 0, none⟩)] (fun x => lackPred l x || lackReg l x) l := by
  intro x _ hx u hu
  show Calls Tryd.prog 41 #[x.val, .pointer (some ⟨c, 0, none⟩)] u fun e u' => e = .returned (.bool (lackPred l x || lackReg l x)) ∧ Made u u'
  have hi := hu.heap hc
  have hb := heap_lt hi
  have c0 : u.cell? ⟨c, 0, none⟩ = some (.slice ao l.length cap) := cell_of_lit (cs := [.slice ao l.length cap]) hi 0
  have m1 : Made u (u.alloc (.cells x.cells.toArray 24)) := (Made.refl u).alloc (Nat.le_refl _) _
  have HM := Lib.hid m1
  have HC := Lib.hid (m1.heap hi)
  have HX := Lib.hid (show InAt (u.alloc (.cells x.cells.toArray 24)) u.heap.size x from heap_alloc_new u _)
  have H1 := Lib.hid (lackPred_any ao cap l x hx _ (hN.made (Made.trans hu m1)) (insts_made (insts_made hI hu) m1))
  have H2 := Lib.hid (fun (v : World) (hv : Made (u.alloc (.cells x.cells.toArray 24)) v) => lackReg_any ao cap l x v (hN.made (Made.trans (Made.trans hu m1) hv)) (insts_made (insts_made (insts_made hI hu) m1) hv))
  clear hi hc hu m1 hx hI
  generalize lackPred l x = k1 at *
  generalize lackReg l x = k2 at *
  cases k1 with
  | true =>
    go_enter Tryd.func41, Tryd.ntmps41
    go_wp2_with (fail)
    refine H1.out.mono ?_
    rintro e w1 ⟨rfl, h1⟩
    have M1 := Lib.hid (Made.trans HM.out h1)
    clear h1
    go_wp2
    go_ret
    exact ⟨rfl, M1.out⟩
  | false =>
    go_enter Tryd.func41, Tryd.ntmps41
    go_wp2_with (fail)
    refine H1.out.mono ?_
    rintro e w1 ⟨rfl, h1⟩
    have M1 := Lib.hid h1
    obtain ⟨b0, b1, b2, b3, b4, b5, b6, b7, b8, b9, b10⟩ := in_cells (h1.heap HX.out)
    have d0 : w1.cell? ⟨c, 0, none⟩ = some (.slice ao l.length cap) := cell_of_lit (cs := [.slice ao l.length cap]) (h1.heap HC.out) 0
    clear h1
    go_wp2_with (fail)
    refine (H2.out _ M1.out).mono ?_
    rintro e w2 ⟨rfl, h2⟩
    have M2 := Lib.hid (Made.trans HM.out (Made.trans M1.out h2))
    clear h2
    go_wp2
    go_ret
    exact ⟨rfl, M2.out⟩
set_option maxRecDepth 100000 in
theorem lacksNew_any (ao : Option Addr) (cap : Nat) (l : List In) (w : World) (hN : Names w) (hI : Insts w ao cap l) :
    Calls Tryd.prog 23 #[.slice ao l.length cap] w fun e w' => e = .returned (.bool (l.any fun x => lackPred l x || lackReg l x)) ∧ Made w w' := by
  have m1 : Made w (w.alloc (.cells #[.slice ao l.length cap] 25)) := (Made.refl w).alloc (Nat.le_refl _) _
  have HM := Lib.hid m1
  have HA := Lib.hid (any_any _ _ _ ao cap l _ (insts_made hI m1) enters_new (tells_new _ (hN.made m1) ao cap l (insts_made hI m1) w.heap.size 25 (heap_alloc_new w _)))
  clear hI m1
  go_enter Tryd.func23, Tryd.ntmps23
  go_wp2_with (fail)
  refine HA.out.mono ?_
  rintro e w1 ⟨rfl, h1⟩
  have M1 := Lib.hid (Made.trans HM.out h1)
  clear h1
  go_wp2
  go_ret
  exact ⟨rfl, M1.out⟩
/-! Two branches. -/
theorem tells_branch (w : World) (hN : Names w) (l : List In) : TellsOf w 39 #[] (fun x => classP x == 5) l := fun x _ hx u hu => branch_any u (hN.made hu) x hx u (Made.refl u)
theorem tells_disturbs (w : World) (hN : Names w) (l : List In) : TellsOf w 25 #[] (fun x => classP x == 5 || classP x == 6) l := fun x _ hx u hu => disturbs_any u (hN.made hu) x hx u (Made.refl u)
set_option maxRecDepth 100000 in
set_option maxHeartbeats 4000000 in
theorem two_any (ao : Option Addr) (cap : Nat) (l : List In) (w : World) (hN : Names w) (hI : Insts w ao cap l) :
    Calls Tryd.prog 21 #[.slice ao l.length cap] w fun e w' => e = .returned (.bool (decide (1 < countC l 5))) ∧ Made w w' := by
  have hmax := hI.max
  have hroom := hI.room
  unfold maxLen at hmax
  have H := Lib.hid hI
  have HN := Lib.hid hN
  have HF := Lib.hid (first_any _ _ _ ao cap l w hI enters_isBranch (tells_branch w hN l))
  clear hI hN
  go_enter Tryd.func21, Tryd.ntmps21
  go_wp2_with (fail)
  refine HF.out.mono ?_
  rintro e w1 ⟨i, rfl, hi, h1⟩
  have M1 := Lib.hid h1
  clear h1
  rcases hi with ⟨rfl, hf⟩ | ⟨k, rfl, hk, h0, -, hq⟩
  · have HV := Lib.hid (show decide (1 < countC l 5) = false by rw [decide_eq_false_iff_not]; have := any_zero hf; unfold countC; omega)
    clear hf
    go_wp2
    go_ret
    exact ⟨ret_bool HV.out.symm, M1.out⟩
  · have HV := Lib.hid (show (l.drop (k + 1)).any (fun x => classP x == 5) = decide (1 < countC l 5) from two_first hk h0 (hq hk))
    obtain ⟨b, o, rfl, -⟩ := H.out.cell k hk
    clear h0 hq
    by_cases hc : k + 1 < cap
    · have HA := Lib.hid (any_any _ _ _ _ _ _ _ (insts_drop (insts_made H.out M1.out) (show k + 1 ≤ l.length by omega) hc) enters_isBranch (tells_branch w1 (HN.out.made M1.out) _))
      rewrite [List.length_drop] at HA
      go_wp2_with (fail)
      refine HA.out.mono ?_
      rintro e w2 ⟨rfl, h2⟩
      have M2 := Lib.hid (Made.trans M1.out h2)
      clear h2
      go_wp2
      go_ret
      exact ⟨ret_bool (by rw [HV.out]), M2.out⟩
    · obtain rfl : cap = k + 1 := by omega
      have hlen : l.length = k + 1 := by omega
      have HL := Lib.hid hlen
      have HA := Lib.hid (any_any _ _ _ _ _ _ _ (insts_empty w1 (some ⟨b, o, none⟩) (by simp)) enters_isBranch (tells_branch w1 (HN.out.made M1.out) _))
      have HV2 := Lib.hid (show decide (1 < countC l 5) = false by rw [← HV.out, List.drop_of_length_le (by omega)]; rfl)
      clear hlen
      go_wp2_with (fail)
      refine HA.out.mono ?_
      rintro e w2 ⟨rfl, h2⟩
      have M2 := Lib.hid (Made.trans M1.out h2)
      clear h2
      go_wp2
      go_ret
      exact ⟨ret_bool (by rw [HV2.out]), M2.out⟩
/-! A clash. -/
set_option maxRecDepth 100000 in
set_option maxHeartbeats 4000000 in
theorem hasClash_any (ao : Option Addr) (cap : Nat) (l : List In) (w : World) (hN : Names w) (hI : Insts w ao cap l) :
    Calls Tryd.prog 22 #[.slice ao l.length cap] w fun e w' => e = .returned (.bool (clashL l)) ∧ Made w w' := by
  have hmax := hI.max
  have hroom := hI.room
  unfold maxLen at hmax
  have H := Lib.hid hI
  have HN := Lib.hid hN
  clear hI hN
  go_enter Tryd.func22, Tryd.ntmps22
  go_wp2_with (fail)
  go_loopw [7] (fun i wr => ∃ k : Nat, k ≤ l.length ∧ i = .int .i64 k ∧ clashL (l.take k) = false ∧ Made w wr) (fun i _ => l.length - (intOf i).toNat)
  case atStart => exact ⟨0, Nat.zero_le _, rfl, rfl, Made.refl _⟩
  case round =>
    obtain ⟨k, hk, rfl, hat, hwr⟩ := hrel
    have KA := Lib.hid hat
    have HM := Lib.hid hwr
    have hz := hwr.size
    clear hat hwr
    by_cases hlt : k < l.length
    · obtain ⟨x, hx⟩ : ∃ x, l[k] = x := ⟨_, rfl⟩
      have HI := Lib.hid (insts_made H.out HM.out)
      obtain ⟨b, o, rfl, c0, c1, c2, c3, c4, c5, c6, c7, c8, c9, c10⟩ := insts_cells HI.out hlt x hx
      have m1 : Made wr (wr.alloc (.cells x.cells.toArray 24)) := (Made.refl wr).alloc (Nat.le_refl _) _
      have HA := any_any _ _ _ _ _ _ _ (insts_take (insts_made HI.out m1) k) enters_clash (tells_clash _ (HN.out.made (Made.trans HM.out m1)) x (H.out.small x (hx ▸ List.getElem_mem hlt)) wr.heap.size (heap_alloc_new wr _) (l.take k))
      have hlk : (l.take k).length = k := by rw [List.length_take]; omega
      rewrite [hlk] at HA
      have HC := Lib.hid HA
      have HX := Lib.hid (clash_step l hlt)
      rewrite [hx] at HX
      have HZ := Lib.hid (clash_more l (k + 1))
      have HK := Lib.hid (HM.out.trans m1)
      clear HA hx hlk m1
      go_wp2_with (fail)
      refine HC.out.mono ?_
      rintro e w1 ⟨rfl, h1⟩
      have M1 := Lib.hid (Made.trans HK.out h1)
      clear h1 c0 c1 c2 c3 c4 c5 c6 c7 c8 c9 c10
      cases hany : (l.take k).any (clashP x) with
      | true =>
        have HT := Lib.hid (HZ.out (by rw [HX.out, hany]; simp))
        clear hany
        go_wp2
        go_ret
        exact ⟨ret_bool (by rw [HT.out]), M1.out⟩
      | false =>
        have HT := Lib.hid (show clashL (l.take (k + 1)) = false by rw [HX.out, hany, KA.out]; rfl)
        clear hany
        go_wp2
        go_roundw
        case rel => exact ⟨k + 1, by omega, by go_num, HT.out, M1.out⟩
        case measure => simp [intOf]; omega
    · obtain rfl : k = l.length := by omega
      have KN := Lib.hid (show clashL l = false by have h := KA.out; rwa [List.take_length] at h)
      go_wp2
      go_ret
      exact ⟨ret_bool (by rw [KN.out]), HM.out⟩
/-! The form. -/
/-- A packet's variable, kept. -/
structure PkBox (W : World) (B : Nat) (cs : List Value) (w : World) : Prop where
  made : Made W w
  at_ : w.heap[B]? = some (.cells cs.toArray 27 (0, 0))
theorem PkBox.next {W w w' : World} {B : Nat} {cs : List Value} (h : PkBox W B cs w) (hm : Made w w') : PkBox W B cs w' := ⟨Made.trans h.made hm, hm.heap h.at_⟩
theorem box_start {W w : World} (hm : Made W w) (cs : List Value) : PkBox W w.heap.size cs (w.alloc (.cells cs.toArray 27)) := ⟨hm.alloc hm.size _, heap_alloc_new w _⟩
abbrev boxL (ao : Option Addr) (n cap : Nat) (e0 e1 raw dup : Bool) : List Value := [.slice ao n cap, .bool e0, .bool e1, .bool raw, .bool dup]
theorem box_cells {W w : World} {B : Nat} {ao : Option Addr} {n cap : Nat} {e0 e1 raw dup : Bool} (h : PkBox W B (boxL ao n cap e0 e1 raw dup) w) :
    w.cell? ⟨B, 0, none⟩ = some (.slice ao n cap) ∧ w.cell? ⟨B, 1, none⟩ = some (.bool e0) ∧ w.cell? ⟨B, 2, none⟩ = some (.bool e1) ∧ w.cell? ⟨B, 3, none⟩ = some (.bool raw) ∧ w.cell? ⟨B, 4, none⟩ = some (.bool dup) :=
  ⟨cell_of_lit h.at_ 0, cell_of_lit h.at_ 1, cell_of_lit h.at_ 2, cell_of_lit h.at_ 3, cell_of_lit h.at_ 4⟩
theorem all_more (l : List In) (f : In → Bool) {k : Nat} (h : k < l.length) : (l.take (k + 1)).all f = ((l.take k).all f && f l[k]) := by
  rw [List.take_succ_eq_append_getElem h, List.all_append]
  simp
theorem all_fails (l : List In) (f : In → Bool) {k : Nat} (h : k < l.length) (hf : f l[k] = false) : l.all f = false := by
  rw [List.all_eq_false]
  exact ⟨l[k], List.getElem_mem h, by rw [hf]; simp⟩
set_option maxRecDepth 100000 in
set_option maxHeartbeats 4000000 in
theorem formed_any (ao : Option Addr) (cap : Nat) (l : List In) (e0 e1 raw dup : Bool) (w : World) (hN : Names w) (hI : Insts w ao cap l) :
    Calls Tryd.prog 20 #[pkV ao l.length cap e0 e1 raw dup] w fun e w' => e = .returned (.bool (formB ⟨l, e0, e1, raw, dup⟩)) ∧ Made w w' := by
  have K := Lib.hid (box_start (Made.refl w) (boxL ao l.length cap e0 e1 raw dup))
  have hmax := hI.max
  have hroom := hI.room
  unfold maxLen at hmax
  have H := Lib.hid hI
  have HN := Lib.hid hN
  have HV := Lib.hid (show formB ⟨l, e0, e1, raw, dup⟩ = (l.length != 0 && decide (l.length ≤ 4) && !(raw && dup) && l.all rightB) from rfl)
  clear hI hN
  by_cases h0 : l.length = 0
  · have hb : ((l.length : Int) == 0) = true := beq_iff_eq.2 (by omega)
    have HR := Lib.hid (show formB ⟨l, e0, e1, raw, dup⟩ = false by rw [HV.out, h0]; rfl)
    clear h0
    go_enter Tryd.func20, Tryd.ntmps20
    go_wp2
    go_ret
    exact ⟨ret_bool HR.out.symm, K.out.made⟩
  · have hb : ((l.length : Int) == 0) = false := beq_eq_false_iff_ne.2 (by omega)
    by_cases h4 : 4 < l.length
    · have HR := Lib.hid (show formB ⟨l, e0, e1, raw, dup⟩ = false by rw [HV.out, decide_eq_false (show ¬ l.length ≤ 4 by omega)]; simp)
      have hd4 : decide ((l.length : Int) > 4) = true := decide_eq_true (by omega)
      clear h0
      go_enter Tryd.func20, Tryd.ntmps20
      go_wp2
      go_ret
      exact ⟨ret_bool HR.out.symm, K.out.made⟩
    · have hd4 : decide ((l.length : Int) > 4) = false := decide_eq_false (by omega)
      cases hrd : (raw && dup) with
      | true =>
        have HR := Lib.hid (show formB ⟨l, e0, e1, raw, dup⟩ = false by rw [HV.out, hrd]; simp)
        simp only [Bool.and_eq_true] at hrd
        obtain ⟨rfl, rfl⟩ := hrd
        clear h0
        go_enter Tryd.func20, Tryd.ntmps20
        go_wp2
        go_ret
        exact ⟨ret_bool HR.out.symm, K.out.made⟩
      | false =>
        have HR := Lib.hid (show formB ⟨l, e0, e1, raw, dup⟩ = l.all rightB by
          rw [HV.out, hrd, decide_eq_true (show l.length ≤ 4 by omega), bne_iff_ne.2 h0]; rfl)
        have hroad : ∀ Q : Prop, (raw = false → Q) → (raw = true → dup = false → Q) → Q := fun Q h1 h2 => by
          cases raw with
          | false => exact h1 rfl
          | true => exact h2 rfl (by simpa using hrd)
        clear h0 hrd
        refine hroad _ (fun hr => ?_) (fun hr hd => ?_)
        all_goals
          subst hr
          try subst hd
          clear hroad
          go_enter Tryd.func20, Tryd.ntmps20
          go_wp2_with (fail)
          go_loopw [26] (fun x wr => ∃ k : Nat, k ≤ l.length ∧ x = .int .i64 k ∧ (l.take k).all rightB = true ∧ PkBox w w.heap.size (boxL ao l.length cap e0 e1 _ _) wr) (fun x _ => l.length - (intOf x).toNat)
          case atStart => exact ⟨0, by omega, rfl, by simp, K.out⟩
          case round =>
            obtain ⟨k, hk, rfl, hall, hP⟩ := hrel
            have KP := Lib.hid hP
            have KA := Lib.hid hall
            clear hP hall
            by_cases hlt : k < l.length
            · obtain ⟨x, hx⟩ : ∃ x, l[k] = x := ⟨_, rfl⟩
              obtain ⟨b, o, rfl, c0, c1, c2, c3, c4, c5, c6, c7, c8, c9, c10⟩ := insts_cells (insts_made H.out KP.out.made) hlt x hx
              have m1 : Made wr (wr.alloc (.cells x.cells.toArray 24)) := (Made.refl wr).alloc (Nat.le_refl _) _
              have KM := Lib.hid m1
              have HRx := Lib.hid (right_any _ (HN.out.made (Made.trans KP.out.made m1)) x (H.out.small x (hx ▸ List.getElem_mem hlt)) _ (Made.refl _))
              have HA2 := Lib.hid (all_more l rightB hlt)
              have HF := Lib.hid (fun h => all_fails l rightB hlt h)
              rewrite [hx] at HA2 HF
              clear hx m1
              go_wp2_with (fail)
              refine HRx.out.mono ?_
              rintro e w2 ⟨rfl, h2⟩
              have K2 := Lib.hid (KP.out.next (Made.trans KM.out h2))
              clear h2 c0 c1 c2 c3 c4 c5 c6 c7 c8 c9 c10
              cases hrx : rightB x with
              | true =>
                have KN := Lib.hid (show (l.take (k + 1)).all rightB = true by rw [HA2.out, KA.out, hrx]; rfl)
                clear hrx
                go_wp2
                go_roundw
                case rel => exact ⟨k + 1, by omega, by go_num, KN.out, K2.out⟩
                case measure => simp [intOf]; omega
              | false =>
                have KN := Lib.hid (HF.out hrx)
                clear hrx
                go_wp2
                go_ret
                exact ⟨ret_bool (by rw [HR.out, KN.out]), K2.out.made⟩
            · obtain rfl : k = l.length := by omega
              have KN := Lib.hid (show l.all rightB = true by have h := KA.out; rwa [List.take_length] at h)
              go_wp2
              go_ret
              exact ⟨ret_bool (by rw [HR.out, KN.out]), KP.out.made⟩
/-! Check. -/
theorem form_facts {p : Pk} (h : formB p = true) (hs : ∀ x ∈ p.insts, x.small) : ∀ x ∈ p.insts, x.small ∧ rightB x = true := fun x hx => ⟨hs x hx, ((form_iff p).1 h).2.2.2 x hx⟩
set_option maxRecDepth 100000 in
set_option maxHeartbeats 8000000 in
theorem check_any (ao : Option Addr) (cap : Nat) (l : List In) (e0 e1 raw dup : Bool) (w : World) (hN : Names w) (hI : Insts w ao cap l) :
    Calls Tryd.prog 10 #[pkV ao l.length cap e0 e1 raw dup] w fun e w' => e = .returned (.int .i64 (checkP ⟨l, e0, e1, raw, dup⟩)) ∧ Made w w' := by
  have K0 := Lib.hid (box_start (Made.refl w) (boxL ao l.length cap e0 e1 raw dup))
  have H1 := Lib.hid (fun (u : World) (hu : Made w u) => formed_any ao cap l e0 e1 raw dup u (hN.made hu) (insts_made hI hu))
  have H2 := Lib.hid (fun (u : World) (hu : Made w u) => two_any ao cap l u (hN.made hu) (insts_made hI hu))
  have H3 := Lib.hid (fun (u : World) (hu : Made w u) => hasClash_any ao cap l u (hN.made hu) (insts_made hI hu))
  have H4 := fun (u : World) (hu : Made w u) => lacksNew_any ao cap l u (hN.made hu) (insts_made hI hu)
  have H5 := fun (u : World) (hu : Made w u) => any_any _ _ _ ao cap l u (insts_made hI hu) enters_disturbs (tells_disturbs u (hN.made hu) l)
  have HV := Lib.hid (show checkP ⟨l, e0, e1, raw, dup⟩ = if !formB ⟨l, e0, e1, raw, dup⟩ then 8 else if 1 < countC l 5 then 14 else if clashL l then 11 else if !freshB l then 12 else if ((e0 || e1) && decide (0 < countC l 5 + countC l 6)) then 13 else 0 from rfl)
  rewrite [loops l] at H5
  have HN4 := Lib.hid (fun (hf : formB ⟨l, e0, e1, raw, dup⟩ = true) (hc : clashL l = false) => lacks_new hc (form_facts (p := ⟨l, e0, e1, raw, dup⟩) hf hI.small))
  clear hI hN
  generalize formB ⟨l, e0, e1, raw, dup⟩ = k1 at *
  generalize hk2 : decide (1 < countC l 5) = k2 at *
  generalize clashL l = k3 at *
  generalize (l.any fun x => lackPred l x || lackReg l x) = k4 at *
  generalize decide (0 < countC l 5 + countC l 6) = k5 at *
  generalize freshB l = k6 at *
  generalize checkP ⟨l, e0, e1, raw, dup⟩ = v at *
  have HV2 := Lib.hid (show v = if !k1 then 8 else if k2 then 14 else if k3 then 11 else if !k6 then 12 else if ((e0 || e1) && k5) then 13 else 0 by rw [HV.out, ← hk2]; simp)
  have h4 := Lib.hid H4
  have h5 := Lib.hid H5
  clear HV hk2 H4 H5
  go_enter Tryd.func10, Tryd.ntmps10
  obtain ⟨p0, p1, p2, p3, p4⟩ := box_cells K0.out
  go_wp2_with (fail)
  refine (H1.out _ K0.out.made).mono ?_
  rintro e w1 ⟨rfl, h1⟩
  have K1 := Lib.hid (K0.out.next h1)
  clear h1 p0 p1 p2 p3 p4
  obtain ⟨p0, p1, p2, p3, p4⟩ := box_cells K1.out
  cases k1 with
  | false =>
    go_wp2
    go_ret
    exact ⟨ret_int (by rw [HV2.out]; rfl), K1.out.made⟩
  | true =>
  go_wp2_with (fail)
  refine (H2.out _ K1.out.made).mono ?_
  rintro e w2 ⟨rfl, h2⟩
  have K2 := Lib.hid (K1.out.next h2)
  clear h2 p0 p1 p2 p3 p4
  obtain ⟨p0, p1, p2, p3, p4⟩ := box_cells K2.out
  cases k2 with
  | true =>
    go_wp2
    go_ret
    exact ⟨ret_int (by rw [HV2.out]; rfl), K2.out.made⟩
  | false =>
  go_wp2_with (fail)
  refine (H3.out _ K2.out.made).mono ?_
  rintro e w3 ⟨rfl, h3⟩
  have K3 := Lib.hid (K2.out.next h3)
  clear h3 p0 p1 p2 p3 p4
  obtain ⟨p0, p1, p2, p3, p4⟩ := box_cells K3.out
  cases k3 with
  | true =>
    go_wp2
    go_ret
    exact ⟨ret_int (by rw [HV2.out]; rfl), K3.out.made⟩
  | false =>
  go_wp2_with (fail)
  refine (h4.out _ K3.out.made).mono ?_
  rintro e w4 ⟨rfl, h4'⟩
  have K4 := Lib.hid (K3.out.next h4')
  have HE := Lib.hid (HN4.out (by trivial) (by trivial))
  clear h4' p0 p1 p2 p3 p4
  obtain ⟨p0, p1, p2, p3, p4⟩ := box_cells K4.out
  cases k4 with
  | true =>
    go_wp2
    go_ret
    exact ⟨ret_int (by rw [HV2.out, ← HE.out]; rfl), K4.out.made⟩
  | false =>
  have HV3 := Lib.hid (show v = if ((e0 || e1) && k5) then 13 else 0 by rw [HV2.out, ← HE.out]; rfl)
  have hroad : ∀ Q : Prop, (e0 = true → Q) → (e0 = false → e1 = true → Q) → (e0 = false → e1 = false → Q) → Q := fun Q h1 h2 h3 => by
    cases e0 with
    | true => exact h1 rfl
    | false =>
      cases e1 with
      | true => exact h2 rfl rfl
      | false => exact h3 rfl rfl
  refine hroad _ (fun he => ?_) (fun he hf => ?_) (fun he hf => ?_)
  case' refine_3 =>
    subst he; subst hf
    go_wp2
    go_ret
    exact ⟨ret_int (by rw [HV3.out]; rfl), K4.out.made⟩
  all_goals
    subst he
    try subst hf
    clear hroad
    go_wp2_with (fail)
    refine (h5.out _ K4.out.made).mono ?_
    rintro e w5 ⟨rfl, h5'⟩
    have K5 := Lib.hid (K4.out.next h5')
    clear h5' p0 p1 p2 p3 p4
    cases k5 with
    | true =>
      go_wp2
      go_ret
      exact ⟨ret_int (by rw [HV3.out]; rfl), K5.out.made⟩
    | false =>
      go_wp2
      go_ret
      exact ⟨ret_int (by rw [HV3.out]; simp), K5.out.made⟩
end
end
end Go.Proofs.YtdaildmoodfocaaDoor
