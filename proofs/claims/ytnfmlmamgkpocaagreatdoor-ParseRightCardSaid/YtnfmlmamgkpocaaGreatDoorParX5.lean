/- What assignment, comparison and named of the parser of package parse do; conditions: the tokens are at most 5000, none longer than 100000; the table of names and strconv's errors stand where their variables lie. -/
import Derived.Test.YtnfmlmamgkpocaaGreatDoorParX4
import Derived.Maps.OwnOps
namespace Go.Proofs.YtnfmlmamgkpocaaGreatDoor
open Go.ChangeShapes Go.WideShapes Go.ChangeAt Go.RowKit Go.Sort BigFrame

theorem MpAt.next {W u u1 : World} {m : Nat} {T : List (List UInt8 × Wd)} (h : MpAt W m T u) (hm : Made u u1) : MpAt W m T u1 := ⟨Made.trans h.made hm, hm.heap h.blk, h.low⟩
theorem run_look1 {W u : World} {m : Nat} {T : List (List UInt8 × Wd)} (h : MpAt W m T u) (s : List UInt8) (hs : s.length ≤ 1000000) (hne : T ≠ []) :
    (Instr.lookup TMP (.map (some m)) (.string (strOf s)) false).run Tryz.prog u = .ok (wdVal (((T.find? fun p => p.1 == s).map (·.2)).getD wdZero)) u := by
  have K := Maps.string_keyed (P := Tryz.prog) Tryz.underlying9
  have ht := Tryz.underlying83
  have he : (wdEntries 0 T).toArray.isEmpty = false := by
    cases T with
    | nil => exact absurd rfl hne
    | cons p r => rfl
  cases hf : T.find? fun p => p.1 == s with
  | none =>
    have hfk := MapKept.run_findKey (P := Tryz.prog) (w := u) Tryz.underlying9 (find_none s T 0 0 hf)
    simp [Instr.lookup, run_underlying ht, MapKept.run_getObj_map h.blk, he, K.check u false (key_string s hs), hfk, Result.andThen, Tryz.zeroValue81, wdZero]
  | some q =>
    obtain ⟨nm, wd⟩ := q
    obtain ⟨j, hj⟩ := find_some s wd T 0 0 nm hf
    have hfk := MapKept.run_findKey (P := Tryz.prog) (w := u) Tryz.underlying9 hj
    simp [Instr.lookup, run_underlying ht, MapKept.run_getObj_map h.blk, he, K.check u false (key_string s hs), hfk, Result.andThen]
theorem wpList_look_mp {W u : World} {m : Nat} {ops : Array Oper} {rest : List Oper} {o : Oper} {a : Act} {Q : Exit → Act → World → Prop} (hg : o.guard = none) (mo x : Operand) (hop : o.op = Op.lookup TMP mo x false) (s : List UInt8) (hm : a.eval mo = .map (some m)) (hx : a.eval x = .string (strOf s)) (h : MpAt W m wordsT u)
    (hs : s.length ≤ 1000000) (hK : wpList Tryz.prog ops Q rest (a.put o.dst (wdVal (wdOf s))) u) : wpList Tryz.prog ops Q (o :: rest) a u := by
  refine wpList_plain hg fun K' hK' => ?_
  have hrun := run_look1 h s hs (by decide)
  unfold Oper.wp
  simp [execOp, hop, hm, hx, hrun, Result.andThen]
  exact hK' _ _ hK
theorem word_field1 (a b c d : Int) (w : World) : (Instr.field 81 (.agg #[.int .u8 a, .int .u8 b, .int .u8 c, .int .u8 d]) 1).run Tryz.prog w = .ok (.int .u8 b) w := by kernel_rfl
theorem word_field2 (a b c d : Int) (w : World) : (Instr.field 81 (.agg #[.int .u8 a, .int .u8 b, .int .u8 c, .int .u8 d]) 2).run Tryz.prog w = .ok (.int .u8 c) w := by kernel_rfl
def wdGood (w : Wd) : Bool := decide (0 ≤ w.begins) && decide (w.begins < 32) && decide (0 ≤ w.sets) && decide (w.sets < 32) && decide (0 ≤ w.compares) && decide (w.compares < 32)
theorem wd_all : (wordsT.all fun p => wdGood p.2) = true ∧ wdGood wdZero = true := by decide +kernel
theorem wd_small (s : List UInt8) : ∃ i j c : Nat, (wdOf s).begins = (i : Int) ∧ (wdOf s).sets = (j : Int) ∧ (wdOf s).compares = (c : Int) ∧ i < 32 ∧ j < 32 ∧ c < 32 := by
  have hg : wdGood (wdOf s) = true := by
    unfold wdOf wordOf
    cases hf : wordsT.find? fun p => p.1 == s with
    | none => exact wd_all.2
    | some q => exact List.all_eq_true.1 wd_all.1 q (List.mem_of_find?_eq_some hf)
  simp only [wdGood, Bool.and_eq_true, decide_eq_true_eq] at hg
  obtain ⟨⟨⟨⟨⟨h1, h2⟩, h3⟩, h4⟩, h5⟩, h6⟩ := hg
  exact ⟨(wdOf s).begins.toNat, (wdOf s).sets.toNat, (wdOf s).compares.toNat, by omega, by omega, by omega, by omega, by omega, by omega⟩
theorem wd_nil : wdOf [] = wdZero := by decide +kernel
theorem choose_inv {op : Int} {a k1 : Nat} {x x1 : Ln} (h : chooseP op a x = .ok k1 x1) : k1 = a ∧ x1 = pSetOp x op ∧ op ≠ 0 := by
  unfold chooseP at h
  split at h
  · cases h
  · rename_i hn
    cases h
    exact ⟨rfl, rfl, fun h0 => hn (.inl h0)⟩
theorem choose_lt {L : List Tk} {k : Nat} {op : Int} (h0 : op ≠ 0) (he : op = (wdOf (nameR L k)).begins ∨ op = (wdOf (nameR L k)).sets ∨ op = (wdOf (nameR L k)).compares) : k < L.length := by
  refine nameR_lt fun hn => ?_
  rw [hn, wd_nil] at he
  rcases he with h | h | h <;> exact h0 (h.trans rfl)
section
attribute [local irreducible] World.cell?
variable {W : BW} {lo : Option Addr} {cap b : Nat} {L : List Tk} {x : Ln} {vo : Option Addr} {vc : Nat} {co : Option Addr} {cc : Nat}
set_option maxRecDepth 100000 in
set_option maxHeartbeats 8000000 in
theorem choose_frame (hW : PW W lo cap L) (k : Nat) (hk : k ≤ L.length) (op : Nat) (hop : op < 32) (u : World) (hP : PSx W lo L.length cap b k x vo vc co cc u) : Calls Tryz.prog 97 #[psPtr b, .int .u8 (op : Int)] u (fun e u1 => SPost W lo L.length cap b vo vc co cc (.tuple #[]) (chooseP op k x) e u1 ∧ ∀ g, g ≠ b → g < u.heap.size → u1.heap[g]? = u.heap[g]?) := by
  have HC := Lib.hid (at_any u (names_next hW.names hP.made) (op : Int) 1 (by omega) u (Made.refl u))
  have HP := Lib.hid (fun u1 (h : Made u u1) => hP.next h)
  have HH := Lib.hid (hasM_at op hop)
  have hb0 : (op : Int) ≤ 255 := by omega
  clear hP hop
  go_enter Tryz.func97, Tryz.ntmps97
  go_wp2_with (fail)
  refine HC.out.mono ?_
  rintro e w1 ⟨rfl, m1⟩
  have M1 := Lib.hid m1
  have HP1 := Lib.hid (HP.out w1 m1)
  obtain ⟨-, -, c2, c8⟩ := ps_cells HP1.out
  have lt := heap_lt HP1.out.blk
  have ft := free_of_lit HP1.out.blk
  obtain ⟨q, hq⟩ : ∃ q, hasM (op : Int) = q := ⟨_, rfl⟩
  have HQ := Lib.hid hq
  have hh := HH.out
  rewrite [hq] at hh
  rewrite [hh]
  have HFR := Lib.hid (fun (o : Obj) g (hg : g < u.heap.size) => show (w1.alloc o).heap[g]? = u.heap[g]? from (((Made.refl w1).alloc (Nat.le_refl _) o).block g (by have := m1.size; omega)).trans (m1.block g hg))
  have HFS := Lib.hid (fun (o : Obj) (v : Value) g (hb : g ≠ b) (hg : g < u.heap.size) => show ((w1.setCell ⟨b, 2, none⟩ v).alloc o).heap[g]? = u.heap[g]? from (((Made.refl (w1.setCell ⟨b, 2, none⟩ v)).alloc (Nat.le_refl _) o).block g (by have := m1.size; rw [World.size_setCell]; omega)).trans ((ps_other (u := w1) v 2 g hb).trans (m1.block g hg)))
  clear m1 HC HP hh hq HH
  have HA := Lib.hid (fun (o : Obj) (y : Ln) (u1 : World) (h : PSx W lo L.length cap b (k : Nat) y vo vc co cc u1) => h.next (by exact (Made.refl u1).alloc (Nat.le_refl _) o))
  by_cases h0 : (op : Int) = 0
  · have hb : ((op : Int) == 0) = true := beq_iff_eq.2 h0
    have HR := Lib.hid (show chooseP (op : Int) k x = .bad k 8 from if_pos (.inl h0))
    clear h0
    go_wp2
    exact ⟨rfl, step_bad HR.out hk (HA.out _ _ _ HP1.out), fun g _ hg => HFR.out _ g hg⟩
  · have hb : ((op : Int) == 0) = false := beq_eq_false_iff_ne.2 h0
    by_cases hm : x.mode = 0
    · have hbm : (x.mode != 0) = false := bne_eq_false_iff_eq.2 hm
      have HR := Lib.hid (show chooseP (op : Int) k x = .ok k (pSetOp x op) from if_neg fun h => h.elim h0 fun h => h.1 hm)
      clear h0 hm
      go_wp2
      go_end0
      exact ⟨step_ok HR.out hk (HA.out _ _ _ (HP1.out.set 2 _ rfl rfl rfl)), fun g hb hg => HFS.out _ _ g hb hg⟩
    · have hbm : (x.mode != 0) = true := bne_iff_ne.2 hm
      cases q with
      | true =>
        have HR := Lib.hid (show chooseP (op : Int) k x = .ok k (pSetOp x op) from if_neg fun h => h.elim h0 fun h => by have h2 := h.2; rw [HQ.out] at h2; cases h2)
        clear h0 hm
        go_wp2
        go_end0
        exact ⟨step_ok HR.out hk (HA.out _ _ _ (HP1.out.set 2 _ rfl rfl rfl)), fun g hb hg => HFS.out _ _ g hb hg⟩
      | false =>
        have HR := Lib.hid (show chooseP (op : Int) k x = .bad k 8 from if_pos (.inr ⟨hm, HQ.out⟩))
        clear h0 hm
        go_wp2
        exact ⟨rfl, step_bad HR.out hk (HA.out _ _ _ HP1.out), fun g _ hg => HFR.out _ g hg⟩
set_option maxRecDepth 100000 in
set_option maxHeartbeats 8000000 in
theorem assignment_any (hW : PW W lo cap L) (k : Nat) (hk : k ≤ L.length) (u : World) (hP : PSx W lo L.length cap b k x vo vc co cc u) : Calls Tryz.prog 96 #[psPtr b] u (PPost W lo L.length cap b (.tuple #[]) (assignP L k x)) := by
  have HW := Lib.hid hW
  have HP := Lib.hid hP
  have HF := Lib.hid (show assignP L k x = assignP L k x from rfl)
  clear hW
  have HN := Lib.hid (name_any HW.out.toks k hk u hP u (Made.refl u))
  have hns := name_short HW.out k
  clear hP
  go_enter Tryz.func96, Tryz.ntmps96
  go_wp2_with (fail)
  refine HN.out.mono ?_
  rintro e w1 ⟨rfl, h1⟩
  have HP1 := Lib.hid (HP.out.next h1)
  clear h1 HP HN
  go_wp2_with (fail)
  refine (register_of (nameR L k) hns _ (HW.out.errs.next HP1.out.made) _ (Made.refl _)).mono ?_
  rintro e w2 ⟨rfl, h2⟩
  have HP2 := Lib.hid (HP1.out.next h2)
  clear h2 HP1
  have hv : numTup (namedR 114 32 (nameR L k)) = .tuple #[.int .u8 (if 0 ≤ regZ L k then regZ L k else 0), .bool (decide (0 ≤ regZ L k))] := rfl
  rewrite [hv]
  clear hv
  by_cases hreg : 0 ≤ regZ L k
  · have HF1 := Lib.hid (show assignP L k x = (chooseP ((9 : Nat) : Int) k x).bind fun a x => .ok (a + 1) (pSetS x (regZ L a)) from by unfold assignP; rw [if_pos hreg]; rfl)
    have hlt : k < L.length := nameR_lt (named_ne hreg)
    rewrite [if_pos hreg, decide_eq_true hreg]
    clear hreg HF
    go_wp2_with (fail)
    refine (choose_any HW.out k hk 9 (by decide) _ HP2.out).mono ?_
    intro e w3 h
    rcases spost_cases h with ⟨kb, wb, hr, hkb, rfl, hpb⟩ | ⟨k3, x3, hr, hk3, rfl, hp⟩
    · have HB := Lib.hid (ppost_bad (rv := .tuple #[]) (show assignP L k x = .bad kb wb from by rw [HF1.out, hr]; try rfl) hkb hpb)
      clear h hr hpb HP2 HF1 HW
      go_wp2
      exact ⟨rfl, HB.out⟩
    obtain ⟨rfl, -, -⟩ := choose_inv hr
    have HR := Lib.hid (show assignP L k3 x = .ok (k3 + 1) (pSetS x3 (regZ L k3)) from by rw [HF1.out, hr]; try rfl)
    have HS := Lib.hid ((hp.set 1 (.int .i64 ((k3 : Int) + 1)) (k' := ((k3 + 1 : Nat) : Int)) (x' := x3) rfl rfl rfl).set 4 (.int .u8 (regZ L k3)) (x' := pSetS x3 (regZ L k3)) rfl rfl rfl)
    have c1 := ps_c1 hp
    have c4 := ps_c4 hp
    have lt := heap_lt hp.blk
    have ft := free_of_lit hp.blk
    have hk1 : (k3 : Int) + 1 ≤ 5001 := by have := HW.out.few; omega
    clear h hr hp HP2 HF1 HW
    go_wp2
    go_end0
    exact ppost_ok HR.out hlt ⟨_, _, _, _, HS.out⟩
  have HF1 := Lib.hid (show assignP L k x = (if beginsV L k = true then (chooseP 8 k x).bind (immP L) else (chooseP (wdOf (nameR L k)).sets k x).bind fun a x => operandsP L (a + 1) x) from if_neg hreg)
  rewrite [if_neg hreg, decide_eq_false hreg]
  clear hreg HF
  go_wp2_with (fail)
  refine (beginsV_any HW.out k hk _ HP2.out _ (Made.refl _)).mono ?_
  rintro e w3 ⟨rfl, h3⟩
  have HP3 := Lib.hid (HP2.out.next h3)
  clear h3 HP2
  obtain ⟨q, hq⟩ : ∃ q, beginsV L k = q := ⟨_, rfl⟩
  rewrite [hq]
  cases q with
  | true =>
    have HF3 := Lib.hid (show assignP L k x = (chooseP ((8 : Nat) : Int) k x).bind (immP L) from by rw [HF1.out]; exact if_pos hq)
    clear HF1 hq
    go_wp2_with (fail)
    refine (choose_any HW.out k hk 8 (by decide) _ HP3.out).mono ?_
    intro e w5 h
    rcases spost_cases h with ⟨kb, wb, hr, hkb, rfl, hpb⟩ | ⟨k5, x5, hr, hk5, rfl, hp⟩
    · have HB := Lib.hid (ppost_bad (rv := .tuple #[]) (show assignP L k x = .bad kb wb from by rw [HF3.out, hr]; try rfl) hkb hpb)
      clear h hr hpb HP3 HF3 HW
      go_wp2
      exact ⟨rfl, HB.out⟩
    have HF5 := Lib.hid (show assignP L k x = immP L k5 x5 from by rw [HF3.out, hr]; try rfl)
    have HP5 := Lib.hid hp
    clear h hr hp HP3 HF3
    go_wp2_with (fail)
    refine (value_any HW.out k5 hk5 _ HP5.out).mono ?_
    intro e w6 h
    rcases ppost_cases h with ⟨kb, wb, hr, hkb, rfl, hpb⟩ | ⟨k6, x6, hr, hk6, rfl, vo6, vc6, co6, cc6, hp⟩
    · have HB := Lib.hid (ppost_bad (rv := .tuple #[]) (show assignP L k x = .bad kb wb from by rw [HF5.out, hr]; try rfl) hkb hpb)
      clear h hr hpb HP5 HF5 HW
      go_wp2
      exact ⟨rfl, HB.out⟩
    have HR := Lib.hid (show assignP L k x = .ok k6 x6 from by rw [HF5.out, hr]; try rfl)
    have HP6 := Lib.hid hp
    clear h hr hp HP5 HF5
    go_wp2
    go_end0
    exact ppost_ok HR.out hk6 ⟨_, _, _, _, HP6.out⟩
  | false =>
    have HF3 := Lib.hid (show assignP L k x = (chooseP (wdOf (nameR L k)).sets k x).bind fun a x => operandsP L (a + 1) x from by rw [HF1.out]; exact if_neg (by rw [hq]; decide))
    clear HF1 hq
    go_wp2_with (fail)
    refine (words_any _ _ (Made.refl _)).mono ?_
    rintro e w4 ⟨mm, rfl, hmp⟩
    have HMP := Lib.hid hmp
    have HP4 := Lib.hid (HP3.out.next hmp.made)
    obtain ⟨i0, j0, c0, e1, e2, e3, l1, l2, l3⟩ := wd_small (nameR L k)
    have hs6 : (nameR L k).length ≤ 1000000 := by omega
    have HE := Lib.hid (And.intro e1 (And.intro e2 e3))
    have hfld := fun w => word_field1 (wdOf (nameR L k)).begins (wdOf (nameR L k)).sets (wdOf (nameR L k)).compares (wdOf (nameR L k)).n w
    clear hmp HP3 e1 e2 e3
    go_wp2_with (at_lookup; refine wpList_look_mp rfl _ _ rfl (nameR L k) rfl rfl HMP.out hs6 ?_)
    rewrite [HE.out.2.1]
    have HF4 := Lib.hid (show assignP L k x = (chooseP (j0 : Int) k x).bind fun a x => operandsP L (a + 1) x from by rw [HF3.out, HE.out.2.1])
    clear hfld
    refine (choose_any HW.out k hk j0 l2 _ HP4.out).mono ?_
    intro e w5 h
    rcases spost_cases h with ⟨kb, wb, hr, hkb, rfl, hpb⟩ | ⟨k5, x5, hr, hk5, rfl, hp⟩
    · have HB := Lib.hid (ppost_bad (rv := .tuple #[]) (show assignP L k x = .bad kb wb from by rw [HF4.out, hr]; try rfl) hkb hpb)
      clear h hr hpb HP4 HF4 HF3 HW HMP HE
      go_wp2
      exact ⟨rfl, HB.out⟩
    obtain ⟨rfl, -, h0⟩ := choose_inv hr
    have hlt : k5 < L.length := choose_lt h0 (.inr (.inl HE.out.2.1.symm))
    have HF5 := Lib.hid (show assignP L k5 x = operandsP L (k5 + 1) x5 from by rw [HF4.out, hr]; try rfl)
    have HP5 := Lib.hid (hp.set 1 (.int .i64 ((k5 : Int) + 1)) (k' := ((k5 + 1 : Nat) : Int)) (x' := x5) rfl rfl rfl)
    have c1 := ps_c1 hp
    have lt := heap_lt hp.blk
    have ft := free_of_lit hp.blk
    have hk1 : (k5 : Int) + 1 ≤ 5001 := by have := HW.out.few; omega
    clear h hr hp HP4 HF4 HF3 HMP HE h0
    go_wp2_with (fail)
    clear c1 lt ft
    refine (operands_any HW.out (k5 + 1) hlt _ HP5.out).mono ?_
    intro e w7 h
    rcases ppost_cases h with ⟨kb, wb, hr, hkb, rfl, hpb⟩ | ⟨k7, x7, hr, hk7, rfl, vo7, vc7, co7, cc7, hp⟩
    · have HB := Lib.hid (ppost_bad (rv := .tuple #[]) (show assignP L k5 x = .bad kb wb from by rw [HF5.out, hr]; try rfl) hkb hpb)
      clear h hr hpb HP5 HF5 HW
      go_wp2
      exact ⟨rfl, HB.out⟩
    have HR := Lib.hid (show assignP L k5 x = .ok k7 x7 from by rw [HF5.out, hr]; try rfl)
    have HP7 := Lib.hid hp
    clear h hr hp HP5 HF5
    go_wp2
    go_end0
    exact ppost_ok HR.out hk7 ⟨_, _, _, _, HP7.out⟩
set_option maxRecDepth 100000 in
set_option maxHeartbeats 8000000 in
theorem comparison_any (hW : PW W lo cap L) (k : Nat) (hk : k ≤ L.length) (u : World) (hP : PSx W lo L.length cap b k x vo vc co cc u) : Calls Tryz.prog 98 #[psPtr b] u (PPost W lo L.length cap b (.tuple #[]) (compareP L k x)) := by
  have HW := Lib.hid hW
  have HP := Lib.hid hP
  have HF := Lib.hid (show compareP L k x = (chooseP (wdOf (nameR L k)).compares k x).bind fun a x => operandsP L (a + 1) x from rfl)
  clear hW
  have HN := Lib.hid (fun w (h : Made u w) => name_any HW.out.toks k hk w (hP.next h) w (Made.refl w))
  have hns := name_short HW.out k
  clear hP
  go_enter Tryz.func98, Tryz.ntmps98
  go_wp2_with (fail)
  refine (words_any _ _ (Made.refl _)).mono ?_
  rintro e w3 ⟨mm, rfl, hmp⟩
  have M3 := Lib.hid hmp.made
  have HMP3 := Lib.hid hmp
  clear hmp
  go_wp2_with (fail)
  refine (HN.out w3 M3.out).mono ?_
  rintro e w4 ⟨rfl, h4⟩
  have HP4 := Lib.hid (HP.out.next (Made.trans M3.out h4))
  have HC := Lib.hid h4
  obtain ⟨i0, j0, c0, e1, e2, e3, l1, l2, l3⟩ := wd_small (nameR L k)
  have hs6 : (nameR L k).length ≤ 1000000 := by omega
  have HE := Lib.hid (And.intro e1 (And.intro e2 e3))
  have hfld := fun w => word_field2 (wdOf (nameR L k)).begins (wdOf (nameR L k)).sets (wdOf (nameR L k)).compares (wdOf (nameR L k)).n w
  clear e1 e2 e3
  have HMP := Lib.hid (HMP3.out.next HC.out)
  go_wp2_with (at_lookup; refine wpList_look_mp rfl _ _ rfl (nameR L k) rfl rfl HMP.out hs6 ?_)
  rewrite [HE.out.2.2]
  have HF3 := HF
  have HF4 := Lib.hid (show compareP L k x = (chooseP (c0 : Int) k x).bind fun a x => operandsP L (a + 1) x from by rw [HF3.out, HE.out.2.2])
  clear hfld HF HN HC HMP3 M3 HP
  refine (choose_any HW.out k hk c0 l3 _ HP4.out).mono ?_
  intro e w5 h
  rcases spost_cases h with ⟨kb, wb, hr, hkb, rfl, hpb⟩ | ⟨k5, x5, hr, hk5, rfl, hp⟩
  · have HB := Lib.hid (ppost_bad (rv := .tuple #[]) (show compareP L k x = .bad kb wb from by rw [HF4.out, hr]; try rfl) hkb hpb)
    clear h hr hpb HP4 HF4 HF3 HW HMP HE
    go_wp2
    exact ⟨rfl, HB.out⟩
  obtain ⟨rfl, -, h0⟩ := choose_inv hr
  have hlt : k5 < L.length := choose_lt h0 (.inr (.inr HE.out.2.2.symm))
  have HF5 := Lib.hid (show compareP L k5 x = operandsP L (k5 + 1) x5 from by rw [HF4.out, hr]; try rfl)
  have HP5 := Lib.hid (hp.set 1 (.int .i64 ((k5 : Int) + 1)) (k' := ((k5 + 1 : Nat) : Int)) (x' := x5) rfl rfl rfl)
  have c1 := ps_c1 hp
  have lt := heap_lt hp.blk
  have ft := free_of_lit hp.blk
  have hk1 : (k5 : Int) + 1 ≤ 5001 := by have := HW.out.few; omega
  clear h hr hp HP4 HF4 HF3 HMP HE h0
  go_wp2_with (fail)
  clear c1 lt ft
  refine (operands_any HW.out (k5 + 1) hlt _ HP5.out).mono ?_
  intro e w7 h
  rcases ppost_cases h with ⟨kb, wb, hr, hkb, rfl, hpb⟩ | ⟨k7, x7, hr, hk7, rfl, vo7, vc7, co7, cc7, hp⟩
  · have HB := Lib.hid (ppost_bad (rv := .tuple #[]) (show compareP L k5 x = .bad kb wb from by rw [HF5.out, hr]; try rfl) hkb hpb)
    clear h hr hpb HP5 HF5 HW
    go_wp2
    exact ⟨rfl, HB.out⟩
  have HR := Lib.hid (show compareP L k5 x = .ok k7 x7 from by rw [HF5.out, hr]; try rfl)
  have HP7 := Lib.hid hp
  clear h hr hp HP5 HF5
  go_wp2
  go_end0
  exact ppost_ok HR.out hk7 ⟨_, _, _, _, HP7.out⟩
end
end Go.Proofs.YtnfmlmamgkpocaaGreatDoor
