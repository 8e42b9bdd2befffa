/- What read and Inst of package parse return; conditions: the tokens are at most 5000, none longer than 100000; the table of names and strconv's errors stand where their variables lie. · What Reserved of package parse returns; condition: strconv's errors stand where their variables lie. · What Inst of package parse tells; a line in memory that is written anew; no condition but those named. -/
import Derived.Test.YtnfmlmamgkpocaaGreatDoorParX6
import Derived.Tactics2
import Derived.Defers
import Derived.Recover
import Derived.Laws.Pointers
import Derived.Test.YtnfmlmamgkpocaaGreatDoorParX5
import Derived.Test.YtnfmlmamgkpocaaGreatDoorGParF
namespace Go.Proofs.YtnfmlmamgkpocaaGreatDoor
section
open Go.ChangeShapes Go.WideShapes Go.ChangeAt Go.RowKit Go.Sort BigFrame

theorem assert_errno (y : Int) (w : World) : (Instr.typeAssert (.iface TER (.int .i64 y)) 20 TER true).run Tryz.prog w = .ok (.tuple #[.int .i64 y, .bool true]) w := by kernel_rfl
section
attribute [local irreducible] World.cell?
set_option maxRecDepth 100000 in
set_option maxHeartbeats 4000000 in
theorem catch_bad (p : Addr) (x y : Int) (w : World) (hc : w.cell? p = some (.int .i64 x)) (hz : w.frozen? p = false) :
    CallsD Tryz.prog 56 #[.pointer (some p)] (.panicking [{ v := .iface TER (.int .i64 y), recovered := false }]) w fun e u' w' =>
      e = .returned (.tuple #[]) ∧ u' = .panicking [{ v := .iface TER (.int .i64 y), recovered := true }] ∧ w' = w.setCell p (.int .i64 y) := by
  refine callsD_of_wpS Tryz.func56 rfl fun c₀ cs hu => ?_
  apply wpS_seq
  apply wpS_region
  simp [wpOpsS, go_sem, recoverD, hu, Tryz.ntmps56, Exit.thenS]
  have hta := assert_errno y
  refine wpS_of_wp ?_
  go_wp2
  cases c₀
  simp_all [bodyPostS, results, Tryz.results56, go_sem]
set_option maxRecDepth 100000 in
set_option maxHeartbeats 4000000 in
theorem catch_idle (p : Addr) (w : World) :
    CallsD Tryz.prog 56 #[.pointer (some p)] .returning w fun e u' w' => e = .returned (.tuple #[]) ∧ u' = .returning ∧ w' = w := by
  refine callsD_of_wpS Tryz.func56 rfl fun c₀ cs hu => ?_
  apply wpS_seq
  apply wpS_region
  simp [wpOpsS, go_sem, recoverD, hu, Tryz.ntmps56, Exit.thenS]
  refine wpS_of_wp ?_
  go_wp2
  cases c₀
  simp_all [bodyPostS, results, Tryz.results56]
end
abbrev TLN : TypeId := 29
section
variable {W : BW} {lo : Option Addr} {n cap b : Nat} {k : Int} {x : Ln} {vo : Option Addr} {vc : Nat} {co : Option Addr} {cc : Nat} {u : World}
/-- The same, of whatever later world. -/
theorem PSx.rebase (h : PSx W lo n cap b k x vo vc co cc u) {U : World} (hk : KeptB U b u) : PSx ⟨W.w, U⟩ lo n cap b k x vo vc co cc u := ⟨h.made, h.blk, h.val, h.cnt, h.low, hk⟩
theorem PSx.base (h : PSx W lo n cap b k x vo vc co cc u) : PSx ⟨W.w, W.w⟩ lo n cap b k x vo vc co cc u := h.rebase ⟨h.made.size, fun g _ hg => h.made.block g hg⟩
/-- A store beside it. -/
theorem PSx.beside {w0 : World} (h : PSx ⟨w0, w0⟩ lo n cap b k x vo vc co cc u) {c : Nat} (hc : c ≠ b) {cs : List Value} {T : TypeId} {fr : Nat × Nat} (hb : u.heap[c]? = some (.cells cs.toArray T fr)) (hp : ∀ v ∈ cs, ∀ S, v ≠ .string S) (hl : w0.heap.size ≤ c) (j : Nat) (v : Value) : PSx ⟨w0, w0⟩ lo n cap b k x vo vc co cc (u.setCell ⟨c, j, none⟩ v) :=
  have hm : Made w0 (u.setCell ⟨c, j, none⟩ v) := Below.setCell h.made (p := ⟨c, j, none⟩) hl v
  ⟨hm, (heap_setCell_other u ⟨c, j, none⟩ b v (Ne.symm hc)).trans h.blk, tms_far h.val hb hp (ps_other v j), tms_far h.cnt hb hp (ps_other v j), h.low, ⟨hm.size, fun g _ hg => hm.block g hg⟩⟩
end
def RdPost (w0 : World) (lo : Option Addr) (n cap b : Nat) (r : PR) (e : Ending) (u : World) : Prop :=
  match r with
  | .ok k x => k ≤ n ∧ e = .returned (.int .i64 0) ∧ PAt ⟨w0, w0⟩ lo n cap b (k : Nat) x u
  | .bad k y => k ≤ n ∧ e = .returned (.int .i64 y) ∧ ∃ x, PAt ⟨w0, w0⟩ lo n cap b (k : Nat) x u
section
attribute [local irreducible] World.cell?
variable {W : BW} {lo : Option Addr} {cap b : Nat} {L : List Tk} {vo : Option Addr} {vc : Nat} {co : Option Addr} {cc : Nat}
set_option maxRecDepth 100000 in
set_option maxHeartbeats 8000000 in
theorem read_any16 (hW : PW W lo cap L) (u : World) (hP : PSx W lo L.length cap b (0 : Nat) lnZero vo vc co cc u) : Calls Tryz.prog 32 #[psPtr b] u (RdPost W.w lo L.length cap b (readP L)) := by
  have hmf : ∀ (fn : Fn) (first cap : Array Value) (w : World), (Instr.makeFunc fn first cap).run Tryz.prog w = .ok (.func fn first cap) w := fun _ _ _ _ => rfl
  obtain ⟨c, hc⟩ : ∃ c, u.heap.size = c := ⟨_, rfl⟩
  obtain ⟨u1, hu1⟩ : ∃ u1, u.alloc (.cells #[.int .i64 0] 30) = u1 := ⟨_, rfl⟩
  have hm1 : Made u u1 := by rw [← hu1]; exact (Made.refl u).alloc (Nat.le_refl _) _
  have hcb : u1.heap[c]? = some (.cells [Value.int .i64 0].toArray 30 (0, 0)) := by rw [← hu1, ← hc]; exact heap_alloc_new u _
  have hne : c ≠ b := by have := heap_lt hP.blk; omega
  have hlow : W.w.heap.size ≤ c := by rw [← hc]; exact hP.made.size
  have HCB := Lib.hid hcb
  have HW1 := Lib.hid (show PW ⟨W.w, u1⟩ lo cap L from ⟨hW.toks, hW.names, hW.errs, hW.few, hW.short⟩)
  have HP1 := Lib.hid ((hP.next hm1).rebase (KeptB.refl u1 b))
  have HCELL := Lib.hid (fun (w : World) (h : KeptB u1 b w) => show w.heap[c]? = some (.cells [Value.int .i64 0].toArray 30 (0, 0)) from (h.block c hne (heap_lt hcb)).trans hcb)
  have hpl : ∀ v ∈ [Value.int .i64 0], ∀ S, v ≠ .string S := by intro v hv S e; subst e; simp at hv
  have HPL := Lib.hid hpl
  have HR := Lib.hid (show readP L = (condP L 0 lnZero).bind (actionP L) from rfl)
  clear hm1 hcb hP hW hpl
  go_enter_defers Tryz.func32, Tryz.ntmps32
  go_wp2_with (fail)
  refine (condition_any HW1.out 0 (Nat.zero_le _) _ HP1.out).mono ?_
  intro e w2 h
  rcases ppost_cases h with ⟨kb, wb, hr, hkb, rfl, xb, vob, vcb, cob, ccb, hpb⟩ | ⟨k2, x2, hr, hk2, rfl, vo2, vc2, co2, cc2, hp2⟩
  · have hb := HCELL.out w2 hpb.keep
    have hc0 : w2.cell? ⟨c, 0, none⟩ = some (.int .i64 0) := cell_of_lit hb 0
    have hz0 := free_of_lit hb 0
    have HX := Lib.hid (hpb.base.beside hne hb HPL.out hlow 0 (.int .i64 wb))
    have HRR := Lib.hid (show readP L = .bad kb wb from by rw [HR.out, hr]; rfl)
    clear h hr hpb HP1 HW1 HR
    go_wp2
    refine leaves_cons (f := 56) (args := #[.pointer (some ⟨c, 0, none⟩)]) (by simp) (by simp [go_sem]) ?_
    refine (catch_bad ⟨c, 0, none⟩ 0 wb w2 hc0 hz0).mono ?_
    rintro e u' w'' ⟨rfl, rfl, rfl⟩
    have hset : (w2.setCell ⟨c, 0, none⟩ (.int .i64 wb)).cell? ⟨c, 0, none⟩ = some (.int .i64 wb) := cell_of_lit (cs := [Value.int .i64 wb]) (heap_setCell_same w2 c 0 [Value.int .i64 0].toArray 30 (.int .i64 wb) hb) 0
    simp [Leaves, settle, results, Tryz.results32, go_sem, hset]
    rw [HRR.out]
    exact ⟨hkb, rfl, _, _, _, _, _, HX.out⟩
  have HP2 := Lib.hid hp2
  have HR2 := Lib.hid (show readP L = actionP L k2 x2 from by rw [HR.out, hr]; rfl)
  clear h hr hp2 HP1 HR
  go_wp2_with (fail)
  refine (action_any HW1.out k2 hk2 _ HP2.out).mono ?_
  intro e w3 h
  rcases ppost_cases h with ⟨kb, wb, hr, hkb, rfl, xb, vob, vcb, cob, ccb, hpb⟩ | ⟨k3, x3, hr, hk3, rfl, vo3, vc3, co3, cc3, hp3⟩
  · have hb := HCELL.out w3 hpb.keep
    have hc0 : w3.cell? ⟨c, 0, none⟩ = some (.int .i64 0) := cell_of_lit hb 0
    have hz0 := free_of_lit hb 0
    have HX := Lib.hid (hpb.base.beside hne hb HPL.out hlow 0 (.int .i64 wb))
    have HRR := Lib.hid (show readP L = .bad kb wb from by rw [HR2.out, hr])
    clear h hr hpb HP2 HW1 HR2
    go_wp2
    refine leaves_cons (f := 56) (args := #[.pointer (some ⟨c, 0, none⟩)]) (by simp) (by simp [go_sem]) ?_
    refine (catch_bad ⟨c, 0, none⟩ 0 wb w3 hc0 hz0).mono ?_
    rintro e u' w'' ⟨rfl, rfl, rfl⟩
    have hset : (w3.setCell ⟨c, 0, none⟩ (.int .i64 wb)).cell? ⟨c, 0, none⟩ = some (.int .i64 wb) := cell_of_lit (cs := [Value.int .i64 wb]) (heap_setCell_same w3 c 0 [Value.int .i64 0].toArray 30 (.int .i64 wb) hb) 0
    simp [Leaves, settle, results, Tryz.results32, go_sem, hset]
    rw [HRR.out]
    exact ⟨hkb, rfl, _, _, _, _, _, HX.out⟩
  · have hb := HCELL.out w3 hp3.keep
    have hc0 : w3.cell? ⟨c, 0, none⟩ = some (.int .i64 0) := cell_of_lit hb 0
    have hz0 := free_of_lit hb 0
    have ltc := heap_lt hb
    have HX := Lib.hid (hp3.base.beside hne hb HPL.out hlow 0 (.int .i64 0))
    have HRR := Lib.hid (show readP L = .ok k3 x3 from by rw [HR2.out, hr])
    clear h hr hp3 HP2 HW1 HR2
    go_wp2
    refine leaves_cons (f := 56) (args := #[.pointer (some ⟨c, 0, none⟩)]) (by simp) (by simp [go_sem]) ?_
    refine (catch_idle ⟨c, 0, none⟩ _).mono ?_
    rintro e u' w'' ⟨rfl, rfl, rfl⟩
    have hset : (w3.setCell ⟨c, 0, none⟩ (.int .i64 0)).cell? ⟨c, 0, none⟩ = some (.int .i64 0) := cell_of_lit (cs := [Value.int .i64 0]) (heap_setCell_same w3 c 0 [Value.int .i64 0].toArray 30 (.int .i64 0) hb) 0
    simp [Leaves, settle, results, Tryz.results32, go_sem, hset]
    rw [HRR.out]
    exact ⟨hk3, rfl, _, _, _, _, HX.out⟩
end
end
section
open Go.ChangeShapes Go.WideShapes Go.ChangeAt Go.RowKit Go.Sort BigFrame

theorem wpList_look_ok {W u : World} {m : Nat} {ops : Array Oper} {rest : List Oper} {o : Oper} {a : Act} {Q : Exit → Act → World → Prop} (hg : o.guard = none) (mo x : Operand) (hop : o.op = Op.lookup TMP mo x true) (s : List UInt8) (hm : a.eval mo = .map (some m)) (hx : a.eval x = .string (strOf s)) (h : MpAt W m wordsT u)
    (hs : s.length ≤ 1000000) (hK : wpList Tryz.prog ops Q rest (a.put o.dst (.tuple #[wdVal (wdOf s), .bool (isWord s)])) u) : wpList Tryz.prog ops Q (o :: rest) a u := by
  refine wpList_plain hg fun K' hK' => ?_
  have hrun : (Instr.lookup TMP (.map (some m)) (.string (strOf s)) true).run Tryz.prog u = .ok (.tuple #[wdVal (wdOf s), .bool (isWord s)]) u := run_look h s hs (by decide)
  unfold Oper.wp
  simp [execOp, hop, hm, hx, hrun, Result.andThen]
  exact hK' _ _ hK
section
attribute [local irreducible] World.cell?
set_option maxRecDepth 100000 in
set_option maxHeartbeats 8000000 in
theorem reserved_any (s : List UInt8) (hs : s.length ≤ 100000) (W : World) (hE : Errs W) : Makes Tryz.prog W 16 #[.string (strOf s)] (.bool (resP s)) := by
  intro w hm
  have HM := Lib.hid hm
  have HE := Lib.hid hE
  have hs6 : s.length ≤ 1000000 := by omega
  obtain ⟨b0, b1, b2, b3, hb⟩ : ∃ b0 b1 b2 b3, wdOf s = ⟨b0, b1, b2, b3⟩ := ⟨_, _, _, _, rfl⟩
  have HB := Lib.hid hb
  obtain ⟨q, hq⟩ : ∃ q, isWord s = q := ⟨_, rfl⟩
  have HQ := Lib.hid hq
  have HBA := Lib.hid (fun w => bare_any s hs w)
  obtain ⟨B, hBB⟩ : ∃ B, (bareR s).1 = B := ⟨_, rfl⟩
  obtain ⟨nw, hnw⟩ : ∃ q, (bareR s).2 = q := ⟨_, rfl⟩
  rewrite [hBB, hnw] at HBA
  have hBl : B.length ≤ 100000 := by rw [← hBB]; have := bare_len s; omega
  have HR := Lib.hid (show resP s = (q || decide (0 ≤ namedR 114 32 B) || decide (0 ≤ namedR 112 4 B)) from by unfold resP; rw [hq, hBB])
  have HRG := Lib.hid (fun u (h : Errs u) => register_of B hBl u h)
  have HPR := Lib.hid (fun u (h : Errs u) => predicate_of B hBl u h)
  clear hm hE hb hq hBB hnw
  go_enter Tryz.func16, Tryz.ntmps16
  go_wp2_with (fail)
  refine (words_any _ _ (Made.refl _)).mono ?_
  rintro e w3 ⟨mm, rfl, hmp⟩
  have M3 := Lib.hid (Made.trans HM.out hmp.made)
  have HMP := Lib.hid hmp
  clear hmp
  have M4 := Lib.hid (show Made W (w3.alloc (.cells #[.int .u8 b0, .int .u8 b1, .int .u8 b2, .int .u8 b3] 81)) from M3.out.alloc M3.out.size _)
  go_upto_region 2 with (at_lookup; refine wpList_look_ok rfl _ _ rfl s rfl rfl HMP.out hs6 ?_; rewrite [HB.out, HQ.out])
  refine world_named (fun y => Made W y) M4.out ?_
  intro y hy
  have MY := Lib.hid hy
  clear hy M4 HMP M3
  cases q with
  | true =>
    have HR2 := Lib.hid (show resP s = true by rw [HR.out]; rfl)
    go_wp2
    go_ret
    exact ⟨by rw [HR2.out]; rfl, MY.out⟩
  | false =>
    go_wp2_with (fail)
    refine (HBA.out _).mono ?_
    rintro e w5 ⟨rfl, rfl⟩
    go_wp2_with (fail)
    refine (HRG.out _ (HE.out.next MY.out) _ (Made.refl _)).mono ?_
    rintro e w6 ⟨rfl, h6⟩
    have M6 := Lib.hid (Made.trans MY.out h6)
    have hv : numTup (namedR 114 32 B) = .tuple #[.int .u8 (if 0 ≤ namedR 114 32 B then namedR 114 32 B else 0), .bool (decide (0 ≤ namedR 114 32 B))] := rfl
    obtain ⟨v1, hv1⟩ : ∃ v, (if 0 ≤ namedR 114 32 B then namedR 114 32 B else 0) = v := ⟨_, rfl⟩
    obtain ⟨q1, hq1⟩ : ∃ q, decide (0 ≤ namedR 114 32 B) = q := ⟨_, rfl⟩
    rewrite [hv1, hq1] at hv
    rewrite [hv]
    have HR2 := Lib.hid (show resP s = (q1 || decide (0 ≤ namedR 112 4 B)) by rw [HR.out, hq1]; rfl)
    clear h6 MY hv hv1 hq1 HR
    go_wp2_with (fail)
    refine (HPR.out _ (HE.out.next M6.out) _ (Made.refl _)).mono ?_
    rintro e w7 ⟨rfl, h7⟩
    have M7 := Lib.hid (Made.trans M6.out h7)
    have hv : numTup (namedR 112 4 B) = .tuple #[.int .u8 (if 0 ≤ namedR 112 4 B then namedR 112 4 B else 0), .bool (decide (0 ≤ namedR 112 4 B))] := rfl
    obtain ⟨v2, hv2⟩ : ∃ v, (if 0 ≤ namedR 112 4 B then namedR 112 4 B else 0) = v := ⟨_, rfl⟩
    obtain ⟨q2, hq2⟩ : ∃ q, decide (0 ≤ namedR 112 4 B) = q := ⟨_, rfl⟩
    rewrite [hv2, hq2] at hv
    rewrite [hv]
    have HR3 := Lib.hid (show resP s = (q1 || q2) by rw [HR2.out, hq2])
    clear h7 M6 hv hv2 hq2 HR2
    cases q1 <;> cases q2
    all_goals
      go_wp2
      go_ret
      exact ⟨by rw [HR3.out]; rfl, M7.out⟩
end
end
section
open Go.ChangeShapes Go.WideShapes Go.ChangeAt Go.RowKit Go.Sort BigFrame

abbrev lnVal (x : Ln) (v c : Value) : Value := .agg #[.int .u8 x.op, .int .u8 x.d, .int .u8 x.s, .int .u8 x.t, .int .u8 x.n, .int .u8 x.pred, .int .u8 x.mode, .bool x.new, .bool false, .int .u16 0, .int .i64 0, v, c, .bool x.forced, .int .i64 x.line, .int .i64 x.col]
/-- What Inst tells. -/
def IPost (w : World) (L : List Tk) (e : Ending) (u : World) : Prop :=
  ∃ vo vc co cc, e = .returned (.tuple #[lnVal (instP L).1 (.slice vo (instP L).1.value.length vc) (.slice co (instP L).1.count.length cc), .int .i64 (instP L).2.1, .int .i64 (instP L).2.2]) ∧ Tms u vo vc (instP L).1.value ∧ Tms u co cc (instP L).1.count ∧ Made w u
abbrev zLine : List Value := [.int .u8 0, .int .u8 0, .int .u8 0, .int .u8 0, .int .u8 0, .int .u8 0, .int .u8 0, .bool false, .bool false, .int .u16 0, .int .i64 0, .slice none 0 0, .slice none 0 0, .bool false, .int .i64 0, .int .i64 0]
abbrev set16 (u : World) (r : Nat) (y0 y1 y2 y3 y4 y5 y6 y7 y8 y9 y10 y11 y12 y13 y14 y15 : Value) : World := (((((((((((((((u.setCell ⟨r, 0, none⟩ y0).setCell ⟨r, 1, none⟩ y1).setCell ⟨r, 2, none⟩ y2).setCell ⟨r, 3, none⟩ y3).setCell ⟨r, 4, none⟩ y4).setCell ⟨r, 5, none⟩ y5).setCell ⟨r, 6, none⟩ y6).setCell ⟨r, 7, none⟩ y7).setCell ⟨r, 8, none⟩ y8).setCell ⟨r, 9, none⟩ y9).setCell ⟨r, 10, none⟩ y10).setCell ⟨r, 11, none⟩ y11).setCell ⟨r, 12, none⟩ y12).setCell ⟨r, 13, none⟩ y13).setCell ⟨r, 14, none⟩ y14).setCell ⟨r, 15, none⟩ y15
theorem set16_at {u : World} {r : Nat} {T : TypeId} {x0 x1 x2 x3 x4 x5 x6 x7 x8 x9 x10 x11 x12 x13 x14 x15 : Value} (h : u.heap[r]? = some (.cells [x0, x1, x2, x3, x4, x5, x6, x7, x8, x9, x10, x11, x12, x13, x14, x15].toArray T (0, 0))) (y0 y1 y2 y3 y4 y5 y6 y7 y8 y9 y10 y11 y12 y13 y14 y15 : Value) : (set16 u r y0 y1 y2 y3 y4 y5 y6 y7 y8 y9 y10 y11 y12 y13 y14 y15).heap[r]? = some (.cells [y0, y1, y2, y3, y4, y5, y6, y7, y8, y9, y10, y11, y12, y13, y14, y15].toArray T (0, 0)) := by
  have h0 := heap_setCell_same _ r 0 [x0, x1, x2, x3, x4, x5, x6, x7, x8, x9, x10, x11, x12, x13, x14, x15].toArray T y0 h
  have h1 := heap_setCell_same _ r 1 [y0, x1, x2, x3, x4, x5, x6, x7, x8, x9, x10, x11, x12, x13, x14, x15].toArray T y1 h0
  have h2 := heap_setCell_same _ r 2 [y0, y1, x2, x3, x4, x5, x6, x7, x8, x9, x10, x11, x12, x13, x14, x15].toArray T y2 h1
  have h3 := heap_setCell_same _ r 3 [y0, y1, y2, x3, x4, x5, x6, x7, x8, x9, x10, x11, x12, x13, x14, x15].toArray T y3 h2
  have h4 := heap_setCell_same _ r 4 [y0, y1, y2, y3, x4, x5, x6, x7, x8, x9, x10, x11, x12, x13, x14, x15].toArray T y4 h3
  have h5 := heap_setCell_same _ r 5 [y0, y1, y2, y3, y4, x5, x6, x7, x8, x9, x10, x11, x12, x13, x14, x15].toArray T y5 h4
  have h6 := heap_setCell_same _ r 6 [y0, y1, y2, y3, y4, y5, x6, x7, x8, x9, x10, x11, x12, x13, x14, x15].toArray T y6 h5
  have h7 := heap_setCell_same _ r 7 [y0, y1, y2, y3, y4, y5, y6, x7, x8, x9, x10, x11, x12, x13, x14, x15].toArray T y7 h6
  have h8 := heap_setCell_same _ r 8 [y0, y1, y2, y3, y4, y5, y6, y7, x8, x9, x10, x11, x12, x13, x14, x15].toArray T y8 h7
  have h9 := heap_setCell_same _ r 9 [y0, y1, y2, y3, y4, y5, y6, y7, y8, x9, x10, x11, x12, x13, x14, x15].toArray T y9 h8
  have h10 := heap_setCell_same _ r 10 [y0, y1, y2, y3, y4, y5, y6, y7, y8, y9, x10, x11, x12, x13, x14, x15].toArray T y10 h9
  have h11 := heap_setCell_same _ r 11 [y0, y1, y2, y3, y4, y5, y6, y7, y8, y9, y10, x11, x12, x13, x14, x15].toArray T y11 h10
  have h12 := heap_setCell_same _ r 12 [y0, y1, y2, y3, y4, y5, y6, y7, y8, y9, y10, y11, x12, x13, x14, x15].toArray T y12 h11
  have h13 := heap_setCell_same _ r 13 [y0, y1, y2, y3, y4, y5, y6, y7, y8, y9, y10, y11, y12, x13, x14, x15].toArray T y13 h12
  have h14 := heap_setCell_same _ r 14 [y0, y1, y2, y3, y4, y5, y6, y7, y8, y9, y10, y11, y12, y13, x14, x15].toArray T y14 h13
  have h15 := heap_setCell_same _ r 15 [y0, y1, y2, y3, y4, y5, y6, y7, y8, y9, y10, y11, y12, y13, y14, x15].toArray T y15 h14
  exact h15
theorem set16_other {u : World} {r g : Nat} (hg : g ≠ r) (y0 y1 y2 y3 y4 y5 y6 y7 y8 y9 y10 y11 y12 y13 y14 y15 : Value) : (set16 u r y0 y1 y2 y3 y4 y5 y6 y7 y8 y9 y10 y11 y12 y13 y14 y15).heap[g]? = u.heap[g]? := by
  simp only [set16]
  rw [heap_setCell_other _ ⟨r, 15, none⟩ g _ hg, heap_setCell_other _ ⟨r, 14, none⟩ g _ hg, heap_setCell_other _ ⟨r, 13, none⟩ g _ hg, heap_setCell_other _ ⟨r, 12, none⟩ g _ hg, heap_setCell_other _ ⟨r, 11, none⟩ g _ hg, heap_setCell_other _ ⟨r, 10, none⟩ g _ hg, heap_setCell_other _ ⟨r, 9, none⟩ g _ hg, heap_setCell_other _ ⟨r, 8, none⟩ g _ hg, heap_setCell_other _ ⟨r, 7, none⟩ g _ hg, heap_setCell_other _ ⟨r, 6, none⟩ g _ hg, heap_setCell_other _ ⟨r, 5, none⟩ g _ hg, heap_setCell_other _ ⟨r, 4, none⟩ g _ hg, heap_setCell_other _ ⟨r, 3, none⟩ g _ hg, heap_setCell_other _ ⟨r, 2, none⟩ g _ hg, heap_setCell_other _ ⟨r, 1, none⟩ g _ hg, heap_setCell_other _ ⟨r, 0, none⟩ g _ hg]
theorem set16_made {w u : World} {r : Nat} (h : Made w u) (hr : w.heap.size ≤ r) (y0 y1 y2 y3 y4 y5 y6 y7 y8 y9 y10 y11 y12 y13 y14 y15 : Value) : Made w (set16 u r y0 y1 y2 y3 y4 y5 y6 y7 y8 y9 y10 y11 y12 y13 y14 y15) := by
  have h0 := Below.setCell h (p := ⟨r, 0, none⟩) hr y0
  have h1 := Below.setCell h0 (p := ⟨r, 1, none⟩) hr y1
  have h2 := Below.setCell h1 (p := ⟨r, 2, none⟩) hr y2
  have h3 := Below.setCell h2 (p := ⟨r, 3, none⟩) hr y3
  have h4 := Below.setCell h3 (p := ⟨r, 4, none⟩) hr y4
  have h5 := Below.setCell h4 (p := ⟨r, 5, none⟩) hr y5
  have h6 := Below.setCell h5 (p := ⟨r, 6, none⟩) hr y6
  have h7 := Below.setCell h6 (p := ⟨r, 7, none⟩) hr y7
  have h8 := Below.setCell h7 (p := ⟨r, 8, none⟩) hr y8
  have h9 := Below.setCell h8 (p := ⟨r, 9, none⟩) hr y9
  have h10 := Below.setCell h9 (p := ⟨r, 10, none⟩) hr y10
  have h11 := Below.setCell h10 (p := ⟨r, 11, none⟩) hr y11
  have h12 := Below.setCell h11 (p := ⟨r, 12, none⟩) hr y12
  have h13 := Below.setCell h12 (p := ⟨r, 13, none⟩) hr y13
  have h14 := Below.setCell h13 (p := ⟨r, 14, none⟩) hr y14
  have h15 := Below.setCell h14 (p := ⟨r, 15, none⟩) hr y15
  exact h15
theorem line_set {w u : World} {r : Nat} {x0 x1 x2 x3 x4 x5 x6 x7 x8 x9 x10 x11 x12 x13 x14 x15 : Value} (hb : u.heap[r]? = some (.cells [x0, x1, x2, x3, x4, x5, x6, x7, x8, x9, x10, x11, x12, x13, x14, x15].toArray TLN (0, 0))) (hm : Made w u) (hr : w.heap.size ≤ r) (y0 y1 y2 y3 y4 y5 y6 y7 y8 y9 y10 y11 y12 y13 y14 y15 : Value) :
    (set16 u r y0 y1 y2 y3 y4 y5 y6 y7 y8 y9 y10 y11 y12 y13 y14 y15).heap[r]? = some (.cells [y0, y1, y2, y3, y4, y5, y6, y7, y8, y9, y10, y11, y12, y13, y14, y15].toArray TLN (0, 0)) ∧ Made w (set16 u r y0 y1 y2 y3 y4 y5 y6 y7 y8 y9 y10 y11 y12 y13 y14 y15) ∧ ∀ g, g ≠ r → (set16 u r y0 y1 y2 y3 y4 y5 y6 y7 y8 y9 y10 y11 y12 y13 y14 y15).heap[g]? = u.heap[g]? :=
  ⟨set16_at hb y0 y1 y2 y3 y4 y5 y6 y7 y8 y9 y10 y11 y12 y13 y14 y15, set16_made hm hr y0 y1 y2 y3 y4 y5 y6 y7 y8 y9 y10 y11 y12 y13 y14 y15, fun _ hg => set16_other hg y0 y1 y2 y3 y4 y5 y6 y7 y8 y9 y10 y11 y12 y13 y14 y15⟩
theorem ipost_of {w u : World} {L : List Tk} {y : Ln} {k : Nat} {e : Int} (h : instP L = (y, k, e)) {vo co : Option Addr} {vc cc : Nat} (hv : Tms u vo vc y.value) (hc : Tms u co cc y.count) (hm : Made w u) :
    IPost w L (.returned (.tuple #[lnVal y (.slice vo y.value.length vc) (.slice co y.count.length cc), .int .i64 k, .int .i64 e])) u := by
  unfold IPost
  rw [h]
  exact ⟨vo, vc, co, cc, rfl, hv, hc, hm⟩
theorem heap_drew (u : World) (g : Nat) : u.drew.heap[g]? = u.heap[g]? := rfl
theorem line_put {w u : World} {r : Nat} {x0 x1 x2 x3 x4 x5 x6 x7 x8 x9 x10 x11 x12 x13 x14 x15 : Value} (hb : u.heap[r]? = some (.cells [x0, x1, x2, x3, x4, x5, x6, x7, x8, x9, x10, x11, x12, x13, x14, x15].toArray TLN (0, 0))) (hm : Made w u) (hr : w.heap.size ≤ r) (y0 y1 y2 y3 y4 y5 y6 y7 y8 y9 y10 y11 y12 y13 y14 y15 : Value) :
    (set16 u r y0 y1 y2 y3 y4 y5 y6 y7 y8 y9 y10 y11 y12 y13 y14 y15).drew.heap[r]? = some (.cells [y0, y1, y2, y3, y4, y5, y6, y7, y8, y9, y10, y11, y12, y13, y14, y15].toArray TLN (0, 0)) ∧ Made w (set16 u r y0 y1 y2 y3 y4 y5 y6 y7 y8 y9 y10 y11 y12 y13 y14 y15).drew ∧ ∀ g, g ≠ r → (set16 u r y0 y1 y2 y3 y4 y5 y6 y7 y8 y9 y10 y11 y12 y13 y14 y15).drew.heap[g]? = u.heap[g]? :=
  ⟨(heap_drew _ r).trans (set16_at hb y0 y1 y2 y3 y4 y5 y6 y7 y8 y9 y10 y11 y12 y13 y14 y15), made_drew (set16_made hm hr y0 y1 y2 y3 y4 y5 y6 y7 y8 y9 y10 y11 y12 y13 y14 y15), fun g hg => (heap_drew _ g).trans (set16_other hg y0 y1 y2 y3 y4 y5 y6 y7 y8 y9 y10 y11 y12 y13 y14 y15)⟩
end
end Go.Proofs.YtnfmlmamgkpocaaGreatDoor
