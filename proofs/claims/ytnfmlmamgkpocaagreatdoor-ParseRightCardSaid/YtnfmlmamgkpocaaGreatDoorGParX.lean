/- The parser of package parse in memory; what text, name, sign, accept, expect and take return; no condition but those named. · The map of names of package parse: what words makes, and what is looked up in it; no condition but those named. · What registerOf and predicateOf of package parse return, and strings.CutSuffix; condition: the two errors of strconv stand where their variables lie. -/
import Derived.Test.YtnfmlmamgkpocaaGreatDoorGParM
import Derived.Test.YtnfmlmamgkpocaaGreatDoorGLexR
import Derived.Test.YtnfmlmamgkpocaaGreatDoorGBase
import Derived.WalkLawsBesides
import Derived.Maps.Own
import Derived.Test.YtnfmlmamgkpocaaGreatDoorParShelf
import Derived.Lib.AtoiAll
import Derived.Lib.ItoaNum
namespace Go.Proofs.YtnfmlmamgkpocaaGreatDoor
section
open Go.ChangeShapes Go.WideShapes Go.ChangeAt Go.RowKit Go.Sort BigFrame

abbrev TPS : TypeId := 75
abbrev TER : TypeId := 30
abbrev lnCells (x : Ln) (v c : Value) : List Value := [.int .u8 x.op, .int .u8 x.d, .int .u8 x.s, .int .u8 x.t, .int .u8 x.n, .int .u8 x.pred, .int .u8 x.mode, .bool x.new, .bool false, .int .u16 0, .int .i64 0, v, c, .bool x.forced, .int .i64 x.line, .int .i64 x.col]
abbrev psCells (lo : Option Addr) (n cap : Nat) (k : Int) (x : Ln) (v c : Value) : List Value := [.slice lo n cap, .int .i64 k, .int .u8 x.op, .int .u8 x.d, .int .u8 x.s, .int .u8 x.t, .int .u8 x.n, .int .u8 x.pred, .int .u8 x.mode, .bool x.new, .bool false, .int .u16 0, .int .i64 0, v, c, .bool x.forced, .int .i64 x.line, .int .i64 x.col]
abbrev psPtr (b : Nat) : Value := .pointer (some ⟨b, 0, none⟩)
/-- The world in which Inst began, and a later one: of that one all blocks but the parser's stay. -/
structure BW where
  w : World
  u : World
structure KeptB (U : World) (b : Nat) (u : World) : Prop where
  size : U.heap.size ≤ u.heap.size
  block : ∀ g, g ≠ b → g < U.heap.size → u.heap[g]? = U.heap[g]?
theorem KeptB.refl (U : World) (b : Nat) : KeptB U b U := ⟨Nat.le_refl _, fun _ _ _ => rfl⟩
theorem KeptB.next {U u u1 : World} {b : Nat} (h : KeptB U b u) (hm : Made u u1) : KeptB U b u1 := ⟨Nat.le_trans h.size hm.size, fun g hb hg => (hm.block g (Nat.lt_of_lt_of_le hg h.size)).trans (h.block g hb hg)⟩
theorem KeptB.set {U u : World} {b : Nat} (h : KeptB U b u) (j : Nat) (v : Value) : KeptB U b (u.setCell ⟨b, j, none⟩ v) := ⟨by rw [World.size_setCell]; exact h.size, fun g hb hg => (heap_setCell_other u ⟨b, j, none⟩ g v hb).trans (h.block g hb hg)⟩
/-- The parser's variable in block b. -/
structure PSx (W : BW) (lo : Option Addr) (n cap b : Nat) (k : Int) (x : Ln) (vo : Option Addr) (vc : Nat) (co : Option Addr) (cc : Nat) (u : World) : Prop where
  made : Made W.w u
  blk : u.heap[b]? = some (.cells (psCells lo n cap k x (.slice vo x.value.length vc) (.slice co x.count.length cc)).toArray TPS (0, 0))
  val : Tms u vo vc x.value
  cnt : Tms u co cc x.count
  low : W.w.heap.size ≤ b
  keep : KeptB W.u b u
def PAt (W : BW) (lo : Option Addr) (n cap b : Nat) (k : Int) (x : Ln) (u : World) : Prop := ∃ vo vc co cc, PSx W lo n cap b k x vo vc co cc u
/-- No string lies in a parser's variable. -/
theorem ps_plain (lo : Option Addr) (n cap : Nat) (k : Int) (x : Ln) (so : Option Addr) (sn sc : Nat) (to : Option Addr) (tn tc : Nat) : ∀ v ∈ psCells lo n cap k x (.slice so sn sc) (.slice to tn tc), ∀ S, v ≠ .string S := by
  intro v hv S e
  subst e
  simp at hv
section
variable {W : BW} {u u1 : World} {lo : Option Addr} {n cap b : Nat} {k : Int} {x : Ln} {vo : Option Addr} {vc : Nat} {co : Option Addr} {cc : Nat}
theorem tms_far {so : Option Addr} {sc : Nat} {l : List Tm} (hT : Tms u so sc l) {cs : List Value} {T : TypeId} {fr : Nat × Nat} (hb : u.heap[b]? = some (.cells cs.toArray T fr)) (hp : ∀ v ∈ cs, ∀ S, v ≠ .string S) {u1 : World} (hk : ∀ g, g ≠ b → u1.heap[g]? = u.heap[g]?) : Tms u1 so sc l :=
  ⟨hT.room, hT.max, fun t ht => by
    obtain ⟨g, o, e, hc⟩ := hT.cell t ht
    refine ⟨g, o, e, fun r hr => ?_⟩
    have hg : g ≠ b := by
      intro hgb
      subst hgb
      have h2 := hc 2 (by omega)
      rw [cell_of_lit hb] at h2
      exact hp _ (List.mem_of_getElem? h2) _ rfl
    have h1 := hc r hr
    have h2 : r < (l[t]).cells.length := hr
    rw [List.getElem?_eq_getElem h2] at h1 ⊢
    exact (World.cell?_of_block (hk g hg)).trans h1⟩
theorem PSx.next (h : PSx W lo n cap b k x vo vc co cc u) (hm : Made u u1) : PSx W lo n cap b k x vo vc co cc u1 := ⟨Made.trans h.made hm, hm.heap h.blk, h.val.made tm_len hm, h.cnt.made tm_len hm, h.low, h.keep.next hm⟩
theorem ps_other (v : Value) (j : Nat) : ∀ g, g ≠ b → (u.setCell ⟨b, j, none⟩ v).heap[g]? = u.heap[g]? := fun g hg => heap_setCell_other u ⟨b, j, none⟩ g v hg
theorem PSx.made_set (h : PSx W lo n cap b k x vo vc co cc u) (j : Nat) (v : Value) : Made W.w (u.setCell ⟨b, j, none⟩ v) := Below.setCell h.made (p := ⟨b, j, none⟩) h.low v
theorem PSx.valFar (h : PSx W lo n cap b k x vo vc co cc u) (j : Nat) (v : Value) : Tms (u.setCell ⟨b, j, none⟩ v) vo vc x.value := tms_far h.val h.blk (ps_plain _ _ _ _ _ _ _ _ _ _ _) (ps_other v j)
theorem PSx.cntFar (h : PSx W lo n cap b k x vo vc co cc u) (j : Nat) (v : Value) : Tms (u.setCell ⟨b, j, none⟩ v) co cc x.count := tms_far h.cnt h.blk (ps_plain _ _ _ _ _ _ _ _ _ _ _) (ps_other v j)
theorem PSx.blkSet (h : PSx W lo n cap b k x vo vc co cc u) (j : Nat) (v : Value) {cs : List Value} (he : (psCells lo n cap k x (.slice vo x.value.length vc) (.slice co x.count.length cc)).toArray.setIfInBounds j v = cs.toArray) : (u.setCell ⟨b, j, none⟩ v).heap[b]? = some (.cells cs.toArray TPS (0, 0)) := by
  have := heap_setCell_same u b j (psCells lo n cap k x (.slice vo x.value.length vc) (.slice co x.count.length cc)).toArray TPS v h.blk
  rwa [he] at this
/-- A store that leaves the two lists. -/
theorem PSx.set (h : PSx W lo n cap b k x vo vc co cc u) (j : Nat) (v : Value) {k' : Int} {x' : Ln} (hv : x'.value = x.value) (hc : x'.count = x.count) (he : (psCells lo n cap k x (.slice vo x.value.length vc) (.slice co x.count.length cc)).toArray.setIfInBounds j v = (psCells lo n cap k' x' (.slice vo x'.value.length vc) (.slice co x'.count.length cc)).toArray) : PSx W lo n cap b k' x' vo vc co cc (u.setCell ⟨b, j, none⟩ v) :=
  ⟨h.made_set j v, h.blkSet j v he, by rw [hv]; exact h.valFar j v, by rw [hc]; exact h.cntFar j v, h.low, h.keep.set j v⟩
theorem PSx.setV (h : PSx W lo n cap b k x vo vc co cc u) {so : Option Addr} {sc : Nat} {e : List Tm} (he : Tms u so sc e) : PSx W lo n cap b k (pSetV x e) so sc co cc (u.setCell ⟨b, 13, none⟩ (.slice so e.length sc)) :=
  ⟨h.made_set _ _, h.blkSet 13 _ rfl, tms_far he h.blk (ps_plain _ _ _ _ _ _ _ _ _ _ _) (ps_other _ _), h.cntFar _ _, h.low, h.keep.set _ _⟩
theorem PSx.setC (h : PSx W lo n cap b k x vo vc co cc u) {so : Option Addr} {sc : Nat} {e : List Tm} (he : Tms u so sc e) : PSx W lo n cap b k (pSetC x e) vo vc so sc (u.setCell ⟨b, 14, none⟩ (.slice so e.length sc)) :=
  ⟨h.made_set _ _, h.blkSet 14 _ rfl, h.valFar _ _, tms_far he h.blk (ps_plain _ _ _ _ _ _ _ _ _ _ _) (ps_other _ _), h.low, h.keep.set _ _⟩
theorem ps_cells (h : PSx W lo n cap b k x vo vc co cc u) : u.cell? ⟨b, 0, none⟩ = some (.slice lo n cap) ∧ u.cell? ⟨b, 1, none⟩ = some (.int .i64 k) ∧ u.cell? ⟨b, 2, none⟩ = some (.int .u8 x.op) ∧ u.cell? ⟨b, 8, none⟩ = some (.int .u8 x.mode) :=
  ⟨cell_of_lit h.blk 0, cell_of_lit h.blk 1, cell_of_lit h.blk 2, cell_of_lit h.blk 8⟩
end
/-- What a step tells: where it has come to; or it gave up. -/
def PPost (W : BW) (lo : Option Addr) (n cap b : Nat) (rv : Value) (r : PR) (e : Ending) (u : World) : Prop :=
  match r with
  | .ok k x => k ≤ n ∧ e = .returned rv ∧ PAt W lo n cap b k x u
  | .bad k w => k ≤ n ∧ e = .panicked [{ v := .iface TER (.int .i64 w), recovered := false }] ∧ ∃ x, PAt W lo n cap b k x u
section
attribute [local irreducible] World.cell?
variable {W : BW} {lo : Option Addr} {cap b : Nat} {L : List Tk} {x : Ln} {vo : Option Addr} {vc : Nat} {co : Option Addr} {cc : Nat}
def kindR (L : List Tk) (kd : Int) (k : Nat) : List UInt8 := match L[k]? with | some t => if t.kind = kd then t.text else [] | none => []
set_option maxRecDepth 100000 in
set_option maxHeartbeats 8000000 in
theorem text_any (hT : Toks W.w lo cap L) (k : Nat) (hk : k ≤ L.length) (kd : Int) (u0 : World) (hP : PSx W lo L.length cap b k x vo vc co cc u0) : Makes Tryz.prog u0 142 #[psPtr b, .int .u8 kd] (.string (strOf (kindR L kd k))) := by
  intro w hm
  have HM := Lib.hid hm
  have hP := hP.next hm
  have HT := toks_made hT hP.made
  obtain ⟨c0, c1, -, -⟩ := ps_cells hP
  clear hm hP hT
  by_cases hkl : k < L.length
  · obtain ⟨t, ht⟩ : ∃ t, L[k] = t := ⟨_, rfl⟩
    have HN := Lib.hid (show kindR L kd k = if t.kind = kd then t.text else [] by unfold kindR; rw [List.getElem?_eq_getElem hkl, ht])
    obtain ⟨g, o, rfl, d0, d1, -, -, -⟩ := toks_cells HT hkl t ht
    have hne : ((k : Int) == (L.length : Int)) = false := beq_eq_false_iff_ne.2 (by omega)
    have hki : (k : Int) < (L.length : Int) := by omega
    clear ht HT
    obtain ⟨tk, tt, tv, tl, tc⟩ := t
    go_enter Tryz.func142, Tryz.ntmps142
    by_cases hkd : tk = kd
    · have hb : (tk != kd) = false := bne_eq_false_iff_eq.2 hkd
      have HN2 := Lib.hid (show kindR L kd k = tt by rw [HN.out]; exact if_pos hkd)
      clear hkd HN
      go_wp2_with (fail)
      go_quiet (fail)
      go_wp2_with (fail)
      go_quiet (fail)
      go_wp2
      rewrite [HN2.out]
      go_ret
      exact ⟨rfl, below_drewN (below_drewN HM.out _) _⟩
    · have hb : (tk != kd) = true := bne_iff_ne.2 hkd
      have HN2 := Lib.hid (show kindR L kd k = [] by rw [HN.out]; exact if_neg hkd)
      clear hkd HN
      go_wp2_with (fail)
      go_quiet (fail)
      go_wp2
      rewrite [HN2.out]
      go_ret
      exact ⟨rfl, below_drewN HM.out _⟩
  · have HN2 := Lib.hid (show kindR L kd k = [] by unfold kindR; rw [List.getElem?_eq_none (by omega)])
    have hne : ((k : Int) == (L.length : Int)) = true := beq_iff_eq.2 (by omega)
    clear HT hkl
    go_enter Tryz.func142, Tryz.ntmps142
    go_wp2_with (fail)
    go_quiet (fail)
    go_wp2
    rewrite [HN2.out]
    go_ret
    exact ⟨rfl, below_drewN HM.out _⟩
theorem str_inj {s t : List UInt8} (h : strOf s = strOf t) : s = t := by
  have h1 : (strOf s).data.toList = (strOf t).data.toList := congrArg (fun x => x.data.toList) h
  simpa [strOf] using h1
theorem kind_name (L : List Tk) (k : Nat) : kindR L 1 k = nameR L k := rfl
theorem kind_sign (L : List Tk) (k : Nat) : kindR L 3 k = signR L k := rfl
set_option maxRecDepth 100000 in
set_option maxHeartbeats 8000000 in
theorem name_any (hT : Toks W.w lo cap L) (k : Nat) (hk : k ≤ L.length) (u0 : World) (hP : PSx W lo L.length cap b k x vo vc co cc u0) : Makes Tryz.prog u0 91 #[psPtr b] (.string (strOf (nameR L k))) := by
  intro w hm
  have HC := Lib.hid (text_any hT k hk 1 u0 hP w hm)
  clear hm hP hT
  go_enter Tryz.func91, Tryz.ntmps91
  go_wp2_with (fail)
  refine HC.out.mono ?_
  rintro e w' ⟨rfl, hm⟩
  have M := Lib.hid hm
  rewrite [kind_name]
  clear hm HC
  go_wp2
  go_ret
  exact ⟨rfl, M.out⟩
set_option maxRecDepth 100000 in
set_option maxHeartbeats 8000000 in
theorem psgn2_any (hT : Toks W.w lo cap L) (k : Nat) (hk : k ≤ L.length) (u0 : World) (hP : PSx W lo L.length cap b k x vo vc co cc u0) : Makes Tryz.prog u0 143 #[psPtr b] (.string (strOf (signR L k))) := by
  intro w hm
  have HC := Lib.hid (text_any hT k hk 3 u0 hP w hm)
  clear hm hP hT
  go_enter Tryz.func143, Tryz.ntmps143
  go_wp2_with (fail)
  refine HC.out.mono ?_
  rintro e w' ⟨rfl, hm⟩
  have M := Lib.hid hm
  rewrite [kind_sign]
  clear hm HC
  go_wp2
  go_ret
  exact ⟨rfl, M.out⟩
/-- Whether a sign is next; then it is read. -/
def AccSays (W : BW) (lo : Option Addr) (n cap b : Nat) (L : List Tk) (s : List UInt8) (k : Nat) (x : Ln) (vo : Option Addr) (vc : Nat) (co : Option Addr) (cc : Nat) (e : Ending) (u : World) : Prop :=
  (signR L k = s ∧ e = .returned (.bool true) ∧ PSx W lo n cap b ((k + 1 : Nat) : Int) x vo vc co cc u) ∨ (signR L k ≠ s ∧ e = .returned (.bool false) ∧ PSx W lo n cap b k x vo vc co cc u)
set_option maxRecDepth 100000 in
set_option maxHeartbeats 8000000 in
theorem accept_any (hT : Toks W.w lo cap L) (k : Nat) (hk : k ≤ L.length) (hL : L.length ≤ 10000) (s : List UInt8) (u : World) (hP : PSx W lo L.length cap b k x vo vc co cc u) : Calls Tryz.prog 93 #[psPtr b, .string (strOf s)] u (AccSays W lo L.length cap b L s k x vo vc co cc) := by
  have HC := Lib.hid (psgn2_any hT k hk u hP u (Made.refl u))
  have HP := Lib.hid hP
  have hk1 : (k : Int) + 1 ≤ 10001 := by omega
  clear hP hT
  go_enter Tryz.func93, Tryz.ntmps93
  go_wp2_with (fail)
  refine HC.out.mono ?_
  rintro e w' ⟨rfl, hm⟩
  have HP1 := Lib.hid (HP.out.next hm)
  clear hm HC HP
  obtain ⟨-, c1, -, -⟩ := ps_cells HP1.out
  have lt := heap_lt HP1.out.blk
  have ft := free_of_lit HP1.out.blk
  by_cases hs : signR L k = s
  · have hb : (signR L k == s) = true := beq_iff_eq.2 hs
    have HS := Lib.hid hs
    clear hs
    go_wp2
    go_ret
    exact .inl ⟨HS.out, rfl, HP1.out.set 1 _ rfl rfl rfl⟩
  · have hb : (signR L k == s) = false := beq_eq_false_iff_ne.2 hs
    have HS := Lib.hid hs
    clear hs
    go_wp2
    go_ret
    exact .inr ⟨HS.out, rfl, HP1.out⟩
end
end
section
open Go.ChangeShapes Go.WideShapes Go.ChangeAt Go.RowKit Go.Sort BigFrame
open Go.ChangeMaps (setBlock heap_setBlock_same heap_setBlock_other)
open Go.WideMaps (keyOf_string_mk)

theorem str_beq (a b : List UInt8) : (strOf a == strOf b) = (a == b) := by
  cases h : (a == b) with
  | true =>
    obtain rfl := beq_iff_eq.1 h
    show (strOf a).data == (strOf a).data
    exact beq_iff_eq.2 rfl
  | false =>
    have hne := beq_eq_false_iff_ne.1 h
    show ((strOf a).data == (strOf b).data) = false
    exact beq_eq_false_iff_ne.2 fun e => hne (by simpa [strOf] using congrArg Array.toList e)
abbrev wdVal (w : Wd) : Value := .agg #[.int .u8 w.begins, .int .u8 w.sets, .int .u8 w.compares, .int .u8 w.n]
def wdEntries : Nat → List (List UInt8 × Wd) → List MapEntry
  | _, [] => []
  | i, p :: r => ⟨.string (strOf p.1), wdVal p.2, i⟩ :: wdEntries (i + 1) r
theorem find_none (s : List UInt8) : ∀ (T : List (List UInt8 × Wd)) (i j : Nat), T.find? (fun p => p.1 == s) = none → Instr.findNow .string (.string (strOf s)) (wdEntries j T) i = some none
  | [], _, _, _ => rfl
  | p :: r, i, j, h => by
    rw [List.find?_cons] at h
    cases hp : (p.1 == s) with
    | true => rw [hp] at h; cases h
    | false =>
      rw [hp] at h
      have ih := find_none s r (i + 1) (j + 1) h
      have hs : (strOf s == strOf p.1) = false := by
        rw [str_beq]
        exact beq_eq_false_iff_ne.2 fun e => beq_eq_false_iff_ne.1 hp e.symm
      simp only [wdEntries, Instr.findNow, Instr.sameNow, hs]
      exact ih
theorem find_some (s : List UInt8) (wd : Wd) : ∀ (T : List (List UInt8 × Wd)) (i j : Nat) (nm : List UInt8), T.find? (fun p => p.1 == s) = some (nm, wd) → ∃ k, Instr.findNow .string (.string (strOf s)) (wdEntries j T) i = some (some (k, wdVal wd))
  | [], _, _, _, h => by cases h
  | p :: r, i, j, nm, h => by
    rw [List.find?_cons] at h
    cases hp : (p.1 == s) with
    | true =>
      rw [hp] at h
      simp only [Option.some.injEq] at h
      subst h
      have hs : (strOf s == strOf nm) = true := by
        rw [str_beq]
        exact beq_iff_eq.2 (beq_iff_eq.1 hp).symm
      refine ⟨i, ?_⟩
      simp only [wdEntries, Instr.findNow, Instr.sameNow, hs]
    | false =>
      rw [hp] at h
      obtain ⟨k, ih⟩ := find_some s wd r (i + 1) (j + 1) nm h
      have hs : (strOf s == strOf p.1) = false := by
        rw [str_beq]
        exact beq_eq_false_iff_ne.2 fun e => beq_eq_false_iff_ne.1 hp e.symm
      refine ⟨k, ?_⟩
      simp only [wdEntries, Instr.findNow, Instr.sameNow, hs]
      exact ih
theorem entries_app : ∀ (T : List (List UInt8 × Wd)) (p : List UInt8 × Wd) (i : Nat), wdEntries i (T ++ [p]) = wdEntries i T ++ [⟨.string (strOf p.1), wdVal p.2, i + T.length⟩]
  | [], _, _ => rfl
  | q :: r, p, i => by
    have := entries_app r p (i + 1)
    simp only [wdEntries, List.cons_append, this, List.length_cons]
    rw [show i + 1 + r.length = i + (r.length + 1) by omega]
theorem entries_len : ∀ (T : List (List UInt8 × Wd)) (i : Nat), (wdEntries i T).length = T.length
  | [], _ => rfl
  | _ :: r, i => by simp only [wdEntries, List.length_cons, entries_len r (i + 1)]
/-- A map of the call's own that holds these names. -/
structure MpAt (W : World) (m : Nat) (T : List (List UInt8 × Wd)) (u : World) : Prop where
  made : Made W u
  blk : u.heap[m]? = some (.map (wdEntries 0 T).toArray T.length)
  low : W.heap.size ≤ m
abbrev TMP : TypeId := 83
theorem key_string (s : List UInt8) (hs : s.length ≤ 1000000) : keyOf Tryz.prog 9 (.string (strOf s)) = some (.string s) := keyOf_string_mk Tryz.underlying9 (by show s.toArray.size ≤ maxLen; rw [List.size_toArray]; unfold maxLen; omega)
/-- A name that is not there is put. -/
theorem run_insert {W u : World} {m : Nat} {T : List (List UInt8 × Wd)} (h : MpAt W m T u) (s : List UInt8) (hs : s.length ≤ 1000000) (wd : Wd) (hn : T.find? (fun p => p.1 == s) = none) :
    ∃ u1, (Instr.mapUpdate TMP (.map (some m)) (.string (strOf s)) (wdVal wd)).run Tryz.prog u = .ok () u1 ∧ MpAt W m (T ++ [(s, wd)]) u1 := by
  have K := Maps.string_keyed (P := Tryz.prog) Tryz.underlying9
  have ht := Tryz.underlying83
  refine ⟨setBlock u m (.map ((wdEntries 0 T).toArray.push ⟨.string (strOf s), wdVal wd, T.length⟩) (T.length + 1)), ?_, ?_⟩
  · have hf := MapKept.run_findKey (P := Tryz.prog) (w := u) Tryz.underlying9 (find_none s T 0 0 hn)
    simp [Instr.mapUpdate, run_underlying ht, MapKept.run_getObj_map h.blk, K.check u false (key_string s hs), hf, MapKept.run_setObj_map _ h.blk, Result.andThen, setBlock]
  · refine ⟨?_, ?_, h.low⟩
    · exact ⟨h.made.os, h.made.tape, h.made.output, by rw [show (setBlock u m _).heap.size = u.heap.size from by simp [setBlock]]; exact h.made.size, fun g hg => by rw [heap_setBlock_other h.blk _ (by have := h.low; omega)]; exact h.made.block g hg⟩
    · rw [heap_setBlock_same h.blk, entries_app]
      simp
theorem run_look {W u : World} {m : Nat} {T : List (List UInt8 × Wd)} (h : MpAt W m T u) (s : List UInt8) (hs : s.length ≤ 1000000) (hne : T ≠ []) :
    (Instr.lookup TMP (.map (some m)) (.string (strOf s)) true).run Tryz.prog u = .ok (.tuple #[wdVal (((T.find? fun p => p.1 == s).map (·.2)).getD wdZero), .bool ((T.find? fun p => p.1 == s).map (·.2)).isSome]) u := by
  have K := Maps.string_keyed (P := Tryz.prog) Tryz.underlying9
  have ht := Tryz.underlying83
  have he : (wdEntries 0 T).toArray.isEmpty = false := by
    cases T with
    | nil => exact absurd rfl hne
    | cons p r => rfl
  cases hf : T.find? fun p => p.1 == s with
  | none =>
    have hfk := MapKept.run_findKey (P := Tryz.prog) (w := u) Tryz.underlying9 (find_none s T 0 0 hf)
    simp [Instr.lookup, run_underlying ht, MapKept.run_getObj_map h.blk, he, K.check u false (key_string s hs), hfk, Result.andThen, Tryz.zeroValue81, wdZero]
  | some q =>
    obtain ⟨nm, wd⟩ := q
    obtain ⟨j, hj⟩ := find_some s wd T 0 0 nm hf
    have hfk := MapKept.run_findKey (P := Tryz.prog) (w := u) Tryz.underlying9 hj
    simp [Instr.lookup, run_underlying ht, MapKept.run_getObj_map h.blk, he, K.check u false (key_string s hs), hfk, Result.andThen]
theorem wpList_insert_mp {W u : World} {m : Nat} {T : List (List UInt8 × Wd)} {ops : Array Oper} {rest : List Oper} {o : Oper} {a : Act} {Q : Exit → Act → World → Prop} (hg : o.guard = none) (mo x v : Operand) (hop : o.op = Op.insert TMP mo x v) (s : List UInt8) (wd : Wd) (hm : a.eval mo = .map (some m)) (hx : a.eval x = .string (strOf s)) (hv : a.eval v = wdVal wd) (h : MpAt W m T u)
    (hs : s.length ≤ 1000000) (hn : T.find? (fun p => p.1 == s) = none) (hK : ∀ u1, MpAt W m (T ++ [(s, wd)]) u1 → wpList Tryz.prog ops Q rest (a.put o.dst undef) u1) : wpList Tryz.prog ops Q (o :: rest) a u := by
  refine wpList_plain hg fun K' hK' => ?_
  obtain ⟨u1, hrun, h1⟩ := run_insert h s hs wd hn
  unfold Oper.wp
  simp [execOp, hop, hm, hx, hv, hrun, Result.andThen]
  exact hK' _ _ (hK u1 h1)
section
attribute [local irreducible] World.cell?
set_option maxRecDepth 100000 in
set_option maxHeartbeats 16000000 in
theorem words_any (W w : World) (hm : Made W w) : Calls Tryz.prog 35 #[] w fun e w' => ∃ m, e = .returned (.map (some m)) ∧ MpAt W m wordsT w' := by
  have HM := Lib.hid (show MpAt W w.heap.size [] (w.alloc (.map #[] 0)) from ⟨hm.alloc hm.size _, heap_alloc_new w _, hm.size⟩)
  clear hm
  have hmm := @run_makeMap Tryz.prog
  go_enter Tryz.func35, Tryz.ntmps35
  go_wp2_with (first | (refine wpList_insert_mp rfl _ _ _ rfl [110, 111, 112] ⟨1, 0, 0, 0⟩ rfl rfl rfl HM.out (by decide) (by decide +kernel) ?_; clear HM; intro u1 hM; have HM := Lib.hid hM; clear hM) | (refine wpList_insert_mp rfl _ _ _ rfl [97, 100, 100] ⟨0, 2, 0, 0⟩ rfl rfl rfl HM.out (by decide) (by decide +kernel) ?_; clear HM; intro u1 hM; have HM := Lib.hid hM; clear hM) | (refine wpList_insert_mp rfl _ _ _ rfl [115, 117, 98] ⟨0, 3, 0, 0⟩ rfl rfl rfl HM.out (by decide) (by decide +kernel) ?_; clear HM; intro u1 hM; have HM := Lib.hid hM; clear hM) | (refine wpList_insert_mp rfl _ _ _ rfl [97, 110, 100] ⟨0, 4, 0, 0⟩ rfl rfl rfl HM.out (by decide) (by decide +kernel) ?_; clear HM; intro u1 hM; have HM := Lib.hid hM; clear hM) | (refine wpList_insert_mp rfl _ _ _ rfl [111, 114] ⟨0, 5, 0, 0⟩ rfl rfl rfl HM.out (by decide) (by decide +kernel) ?_; clear HM; intro u1 hM; have HM := Lib.hid hM; clear hM) | (refine wpList_insert_mp rfl _ _ _ rfl [120, 111, 114] ⟨0, 6, 0, 0⟩ rfl rfl rfl HM.out (by decide) (by decide +kernel) ?_; clear HM; intro u1 hM; have HM := Lib.hid hM; clear hM) | (refine wpList_insert_mp rfl _ _ _ rfl [99, 109, 112, 46, 101, 113] ⟨0, 0, 10, 0⟩ rfl rfl rfl HM.out (by decide) (by decide +kernel) ?_; clear HM; intro u1 hM; have HM := Lib.hid hM; clear hM) | (refine wpList_insert_mp rfl _ _ _ rfl [99, 109, 112, 46, 103, 116] ⟨0, 0, 11, 0⟩ rfl rfl rfl HM.out (by decide) (by decide +kernel) ?_; clear HM; intro u1 hM; have HM := Lib.hid hM; clear hM) | (refine wpList_insert_mp rfl _ _ _ rfl [99, 109, 112, 46, 103, 116, 117] ⟨0, 0, 12, 0⟩ rfl rfl rfl HM.out (by decide) (by decide +kernel) ?_; clear HM; intro u1 hM; have HM := Lib.hid hM; clear hM) | (refine wpList_insert_mp rfl _ _ _ rfl [109, 117, 120] ⟨0, 14, 0, 0⟩ rfl rfl rfl HM.out (by decide) (by decide +kernel) ?_; clear HM; intro u1 hM; have HM := Lib.hid hM; clear hM) | (refine wpList_insert_mp rfl _ _ _ rfl [97, 115, 108] ⟨0, 15, 0, 0⟩ rfl rfl rfl HM.out (by decide) (by decide +kernel) ?_; clear HM; intro u1 hM; have HM := Lib.hid hM; clear hM) | (refine wpList_insert_mp rfl _ _ _ rfl [108, 115, 114] ⟨0, 16, 0, 0⟩ rfl rfl rfl HM.out (by decide) (by decide +kernel) ?_; clear HM; intro u1 hM; have HM := Lib.hid hM; clear hM) | (refine wpList_insert_mp rfl _ _ _ rfl [97, 115, 114] ⟨0, 17, 0, 0⟩ rfl rfl rfl HM.out (by decide) (by decide +kernel) ?_; clear HM; intro u1 hM; have HM := Lib.hid hM; clear hM) | (refine wpList_insert_mp rfl _ _ _ rfl [109, 112, 121] ⟨0, 18, 0, 0⟩ rfl rfl rfl HM.out (by decide) (by decide +kernel) ?_; clear HM; intro u1 hM; have HM := Lib.hid hM; clear hM) | (refine wpList_insert_mp rfl _ _ _ rfl [99, 109, 112, 121] ⟨0, 19, 0, 0⟩ rfl rfl rfl HM.out (by decide) (by decide +kernel) ?_; clear HM; intro u1 hM; have HM := Lib.hid hM; clear hM) | (refine wpList_insert_mp rfl _ _ _ rfl [99, 109, 112, 121, 99] ⟨0, 20, 0, 0⟩ rfl rfl rfl HM.out (by decide) (by decide +kernel) ?_; clear HM; intro u1 hM; have HM := Lib.hid hM; clear hM) | (refine wpList_insert_mp rfl _ _ _ rfl [109, 101, 109, 119] ⟨24, 21, 0, 0⟩ rfl rfl rfl HM.out (by decide) (by decide +kernel) ?_; clear HM; intro u1 hM; have HM := Lib.hid hM; clear hM) | (refine wpList_insert_mp rfl _ _ _ rfl [109, 101, 109, 104] ⟨25, 22, 0, 0⟩ rfl rfl rfl HM.out (by decide) (by decide +kernel) ?_; clear HM; intro u1 hM; have HM := Lib.hid hM; clear hM) | (refine wpList_insert_mp rfl _ _ _ rfl [109, 101, 109, 98] ⟨26, 23, 0, 0⟩ rfl rfl rfl HM.out (by decide) (by decide +kernel) ?_; clear HM; intro u1 hM; have HM := Lib.hid hM; clear hM) | (refine wpList_insert_mp rfl _ _ _ rfl [106, 117, 109, 112] ⟨27, 0, 0, 0⟩ rfl rfl rfl HM.out (by decide) (by decide +kernel) ?_; clear HM; intro u1 hM; have HM := Lib.hid hM; clear hM) | (refine wpList_insert_mp rfl _ _ _ rfl [106, 117, 109, 112, 114] ⟨28, 0, 0, 0⟩ rfl rfl rfl HM.out (by decide) (by decide +kernel) ?_; clear HM; intro u1 hM; have HM := Lib.hid hM; clear hM) | (refine wpList_insert_mp rfl _ _ _ rfl [99, 97, 108, 108] ⟨29, 0, 0, 0⟩ rfl rfl rfl HM.out (by decide) (by decide +kernel) ?_; clear HM; intro u1 hM; have HM := Lib.hid hM; clear hM) | (refine wpList_insert_mp rfl _ _ _ rfl [108, 111, 111, 112, 48] ⟨30, 0, 0, 0⟩ rfl rfl rfl HM.out (by decide) (by decide +kernel) ?_; clear HM; intro u1 hM; have HM := Lib.hid hM; clear hM) | (refine wpList_insert_mp rfl _ _ _ rfl [108, 111, 111, 112, 49] ⟨30, 0, 0, 1⟩ rfl rfl rfl HM.out (by decide) (by decide +kernel) ?_; clear HM; intro u1 hM; have HM := Lib.hid hM; clear hM) | (refine wpList_insert_mp rfl _ _ _ rfl [105, 102] ⟨0, 0, 0, 0⟩ rfl rfl rfl HM.out (by decide) (by decide +kernel) ?_; clear HM; intro u1 hM; have HM := Lib.hid hM; clear hM) | (refine wpList_insert_mp rfl _ _ _ rfl [99, 111, 100, 101] ⟨0, 0, 0, 0⟩ rfl rfl rfl HM.out (by decide) (by decide +kernel) ?_; clear HM; intro u1 hM; have HM := Lib.hid hM; clear hM) | (refine wpList_insert_mp rfl _ _ _ rfl [100, 97, 116, 97] ⟨0, 0, 0, 0⟩ rfl rfl rfl HM.out (by decide) (by decide +kernel) ?_; clear HM; intro u1 hM; have HM := Lib.hid hM; clear hM))
  go_ret
  exact ⟨_, rfl, HM.out⟩
end
end
section
open Go.ChangeShapes Go.WideShapes Go.ChangeAt Go.RowKit Go.Sort BigFrame

/-- The variables that hold the two errors of strconv. -/
def Errs (W : World) : Prop := (∃ te pe, W.cell? ⟨1, 0, none⟩ = some (.iface te pe)) ∧ ∃ te pe, W.cell? ⟨2, 0, none⟩ = some (.iface te pe)
theorem cell_made {W w : World} (hm : Made W w) {g j : Nat} {v : Value} (h : W.cell? ⟨g, j, none⟩ = some v) : w.cell? ⟨g, j, none⟩ = some v := (World.cell?_of_block (hm.block g (World.block_lt_of_cell? W _ h))).trans h
theorem Errs.next {W w : World} (h : Errs W) (hm : Made W w) : Errs w := ⟨let ⟨a, b, c⟩ := h.1; ⟨a, b, cell_made hm c⟩, let ⟨a, b, c⟩ := h.2; ⟨a, b, cell_made hm c⟩⟩
theorem strOf_list (l : List UInt8) : (strOf l).data.toList = l := rfl
theorem strOf_size (l : List UInt8) : (strOf l).size = l.length := rfl
theorem atoi_any (s : List UInt8) (hs : s.length ≤ 100000) (W w : World) (hE : Errs W) (hm : Made W w) : Calls Tryz.prog 118 #[.string (strOf s)] w fun e w' => Made W w' ∧ ((∃ v, Lib.atoiAll s = .ok v ∧ -9223372036854775808 ≤ v ∧ v ≤ 9223372036854775807 ∧ e = .returned (.tuple #[.int .i64 v, .nilIface])) ∨ ((∀ v, Lib.atoiAll s ≠ .ok v) ∧ ∃ v t p, e = .returned (.tuple #[.int .i64 v, .iface t p]))) := by
  have hz : (strOf s).size ≤ 100000 := hs
  obtain ⟨⟨t1, p1, h1⟩, t2, p2, h2⟩ := hE.next hm
  cases h : Lib.atoiAll s with
  | ok v =>
    refine (sh_strconv_Atoi_ok (strOf s) (by omega) v h w).mono ?_
    rintro e w' ⟨rfl, hw⟩
    have hb := Lib.atoiAll_bounds h
    refine ⟨?_, .inl ⟨v, rfl, hb.1, hb.2, rfl⟩⟩
    rcases hw with rfl | ⟨t, rfl⟩
    · exact hm
    · exact Made.trans hm (Lib.bytesWorld_below _ _ _)
  | «syntax» =>
    refine (sh_strconv_Atoi_syntax (strOf s) (by omega) h _ w h1 (.inr ⟨_, _, rfl⟩)).mono ?_
    rintro e w' ⟨N, rfl, -, -, hw⟩
    exact ⟨Made.trans hm hw, .inr ⟨(by intro v hv; cases hv), _, _, _, rfl⟩⟩
  | range =>
    refine (sh_strconv_Atoi_range (strOf s) (by omega) h _ w h2 (.inr ⟨_, _, rfl⟩)).mono ?_
    rintro e w' ⟨N, rfl, -, -, hw⟩
    exact ⟨Made.trans hm hw, .inr ⟨(by intro v hv; cases hv), _, _, _, rfl⟩⟩
/-! Small numbers. -/
theorem dec_num : ∀ n, n < 100 → numR (Lib.decDigits n) = (n : Int) ∧ Lib.atoiAll (Lib.decDigits n) = .ok (n : Int) := by decide +kernel
theorem dec_two : ∀ a, a < 256 → ∀ b, b < 256 → (0 ≤ numR [UInt8.ofNat a, UInt8.ofNat b] → Lib.decDigits (numR [UInt8.ofNat a, UInt8.ofNat b]).toNat = [UInt8.ofNat a, UInt8.ofNat b]) := by decide +kernel
theorem dec_one : ∀ a, a < 256 → (0 ≤ numR [UInt8.ofNat a] → Lib.decDigits (numR [UInt8.ofNat a]).toNat = [UInt8.ofNat a]) := by decide +kernel
theorem num_back (d : List UInt8) (h : 0 ≤ numR d) : Lib.decDigits (numR d).toNat = d := by
  cases d with
  | nil => exact absurd h (by decide)
  | cons a r => cases r with
    | nil =>
      have := dec_one a.toNat (UInt8.toNat_lt a)
      rw [UInt8.ofNat_toNat] at this
      exact this h
    | cons b r => cases r with
      | nil =>
        have := dec_two a.toNat (UInt8.toNat_lt a) b.toNat (UInt8.toNat_lt b)
        rw [UInt8.ofNat_toNat, UInt8.ofNat_toNat] at this
        exact this h
      | cons c r => exact absurd h (by simp [numR])
/-- A number that is told, is below a bound and is written so. -/
theorem num_told {d : List UInt8} {v : Int} (h : Lib.atoiAll d = .ok v) (h0 : 0 ≤ v) (h1 : v < 100) : (Lib.decDigits v.toNat = d) ↔ numR d = v := by
  obtain ⟨n, rfl⟩ := Int.eq_ofNat_of_zero_le h0
  obtain ⟨e1, e2⟩ := dec_num n (by omega)
  constructor
  · intro e
    rw [← e]
    exact e1
  · intro e
    have := num_back d (by omega)
    rwa [e] at this
theorem num_untold {d : List UInt8} (h : ∀ v, Lib.atoiAll d ≠ .ok v) : numR d < 0 := by
  refine Int.not_le.1 fun h0 => ?_
  have hb := num_back d h0
  have h9 := (num_small d).2
  obtain ⟨e1, e2⟩ := dec_num (numR d).toNat (by omega)
  rw [hb] at e2
  exact h _ e2
theorem num_other {d : List UInt8} {v : Int} (h : Lib.atoiAll d = .ok v) (h2 : v < 0 ∨ 100 ≤ v) : numR d < 0 := by
  refine Int.not_le.1 fun h0 => ?_
  have hb := num_back d h0
  have h9 := (num_small d).2
  obtain ⟨e1, e2⟩ := dec_num (numR d).toNat (by omega)
  rw [hb, h] at e2
  have : v = ((numR d).toNat : Int) := by simpa using e2
  omega
/-- A number, or none. -/
def numTup (z : Int) : Value := .tuple #[.int .u8 (if 0 ≤ z then z else 0), .bool (decide (0 ≤ z))]
theorem tup_some {z v : Int} (h : z = v) (h0 : 0 ≤ v) : numTup z = .tuple #[.int .u8 v, .bool true] := by subst h; unfold numTup; rw [if_pos h0, decide_eq_true h0]
theorem tup_none {z : Int} (h : z < 0) : numTup z = .tuple #[.int .u8 0, .bool false] := by
  unfold numTup
  rw [if_neg (by omega), decide_eq_false (by omega)]
theorem named_cut (c : UInt8) (b : Int) (l : List UInt8) : namedR c b l = if Lib.hasPrefix l [c] = true then (if b ≤ numR (Lib.trimPrefix l [c]) then -1 else numR (Lib.trimPrefix l [c])) else -1 := by
  cases l with
  | nil => rfl
  | cons x r =>
    simp only [namedR, Lib.trimPrefix, Lib.hasPrefix]
    by_cases h : x = c
    · subst h
      simp [List.isPrefixOf]
    · have : (c == x) = false := beq_eq_false_iff_ne.2 fun e => h e.symm
      simp [List.isPrefixOf, this, h]
section
attribute [local irreducible] World.cell?
set_option maxRecDepth 100000 in
set_option maxHeartbeats 8000000 in
theorem numbered_any (l : List UInt8) (hl : l.length ≤ 100000) (c : UInt8) (b : Int) (hb : 0 < b) (hb2 : b ≤ 32) (W : World) (hE : Errs W) : Makes Tryz.prog W 61 #[.string (strOf l), .string ⟨#[c]⟩, .int .i64 b] (numTup (namedR c b l)) := by
  intro w hm
  have HC := Lib.hid (sh_strings_CutPrefix (strOf l) ⟨#[c]⟩ w)
  have HN := Lib.hid (named_cut c b l)
  obtain ⟨d, hd⟩ : ∃ d, Lib.trimPrefix l [c] = d := ⟨_, rfl⟩
  have hdl : d.length ≤ 100000 := by
    rw [← hd]
    unfold Lib.trimPrefix
    split
    · rw [List.length_drop]; omega
    · exact hl
  have HD := Lib.hid (show (⟨(Lib.trimPrefix (strOf l).data.toList (⟨#[c]⟩ : ByteArray).data.toList).toArray⟩ : ByteArray) = strOf d from by rw [← hd])
  obtain ⟨q, hq⟩ : ∃ q, Lib.hasPrefix l [c] = q := ⟨_, rfl⟩
  have HQ := Lib.hid (show Lib.hasPrefix (strOf l).data.toList (⟨#[c]⟩ : ByteArray).data.toList = q from hq)
  have HNN := Lib.hid (show namedR c b l = if q = true then (if b ≤ numR d then -1 else numR d) else -1 by rw [HN.out, hd, hq])
  have HA := Lib.hid (atoi_any d hdl W w hE hm)
  have HM := Lib.hid hm
  have HI := Lib.hid (fun (v : Nat) (hv : v < 100) (w : World) => sh_strconv_Itoa_small v hv w)
  clear HN hd hq hm
  go_enter Tryz.func61, Tryz.ntmps61
  go_wp2_with (fail)
  refine HC.out.mono ?_
  rintro e w' ⟨rfl, rfl⟩
  rewrite [HD.out, HQ.out]
  clear HC HD HQ
  cases q with
  | false =>
    have HE := Lib.hid (tup_none (show namedR c b l < 0 by rw [HNN.out]; simp))
    clear HNN
    go_wp2
    go_ret2
    exact ⟨congrArg Ending.returned HE.out.symm, HM.out⟩
  | true =>
    have HN2 := Lib.hid (show namedR c b l = if b ≤ numR d then -1 else numR d by rw [HNN.out, if_pos rfl])
    clear HNN
    go_wp2_with (fail)
    refine HA.out.mono ?_
    rintro e w2 ⟨hm2, hways⟩
    have M2 := Lib.hid hm2
    clear hm2 HA
    rcases hways with ⟨v, hv, v0, v1, rfl⟩ | ⟨hv, v, t, p, rfl⟩
    · have HV := Lib.hid hv
      clear hv
      by_cases h0 : v < 0
      · have HE := Lib.hid (tup_none (show namedR c b l < 0 by rw [HN2.out]; have := num_other HV.out (.inl h0); split <;> omega))
        clear HN2 HV
        go_wp2
        go_ret2
        exact ⟨congrArg Ending.returned HE.out.symm, M2.out⟩
      · by_cases h1 : b ≤ v
        · have HE := Lib.hid (tup_none (show namedR c b l < 0 by
            rw [HN2.out]
            split
            · omega
            · by_cases h9 : v < 100
              · have h5 := num_small d
                refine Int.not_le.1 fun h6 => ?_
                have h7 := num_back d h6
                obtain ⟨-, e2⟩ := dec_num (numR d).toNat (by omega)
                rw [h7, HV.out] at e2
                have : v = ((numR d).toNat : Int) := by simpa using e2
                omega
              · exact num_other HV.out (.inr (by omega))))
          have h0' : 0 ≤ v := by omega
          clear HN2 HV h0
          go_wp2
          go_ret2
          exact ⟨congrArg Ending.returned HE.out.symm, M2.out⟩
        · obtain ⟨n, rfl⟩ := Int.eq_ofNat_of_zero_le (show 0 ≤ v by omega)
          have HT := Lib.hid (num_told HV.out (by omega) (by omega))
          have h1' : (n : Int) < b := by omega
          have h2' : (0 : Int) ≤ (n : Int) := by omega
          have hn9 : n < 100 := by omega
          have h256 : (n : Int) ≤ 255 := by omega
          clear h0 h1
          by_cases hd : Lib.decDigits n = d
          · have HE := Lib.hid (tup_some (show namedR c b l = (n : Int) by rw [HN2.out, HT.out.1 hd, if_neg (by omega)]) h2')
            have hbd : (Lib.decDigits n == d) = true := beq_iff_eq.2 hd
            clear HN2 HT HV hd
            go_wp2_with (go_at_call 119; refine (HI.out n hn9 _).mono ?_; rintro e w3 ⟨rfl, rfl⟩)
            go_ret2
            exact ⟨congrArg Ending.returned HE.out.symm, M2.out⟩
          · have HE := Lib.hid (tup_none (show namedR c b l < 0 by
              rw [HN2.out]
              split
              · omega
              · rename_i h8
                refine Int.not_le.1 fun h6 => ?_
                have h7 := num_back d h6
                obtain ⟨-, e2⟩ := dec_num (numR d).toNat (by have := num_small d; omega)
                rw [h7, HV.out] at e2
                have h5 : (n : Int) = ((numR d).toNat : Int) := by simpa using e2
                exact hd (HT.out.2 (by omega))))
            have hbd : (Lib.decDigits n == d) = false := beq_eq_false_iff_ne.2 hd
            clear HN2 HT HV hd
            go_wp2_with (go_at_call 119; refine (HI.out n hn9 _).mono ?_; rintro e w3 ⟨rfl, rfl⟩)
            go_ret2
            exact ⟨congrArg Ending.returned HE.out.symm, M2.out⟩
    · have HE := Lib.hid (tup_none (show namedR c b l < 0 by rw [HN2.out]; have := num_untold hv; split <;> omega))
      clear HN2 hv
      go_wp2
      go_ret2
      exact ⟨congrArg Ending.returned HE.out.symm, M2.out⟩
set_option maxRecDepth 100000 in
set_option maxHeartbeats 8000000 in
theorem register_of (l : List UInt8) (hl : l.length ≤ 100000) (W : World) (hE : Errs W) : Makes Tryz.prog W 37 #[.string (strOf l)] (numTup (namedR 114 32 l)) := by
  intro w hm
  have HC := Lib.hid (numbered_any l hl 114 32 (by decide) (by decide) W hE w hm)
  clear hm hE
  go_enter Tryz.func37, Tryz.ntmps37
  go_wp2_with (fail)
  refine HC.out.mono ?_
  rintro e w' ⟨rfl, hm⟩
  have M := Lib.hid hm
  obtain ⟨v, b, hv⟩ : ∃ v b, numTup (namedR 114 32 l) = .tuple #[.int .u8 v, .bool b] := ⟨_, _, rfl⟩
  have HV := Lib.hid hv
  rewrite [hv]
  clear hm HC hv
  go_wp2
  go_ret2
  exact ⟨congrArg Ending.returned HV.out.symm, M.out⟩
set_option maxRecDepth 100000 in
set_option maxHeartbeats 8000000 in
theorem predicate_of (l : List UInt8) (hl : l.length ≤ 100000) (W : World) (hE : Errs W) : Makes Tryz.prog W 38 #[.string (strOf l)] (numTup (namedR 112 4 l)) := by
  intro w hm
  have HC := Lib.hid (numbered_any l hl 112 4 (by decide) (by decide) W hE w hm)
  clear hm hE
  go_enter Tryz.func38, Tryz.ntmps38
  go_wp2_with (fail)
  refine HC.out.mono ?_
  rintro e w' ⟨rfl, hm⟩
  have M := Lib.hid hm
  obtain ⟨v, b, hv⟩ : ∃ v b, numTup (namedR 112 4 l) = .tuple #[.int .u8 v, .bool b] := ⟨_, _, rfl⟩
  have HV := Lib.hid hv
  rewrite [hv]
  clear hm HC hv
  go_wp2
  go_ret2
  exact ⟨congrArg Ending.returned HV.out.symm, M.out⟩
/-- A name without .new, and whether it had it. -/
theorem bare_cut (l : List UInt8) : Lib.trimSuffix l [46, 110, 101, 119] = (bareR l).1 ∧ Lib.hasSuffix l [46, 110, 101, 119] = (bareR l).2 := by
  have h : Lib.hasSuffix l [46, 110, 101, 119] = decide (4 ≤ l.length ∧ l.drop (l.length - 4) = [46, 110, 101, 119]) := by
    unfold Lib.hasSuffix
    rw [Bool.eq_iff_iff, List.isSuffixOf_iff_suffix, decide_eq_true_eq, List.suffix_iff_eq_drop]
    constructor
    · intro e
      have hlen := congrArg List.length e
      rw [List.length_drop] at hlen
      simp only [List.length_cons, List.length_nil] at hlen e
      exact ⟨by omega, e.symm⟩
    · rintro ⟨-, e⟩
      exact e.symm
  unfold Lib.trimSuffix
  rw [h]
  unfold bareR
  by_cases hc : 4 ≤ l.length ∧ l.drop (l.length - 4) = [46, 110, 101, 119]
  · rw [if_pos hc, decide_eq_true hc]
    exact ⟨rfl, rfl⟩
  · rw [if_neg hc, decide_eq_false hc]
    exact ⟨rfl, rfl⟩
theorem bare_any (l : List UInt8) (hl : l.length ≤ 100000) (w : World) : Calls Tryz.prog 36 #[.string (strOf l), .string ⟨#[46, 110, 101, 119]⟩] w fun e w' => e = .returned (.tuple #[.string (strOf (bareR l).1), .bool (bareR l).2]) ∧ w' = w := by
  have hz : (strOf l).size ≤ 100000 := hl
  refine (sh_strings_CutSuffix (strOf l) ⟨#[46, 110, 101, 119]⟩ w (by omega)).mono ?_
  rintro e w' ⟨rfl, rfl⟩
  obtain ⟨e1, e2⟩ := bare_cut l
  refine ⟨?_, rfl⟩
  rw [← e1, ← e2]
theorem bare_len (l : List UInt8) : (bareR l).1.length ≤ l.length := by
  unfold bareR
  split
  · rw [List.length_take]; omega
  · exact Nat.le_refl _
end
end
end Go.Proofs.YtnfmlmamgkpocaaGreatDoor
