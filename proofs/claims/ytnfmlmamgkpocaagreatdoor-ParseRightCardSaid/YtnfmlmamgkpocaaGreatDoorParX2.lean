/- What expect, take, register, predicate, choose and expression of package parse do; conditions: the tokens are at most 5000, none longer than 100000; the table of names and strconv's errors stand where their variables lie. -/
import Derived.Test.YtnfmlmamgkpocaaGreatDoorGParX
import Derived.Test.YtnfmlmamgkpocaaGreatDoorGParF
import Derived.Test.YtnfmlmamgkpocaaGreatDoorGOf
import Derived.Test.YtnfmlmamgkpocaaGreatDoorGExprXP
namespace Go.Proofs.YtnfmlmamgkpocaaGreatDoor
open Go.ChangeShapes Go.WideShapes Go.ChangeAt Go.RowKit Go.Sort BigFrame

/-- What every step asks of the world in which Inst began. -/
structure PW (W : BW) (lo : Option Addr) (cap : Nat) (L : List Tk) : Prop where
  toks : Toks W.w lo cap L
  names : Names W.w
  errs : Errs W.w
  few : L.length ≤ 5000
  short : ∀ t ∈ L, t.text.length ≤ 100000
theorem names_next {W w : World} (h : Names W) (hm : Made W w) : Names w := let ⟨T, fr, e⟩ := h; ⟨T, fr, hm.heap e⟩
theorem name_short {W : BW} {lo : Option Addr} {cap : Nat} {L : List Tk} (h : PW W lo cap L) (k : Nat) : (nameR L k).length ≤ 100000 := by
  unfold nameR
  cases hx : L[k]? with
  | none => simp
  | some t =>
    have := h.short t (List.mem_of_getElem? hx)
    simp only []
    split
    · exact this
    · simp
/-- What take does. -/
def takeP (z : Int) (k : Nat) (x : Ln) : PR := if 0 ≤ z then .ok (k + 1) x else .bad k 8
theorem take_reg (L : List Tk) (f : Ln → Int → Ln) (k : Nat) (x : Ln) : regP L f k x = (takeP (regZ L k) k x).bind fun a x => .ok a (f x (regZ L k)) := by unfold regP takeP; split <;> rfl
theorem take_pred (L : List Tk) (f : Ln → Int → Ln) (k : Nat) (x : Ln) : predP L f k x = (takeP (predZ L k) k x).bind fun a x => .ok a (f x (predZ L k)) := by unfold predP takeP; split <;> rfl
abbrev pChain (w : Int) : List PanicEntry := [{ v := .iface TER (.int .i64 w), recovered := false }]
section
attribute [local irreducible] World.cell?
variable {W : BW} {lo : Option Addr} {cap b : Nat} {L : List Tk} {x : Ln} {vo : Option Addr} {vc : Nat} {co : Option Addr} {cc : Nat}
/-- What a step tells that leaves the two lists where they lie. -/
def SPost (W : BW) (lo : Option Addr) (n cap b : Nat) (vo : Option Addr) (vc : Nat) (co : Option Addr) (cc : Nat) (rv : Value) (r : PR) (e : Ending) (u : World) : Prop :=
  match r with
  | .ok k x => k ≤ n ∧ e = .returned rv ∧ PSx W lo n cap b (k : Nat) x vo vc co cc u
  | .bad k w => k ≤ n ∧ e = .panicked (pChain w) ∧ ∃ x, PAt W lo n cap b (k : Nat) x u
theorem step_ok {n k : Nat} {rv : Value} {r : PR} {u : World} (h : r = .ok k x) (hk : k ≤ n) (hp : PSx W lo n cap b (k : Nat) x vo vc co cc u) : SPost W lo n cap b vo vc co cc rv r (.returned rv) u := by subst h; exact ⟨hk, rfl, hp⟩
theorem step_bad {n k : Nat} {w : Int} {rv : Value} {r : PR} {u : World} (h : r = .bad k w) (hk : k ≤ n) (hp : PSx W lo n cap b (k : Nat) x vo vc co cc u) : SPost W lo n cap b vo vc co cc rv r (.panicked (pChain w)) u := by subst h; exact ⟨hk, rfl, _, _, _, _, _, hp⟩
set_option maxRecDepth 100000 in
set_option maxHeartbeats 8000000 in
theorem expect_any (hW : PW W lo cap L) (k : Nat) (hk : k ≤ L.length) (s : List UInt8) (hs : s ≠ []) (u : World) (hP : PSx W lo L.length cap b k x vo vc co cc u) : Calls Tryz.prog 92 #[psPtr b, .string (strOf s)] u (SPost W lo L.length cap b vo vc co cc (.tuple #[]) (signP L s k x)) := by
  have HC := Lib.hid (accept_any hW.toks k hk (by have := hW.few; omega) s u hP)
  clear hP
  go_enter Tryz.func92, Tryz.ntmps92
  go_wp2_with (fail)
  refine HC.out.mono ?_
  rintro e w' (⟨hs1, rfl, hp⟩ | ⟨hs1, rfl, hp⟩)
  · have HP := Lib.hid hp
    have HR := Lib.hid (show signP L s k x = .ok (k + 1) x from if_pos hs1)
    have hlt : k + 1 ≤ L.length := signR_lt (by rw [hs1]; exact hs)
    clear HC hs1 hp
    go_wp2
    go_end0
    exact step_ok HR.out hlt HP.out
  · have HP := Lib.hid hp
    have HR := Lib.hid (show signP L s k x = .bad k 8 from if_neg hs1)
    clear HC hs1 hp
    go_wp2
    exact ⟨rfl, step_bad HR.out hk HP.out⟩
set_option maxRecDepth 100000 in
set_option maxHeartbeats 8000000 in
theorem takeN_any (hL : L.length ≤ 5000) (k : Nat) (hk : k ≤ L.length) (z : Int) (hz : 0 ≤ z → k < L.length) (u : World) (hP : PSx W lo L.length cap b k x vo vc co cc u) : Calls Tryz.prog 94 #[psPtr b, .int .u8 (if 0 ≤ z then z else 0), .bool (decide (0 ≤ z))] u (SPost W lo L.length cap b vo vc co cc (.int .u8 z) (takeP (z) k x)) := by
  have HP := Lib.hid hP
  obtain ⟨-, c1, -, -⟩ := ps_cells hP
  have lt := heap_lt hP.blk
  have ft := free_of_lit hP.blk
  have hk1 : (k : Int) + 1 ≤ 5001 := by omega
  clear hP
  by_cases h0 : 0 ≤ z
  · have HR := Lib.hid (show takeP (z) k x = .ok (k + 1) x from if_pos h0)
    have hlt := hz h0
    rewrite [if_pos h0, decide_eq_true h0]
    clear h0 hz
    go_enter Tryz.func94, Tryz.ntmps94
    go_wp2
    go_ret
    exact step_ok HR.out hlt (HP.out.set 1 _ rfl rfl rfl)
  · have HR := Lib.hid (show takeP (z) k x = .bad k 8 from if_neg h0)
    rewrite [if_neg h0, decide_eq_false h0]
    clear h0 hz
    go_enter Tryz.func94, Tryz.ntmps94
    go_wp2
    exact ⟨rfl, step_bad HR.out hk HP.out⟩
set_option maxRecDepth 100000 in
set_option maxHeartbeats 8000000 in
theorem register_any (hW : PW W lo cap L) (k : Nat) (hk : k ≤ L.length) (u : World) (hP : PSx W lo L.length cap b k x vo vc co cc u) : Calls Tryz.prog 148 #[psPtr b] u (SPost W lo L.length cap b vo vc co cc (.int .u8 (regZ L k)) (takeP (regZ L k) k x)) := by
  have HC := Lib.hid (name_any hW.toks k hk u hP u (Made.refl u))
  have HO := Lib.hid (register_of (nameR L k) (name_short hW k) u (hW.errs.next hP.made))
  have HT := Lib.hid (fun u1 (h : Made u u1) => takeN_any hW.few k hk (regZ L k) (fun h => nameR_lt (named_ne h)) u1 (hP.next h))
  clear hP
  go_enter Tryz.func148, Tryz.ntmps148
  go_wp2_with (fail)
  refine HC.out.mono ?_
  rintro e w1 ⟨rfl, m1⟩
  have M1 := Lib.hid m1
  clear m1 HC
  go_wp2_with (fail)
  refine (HO.out w1 M1.out).mono ?_
  rintro e w2 ⟨rfl, m2⟩
  have HT2 := Lib.hid (HT.out w2 m2)
  have hv : numTup (namedR 114 32 (nameR L k)) = .tuple #[.int .u8 (if 0 ≤ regZ L k then regZ L k else 0), .bool (decide (0 ≤ regZ L k))] := rfl
  obtain ⟨v, hvv⟩ : ∃ v, (if 0 ≤ regZ L k then regZ L k else 0) = v := ⟨_, rfl⟩
  obtain ⟨q, hq⟩ : ∃ q, decide (0 ≤ regZ L k) = q := ⟨_, rfl⟩
  rewrite [hvv, hq] at hv HT2
  rewrite [hv]
  clear hv m2 hvv hq HO HT
  go_wp2_with (fail)
  refine HT2.out.mono ?_
  intro e w3 h3
  have H3 := Lib.hid h3
  clear h3 HT2
  by_cases h0 : 0 ≤ regZ L k
  · have HR := Lib.hid (show takeP (regZ L k) k x = .ok (k + 1) x from if_pos h0)
    obtain ⟨hk3, rfl, hp3⟩ : _ ∧ _ ∧ _ := by have h := H3.out; rw [HR.out] at h; exact h
    have HP3 := Lib.hid hp3
    clear hp3 H3 h0
    go_wp2
    go_ret
    exact step_ok HR.out hk3 HP3.out
  · have HR := Lib.hid (show takeP (regZ L k) k x = .bad k 8 from if_neg h0)
    obtain ⟨hk3, rfl, hp3⟩ : _ ∧ _ ∧ _ := by have h := H3.out; rw [HR.out] at h; exact h
    have HP3 := Lib.hid hp3
    clear hp3 H3 h0
    go_wp2
    exact ⟨rfl, by rw [HR.out]; exact ⟨hk3, rfl, HP3.out⟩⟩
set_option maxRecDepth 100000 in
set_option maxHeartbeats 8000000 in
theorem predicate_any (hW : PW W lo cap L) (k : Nat) (hk : k ≤ L.length) (u : World) (hP : PSx W lo L.length cap b k x vo vc co cc u) : Calls Tryz.prog 184 #[psPtr b] u (SPost W lo L.length cap b vo vc co cc (.int .u8 (predZ L k)) (takeP (predZ L k) k x)) := by
  have HC := Lib.hid (name_any hW.toks k hk u hP u (Made.refl u))
  have HO := Lib.hid (predicate_of (nameR L k) (name_short hW k) u (hW.errs.next hP.made))
  have HT := Lib.hid (fun u1 (h : Made u u1) => takeN_any hW.few k hk (predZ L k) (fun h => nameR_lt (named_ne h)) u1 (hP.next h))
  clear hP
  go_enter Tryz.func184, Tryz.ntmps184
  go_wp2_with (fail)
  refine HC.out.mono ?_
  rintro e w1 ⟨rfl, m1⟩
  have M1 := Lib.hid m1
  clear m1 HC
  go_wp2_with (fail)
  refine (HO.out w1 M1.out).mono ?_
  rintro e w2 ⟨rfl, m2⟩
  have HT2 := Lib.hid (HT.out w2 m2)
  have hv : numTup (namedR 112 4 (nameR L k)) = .tuple #[.int .u8 (if 0 ≤ predZ L k then predZ L k else 0), .bool (decide (0 ≤ predZ L k))] := rfl
  obtain ⟨v, hvv⟩ : ∃ v, (if 0 ≤ predZ L k then predZ L k else 0) = v := ⟨_, rfl⟩
  obtain ⟨q, hq⟩ : ∃ q, decide (0 ≤ predZ L k) = q := ⟨_, rfl⟩
  rewrite [hvv, hq] at hv HT2
  rewrite [hv]
  clear hv m2 hvv hq HO HT
  go_wp2_with (fail)
  refine HT2.out.mono ?_
  intro e w3 h3
  have H3 := Lib.hid h3
  clear h3 HT2
  by_cases h0 : 0 ≤ predZ L k
  · have HR := Lib.hid (show takeP (predZ L k) k x = .ok (k + 1) x from if_pos h0)
    obtain ⟨hk3, rfl, hp3⟩ : _ ∧ _ ∧ _ := by have h := H3.out; rw [HR.out] at h; exact h
    have HP3 := Lib.hid hp3
    clear hp3 H3 h0
    go_wp2
    go_ret
    exact step_ok HR.out hk3 HP3.out
  · have HR := Lib.hid (show takeP (predZ L k) k x = .bad k 8 from if_neg h0)
    obtain ⟨hk3, rfl, hp3⟩ : _ ∧ _ ∧ _ := by have h := H3.out; rw [HR.out] at h; exact h
    have HP3 := Lib.hid hp3
    clear hp3 H3 h0
    go_wp2
    exact ⟨rfl, by rw [HR.out]; exact ⟨hk3, rfl, HP3.out⟩⟩
theorem hasM_at : ∀ n : Nat, n < 32 → atB (opN (n : Int)) 1 = hasM (n : Int) := by decide +kernel
set_option maxRecDepth 100000 in
set_option maxHeartbeats 8000000 in
theorem choose_any (hW : PW W lo cap L) (k : Nat) (hk : k ≤ L.length) (op : Nat) (hop : op < 32) (u : World) (hP : PSx W lo L.length cap b k x vo vc co cc u) : Calls Tryz.prog 97 #[psPtr b, .int .u8 (op : Int)] u (SPost W lo L.length cap b vo vc co cc (.tuple #[]) (chooseP op k x)) := by
  have HC := Lib.hid (at_any u (names_next hW.names hP.made) (op : Int) 1 (by omega) u (Made.refl u))
  have HP := Lib.hid (fun u1 (h : Made u u1) => hP.next h)
  have HH := Lib.hid (hasM_at op hop)
  have hb0 : (op : Int) ≤ 255 := by omega
  clear hP hop
  go_enter Tryz.func97, Tryz.ntmps97
  go_wp2_with (fail)
  refine HC.out.mono ?_
  rintro e w1 ⟨rfl, m1⟩
  have M1 := Lib.hid m1
  have HP1 := Lib.hid (HP.out w1 m1)
  obtain ⟨-, -, c2, c8⟩ := ps_cells HP1.out
  have lt := heap_lt HP1.out.blk
  have ft := free_of_lit HP1.out.blk
  obtain ⟨q, hq⟩ : ∃ q, hasM (op : Int) = q := ⟨_, rfl⟩
  have HQ := Lib.hid hq
  have hh := HH.out
  rewrite [hq] at hh
  rewrite [hh]
  clear m1 HC HP hh hq HH
  have HA := Lib.hid (fun (o : Obj) (y : Ln) (u1 : World) (h : PSx W lo L.length cap b (k : Nat) y vo vc co cc u1) => h.next (by exact (Made.refl u1).alloc (Nat.le_refl _) o))
  by_cases h0 : (op : Int) = 0
  · have hb : ((op : Int) == 0) = true := beq_iff_eq.2 h0
    have HR := Lib.hid (show chooseP (op : Int) k x = .bad k 8 from if_pos (.inl h0))
    clear h0
    go_wp2
    exact ⟨rfl, step_bad HR.out hk (HA.out _ _ _ HP1.out)⟩
  · have hb : ((op : Int) == 0) = false := beq_eq_false_iff_ne.2 h0
    by_cases hm : x.mode = 0
    · have hbm : (x.mode != 0) = false := bne_eq_false_iff_eq.2 hm
      have HR := Lib.hid (show chooseP (op : Int) k x = .ok k (pSetOp x op) from if_neg fun h => h.elim h0 fun h => h.1 hm)
      clear h0 hm
      go_wp2
      go_end0
      exact step_ok HR.out hk (HA.out _ _ _ (HP1.out.set 2 _ rfl rfl rfl))
    · have hbm : (x.mode != 0) = true := bne_iff_ne.2 hm
      cases q with
      | true =>
        have HR := Lib.hid (show chooseP (op : Int) k x = .ok k (pSetOp x op) from if_neg fun h => h.elim h0 fun h => by have h2 := h.2; rw [HQ.out] at h2; cases h2)
        clear h0 hm
        go_wp2
        go_end0
        exact step_ok HR.out hk (HA.out _ _ _ (HP1.out.set 2 _ rfl rfl rfl))
      | false =>
        have HR := Lib.hid (show chooseP (op : Int) k x = .bad k 8 from if_pos (.inr ⟨hm, HQ.out⟩))
        clear h0 hm
        go_wp2
        exact ⟨rfl, step_bad HR.out hk (HA.out _ _ _ HP1.out)⟩
theorem add_flat (b o k : Nat) : (⟨b, o, none⟩ : Addr).add k = ⟨b, o + k, none⟩ := by
  unfold Addr.add
  split
  · rename_i h; subst h; rfl
  · rfl
/-- The rest of a row of structs. -/
theorem recs_rest {α : Type} {f : α → List Value} {s : Nat} {w : World} {ao : Option Addr} {cap : Nat} {l : List α} (h : Recs f s w ao cap l) (k : Nat) (hk : k ≤ l.length) : Recs f s w (if cap = k then ao else ao.map (·.add (k * s))) (cap - k) (l.drop k) := by
  refine ⟨by rw [List.length_drop]; have := h.room; omega, by have := h.max; omega, fun t ht => ?_⟩
  rw [List.length_drop] at ht
  obtain ⟨g, o, e, hc⟩ := h.cell (k + t) (by omega)
  have := h.room
  refine ⟨g, o + k * s, ?_, fun r hr => ?_⟩
  · rw [if_neg (by omega), e]
    show some ((⟨g, o, none⟩ : Addr).add (k * s)) = _
    rw [add_flat]
  · rw [show o + k * s + t * s + r = o + (k + t) * s + r by rw [Nat.add_mul]; omega, hc r hr, List.getElem_drop]
/-- What expr.Parse tells of the tokens from a place on. -/
theorem parse_value (lo2 : Option Addr) (c2 : Nat) (k : Nat) (hk : k ≤ L.length) (hL : L.length ≤ 5000) (hS : ∀ t ∈ L, t.text.length ≤ 100000) (w : World) (hT : Toks w lo2 c2 (L.drop k)) : Calls Tryz.prog 200 #[.slice lo2 (L.length - k) c2] w fun e w' => ∃ so sc, e = .returned (.tuple #[.slice so (valueR L k).1.length sc, .int .i64 (((valueR L k).2.1 : Int) - (k : Int)), .int .i64 (valueR L k).2.2]) ∧ Tms w' so sc (valueR L k).1 ∧ Made w w' := by
  have hR := readR_rd ((L.drop k).map Tk.q)
  have hX := xparse_any lo2 c2 (L.drop k) w hT (by rw [List.length_drop]; omega) (fun t ht => by have := hS t (List.mem_of_mem_drop ht); omega) _ hR
  rw [List.length_drop] at hX
  refine hX.mono ?_
  intro e w' h
  have hl := (rd_len hR).1
  have hq : ((L.drop k).map Tk.q).length = L.length - k := by rw [List.length_map, List.length_drop]
  unfold valueR
  generalize readR ((L.drop k).map Tk.q) = res at h hl ⊢
  cases res with
  | ok a r =>
    obtain ⟨so, c, rfl, hE, hm⟩ := h
    simp only [Rs.rest] at hl
    refine ⟨so, c, ?_, hE, hm⟩
    simp only [post_len]
    rw [hq, show ((L.length - k : Nat) : Int) - (r.length : Int) = ((L.length - r.length : Nat) : Int) - (k : Int) by omega]
  | bad r y =>
    obtain ⟨rfl, hm⟩ := h
    simp only [Rs.rest] at hl
    refine ⟨none, 0, ?_, recs_none _, hm⟩
    simp only [List.length_nil]
    rw [hq, show ((L.length - k : Nat) : Int) - (r.length : Int) = ((L.length - r.length : Nat) : Int) - (k : Int) by omega]
set_option maxRecDepth 100000 in
set_option maxHeartbeats 8000000 in
theorem expression_any (hW : PW W lo cap L) (k : Nat) (hk : k ≤ L.length) (u : World) (hP : PSx W lo L.length cap b k x vo vc co cc u) : Calls Tryz.prog 183 #[psPtr b] u fun e u1 =>
    ((valueR L k).2.2 = 0 ∧ (valueR L k).2.1 ≤ L.length ∧ ∃ so sc, e = .returned (.slice so (valueR L k).1.length sc) ∧ Tms u1 so sc (valueR L k).1 ∧ PSx W lo L.length cap b ((valueR L k).2.1 : Nat) x vo vc co cc u1) ∨
    ((valueR L k).2.2 ≠ 0 ∧ (valueR L k).2.1 ≤ L.length ∧ e = .panicked (pChain (valueR L k).2.2) ∧ PSx W lo L.length cap b ((valueR L k).2.1 : Nat) x vo vc co cc u1) := by
  have hrest := recs_rest (toks_made hW.toks hP.made) k hk
  obtain ⟨lo2, hlo2⟩ : ∃ lo2, (if cap = k then lo else lo.map (·.add (k * 5))) = lo2 := ⟨_, rfl⟩
  rewrite [hlo2] at hrest
  have HX := Lib.hid (fun w (hw : Made u w) => parse_value lo2 (cap - k) k hk hW.few hW.short w (toks_made hrest hw))
  have hv := value_from L k hk
  obtain ⟨⟨E, En, wy⟩, hE⟩ : ∃ t, valueR L k = t := ⟨_, rfl⟩
  rewrite [hE] at HX hv ⊢
  have hroom := hW.toks.room
  have hmax := hW.toks.max
  obtain ⟨nn, hnn⟩ : ∃ nn : Int, (En : Int) - (k : Int) = nn := ⟨_, rfl⟩
  have HNN := Lib.hid hnn
  simp only [] at HX hv ⊢
  rewrite [hnn] at HX
  have HP := Lib.hid (fun w (h : Made u w) => hP.next h)
  obtain ⟨c0, c1, -, -⟩ := ps_cells hP
  have hkn : (k : Int) ≤ (L.length : Int) := by omega
  have hncap : L.length ≤ cap := hroom
  have lt := heap_lt hP.blk
  have HK := Lib.hid (show (k : Int) + nn = (En : Int) by omega)
  have hk5 : (k : Int) + nn ≤ 5000 := by have := hW.few; omega
  have hk6 : 0 ≤ (k : Int) + nn := by omega
  have hEn : En ≤ L.length := hv.2.1
  have HSF := Lib.hid (fun (w1 : World) (h1 : Made u w1) => (HP.out w1 h1).set 1 (.int .i64 ((k : Int) + nn)) (k' := (En : Int)) (x' := x) rfl rfl (by rw [HK.out]; rfl))
  by_cases hck : cap = k
  · obtain rfl : lo = lo2 := by rw [← hlo2, if_pos hck]
    rewrite [show cap - k = 0 by omega] at HX
    clear hP hE hnn hrest hlo2 hv
    go_enter Tryz.func183, Tryz.ntmps183
    go_wp2_with (fail)
    go_region_with ((go_at_call 200; refine (HX.out _ (below_drewN (Made.refl _) 1)).mono ?_; rintro e w1 ⟨so, sc, rfl, hT1, m1⟩))
    all_goals
      have HT1 := Lib.hid hT1
      have HP1 := Lib.hid (HP.out w1 (Made.trans (below_drewN (Made.refl _) 1) m1))
      obtain ⟨-, d1, -, -⟩ := ps_cells HP1.out
      have lt1 := heap_lt HP1.out.blk
      have ft1 := free_of_lit HP1.out.blk
      have HS := Lib.hid (HSF.out w1 (Made.trans (below_drewN (Made.refl _) 1) m1))
      have HTS := Lib.hid (tms_far HT1.out HP1.out.blk (ps_plain _ _ _ _ _ _ _ _ _ _ _) (ps_other (.int .i64 ((k : Int) + nn)) 1))
      clear hT1 m1
      by_cases hw : wy = 0
      · have hbw : (wy != 0) = false := bne_eq_false_iff_eq.2 hw
        go_wp2
        go_ret
        exact .inl ⟨hw, hEn, so, sc, rfl, HTS.out, HS.out⟩
      · have hbw : (wy != 0) = true := bne_iff_ne.2 hw
        go_wp2
        exact ⟨rfl, .inr ⟨hw, hEn, rfl, HS.out⟩⟩
  · obtain rfl : lo2 = lo.map (·.add (k * 5)) := by rw [← hlo2, if_neg hck]
    clear hP hE hnn hrest hlo2 hv
    go_enter Tryz.func183, Tryz.ntmps183
    go_wp2_with (fail)
    go_region_with ((go_at_call 200; refine (HX.out _ (below_drewN (Made.refl _) 1)).mono ?_; rintro e w1 ⟨so, sc, rfl, hT1, m1⟩))
    all_goals
      have HT1 := Lib.hid hT1
      have HP1 := Lib.hid (HP.out w1 (Made.trans (below_drewN (Made.refl _) 1) m1))
      obtain ⟨-, d1, -, -⟩ := ps_cells HP1.out
      have lt1 := heap_lt HP1.out.blk
      have ft1 := free_of_lit HP1.out.blk
      have HS := Lib.hid (HSF.out w1 (Made.trans (below_drewN (Made.refl _) 1) m1))
      have HTS := Lib.hid (tms_far HT1.out HP1.out.blk (ps_plain _ _ _ _ _ _ _ _ _ _ _) (ps_other (.int .i64 ((k : Int) + nn)) 1))
      clear hT1 m1
      by_cases hw : wy = 0
      · have hbw : (wy != 0) = false := bne_eq_false_iff_eq.2 hw
        go_wp2
        go_ret
        exact .inl ⟨hw, hEn, so, sc, rfl, HTS.out, HS.out⟩
      · have hbw : (wy != 0) = true := bne_iff_ne.2 hw
        go_wp2
        exact ⟨rfl, .inr ⟨hw, hEn, rfl, HS.out⟩⟩
end
end Go.Proofs.YtnfmlmamgkpocaaGreatDoor
