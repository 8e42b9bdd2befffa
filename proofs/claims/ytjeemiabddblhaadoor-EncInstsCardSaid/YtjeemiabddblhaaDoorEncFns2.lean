/- What split and join of package enc return, for every instruction, value field and parts, in every world that has grown out of one that holds the table of names. -/
import Derived.Test.YtjeemiabddblhaaDoorEncFns
namespace Go.Proofs.YtjeemiabddblhaaDoor
open Go.ChangeShapes Go.WideShapes Go.ChangeAt Go.RowKit Go.Sort BigFrame

section
attribute [local irreducible] World.cell?
set_option maxHeartbeats 1000000 in
theorem split_any (W : World) (hN : Names W) (f : Fd) (x : In) (hx : x.small) (pc : Int) (hs0 : 0 ≤ f.shift) (hs1 : f.shift ≤ 2) : Makes Tryd.prog W 19 #[.agg #[.int .u8 f.kind, .int .i64 f.bits, .int .i64 f.shift, .bool f.sg, .bool f.ext], x.val, .int .u32 pc] (.tuple #[.int .u32 (splitZ f x pc), .int .u32 (uppZ x pc)]) := by
  intro w hm
  have hz := hm.size
  have M0 := Lib.hid ((hm.alloc hz (.cells f.cells.toArray 45)).alloc (hm.alloc hz (.cells f.cells.toArray 45)).size (.cells x.cells.toArray 24))
  have F0 := Lib.hid (show FdIn W w.heap.size f x _ from ⟨M0.out, (heap_alloc_old _ _ (heap_lt (heap_alloc_new w _))).trans (heap_alloc_new w _), heap_at (by simp)⟩)
  have hcall := Lib.hid (value_any _ (hN.made M0.out) x hx pc)
  have hspl := Lib.hid (extSplit_any (valueP x pc))
  have hvi := value_i x pc hx
  have HE := Lib.hid (show (x.ext = true → splitZ f x pc = lowerZ (valueP x pc) ∧ uppZ x pc = upperZ (valueP x pc)) ∧ (x.ext = false → splitZ f x pc = valueP x pc / 2 ^ f.shift.toNat % 4294967296 ∧ uppZ x pc = 0) from
    ⟨fun h => by unfold splitZ uppZ; rw [h]; exact ⟨rfl, rfl⟩, fun h => by unfold splitZ uppZ; rw [h]; exact ⟨rfl, rfl⟩⟩)
  have hsh : f.shift = 0 ∨ f.shift = 1 ∨ f.shift = 2 := by omega
  obtain ⟨v0, v1⟩ := hvi
  generalize splitZ f x pc = sp at *
  generalize uppZ x pc = up at *
  generalize valueP x pc = v at *
  clear hx hs0 hs1
  go_enter Tryd.func19, Tryd.ntmps19
  go_wp2_with (fail)
  refine (hcall.out _ (Made.refl _)).mono ?_
  rintro e w1 ⟨rfl, h1⟩
  have M1 := Lib.hid (Made.trans M0.out h1)
  obtain ⟨b0, b1, b2, b3, b4⟩ := row_cells (h1.heap F0.out.fd)
  have hi := h1.heap F0.out.in_
  have hl1 := heap_lt (h1.heap F0.out.fd)
  have hl2 := heap_lt hi
  obtain ⟨a0, a1, a2, a3, a4, a5, a6, a7, a8, a9, a10⟩ := in_cells hi
  clear h1 hi
  obtain ⟨xo, xd, xs, xt, xn, xp, xm, xw, xe, xc, xi⟩ := x
  cases xe with
  | true =>
    obtain ⟨rfl, rfl⟩ := HE.out.1 rfl
    go_wp2_with (fail)
    refine (hspl.out _).mono ?_
    rintro e w2 ⟨rfl, k, rfl⟩
    go_wp2
    go_ret2
    exact ⟨rfl, below_drewN M1.out k⟩
  | false =>
    obtain ⟨rfl, rfl⟩ := HE.out.2 rfl
    obtain ⟨fk, fb, fs, fg, fe⟩ := f
    dsimp only at *
    rcases hsh with rfl | rfl | rfl
    all_goals
      go_wp2
      go_ret2
      exact ⟨rfl, M1.out⟩
def joinB (h : Int) (has : Bool) : Bool := !(has && decide (256 ≤ h))
def joinR (f : Fd) (h u : Int) (has : Bool) (pc : Int) : Int := if joinB h has then joinV f h u has pc else 0
theorem joinR_eq (f : Fd) (h u : Int) (has : Bool) (pc v : Int) (b : Bool) (hb : b = (f.kind == 10)) (hv : v = if has then joinZ u h else if f.sg then sextZ h f.bits * 2 ^ f.shift.toNat else h * 2 ^ f.shift.toNat) (ho : joinB h has = true) :
    joinR f h u has pc = if b then targetZ v pc else v := by
  subst hv; subst hb
  unfold joinR joinV
  rw [ho, if_pos rfl]
  dsimp only
  by_cases hk : f.kind = 10
  · have e : (f.kind == 10) = true := by rw [hk]; rfl
    rw [if_pos hk, e, if_pos rfl]
  · have e : (f.kind == 10) = false := by simpa using hk
    rw [if_neg hk, e, if_neg Bool.false_ne_true]
theorem ret_pair {a b : Int} {c d : Bool} (h : b = a) (k : d = c) : Ending.returned (.tuple #[.int .i64 a, .bool c]) = .returned (.tuple #[.int .i64 b, .bool d]) := by rw [h, k]
set_option maxHeartbeats 4000000 in
theorem join_any (W : World) (f : Fd) (h u pc : Int) (has : Bool) (hh : isU32 h) (hu : isU32 u) (hf : f.small) :
    Makes Tryd.prog W 53 #[.agg #[.int .u8 f.kind, .int .i64 f.bits, .int .i64 f.shift, .bool f.sg, .bool f.ext], .int .u32 h, .int .u32 u, .bool has, .int .u32 pc] (.tuple #[.int .i64 (joinR f h u has pc), .bool (joinB h has)]) := by
  intro w hm
  have hz := hm.size
  obtain ⟨_, _, hb0, hb1, hs0, hs1⟩ := hf
  have hj := Lib.hid (extJoin_any u h hu hh)
  have hx := Lib.hid (sext_any h f.bits hh ⟨by omega, by omega⟩)
  have hxb := sextZ_bounds h f.bits
  have HT := Lib.hid (fun r => extTarget_any r pc)
  have HR := joinR_eq f h u has pc
  obtain ⟨h0, h1⟩ := id hh
  have hsh : f.shift = 0 ∨ f.shift = 1 ∨ f.shift = 2 := by omega
  have M0 := Lib.hid (And.intro (hm.alloc hz (.cells f.cells.toArray 45)) (heap_alloc_new w (.cells f.cells.toArray 45)))
  clear hh hu hs0 hs1 hb0 hb1
  obtain ⟨R, hR⟩ : ∃ R, R = joinR f h u has pc := ⟨_, rfl⟩
  obtain ⟨B, hB⟩ : ∃ B, B = joinB h has := ⟨_, rfl⟩
  rewrite [← hR] at HR ⊢
  rewrite [← hB]
  have hR0 : joinB h has = false → R = 0 := fun e => by rw [hR]; unfold joinR; rw [e]; rfl
  obtain ⟨fk, fb, fs, fg, fe⟩ := f
  dsimp only at *
  obtain ⟨b, hb⟩ : ∃ b, b = (fk == 10) := ⟨_, rfl⟩
  obtain ⟨s, hs⟩ : ∃ s, s = sextZ h fb := ⟨_, rfl⟩
  obtain ⟨j, hjj⟩ : ∃ j, j = joinZ u h := ⟨_, rfl⟩
  rewrite [← hs] at hx hxb HR
  rewrite [← hjj] at hj HR
  obtain ⟨s0, s1⟩ := hxb
  have k10 := hb.symm
  have S := Lib.hid (fun v => HR v b hb)
  have R0 := Lib.hid hR0
  have HB := Lib.hid hB
  clear hs hjj hb HR hR hB hR0
  go_enter Tryd.func53, Tryd.ntmps53
  go_upto_region 1 with (fail)
  refine name_world (fun v => Made W v ∧ v.heap[w.heap.size]? = some (.cells (Fd.cells ⟨fk, fb, fs, fg, fe⟩).toArray 45 (0, 0))) M0.out ?_
  rintro v ⟨hv, hr⟩
  have MV := Lib.hid hv
  obtain ⟨b0, b1, b2, b3, b4⟩ := row_cells hr
  have hl := heap_lt hr
  have HV := Lib.hid hr
  clear hv hr M0
  cases has with
  | true =>
    by_cases h256 : 256 ≤ h
    · have e1 : joinB h true = false := by unfold joinB; simp [h256]
      have E := Lib.hid (And.intro (R0.out e1) (HB.out.trans e1))
      clear e1
      rcases hsh with rfl | rfl | rfl
      all_goals
        go_wp2
        go_ret2
        exact ⟨ret_pair E.out.1 E.out.2, MV.out⟩
    · have e1 : joinB h true = true := by unfold joinB; simp; omega
      have E := Lib.hid (And.intro (S.out j rfl e1) (HB.out.trans e1))
      clear e1
      cases b
      all_goals
        rcases hsh with rfl | rfl | rfl
        all_goals
          go_wp2_with (first
            | (go_at_call 65; refine (hj.out _).mono ?_; rintro e w2 ⟨rfl, k, rfl⟩)
            | (go_at_call 67; refine (HT.out _ _).mono ?_; rintro e w3 ⟨rfl, rfl⟩))
          go_ret2
          exact ⟨ret_pair E.out.1 E.out.2, below_drewN MV.out k⟩
  | false =>
    cases fg with
    | true =>
      have g0 := fun d os => cell_regrown b0 d os
      have g1 := fun d os => cell_regrown b1 d os
      have g2 := fun d os => cell_regrown b2 d os
      have g3 := fun d os => cell_regrown b3 d os
      have g4 := fun d os => cell_regrown b4 d os
      obtain ⟨m, hm1, hsm⟩ : ∃ m, m = s * 2 ^ fs.toNat ∧ ((fs = 0 ∧ m = s) ∨ (fs = 1 ∧ m = s * 2) ∨ (fs = 2 ∧ m = s * 4)) := by
        refine ⟨_, rfl, ?_⟩
        rcases hsh with rfl | rfl | rfl
        · exact .inl ⟨rfl, Int.mul_one s⟩
        · exact .inr (.inl ⟨rfl, rfl⟩)
        · exact .inr (.inr ⟨rfl, rfl⟩)
      have E := Lib.hid (And.intro (S.out m hm1 rfl) HB.out)
      clear hsh hm1
      rcases hsm with ⟨rfl, rfl⟩ | ⟨rfl, rfl⟩ | ⟨rfl, rfl⟩
      all_goals
        cases b
        all_goals
          go_upto_region 7 with (fail)
          refine wp_region_quiet_below (by kernel_rfl) (by kernel_rfl) ?_
          repeat (go_big_quiet_step ((go_at_call 66; exact (hx.out.makes v).again _ _)))
          refine wpQuiet_nil ?_
          intro u1 hw9
          have MU := Lib.hid (Made.trans MV.out (made_regrown hw9))
          obtain ⟨b0', b1', b2', b3', b4'⟩ := row_cells ((made_regrown hw9).heap HV.out)
          go_wp2_with (go_at_call 67; refine (HT.out _ _).mono ?_; rintro e w3 ⟨rfl, rfl⟩)
          go_ret2
          exact ⟨ret_pair E.out.1 E.out.2, MU.out⟩
    | false =>
      obtain ⟨m, hm1, hsm⟩ : ∃ m, m = h * 2 ^ fs.toNat ∧ ((fs = 0 ∧ m = h) ∨ (fs = 1 ∧ m = h * 2) ∨ (fs = 2 ∧ m = h * 4)) := by
        refine ⟨_, rfl, ?_⟩
        rcases hsh with rfl | rfl | rfl
        · exact .inl ⟨rfl, Int.mul_one h⟩
        · exact .inr (.inl ⟨rfl, rfl⟩)
        · exact .inr (.inr ⟨rfl, rfl⟩)
      have E := Lib.hid (And.intro (S.out m hm1 rfl) HB.out)
      clear hsh hm1
      rcases hsm with ⟨rfl, rfl⟩ | ⟨rfl, rfl⟩ | ⟨rfl, rfl⟩
      all_goals
        cases b
        all_goals
          go_wp2_with (go_at_call 67; refine (HT.out _ _).mono ?_; rintro e w3 ⟨rfl, rfl⟩)
          go_ret2
          exact ⟨ret_pair E.out.1 E.out.2, MV.out⟩
end
end Go.Proofs.YtjeemiabddblhaaDoor
