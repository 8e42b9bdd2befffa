/- What Length, Packet and Canonical of package unpack return, for any words in memory, in every world that holds the three tables. -/
import Derived.Test.YtanjmoiepmadhaaGreatDoorUnDec
import Derived.Test.YtanjmoiepmadhaaGreatDoorGPackP
namespace Go.Proofs.YtanjmoiepmadhaaGreatDoor
open Go.ChangeShapes Go.WideShapes Go.ChangeAt Go.RowKit Go.Sort BigFrame

theorem tell_off {pc : Int} {zs : List Int} (h : lenP zs ≠ (zs.length, true)) : unTell pc zs = (1, pkZero) := by
  unfold unTell
  rw [if_neg h]
theorem tell_form {pc : Int} {zs : List Int} (h : lenP zs = (zs.length, true)) (hu : unP pc zs = none) : unTell pc zs = (8, pkZero) := by
  unfold unTell
  rw [if_pos h, hu]
theorem tell_says {pc : Int} {zs : List Int} {s : UnSt} (h : lenP zs = (zs.length, true)) (hu : unP pc zs = some s) : unTell pc zs = if legalP (unPk zs s) = 0 then (0, unPk zs s) else (legalP (unPk zs s), pkZero) := by
  unfold unTell
  rw [if_pos h, hu]
/-- What Packet tells, and that its row is the call's own. -/
def UnpackedB (pc : Int) (zs : List Int) (w : World) (e : Ending) (w' : World) : Prop :=
  ∃ so cap, e = .returned (.tuple #[pkOf so cap (unTell pc zs).2, .int .i64 (unTell pc zs).1]) ∧ Insts w' so cap (unTell pc zs).2.insts ∧ Made w w' ∧ ∀ b o, so = some ⟨b, o, none⟩ → w.heap.size ≤ b
theorem unpacked_zero {pc : Int} {zs : List Int} {w w' : World} {er : Int} (h : unTell pc zs = (er, pkZero)) (hm : Made w w') : UnpackedB pc zs w (.returned (.tuple #[pkV none 0 0 false false false false, .int .i64 er])) w' :=
  ⟨none, 0, by rw [h]; rfl, by rw [h]; exact insts_zero' w', hm, fun b o h => by cases h⟩
theorem unpacked_some {pc : Int} {zs : List Int} {w w' : World} {p : Pk} {so : Option Addr} {c : Nat} (h : unTell pc zs = (0, p)) (hI : Insts w' so c p.insts) (hm : Made w w') (hb : ∀ b o, so = some ⟨b, o, none⟩ → w.heap.size ≤ b) : UnpackedB pc zs w (.returned (.tuple #[pkOf so c p, .int .i64 0])) w' :=
  ⟨so, c, by rw [h], by rw [h]; exact hI, hm, hb⟩
section
attribute [local irreducible] World.cell?
set_option maxRecDepth 100000 in
set_option maxHeartbeats 16000000 in
theorem upackB_any (ao : Option Addr) (cap : Nat) (zs : List Int) (w : World) (hT : Tabs w) (hW : Ws w ao cap zs) (hu : U32s zs) (hl : zs.length ≤ 1000) (pc : Int) :
    Calls Tryz.prog 10 #[.slice ao zs.length cap, .int .u32 pc] w (UnpackedB pc zs w) := by
  have K0 := Lib.hid (box_start (Made.refl w) (boxL none 0 0 false false false false))
  have HL := Lib.hid (fun (u : World) (hm : Made w u) => ulen_any ao cap zs u (hT.made hm) (hW.made hm) hu hl)
  have HD := Lib.hid (fun (h : lenP zs = (zs.length, true)) (u : World) (hm : Made w u) => udecode_any ao cap zs h u (hT.made hm) (hW.made hm) hu pc zs.length rfl)
  have HCK := Lib.hid (fun (u : World) (hm : Made w u) (so : Option Addr) (c : Nat) (l : List In) (e0 e1 raw dup : Bool) (hI : Insts u so c l) (hl : l.length ≤ 1000) => lcheck_any so c l e0 e1 raw dup u (hT.made hm) hI hl)
  have hfew := fun s (h : unP pc zs = some s) => un_few hu h
  have HFEW := Lib.hid hfew
  clear hT hW hu hfew
  go_enter Tryz.func10, Tryz.ntmps10
  go_wp2_with (fail)
  refine (HL.out _ K0.out.made).mono ?_
  rintro e w1 ⟨rfl, h1⟩
  have K1 := Lib.hid (K0.out.next h1)
  clear h1 HL K0
  by_cases hlen : lenP zs = (zs.length, true)
  rotate_left
  · have HR := Lib.hid (tell_off (pc := pc) hlen)
    obtain ⟨m, ok, hmk⟩ : ∃ m ok, lenP zs = (m, ok) := ⟨_, _, rfl⟩
    rewrite [hmk] at hlen
    rewrite [hmk]
    have hg : ok = false ∨ (ok = true ∧ ((m : Int) != (zs.length : Int)) = true) := by
      cases ok with
      | false => exact .inl rfl
      | true => exact .inr ⟨rfl, bne_iff_ne.2 fun h => hlen (by rw [show m = zs.length by omega])⟩
    clear hlen hmk HD HCK HFEW
    obtain ⟨a0, a1, a2, a3, a4⟩ := box_cells K1.out
    have fa := free_of_lit K1.out.at_
    have la := heap_lt K1.out.at_
    rcases hg with rfl | ⟨rfl, hg⟩
    all_goals
      go_wp2
      refine bodyPost_ret (v := .tuple #[pkV none 0 0 false false false false, .int .i64 1]) (by simp [results, Tryz.results10, go_sem, a0, a1, a2, a3, a4]) rfl ?_
      exact unpacked_zero HR.out (made_put5 K1.out.made (Nat.le_refl _) _ _ _ _ _)
  have HLEN := Lib.hid hlen
  rewrite [hlen]
  clear hlen
  have hg : ((zs.length : Int) != (zs.length : Int)) = false := by simp
  go_wp2_with (fail)
  refine (HD.out HLEN.out _ K1.out.made).mono ?_
  rintro e w2 ⟨so, c, p, ok, rfl, hI, h2, hno, hyes, hb⟩
  have K2 := Lib.hid (K1.out.next h2)
  have HI := Lib.hid hI
  have HNO := Lib.hid hno
  have HYES := Lib.hid hyes
  have HSO := Lib.hid (show ∀ b o, so = some ⟨b, o, none⟩ → b ≠ w.heap.size ∧ w.heap.size ≤ b from fun b o e => by
    have h5 := hb b o e
    have h6 := heap_lt K1.out.at_
    omega)
  clear h2 hI hno hyes hb HD K1
  obtain ⟨l, e0, e1, raw, dup⟩ := p
  have KB := Lib.hid (And.intro (K2.out.next ((Made.refl w2).alloc (Nat.le_refl _) (.cells (boxL so l.length c e0 e1 raw dup).toArray 29))) (And.intro (show (w2.alloc (.cells (boxL so l.length c e0 e1 raw dup).toArray 29)).heap[w2.heap.size]? = some (.cells (boxL so l.length c e0 e1 raw dup).toArray 29 (0, 0)) from heap_alloc_new w2 _) (insts_made HI.out ((Made.refl w2).alloc (Nat.le_refl _) (.cells (boxL so l.length c e0 e1 raw dup).toArray 29)))))
  have hlt0 := heap_lt K2.out.at_
  go_upto_region 5 with (fail)
  refine world_named (fun u => PkBox w w.heap.size (boxL none 0 0 false false false false) u ∧ u.heap[w2.heap.size]? = some (.cells (boxL so l.length c e0 e1 raw dup).toArray 29 (0, 0)) ∧ Insts u so c l) KB.out ?_
  rintro u ⟨hu1, hu2, hu3⟩
  have KU := Lib.hid hu1
  have KQ := Lib.hid hu2
  have KI := Lib.hid hu3
  clear hu1 hu2 hu3 KB K2 HI
  obtain ⟨a0, a1, a2, a3, a4⟩ := box_cells KU.out
  have fa := free_of_lit KU.out.at_
  have la := heap_lt KU.out.at_
  cases ok with
  | false =>
    have HR := Lib.hid (tell_form (pc := pc) HLEN.out (HNO.out rfl))
    clear HNO HYES HCK HFEW
    go_wp2
    refine bodyPost_ret (v := .tuple #[pkV none 0 0 false false false false, .int .i64 8]) (by simp [results, Tryz.results10, go_sem, a0, a1, a2, a3, a4]) rfl ?_
    exact unpacked_zero HR.out (made_put5 KU.out.made (Nat.le_refl _) _ _ _ _ _)
  | true =>
    obtain ⟨s, hs, hps⟩ := HYES.out rfl
    have HT := Lib.hid (tell_says HLEN.out hs)
    have hfew := HFEW.out s hs
    rewrite [← hps] at hfew
    have hfl : l.length ≤ 1000 := by
      have : (l.length : Int) ≤ zs.length + 1 := hfew
      have h4 := (lenN_ends zs 0 (by rw [Nat.zero_add]; exact HLEN.out)).1
      omega
    have HC := Lib.hid (HCK.out u KU.out.made so c l e0 e1 raw dup KI.out hfl)
    have HPS := Lib.hid hps
    have HT2 := Lib.hid (show unTell pc zs = if legalP ⟨l, e0, e1, raw, dup⟩ = 0 then (0, ⟨l, e0, e1, raw, dup⟩) else (legalP ⟨l, e0, e1, raw, dup⟩, pkZero) by rw [HT.out, ← HPS.out])
    clear hs hps hfew HNO HYES HCK HFEW HT HPS
    generalize legalP ⟨l, e0, e1, raw, dup⟩ = lv at *
    obtain ⟨q0, q1, q2, q3, q4⟩ := pk5 KQ.out
    have lq := heap_lt KQ.out
    go_wp2_with (fail)
    refine HC.out.mono ?_
    rintro e w3 ⟨rfl, h3⟩
    have KU3 := Lib.hid (KU.out.next h3)
    have KQ3 := Lib.hid (h3.heap KQ.out)
    have KI3 := Lib.hid (insts_made KI.out h3)
    clear h3 a0 a1 a2 a3 a4 fa la q0 q1 q2 q3 q4 lq KU KQ KI HC
    obtain ⟨a0, a1, a2, a3, a4⟩ := box_cells KU3.out
    have fa := free_of_lit KU3.out.at_
    have la := heap_lt KU3.out.at_
    obtain ⟨q0, q1, q2, q3, q4⟩ := pk5 KQ3.out
    have lq := heap_lt KQ3.out
    by_cases hz : lv = 0
    · have HR := Lib.hid (show unTell pc zs = (0, ⟨l, e0, e1, raw, dup⟩) by rw [HT2.out, if_pos hz])
      have hg2 : (lv != 0) = false := by rw [hz]; rfl
      clear hz HT2
      go_wp2
      refine bodyPost_ret (v := .tuple #[pkV so l.length c e0 e1 raw dup, .int .i64 0]) (by simp [results, Tryz.results10, go_sem, a0, a1, a2, a3, a4]) rfl ?_
      exact unpacked_some HR.out (insts_put5 KI3.out (fun b o e => (HSO.out b o e).1) _ _ _ _ _) (made_put5 KU3.out.made (Nat.le_refl _) _ _ _ _ _) (fun b o e => (HSO.out b o e).2)
    · have HR := Lib.hid (show unTell pc zs = (lv, pkZero) by rw [HT2.out, if_neg hz])
      have hg2 : (lv != 0) = true := bne_iff_ne.2 hz
      clear hz HT2
      go_wp2
      refine bodyPost_ret (v := .tuple #[pkV none 0 0 false false false false, .int .i64 lv]) (by simp [results, Tryz.results10, go_sem, a0, a1, a2, a3, a4]) rfl ?_
      exact unpacked_zero HR.out (made_put5 KU3.out.made (Nat.le_refl _) _ _ _ _ _)
end
theorem upack_any (ao : Option Addr) (cap : Nat) (zs : List Int) (w : World) (hT : Tabs w) (hW : Ws w ao cap zs) (hu : U32s zs) (hl : zs.length ≤ 1000) (pc : Int) (_hp : isU32 pc) :
    Calls Tryz.prog 10 #[.slice ao zs.length cap, .int .u32 pc] w (Unpacked pc zs w) :=
  (upackB_any ao cap zs w hT hW hu hl pc).mono fun _ _ ⟨so, c, h1, h2, h3, _⟩ => ⟨so, c, h1, h2, h3⟩
theorem same_step13 {zs ys : List Int} {k : Nat} (h : k < zs.length) (h2 : k < ys.length) (z y : Int) (hz : zs[k] = z) (hy : ys[k] = y) : decide (zs.drop k = ys.drop k) = (decide (z = y) && decide (zs.drop (k + 1) = ys.drop (k + 1))) := by
  rw [List.drop_eq_getElem_cons h, List.drop_eq_getElem_cons h2, hz, hy]
  by_cases hc : z = y
  · rw [decide_eq_true hc, Bool.true_and]
    exact decide_eq_decide.2 (by simp [hc])
  · rw [decide_eq_false hc, Bool.false_and]
    exact decide_eq_false (by simp [hc])
section
attribute [local irreducible] World.cell?
set_option maxRecDepth 100000 in
set_option maxHeartbeats 4000000 in
/-- slices.Equal of words. -/
theorem equal_any (ao bo : Option Addr) (ca cb : Nat) (zs ys : List Int) (w : World) (h1 : Ws w ao ca zs) (h2 : Ws w bo cb ys) (hl : zs.length ≤ 1000) (n : Nat) (hn : zs.length = n) :
    Calls Tryz.prog 29 #[.slice ao n ca, .slice bo ys.length cb] w fun e w' => e = .returned (.bool (decide (zs = ys))) ∧ Made w w' := by
  by_cases he : n = ys.length
  · have hb : ((n : Int) != (ys.length : Int)) = false := by rw [he]; simp
    have HE := Lib.hid he
    have HW1 := Lib.hid h1
    have HW2 := Lib.hid h2
    have HN := Lib.hid hn
    clear he h1 h2 hn
    go_enter Tryz.func29, Tryz.ntmps29
    go_wp2_with (fail)
    go_loopw [13] (fun i wr => ∃ k nd : Nat, k ≤ n ∧ i = .int .i64 k ∧ decide (zs.drop k = ys.drop k) = decide (zs = ys) ∧ wr = w.drewN nd) (fun i _ => n - (intOf i).toNat)
    case atStart => exact ⟨0, 0, Nat.zero_le _, rfl, rfl, rfl⟩
    case round =>
      obtain ⟨k, nd, hk, rfl, hat, hwr⟩ := hrel
      have HW := Lib.hid hwr
      have hmw : Made w wr := hwr ▸ below_drewN (Made.refl w) nd
      clear hwr
      by_cases hlt : k < n
      · have hlt1 : k < zs.length := by have := HN.out; omega
        have hlt2 : k < ys.length := by have := HE.out; omega
        obtain ⟨z, hz⟩ : ∃ z, zs[k] = z := ⟨_, rfl⟩
        obtain ⟨y, hy⟩ : ∃ y, ys[k] = y := ⟨_, rfl⟩
        obtain ⟨b, o, rfl, c0⟩ := ws_cell (HW1.out.made hmw) hlt1 z hz
        obtain ⟨b2, o2, rfl, d0⟩ := ws_cell (HW2.out.made hmw) hlt2 y hy
        have hstep := same_step13 hlt1 hlt2 z y hz hy
        rewrite [hat] at hstep
        have HS := Lib.hid hstep
        have k0 : (0 : Int) ≤ (k : Int) := by omega
        have k1 : (k : Int) < (n : Int) := by omega
        have k2 : (k : Int) < (ys.length : Int) := by omega
        clear hstep hat hz hy
        go_upto_region 6 with (fail)
        go_quiet (fail)
        rename_i nq
        by_cases hzy : z = y
        · subst hzy
          go_wp2
          go_roundw
          case rel => exact ⟨k + 1, nd + nq, by omega, by go_num, by rw [HS.out]; simp, by rw [HW.out]; simp only [World.drewN_drewN]⟩
          case measure => simp [intOf]; omega
        · have hzb : (z == y) = false := beq_eq_false_iff_ne.2 hzy
          have HZ := Lib.hid (decide_eq_false hzy)
          clear hzy
          go_wp2
          go_ret
          exact ⟨ret_bool (by rw [HS.out, HZ.out]; rfl), below_drewN hmw _⟩
      · obtain rfl : k = n := by omega
        have HX := Lib.hid (show decide (zs = ys) = true by rw [← hat, List.drop_eq_nil_of_le (by have := HN.out; omega), List.drop_eq_nil_of_le (by have := HE.out; omega)]; rfl)
        clear hat
        go_wp2
        go_ret
        exact ⟨ret_bool HX.out.symm, hmw⟩
  · have hb : ((n : Int) != (ys.length : Int)) = true := by simp; omega
    have HX := Lib.hid (show decide (zs = ys) = false from decide_eq_false fun e => he (by rw [← hn, e]))
    clear he
    go_enter Tryz.func29, Tryz.ntmps29
    go_wp2
    go_ret
    exact ⟨ret_bool HX.out.symm, Made.refl _⟩
end
theorem canoned_no {pc : Int} {zs : List Int} {w w' : World} (h : ¬ ((unTell pc zs).1 = 0 ∧ sayAll pc (unTell pc zs).2.insts = true ∧ IsWords pc (unTell pc zs).2 zs)) (hm : Made w w') : Canoned pc zs w (.returned (.tuple #[pkV none 0 0 false false false false, .bool false])) w' :=
  ⟨none, 0, pkZero, false, rfl, insts_zero' w', hm, fun h0 => (by cases h0), fun _ => ⟨h, rfl⟩⟩
theorem canoned_yes {pc : Int} {zs : List Int} {w w' : World} {p : Pk} {so : Option Addr} {c : Nat} (h0 : (unTell pc zs).1 = 0) (hp : (unTell pc zs).2 = p) (hs : sayAll pc p.insts = true) (hw : IsWords pc p zs) (hI : Insts w' so c p.insts) (hm : Made w w') : Canoned pc zs w (.returned (.tuple #[pkOf so c p, .bool true])) w' :=
  ⟨so, c, p, true, rfl, hI, hm, fun _ => ⟨h0, by rw [hp]; exact hs, by rw [hp]; exact hw, hp.symm⟩, fun h => by cases h⟩
section
attribute [local irreducible] World.cell?
set_option maxRecDepth 100000 in
set_option maxHeartbeats 16000000 in
theorem ucan_any (ao : Option Addr) (cap : Nat) (zs : List Int) (w : World) (hT : Tabs w) (hW : Ws w ao cap zs) (hu : U32s zs) (hl : zs.length ≤ 1000) (pc : Int) (hp : isU32 pc) :
    Calls Tryz.prog 14 #[.slice ao zs.length cap, .int .u32 pc] w (Canoned pc zs w) := by
  have K0 := Lib.hid (box_start (Made.refl w) (boxL none 0 0 false false false false))
  have HPK := Lib.hid (fun (u : World) (hm : Made w u) => upackB_any ao cap zs u (hT.made hm) (hW.made hm) hu hl pc)
  have HWD := Lib.hid (fun (u : World) (hm : Made w u) (so : Option Addr) (c : Nat) (l : List In) (e0 e1 raw dup : Bool) (hI : Insts u so c l) (hl : l.length ≤ 1000) => pwords_any so c l e0 e1 raw dup u (hT.made hm) hI hl pc hp)
  have HEQ := Lib.hid (fun (u : World) (hm : Made w u) (so : Option Addr) (c n : Nat) (ys : List Int) (hy : Ws u so c ys) (hn : ys.length = n) (hk : ys.length ≤ 1000) => equal_any so ao c cap ys zs u hy (hW.made hm) hk n hn)
  have HOK := Lib.hid (un_told (pc := pc) hu)
  obtain ⟨r, hr⟩ : ∃ r, r = unTell pc zs := ⟨_, rfl⟩
  unfold UnpackedB at HPK
  rewrite [← hr] at HPK HOK
  have HR := Lib.hid hr
  clear hT hW hu hr
  obtain ⟨er, p⟩ := r
  obtain ⟨l, e0, e1, raw, dup⟩ := p
  simp only [] at HPK
  go_enter Tryz.func14, Tryz.ntmps14
  go_wp2_with (fail)
  refine (HPK.out _ K0.out.made).mono ?_
  rintro e w2 ⟨so, c, rfl, hI, h2, hb⟩
  have K2 := Lib.hid (K0.out.next h2)
  have HI := Lib.hid hI
  have HSO := Lib.hid (show ∀ b o, so = some ⟨b, o, none⟩ → b ≠ w.heap.size ∧ w.heap.size ≤ b from fun b o e => by
    have h5 := hb b o e
    have h6 := heap_lt K0.out.at_
    omega)
  clear h2 hI hb HPK K0
  have KB := Lib.hid (And.intro (K2.out.next ((Made.refl w2).alloc (Nat.le_refl _) (.cells (boxL so l.length c e0 e1 raw dup).toArray 29))) (And.intro (show (w2.alloc (.cells (boxL so l.length c e0 e1 raw dup).toArray 29)).heap[w2.heap.size]? = some (.cells (boxL so l.length c e0 e1 raw dup).toArray 29 (0, 0)) from heap_alloc_new w2 _) (insts_made HI.out ((Made.refl w2).alloc (Nat.le_refl _) (.cells (boxL so l.length c e0 e1 raw dup).toArray 29)))))
  go_upto_region 2 with (fail)
  refine world_named (fun u => PkBox w w.heap.size (boxL none 0 0 false false false false) u ∧ u.heap[w2.heap.size]? = some (.cells (boxL so l.length c e0 e1 raw dup).toArray 29 (0, 0)) ∧ Insts u so c l) KB.out ?_
  rintro u ⟨hu1, hu2, hu3⟩
  have KU := Lib.hid hu1
  have KQ := Lib.hid hu2
  have KI := Lib.hid hu3
  clear hu1 hu2 hu3 KB K2 HI
  obtain ⟨a0, a1, a2, a3, a4⟩ := box_cells KU.out
  have fa := free_of_lit KU.out.at_
  have la := heap_lt KU.out.at_
  by_cases hz : er = 0
  rotate_left
  · have HN := Lib.hid (show ¬ ((unTell pc zs).1 = 0 ∧ sayAll pc (unTell pc zs).2.insts = true ∧ IsWords pc (unTell pc zs).2 zs) from fun h => hz (by have h0 := h.1; rw [← HR.out] at h0; exact h0))
    have hg : (er != 0) = true := bne_iff_ne.2 hz
    clear hz HWD HEQ HOK
    go_wp2
    refine bodyPost_ret (v := .tuple #[pkV none 0 0 false false false false, .bool false]) (by simp [results, Tryz.results14, go_sem, a0, a1, a2, a3, a4]) rfl ?_
    exact canoned_no HN.out (made_put5 KU.out.made (Nat.le_refl _) _ _ _ _ _)
  · subst hz
    obtain ⟨hlg, -⟩ := HOK.out.ok rfl
    have hl4 := (legal_len hlg).1
    have HLG := Lib.hid hlg
    have HWC := Lib.hid (HWD.out u KU.out.made so c l e0 e1 raw dup KI.out (by have h4 : l.length ≤ 4 := hl4; omega))
    clear hlg hl4 HWD HOK
    obtain ⟨q0, q1, q2, q3, q4⟩ := pk5 KQ.out
    have lq := heap_lt KQ.out
    go_wp2_with (fail)
    refine HWC.out.mono ?_
    rintro e w3 ⟨so3, n3, c3, er3, ys, rfl, hn3, hy3, h3, hout⟩
    have KU3 := Lib.hid (KU.out.next h3)
    have KQ3 := Lib.hid (h3.heap KQ.out)
    have KI3 := Lib.hid (insts_made KI.out h3)
    have HY := Lib.hid hy3
    have HOUT := Lib.hid hout
    clear h3 hy3 hout a0 a1 a2 a3 a4 fa la q0 q1 q2 q3 q4 lq KU KQ KI HWC
    cases hsy : sayAll pc l with
    | false =>
      obtain ⟨rfl, -⟩ := HOUT.out.far HLG.out hsy
      have HN := Lib.hid (show ¬ ((unTell pc zs).1 = 0 ∧ sayAll pc (unTell pc zs).2.insts = true ∧ IsWords pc (unTell pc zs).2 zs) from fun h => by
        have h0 := h.2.1
        rw [← HR.out] at h0
        rw [hsy] at h0
        cases h0)
      clear hsy HOUT HEQ
      obtain ⟨a0, a1, a2, a3, a4⟩ := box_cells KU3.out
      have fa := free_of_lit KU3.out.at_
      have la := heap_lt KU3.out.at_
      go_wp2
      refine bodyPost_ret (v := .tuple #[pkV none 0 0 false false false false, .bool false]) (by simp [results, Tryz.results14, go_sem, a0, a1, a2, a3, a4]) rfl ?_
      exact canoned_no HN.out (made_put5 KU3.out.made (Nat.le_refl _) _ _ _ _ _)
    | true =>
      obtain ⟨rfl, hws⟩ := HOUT.out.ok HLG.out hsy
      have HWS := Lib.hid hws
      have HSY := Lib.hid hsy
      have hyl : ys.length ≤ 1000 := by
        have h7 := words_len hws
        have h8 := ((legal_iff _).1 HLG.out).few
        omega
      have HC := Lib.hid (HEQ.out w3 KU3.out.made so3 c3 n3 ys HY.out hn3 hyl)
      clear hws hsy hyl HOUT HEQ
      go_wp2_with (fail)
      refine HC.out.mono ?_
      rintro e w4 ⟨rfl, h4⟩
      have KU4 := Lib.hid (KU3.out.next h4)
      have KQ4 := Lib.hid (h4.heap KQ3.out)
      have KI4 := Lib.hid (insts_made KI3.out h4)
      clear h4 KU3 KQ3 KI3 HC
      obtain ⟨a0, a1, a2, a3, a4⟩ := box_cells KU4.out
      have fa := free_of_lit KU4.out.at_
      have la := heap_lt KU4.out.at_
      obtain ⟨q0, q1, q2, q3, q4⟩ := pk5 KQ4.out
      have lq := heap_lt KQ4.out
      by_cases hy : ys = zs
      · have hd : decide (ys = zs) = true := decide_eq_true hy
        have HYZ := Lib.hid hy
        clear hy
        generalize decide (ys = zs) = dv at *
        subst hd
        go_wp2
        refine bodyPost_ret (v := .tuple #[pkV so l.length c e0 e1 raw dup, .bool true]) (by simp [results, Tryz.results14, go_sem, a0, a1, a2, a3, a4]) rfl ?_
        exact canoned_yes (p := ⟨l, e0, e1, raw, dup⟩) (by rw [← HR.out]) (by rw [← HR.out]) HSY.out (HYZ.out ▸ HWS.out) (insts_put5 KI4.out (fun b o e => (HSO.out b o e).1) _ _ _ _ _) (made_put5 KU4.out.made (Nat.le_refl _) _ _ _ _ _)
      · have hd : decide (ys = zs) = false := decide_eq_false hy
        have HN := Lib.hid (show ¬ ((unTell pc zs).1 = 0 ∧ sayAll pc (unTell pc zs).2.insts = true ∧ IsWords pc (unTell pc zs).2 zs) from fun h => by
          have h0 := h.2.2
          rw [← HR.out] at h0
          exact hy (words_one HWS.out h0))
        clear hy
        generalize decide (ys = zs) = dv at *
        subst hd
        go_wp2
        refine bodyPost_ret (v := .tuple #[pkV none 0 0 false false false false, .bool false]) (by simp [results, Tryz.results14, go_sem, a0, a1, a2, a3, a4]) rfl ?_
        exact canoned_no HN.out (made_put5 KU4.out.made (Nat.le_refl _) _ _ _ _ _)
end
end Go.Proofs.YtanjmoiepmadhaaGreatDoor
