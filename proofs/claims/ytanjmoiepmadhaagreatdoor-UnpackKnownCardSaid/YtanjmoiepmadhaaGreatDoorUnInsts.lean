/- What package unpack's parseBits, endsLoop, hasDuplex and instsOf return; no condition but those named. -/
import Derived.Test.YtanjmoiepmadhaaGreatDoorUnSingly
import Derived.Test.YtanjmoiepmadhaaGreatDoorDupSplit
namespace Go.Proofs.YtanjmoiepmadhaaGreatDoor
open Go.ChangeShapes Go.WideShapes Go.ChangeAt Go.RowKit Go.Sort BigFrame

section
attribute [local irreducible] World.cell?
set_option maxRecDepth 100000 in
set_option maxHeartbeats 4000000 in
theorem uparse_any (W : World) (hP : Pieces W) (v : Int) (hv : isU32 v) : Makes Tryz.prog W 19 #[.int .u32 v] (.int .u8 (parseZ v)) := by
  intro w hm
  have H := Lib.hid (parts_made W hP v hv w hm)
  clear hm hP
  go_enter Tryz.func19, Tryz.ntmps19
  go_wp2_with (fail)
  refine H.out.mono ?_
  rintro e w1 ⟨rfl, h1⟩
  go_wp2
  go_ret
  exact ⟨rfl, h1⟩
set_option maxRecDepth 100000 in
set_option maxHeartbeats 4000000 in
theorem uends_any (W : World) (hP : Pieces W) (ao : Option Addr) (cap : Nat) (zs : List Int) (hW : Ws W ao cap zs) (hu : U32s zs) (_hl : zs.length ≤ 1000) (i : Nat) (_hi : i ≤ 1000) (n : Nat) (hn : zs.length = n) (k : Int) (hk : (i : Int) = k) (v : Bool) (hv : markB zs i = v) :
    Makes Tryz.prog W 38 #[.slice ao n cap, .int .i64 k] (.bool v) := by
  intro w hm
  subst hn hk hv
  by_cases hlt : i < zs.length
  · obtain ⟨z, hz⟩ : ∃ z, zs[i] = z := ⟨_, rfl⟩
    have HP := Lib.hid (fun u (hu2 : Made W u) => uparse_any u (hP.made hu2) z (hu z (hz ▸ List.getElem_mem hlt)) u (Made.refl u))
    have HM := Lib.hid (show markB zs i = (parseZ z == 2) by rw [mark_at hlt, hz])
    obtain ⟨b, o, rfl, c0⟩ := ws_cell (hW.made hm) hlt z hz
    have lb := World.block_lt_of_cell? w _ c0
    have H0 := Lib.hid hm
    have g0 : decide ((i : Int) < (zs.length : Int)) = true := decide_eq_true (by omega)
    have g1 : (0 : Int) ≤ (i : Int) := by omega
    have g2 : (i : Int) < (zs.length : Int) := by omega
    clear hm hP hz hW hu
    generalize parseZ z = pz at *
    rewrite [HM.out]
    go_enter Tryz.func38, Tryz.ntmps38
    go_wp2_with (fail)
    refine (HP.out _ H0.out).mono ?_
    rintro e w1 ⟨rfl, h1⟩
    go_wp2
    go_ret
    exact ⟨rfl, Made.trans H0.out h1⟩
  · have HM := Lib.hid (show markB zs i = false by unfold markB; rw [List.getElem?_eq_none (by omega)])
    have H0 := Lib.hid hm
    have g0 : decide ((i : Int) < (zs.length : Int)) = false := decide_eq_false (by omega)
    clear hm hP hW hu
    rewrite [HM.out]
    go_enter Tryz.func38, Tryz.ntmps38
    go_wp2
    go_ret
    exact ⟨rfl, H0.out⟩
set_option maxRecDepth 100000 in
set_option maxHeartbeats 4000000 in
theorem uhas_any (W : World) (hP : Pieces W) (ao : Option Addr) (cap : Nat) (a : List Int) (z : Int) (hW : Ws W ao cap (a ++ [z])) (hz : isU32 z) (hl : a.length ≤ 1000) (n : Nat) (hn : n = a.length + 1) : Makes Tryz.prog W 39 #[.slice ao n cap] (.bool (parseZ z == 0)) := by
  intro w hm
  have HP := Lib.hid (fun u (hu2 : Made W u) => uparse_any u (hP.made hu2) z hz u (Made.refl u))
  obtain ⟨b, o, rfl, c0⟩ := ws_cell (hW.made hm) (t := a.length) (by simp) z (by simp)
  have lb := World.block_lt_of_cell? w _ c0
  have H0 := Lib.hid hm
  clear hm hP hz hW
  have g0 : IntKind.i64.wrap ((n : Int) - 1) = (a.length : Int) := by rw [IntKind.wrap_i64]; omega
  have g1 : (0 : Int) ≤ (a.length : Int) := by omega
  have g2 : (a.length : Int) < (n : Int) := by omega
  clear hn
  generalize a.length = k at *
  generalize parseZ z = pz at *
  go_enter Tryz.func39, Tryz.ntmps39
  go_wp2_with (fail)
  refine (HP.out _ H0.out).mono ?_
  rintro e w1 ⟨rfl, h1⟩
  go_wp2
  go_ret
  exact ⟨rfl, Made.trans H0.out h1⟩
end
theorem got_under {W w1 w2 : World} {v : Value} {l : List In} (hm : Made W w1) (h : GotAt w1 w1.heap.size v l w2) : GotAt W W.heap.size v l w2 := ⟨Made.trans hm h.made, Nat.le_refl _, owns_mono h.row hm.size, h.small⟩
/-- What 'instsOf' tells. -/
def WholeSays (pc : Int) (a : List Int) (z : Int) (w : World) (e : Ending) (w' : World) : Prop :=
  ∃ (v : Value) (l : List In) (ok : Bool), e = .returned (.tuple #[v, .bool ok]) ∧ GotAt w w.heap.size v l w' ∧ wholeW pc (a ++ [z]) = (if ok = true then some (parseZ z == 0, l) else none) ∧ l.length ≤ a.length + 2
theorem ws_init {w : World} {ao : Option Addr} {cap : Nat} {a : List Int} {z : Int} (h : Ws w ao cap (a ++ [z])) : Ws w ao cap a := by
  have hr := h.room
  rw [List.length_append] at hr
  refine ⟨by omega, h.max, fun t ht => ?_⟩
  obtain ⟨b, o, e, hc⟩ := h.cell t (by rw [List.length_append]; omega)
  rw [List.getElem_append_left ht] at hc
  exact ⟨b, o, e, hc⟩
theorem whole_false {pc z : Int} {a : List Int} (h : (parseZ z == 0) = false) : wholeW pc (a ++ [z]) = (sing pc (a ++ [z])).map fun l => (false, l) := by
  rw [whole_app, if_neg (by simpa using h)]
theorem whole_true {pc z : Int} {a : List Int} (h : (parseZ z == 0) = true) : wholeW pc (a ++ [z]) = if (splitP z).2.2 = true then (sing pc a).map fun l => (true, l ++ [(splitP z).1, (splitP z).2.1]) else none := by
  rw [whole_app, if_pos (by simpa using h)]
section
attribute [local irreducible] World.cell?
set_option maxRecDepth 100000 in
set_option maxHeartbeats 16000000 in
theorem uinsts_any (ao : Option Addr) (cap : Nat) (a : List Int) (z : Int) (w : World) (hT : Tabs w) (hW : Ws w ao cap (a ++ [z])) (hu : U32s (a ++ [z])) (hl : a.length ≤ 900) (pc : Int) (n : Nat) (hn : n = a.length + 1) :
    Calls Tryz.prog 37 #[.slice ao n cap, .int .u32 pc] w (WholeSays pc a z w) := by
  obtain ⟨i0, hi0, hz0, hz1, hz2⟩ := info_parts inst_row
  have hzu := hu z (by simp)
  have HH := Lib.hid (uhas_any w hT.pieces ao cap a z hW hzu (by omega) n hn w (Made.refl w))
  have HS1 := Lib.hid (fun (u : World) (hm : Made w u) => usingly_any ao cap (a ++ [z]) u (hT.made hm).names (hT.made hm).pieces (hW.made hm) hu (by rw [List.length_append, List.length_singleton]; omega) pc n (by rw [List.length_append, List.length_singleton]; exact hn))
  have HS2 := Lib.hid (fun (u : World) (hm : Made w u) => usingly_any ao cap a u (hT.made hm).names (hT.made hm).pieces (ws_init (hW.made hm)) (fun q hq => hu q (by simp [hq])) (by omega) pc a.length rfl)
  have HSP := Lib.hid (fun (u : World) (hm : Made w u) => split_any u (hT.made hm) z hzu u (Made.refl u))
  have HW1 := Lib.hid (whole_false (pc := pc) (z := z) (a := a))
  have HW2 := Lib.hid (whole_true (pc := pc) (z := z) (a := a))
  have HSM := Lib.hid (fun h => split_says hzu (w := z) h)
  obtain ⟨b, o, rfl, c0⟩ := ws_cell hW (t := a.length) (by simp) z (by simp)
  have lb := World.block_lt_of_cell? w _ c0
  have hroom := hW.room
  rw [List.length_append, List.length_singleton] at hroom
  have hmax := hW.max
  unfold maxLen at hmax
  have g0 : IntKind.i64.wrap ((n : Int) - 1) = (a.length : Int) := by rw [IntKind.wrap_i64]; omega
  have g1 : (0 : Int) ≤ (a.length : Int) := by omega
  have g2 : (a.length : Int) < (n : Int) := by omega
  have g3 : (a.length : Int) ≤ (cap : Int) := by omega
  have g4 : a.length ≤ cap := by omega
  clear hT hW hu hn
  go_enter Tryz.func37, Tryz.ntmps37
  go_wp2_with (fail)
  refine HH.out.mono ?_
  rintro e w1 ⟨rfl, h1⟩
  have M1 := Lib.hid h1
  clear h1 HH
  obtain ⟨q, hq⟩ : ∃ q, q = (parseZ z == 0) := ⟨_, rfl⟩
  rewrite [← hq]
  have HQ := Lib.hid hq
  clear hq
  cases q with
  | false =>
    go_wp2_with (fail)
    refine (HS1.out _ M1.out).mono ?_
    rintro e w2 ⟨v, l, ok, rfl, hg, hs, hll⟩
    have KV := Lib.hid (got_under M1.out hg)
    have HX := Lib.hid (show wholeW pc (a ++ [z]) = if ok = true then some (parseZ z == 0, l) else none by rw [← HQ.out, HW1.out HQ.out.symm, hs]; cases ok <;> rfl)
    rewrite [List.length_append, List.length_singleton] at hll
    clear hg hs
    go_wp2
    refine bodyPost_ret (v := .tuple #[v, .bool ok]) (by simp [results, Tryz.results37, go_sem]) rfl ?_
    exact ⟨v, l, ok, rfl, KV.out, HX.out, by omega⟩
  | true =>
    have c1 : w1.cell? ⟨b, o + a.length, none⟩ = some (.int .u32 z) := (World.cell?_of_block (M1.out.block b lb)).trans c0
    have lb1 := World.block_lt_of_cell? w1 _ c1
    have HWT := Lib.hid (HW2.out HQ.out.symm)
    clear HW1 HW2 HS1
    generalize hsp : splitP z = sp at *
    obtain ⟨x, y, okp⟩ := sp
    simp only [] at HWT HSM
    clear hsp
    go_wp2_with (fail)
    refine (HSP.out _ M1.out).mono ?_
    rintro e w2 ⟨rfl, h2⟩
    have M2 := Lib.hid (Made.trans M1.out h2)
    have K2 := Lib.hid ((Held.start (Made.refl w2)).push2 x y)
    clear h2 c1 lb1 HSP
    go_upto_region 5 with (fail)
    refine world_named (fun u => Held w2 [(w2.heap.size + 1, y), (w2.heap.size, x)] u) K2.out ?_
    intro u hku
    have K3 := Lib.hid hku
    clear hku K2
    have HC := Lib.hid (HS2.out u (Made.trans M2.out K3.out.made))
    clear HS2
    go_wp2_with (fail)
    refine HC.out.mono ?_
    rintro e w3 ⟨v, l, ok, rfl, hg, hs, hll⟩
    have KV := Lib.hid (got_under (Made.trans M2.out K3.out.made) hg)
    have HVB := Lib.hid (show ∀ g, v.ownBlock = some g → u.heap.size ≤ g from fun g h => (hg.row.lt g h).1)
    have K4 := Lib.hid (K3.out.next hg.made)
    have HX := Lib.hid hs
    clear hg hs HC K3
    cases okp with
    | false =>
      have HR := Lib.hid (show wholeW pc (a ++ [z]) = if false = true then some (parseZ z == 0, ([] : List In)) else none by rw [HWT.out]; rfl)
      clear HWT HSM
      go_wp2
      refine bodyPost_ret (v := .tuple #[.slice none 0 0, .bool false]) (by simp [results, Tryz.results37, go_sem]) rfl ?_
      exact ⟨_, [], false, rfl, got_nil KV.out.made, HR.out, Nat.zero_le _⟩
    | true =>
      cases ok with
      | false =>
        have HR := Lib.hid (show wholeW pc (a ++ [z]) = if false = true then some (parseZ z == 0, ([] : List In)) else none by rw [HWT.out, HX.out]; rfl)
        clear HWT HSM HX
        go_wp2
        refine bodyPost_ret (v := .tuple #[.slice none 0 0, .bool false]) (by simp [results, Tryz.results37, go_sem]) rfl ?_
        exact ⟨_, [], false, rfl, got_nil KV.out.made, HR.out, Nat.zero_le _⟩
      | true =>
        have HR := Lib.hid (show wholeW pc (a ++ [z]) = if true = true then some (parseZ z == 0, l ++ [x, y]) else none by rw [← HQ.out, HWT.out, HX.out]; rfl)
        obtain ⟨sx, sy, -, -⟩ := HSM.out rfl
        have HXS := Lib.hid (show ∀ t ∈ [x, y], t.small from fun t ht => by simp only [List.mem_cons, List.not_mem_nil, or_false] at ht; rcases ht with rfl | rfl; exact sx; exact sy)
        clear HWT HSM HX sx sy
        obtain ⟨x0, x1, x2, x3, x4, x5, x6, x7, x8, x9, x10⟩ := in_cells (K4.out.one (b := w2.heap.size) (x := x) (by simp))
        obtain ⟨y0, y1, y2, y3, y4, y5, y6, y7, y8, y9, y10⟩ := in_cells (K4.out.one (b := w2.heap.size + 1) (x := y) (by simp))
        have lx := heap_lt (K4.out.one (b := w2.heap.size) (x := x) (by simp))
        have ly := heap_lt (K4.out.one (b := w2.heap.size + 1) (x := y) (by simp))
        have m2 : Made w3 (w3.alloc (.cells (flatI [x, y]).toArray 40)) := (Made.refl w3).alloc (Nat.le_refl _) _
        have KA := Lib.hid (KV.out.next m2)
        have HOL := Lib.hid (insts_olds (insts_lit (l := [x, y]) (n := 2) (heap_alloc_new w3 (.cells (flatI [x, y]).toArray 40)) rfl (by omega) HXS.out))
        have hsz := Lib.hid KA.out.made.size
        have hmx : l.length + 2 ≤ maxLen := by unfold maxLen; omega
        have hby : (l.length + 2) * 24 ≤ 140737488355328 := by omega
        clear m2 c0 lb
        go_wp2_with (at_builtin; refine wpList_append_each rfl (.tmp 46) (.tmp 49) 27 rfl w.heap.size 40 i0 (In.val inZero) 11 24 Tryz.underlying27 hi0 hz0 hz1 hz2 rfl (by decide) v l.length (flatI l) rfl KA.out.row (some ⟨w3.heap.size, 0, none⟩) 2 2 (flatI [x, y]) rfl (fun h => by simp at h) rfl HOL.out (flatI_one _) hmx hby hsz.out ?_; intro v7 w9 own1 gr1; have KG := Lib.hid (KA.out.grows HXS.out rfl own1 gr1); clear own1 gr1)
        refine bodyPost_ret (v := .tuple #[v7, .bool true]) (by simp [results, Tryz.results37, go_sem]) rfl ?_
        exact ⟨v7, l ++ [x, y], true, rfl, KG.out, HR.out, by rw [List.length_append]; simp; omega⟩
end
end Go.Proofs.YtanjmoiepmadhaaGreatDoor
