/- What ahead and Order of the document's answer for pack return: the row, by picking the first of what is left. -/
import Derived.Test.YtdghnlbfmaehoaaGreatDoorGPack
import Derived.Test.YtdghnlbfmaehoaaGreatDoorGEncRefW
namespace Go.Proofs.YtdghnlbfmaehoaaGreatDoor
open Go.ChangeShapes Go.WideShapes Go.ChangeAt Go.RowKit Go.Sort BigFrame

section
attribute [local irreducible] World.cell?
set_option maxRecDepth 100000 in
set_option maxHeartbeats 2000000 in
theorem rank12_any (W : World) (c : Int) : Makes Tryz.prog W 47 #[.int .u8 c] (.int .i64 (rankZ c)) := by
  intro w hm
  have HM := Lib.hid hm
  have hway : (30 ≤ c ∧ rankZ c = 0) ∨ (¬ 30 ≤ c ∧ 27 ≤ c ∧ rankZ c = 1) ∨ (¬ 30 ≤ c ∧ ¬ 27 ≤ c ∧ 24 ≤ c ∧ rankZ c = 5) ∨ (¬ 30 ≤ c ∧ ¬ 27 ≤ c ∧ ¬ 24 ≤ c ∧ 21 ≤ c ∧ rankZ c = 4) ∨ (¬ 30 ≤ c ∧ ¬ 27 ≤ c ∧ ¬ 24 ≤ c ∧ ¬ 21 ≤ c ∧ 15 ≤ c ∧ rankZ c = 2) ∨ (¬ 30 ≤ c ∧ ¬ 27 ≤ c ∧ ¬ 24 ≤ c ∧ ¬ 21 ≤ c ∧ ¬ 15 ≤ c ∧ rankZ c = 3) := by
    unfold rankZ
    by_cases h1 : 30 ≤ c
    · exact .inl ⟨h1, if_pos h1⟩
    by_cases h2 : 27 ≤ c
    · exact .inr (.inl ⟨h1, h2, by rw [if_neg h1, if_pos h2]⟩)
    by_cases h3 : 24 ≤ c
    · exact .inr (.inr (.inl ⟨h1, h2, h3, by rw [if_neg h1, if_neg h2, if_pos h3]⟩))
    by_cases h4 : 21 ≤ c
    · exact .inr (.inr (.inr (.inl ⟨h1, h2, h3, h4, by rw [if_neg h1, if_neg h2, if_neg h3, if_pos h4]⟩)))
    by_cases h5 : 15 ≤ c
    · exact .inr (.inr (.inr (.inr (.inl ⟨h1, h2, h3, h4, h5, by rw [if_neg h1, if_neg h2, if_neg h3, if_neg h4, if_pos h5]⟩))))
    · exact .inr (.inr (.inr (.inr (.inr ⟨h1, h2, h3, h4, h5, by rw [if_neg h1, if_neg h2, if_neg h3, if_neg h4, if_neg h5]⟩))))
  generalize rankZ c = v at *
  have flip : ∀ n : Int, ¬ n ≤ c → decide (c ≥ n) = false := fun n h => decide_eq_false h
  have keep : ∀ n : Int, n ≤ c → decide (c ≥ n) = true := fun n h => decide_eq_true h
  clear hm
  rcases hway with ⟨h1, rfl⟩ | ⟨h1, h2, rfl⟩ | ⟨h1, h2, h3, rfl⟩ | ⟨h1, h2, h3, h4, rfl⟩ | ⟨h1, h2, h3, h4, h5, rfl⟩ | ⟨h1, h2, h3, h4, h5, rfl⟩
  case' inl => have a1 := keep _ h1
  case' inr.inl => have a1 := flip _ h1; have a2 := keep _ h2
  case' inr.inr.inl => have a1 := flip _ h1; have a2 := flip _ h2; have a3 := keep _ h3
  case' inr.inr.inr.inl => have a1 := flip _ h1; have a2 := flip _ h2; have a3 := flip _ h3; have a4 := keep _ h4
  case' inr.inr.inr.inr.inl => have a1 := flip _ h1; have a2 := flip _ h2; have a3 := flip _ h3; have a4 := flip _ h4; have a5 := keep _ h5
  case' inr.inr.inr.inr.inr => have a1 := flip _ h1; have a2 := flip _ h2; have a3 := flip _ h3; have a4 := flip _ h4; have a5 := flip _ h5
  all_goals
    clear flip keep
    go_enter Tryz.func47, Tryz.ntmps47
    go_wp2
    go_ret
    exact ⟨rfl, HM.out⟩
set_option maxRecDepth 100000 in
set_option maxHeartbeats 8000000 in
theorem ahead12_any (W : World) (a b : In) (ha : a.small) (hb : b.small) (pc : Int) (hp : isU32 pc) : Makes Tryz.prog W 22 #[a.val, b.val, .int .u32 pc] (.bool (aheadB pc a b)) := by
  intro w hm
  have K0 := Lib.hid ((Held.start hm).push2 a b)
  have RA := Lib.hid (fun u => rank12_any u a.op)
  have RB := Lib.hid (fun u => rank12_any u b.op)
  have WA := Lib.hid (fun u => refWord6_any u a ha pc hp u (Made.refl u))
  have WB := Lib.hid (fun u => refWord6_any u b hb pc hp u (Made.refl u))
  have hv : aheadB pc a b = if rankZ a.op ≠ rankZ b.op then decide (rankZ a.op < rankZ b.op) else if wordP a pc ≠ wordP b pc then decide (wordP a pc < wordP b pc) else if upP a pc ≠ upP b pc then decide (upP a pc < upP b pc) else !a.ext && b.ext := rfl
  generalize rankZ a.op = r at *
  generalize rankZ b.op = q at *
  generalize wordP a pc = v at *
  generalize wordP b pc = v2 at *
  generalize upP a pc = x at *
  generalize upP b pc = x2 at *
  generalize aheadB pc a b = res at *
  clear hm
  obtain ⟨a0, a1, a2, a3, a4, a5, a6, a7, ae, a9, a10⟩ := a
  obtain ⟨b0, b1, b2, b3, b4, b5, b6, b7, be, b9, b10⟩ := b
  simp only [] at hv
  have hway : (r ≠ q ∧ res = decide (r < q)) ∨ (r = q ∧ v ≠ v2 ∧ res = decide (v < v2)) ∨ (r = q ∧ v = v2 ∧ x ≠ x2 ∧ res = decide (x < x2)) ∨ (r = q ∧ v = v2 ∧ x = x2 ∧ ae = true ∧ res = false) ∨ (r = q ∧ v = v2 ∧ x = x2 ∧ ae = false ∧ res = be) := by
    rw [hv]
    by_cases h1 : r = q
    · rw [if_neg (fun h => h h1)]
      by_cases h2 : v = v2
      · rw [if_neg (fun h => h h2)]
        by_cases h3 : x = x2
        · rw [if_neg (fun h => h h3)]
          cases ae with
          | true => exact .inr (.inr (.inr (.inl ⟨h1, h2, h3, rfl, rfl⟩)))
          | false => exact .inr (.inr (.inr (.inr ⟨h1, h2, h3, rfl, rfl⟩)))
        · rw [if_pos h3]
          exact .inr (.inr (.inl ⟨h1, h2, h3, rfl⟩))
      · rw [if_pos h2]
        exact .inr (.inl ⟨h1, h2, rfl⟩)
    · rw [if_pos h1]
      exact .inl ⟨h1, rfl⟩
  clear hv
  have hlt : ∀ x y : Int, decide (x < y) = decide (x < y) := fun _ _ => rfl
  clear hlt
  rcases hway with ⟨h1, hr⟩ | ⟨rfl, h2, hr⟩ | ⟨rfl, rfl, h3, hr⟩ | ⟨rfl, rfl, rfl, rfl, rfl⟩ | ⟨rfl, rfl, rfl, rfl, rfl⟩
  case' inl => have g1 : (r != q) = true := bne_iff_ne.2 h1; have HR := Lib.hid hr; clear h1 hr
  case' inr.inl => have g1 : (r != r) = false := (by simp); have g2 : (v != v2) = true := bne_iff_ne.2 h2; have HR := Lib.hid hr; clear h2 hr
  case' inr.inr.inl => have g1 : (r != r) = false := (by simp); have g2 : (v != v) = false := (by simp); have g3 : (x != x2) = true := bne_iff_ne.2 h3; have HR := Lib.hid hr; clear h3 hr
  case' inr.inr.inr.inl => have g1 : (r != r) = false := (by simp); have g2 : (v != v) = false := (by simp); have g3 : (x != x) = false := (by simp); have HR := Lib.hid (rfl : false = false)
  case' inr.inr.inr.inr => have g1 : (r != r) = false := (by simp); have g2 : (v != v) = false := (by simp); have g3 : (x != x) = false := (by simp); have HR := Lib.hid (rfl : true = true)
  all_goals
    go_enter Tryz.func22, Tryz.ntmps22
    go_upto_region 1 with (fail)
    refine name_world (fun v => Held W [(w.heap.size + 1, _), (w.heap.size, _)] v) K0.out ?_
    intro z0 hz
    have KV := Lib.hid hz
    clear hz K0
    obtain ⟨e0, e1, e2, e3, e4, e5, e6, e7, e8, e9, e10⟩ := in_again (KV.out.one (b := w.heap.size) (by simp; rfl))
    obtain ⟨f0, f1, f2, f3, f4, f5, f6, f7, f8, f9, f10⟩ := in_again (KV.out.one (b := w.heap.size + 1) (by simp; rfl))
    have la := heap_lt (KV.out.one (b := w.heap.size) (by simp; rfl))
    have lb := heap_lt (KV.out.one (b := w.heap.size + 1) (by simp; rfl))
    have R1 := Lib.hid (RA.out z0)
    have R2 := Lib.hid (RB.out z0)
    refine wp_region_quiet_below (by kernel_rfl) (by kernel_rfl) ?_
    repeat (go_big_quiet_step ((first
      | (go_at_call 47; with_reducible exact R1.out.again _ _)
      | (go_at_call 47; with_reducible exact R2.out.again _ _))))
    refine wpQuiet_nil ?_
    intro z1 hz
    have K1 := Lib.hid (KV.out.next (made_regrown hz))
    clear hz e0 e1 e2 e3 e4 e5 e6 e7 e8 e9 e10 f0 f1 f2 f3 f4 f5 f6 f7 f8 f9 f10 la lb R1 R2 KV
  rotate_right
  · obtain ⟨e0, e1, e2, e3, e4, e5, e6, e7, e8, e9, e10⟩ := in_again (K1.out.one (b := w.heap.size) (by simp; rfl))
    obtain ⟨f0, f1, f2, f3, f4, f5, f6, f7, f8, f9, f10⟩ := in_again (K1.out.one (b := w.heap.size + 1) (by simp; rfl))
    have la := heap_lt (K1.out.one (b := w.heap.size) (by simp; rfl))
    have lb := heap_lt (K1.out.one (b := w.heap.size + 1) (by simp; rfl))
    have R1 := Lib.hid (RA.out z1)
    have R2 := Lib.hid (RB.out z1)
    go_upto_region 2 with (fail)
    refine wp_region_quiet_below (by kernel_rfl) (by kernel_rfl) ?_
    repeat (go_big_quiet_step ((first
      | (go_at_call 47; with_reducible exact R1.out.again _ _)
      | (go_at_call 47; with_reducible exact R2.out.again _ _))))
    refine wpQuiet_nil ?_
    intro z2 hz
    have K2 := Lib.hid (K1.out.next (made_regrown hz))
    clear hz e0 e1 e2 e3 e4 e5 e6 e7 e8 e9 e10 f0 f1 f2 f3 f4 f5 f6 f7 f8 f9 f10 la lb R1 R2 K1
    go_wp2
    go_ret
    exact ⟨ret_bool HR.out.symm, K2.out.made⟩
  all_goals
    obtain ⟨e0, e1, e2, e3, e4, e5, e6, e7, e8, e9, e10⟩ := in_cells (K1.out.one (b := w.heap.size) (by simp; rfl))
    have la := heap_lt (K1.out.one (b := w.heap.size) (by simp; rfl))
    go_wp2_with (fail)
    refine (WA.out z1).mono ?_
    rintro e z2 ⟨rfl, hz⟩
    have K2 := Lib.hid (K1.out.next hz)
    clear hz e0 e1 e2 e3 e4 e5 e6 e7 e8 e9 e10 la K1
    obtain ⟨f0, f1, f2, f3, f4, f5, f6, f7, f8, f9, f10⟩ := in_cells (K2.out.one (b := w.heap.size + 1) (by simp; rfl))
    have lb := heap_lt (K2.out.one (b := w.heap.size + 1) (by simp; rfl))
    go_wp2_with (fail)
    refine (WB.out z2).mono ?_
    rintro e z3 ⟨rfl, hz⟩
    have K3 := Lib.hid (K2.out.next hz)
    clear hz f0 f1 f2 f3 f4 f5 f6 f7 f8 f9 f10 lb K2
    obtain ⟨e0, e1, e2, e3, e4, e5, e6, e7, e8, e9, e10⟩ := in_cells (K3.out.one (b := w.heap.size) (by simp; rfl))
    obtain ⟨f0, f1, f2, f3, f4, f5, f6, f7, f8, f9, f10⟩ := in_cells (K3.out.one (b := w.heap.size + 1) (by simp; rfl))
    have la := heap_lt (K3.out.one (b := w.heap.size) (by simp; rfl))
    have lb := heap_lt (K3.out.one (b := w.heap.size + 1) (by simp; rfl))
    go_wp2
    go_ret
    first
      | exact ⟨ret_bool HR.out.symm, K3.out.made⟩
      | exact ⟨rfl, K3.out.made⟩
theorem order_many {pc : Int} {l : List In} (h : 4 < l.length) : orderB pc l = false := by
  unfold orderB
  rw [decide_eq_false (by omega), Bool.false_and]
theorem order_none {pc : Int} {l : List In} (h : orderB pc l = false) : orderL pc l = [] := by unfold orderL; rw [h]; rfl
theorem order_some {pc : Int} {l : List In} (h : orderB pc l = true) : orderL pc l = rowP pc l := by unfold orderL; rw [h]; rfl
theorem say_next {pc : Int} {l : List In} {k : Nat} (h : k < l.length) (x : In) (hx : l[k] = x) : sayAll pc (l.take (k + 1)) = (sayAll pc (l.take k) && sayB x pc) := by
  unfold sayAll
  rw [List.take_succ_eq_append_getElem h, List.all_append, hx]
  simp
theorem say_out {pc : Int} {l : List In} {k : Nat} (h : k < l.length) (x : In) (hx : l[k] = x) (hs : sayB x pc = false) : orderB pc l = false := by
  have : sayAll pc l = false := by
    unfold sayAll
    rw [List.all_eq_false]
    exact ⟨x, hx ▸ List.getElem_mem h, by simp [hs]⟩
  unfold orderB
  rw [this, Bool.and_false]
/-- How long a slice is. -/
def lenV : Value → Nat
  | .slice _ n _ => n
  | _ => 0
theorem rowed_none {pc : Int} {l : List In} {w w' : World} (h : orderB pc l = false) (hm : Made w w') : Rowed pc l w (.returned (.tuple #[.slice none 0 0, .bool false])) w' :=
  ⟨none, 0, 0, by rw [h], by rw [order_none h]; rfl, by rw [order_none h]; exact ⟨Nat.le_refl _, Nat.zero_le _, fun x hx => by simp at hx, fun _ => ⟨rfl, rfl⟩, fun t ht => absurd ht (Nat.not_lt_zero t)⟩, hm⟩
set_option maxRecDepth 100000 in
set_option maxHeartbeats 32000000 in
theorem rorder_any (ao : Option Addr) (cap : Nat) (l : List In) (w : World) (hI : Insts w ao cap l) (hl : l.length ≤ 1000) (pc : Int) (hp : isU32 pc) :
    Calls Tryz.prog 10 #[.slice ao l.length cap, .int .u32 pc] w (Rowed pc l w) := by
  have H := Lib.hid hI
  have hroom := hI.room
  have hmax := hI.max
  unfold maxLen at hmax
  have HB := Lib.hid (show ao = none → l.length = 0 ∧ cap = 0 from fun h => ⟨by rw [(hI.bare h).1]; rfl, (hI.bare h).2⟩)
  clear hI
  by_cases h4 : 4 < l.length
  · have hb : decide ((l.length : Int) > 4) = true := decide_eq_true (by omega)
    have HO := Lib.hid (order_many (pc := pc) h4)
    clear h4
    go_enter Tryz.func10, Tryz.ntmps10
    go_wp2
    refine bodyPost_ret (v := .tuple #[.slice none 0 0, .bool false]) (by simp [results, Tryz.results10, go_sem]) rfl ?_
    exact rowed_none HO.out (Made.refl w)
  · have hb : decide ((l.length : Int) > 4) = false := decide_eq_false (by omega)
    obtain ⟨i0, hi0, hz0, hz1, hz2⟩ := info_parts inst_row
    have hil := flatI_len l
    have hb1 : (0 + l.length) * 24 ≤ 140737488355328 := by omega
    have hx1 : 0 + l.length ≤ maxLen := by unfold maxLen; omega
    have H0 := Lib.hid (empty_row (Nat.le_refl w.heap.size))
    have HO := Lib.hid (insts_olds (insts_made H.out (made_empty (Made.refl w))))
    have hsz := Lib.hid (made_empty (Made.refl w)).size
    have HWD := Lib.hid (fun (u : World) (x : In) (hx : x.small) => refWord6_any u x hx pc hp u (Made.refl u))
    have HAH := Lib.hid (fun (u : World) (a b : In) (ha : a.small) (hb : b.small) => ahead12_any u a b ha hb pc hp)
    go_enter Tryz.func10, Tryz.ntmps10
    go_upto_region 4 with (at_builtin; refine wpList_append_each rfl (.tmp 18) (.tmp 19) 22 rfl w.heap.size 42 i0 (In.val inZero) 11 24 Tryz.underlying22 hi0 hz0 hz1 hz2 rfl (by decide) (.slice (some ⟨w.heap.size, 0, none⟩) 0 0) 0 [] rfl H0.out ao l.length cap (flatI l) rfl HB.out hil HO.out (flatI_one l) hx1 hb1 hsz.out ?_; intro v1 w1 hown1 hgr1; have G0 := Lib.hid (got_copy (Made.refl w) (Nat.le_refl _) H.out.small rfl hown1 hgr1).1; clear hown1 hgr1)
    clear H0 HO hsz HB hil
    go_wp2_with (fail)
    go_loopw [7] (fun iv wr => ∃ i : Nat, i ≤ l.length ∧ iv = .int .i64 i ∧ sayAll pc (l.take i) = true ∧ Made w1 wr) (fun iv _ => l.length - (intOf iv).toNat)
    case atStart => exact ⟨0, by omega, rfl, by simp [sayAll], Made.refl _⟩
    case round =>
      obtain ⟨i, hi, rfl, hsay, hm⟩ := hrel
      have HS := Lib.hid hsay
      have HM := Lib.hid hm
      have GM := Lib.hid (G0.out.next hm)
      clear hsay hm
      by_cases hlt : i < l.length
      · obtain ⟨x, hx⟩ : ∃ x, l[i] = x := ⟨_, rfl⟩
        have hsx := H.out.small x (hx ▸ List.getElem_mem hlt)
        have HW := Lib.hid (HWD.out wr x hsx)
        have hsn := say_next (pc := pc) hlt x hx
        have hso := fun h => say_out (pc := pc) hlt x hx h
        obtain ⟨b, o, rfl, c0, c1, c2, c3, c4, c5, c6, c7, c8, c9, c10⟩ := insts_cells (insts_made H.out GM.out.made) hlt x hx
        generalize wordP x pc = wd at *
        generalize upP x pc = up at *
        generalize sayB x pc = sy at *
        have HSN := Lib.hid hsn
        have HSO := Lib.hid hso
        clear hsn hso hx
        go_wp2_with (fail)
        refine HW.out.mono ?_
        rintro e w2 ⟨rfl, h2⟩
        have M2 := Lib.hid h2
        clear h2 c0 c1 c2 c3 c4 c5 c6 c7 c8 c9 c10
        cases sy with
        | false =>
          have HO := Lib.hid (HSO.out rfl)
          go_wp2
          refine bodyPost_ret (v := .tuple #[.slice none 0 0, .bool false]) (by simp [results, Tryz.results10, go_sem]) rfl ?_
          exact rowed_none HO.out (Made.trans GM.out.made M2.out)
        | true =>
          have HN := Lib.hid (show sayAll pc (l.take (i + 1)) = true by rw [HSN.out, HS.out]; rfl)
          go_wp2
          go_roundw
          case rel => exact ⟨i + 1, by omega, by go_num, HN.out, Made.trans HM.out M2.out⟩
          case measure => simp [intOf]; omega
      · obtain rfl : i = l.length := by omega
        have hsa := HS.out
        rewrite [List.take_length] at hsa
        have HSA := Lib.hid hsa
        have HOR := Lib.hid (show orderB pc l = true by unfold orderB; rw [hsa, decide_eq_true (by omega)]; rfl)
        have G1 := Lib.hid (show GotAt w w.heap.size v1 l wr from GM.out)
        have N1 := Lib.hid (got_nil GM.out.made)
        clear hsa HM G0 HS GM
        go_wp2_with (fail)
        go_loopw [6, 11] (fun lv ov wx => ∃ (left out : List In) (B : Nat) (V : Value), V = ov ∧ Picked pc l out left ∧ GotAt w B lv left wx ∧ GotAt w w.heap.size V out wx ∧ ∀ t, V.ownBlock = some t → t < B) (fun lv _ _ => lenV lv)
        case atStart => exact ⟨l, [], w.heap.size, _, rfl, picked_start pc l, G1.out, N1.out, fun t h => by simp [Value.ownBlock] at h⟩
        case round =>
          obtain ⟨left, out, B, V, rfl, hP, hG, hO, hB⟩ := hrel
          obtain ⟨so, c, rfl, hIL⟩ := hG.insts
          have HP := Lib.hid hP
          have HG := Lib.hid hG
          have HOO := Lib.hid hO
          have HBB := Lib.hid hB
          have HIL := Lib.hid hIL
          have hll : left.length ≤ l.length := by have := hP.perm.length_eq; rw [List.length_append] at this; omega
          have hol : out.length ≤ l.length := by have := hP.perm.length_eq; rw [List.length_append] at this; omega
          clear hP hG hO hB hIL G1 N1
          by_cases hpos : 0 < left.length
          · have hgt : decide ((left.length : Int) > 0) = true := decide_eq_true (by omega)
            go_wp2_with (fail)
            go_loopw [12, 13] (fun kv nv wz => ∃ n k : Nat, n ≤ left.length ∧ nv = .int .i64 n ∧ kv = .int .i64 k ∧ Least pc left n k ∧ Made wr wz) (fun _ nv _ => left.length - (intOf nv).toNat)
            case atStart => exact ⟨1, 0, by omega, rfl, rfl, least_start pc hpos, Made.refl _⟩
            case round =>
              obtain ⟨n, k, hn, rfl, rfl, hL, hmz⟩ := hrel
              have HL := Lib.hid hL
              have HMZ := Lib.hid hmz
              have hkl := hL.lt
              clear hL hmz
              by_cases hnl : n < left.length
              · obtain ⟨x, hx⟩ : ∃ x, left[n] = x := ⟨_, rfl⟩
                obtain ⟨y, hy⟩ : ∃ y, left[k] = y := ⟨_, rfl⟩
                have hsx := HIL.out.small x (hx ▸ List.getElem_mem hnl)
                have hsy := HIL.out.small y (hy ▸ List.getElem_mem hkl)
                have HA := Lib.hid (HAH.out wr x y hsx hsy)
                have HK := Lib.hid (fun h => least_keep HL.out hnl (by rw [hx, hy]; exact h))
                have HT := Lib.hid (fun h => least_turn HL.out hnl (by rw [hx, hy]; exact h))
                obtain ⟨b, o, rfl, c0, c1, c2, c3, c4, c5, c6, c7, c8, c9, c10⟩ := insts_cells (insts_made HIL.out HMZ.out) hnl x hx
                obtain ⟨b', o', e', d0, d1, d2, d3, d4, d5, d6, d7, d8, d9, d10⟩ := insts_cells (insts_made HIL.out HMZ.out) hkl y hy
                obtain ⟨rfl, rfl⟩ : b = b' ∧ o = o' := by simpa using e'
                have lb := World.block_lt_of_cell? _ _ c0
                generalize aheadB pc x y = ah at *
                clear e' hx hy hsx hsy
                have gc0 := fun d os => cell_regrown c0 d os
                have gc1 := fun d os => cell_regrown c1 d os
                have gc2 := fun d os => cell_regrown c2 d os
                have gc3 := fun d os => cell_regrown c3 d os
                have gc4 := fun d os => cell_regrown c4 d os
                have gc5 := fun d os => cell_regrown c5 d os
                have gc6 := fun d os => cell_regrown c6 d os
                have gc7 := fun d os => cell_regrown c7 d os
                have gc8 := fun d os => cell_regrown c8 d os
                have gc9 := fun d os => cell_regrown c9 d os
                have gc10 := fun d os => cell_regrown c10 d os
                have gd0 := fun d os => cell_regrown d0 d os
                have gd1 := fun d os => cell_regrown d1 d os
                have gd2 := fun d os => cell_regrown d2 d os
                have gd3 := fun d os => cell_regrown d3 d os
                have gd4 := fun d os => cell_regrown d4 d os
                have gd5 := fun d os => cell_regrown d5 d os
                have gd6 := fun d os => cell_regrown d6 d os
                have gd7 := fun d os => cell_regrown d7 d os
                have gd8 := fun d os => cell_regrown d8 d os
                have gd9 := fun d os => cell_regrown d9 d os
                have gd10 := fun d os => cell_regrown d10 d os
                have hi0' : (0 : Int) ≤ (n : Int) := by omega
                have hi1' : (n : Int) < (left.length : Int) := by omega
                have hj0' : (0 : Int) ≤ (k : Int) := by omega
                have hj1' : (k : Int) < (left.length : Int) := by omega
                go_upto_region 16 with (fail)
                refine wp_region_quiet_below (by kernel_rfl) (by kernel_rfl) ?_
                repeat (go_big_quiet_step ((go_at_call 22; with_reducible exact HA.out.again _ _)))
                refine wpQuiet_nil ?_
                intro z hz
                have MZ := Lib.hid (Made.trans HMZ.out (made_regrown hz))
                clear hz lb HA gc0 c0 gc1 c1 gc2 c2 gc3 c3 gc4 c4 gc5 c5 gc6 c6 gc7 c7 gc8 c8 gc9 c9 gc10 c10 gd0 d0 gd1 d1 gd2 d2 gd3 d3 gd4 d4 gd5 d5 gd6 d6 gd7 d7 gd8 d8 gd9 d9 gd10 d10
                cases ah with
                | true =>
                  have HN := Lib.hid (HT.out rfl)
                  go_wp2
                  go_roundw
                  case rel => exact ⟨n + 1, n, by omega, by go_num, rfl, HN.out, MZ.out⟩
                  case measure => simp [intOf]; omega
                | false =>
                  have HN := Lib.hid (HK.out rfl)
                  go_wp2
                  go_roundw
                  case rel => exact ⟨n + 1, k, by omega, by go_num, rfl, HN.out, MZ.out⟩
                  case measure => simp [intOf]; omega
              · obtain rfl : n = left.length := by omega
                obtain ⟨x, hx⟩ : ∃ x, left[k] = x := ⟨_, rfl⟩
                have hsx := HIL.out.small x (hx ▸ List.getElem_mem hkl)
                have HPN := Lib.hid (show Picked pc l (out ++ [x]) (left.take k ++ left.drop (k + 1)) by rw [← hx]; exact picked_next HP.out HL.out)
                have GZ := Lib.hid (HG.out.next HMZ.out)
                have OZ := Lib.hid (HOO.out.next HMZ.out)
                have IZ := Lib.hid (insts_made HIL.out HMZ.out)
                obtain ⟨b, o, rfl, c0, c1, c2, c3, c4, c5, c6, c7, c8, c9, c10⟩ := insts_cells IZ.out hkl x hx
                have lb := World.block_lt_of_cell? _ _ c0
                have hbB : B ≤ b := (GZ.out.row.lt b rfl).1
                have m2 : Made wr (wr.alloc (.cells (flatI [x]).toArray 42)) := (Made.refl wr).alloc (Nat.le_refl _) _
                have M2 := Lib.hid m2
                have OA := Lib.hid (OZ.out.next m2)
                have HI1 := Lib.hid (insts_olds (one_lit wr x hsx))
                have hbn : (some (⟨wr.heap.size, 0, none⟩ : Addr)) = none → (1 : Nat) = 0 ∧ (1 : Nat) = 0 := fun h => by simp at h
                have hlen1 : (flatI [x]).length = 1 * 11 := flatI_len [x]
                have hmx : out.length + 1 ≤ maxLen := by unfold maxLen; omega
                have hby : (out.length + 1) * 24 ≤ 140737488355328 := by omega
                have hsz1 := Lib.hid (show w.heap.size ≤ (wr.alloc (.cells (flatI [x]).toArray 42)).heap.size from OA.out.made.size)
                have HSX := Lib.hid (show ∀ y ∈ [x], y.small from fun y hy => by obtain rfl : y = x := (by simpa using hy); exact hsx)
                have hroom2 := IZ.out.room
                have hmax2 := IZ.out.max
                unfold maxLen at hmax2
                have hkcap : k ≤ c := by omega
                have hwr : IntKind.i64.wrap ((k : Int) + 1) = (k : Int) + 1 := by rw [IntKind.wrap_i64]; omega
                have hp0 : (0 : Int) ≤ (k : Int) + 1 := by omega
                have hp1 : (k : Int) + 1 ≤ (left.length : Int) := by omega
                have hp2 : ((k : Int) + 1).toNat = k + 1 := by omega
                clear hx hsx m2
                go_upto_region 19 with (at_builtin; refine wpList_append_each rfl (.tmp 59) (.tmp 64) 22 rfl w.heap.size 42 i0 (In.val inZero) 11 24 Tryz.underlying22 hi0 hz0 hz1 hz2 rfl (by decide) V out.length (flatI out) rfl OA.out.row (some ⟨wr.heap.size, 0, none⟩) 1 1 (flatI [x]) rfl hbn hlen1 HI1.out (flatI_one _) hmx hby hsz1.out ?_; intro v3 w3 own3 gr3; have O3 := Lib.hid (OA.out.grows HSX.out rfl own3 gr3); have I3 := Lib.hid (insts_block (w' := w3) (insts_made IZ.out M2.out) (fun b' o' e => (by obtain ⟨rfl, -⟩ : b = b' ∧ o = o' := (by simpa using e); exact gr3.block b (Nat.lt_of_lt_of_le lb M2.out.size) (fun h => Nat.not_lt.2 hbB (HBB.out b h.symm))))); clear own3 gr3)
                clear c0 c1 c2 c3 c4 c5 c6 c7 c8 c9 c10 lb OA HI1 hsz1 OZ GZ IZ M2
                have H0 := Lib.hid (empty_row (Nat.le_refl w3.heap.size))
                have hsz := Lib.hid (made_empty (Made.refl w3)).size
                have HC1 := Lib.hid (insts_olds (insts_first (insts_made I3.out (made_empty (Made.refl w3))) k))
                have HN1 := Lib.hid (show (some (⟨b, o, none⟩ : Addr)) = none → k = 0 ∧ c = 0 from fun h => by simp at h)
                have hl1 : (flatI (left.take k)).length = k * 11 := by rw [flatI_len, List.length_take]; omega
                have hl2 : (flatI (left.drop (k + 1))).length = (left.length - (k + 1)) * 11 := by rw [flatI_len, List.length_drop]
                have hb2 : (0 + k) * 24 ≤ 140737488355328 := by omega
                have hx2 : 0 + k ≤ maxLen := by unfold maxLen; omega
                have hb3 : (k + (left.length - (k + 1))) * 24 ≤ 140737488355328 := by omega
                have hx3 : k + (left.length - (k + 1)) ≤ maxLen := by unfold maxLen; omega
                have HS1 := Lib.hid (show ∀ x ∈ left.take k, x.small from fun x hx => I3.out.small x (List.mem_of_mem_take hx))
                have HS2 := Lib.hid (show ∀ x ∈ left.drop (k + 1), x.small from fun x hx => I3.out.small x (List.mem_of_mem_drop hx))
                have HT1 := Lib.hid (show (left.take k).length = k by rw [List.length_take]; omega)
                have HT2 := Lib.hid (show (left.take k).length + (left.drop (k + 1)).length = k + (left.length - (k + 1)) by rw [List.length_take, List.length_drop]; omega)
                obtain ⟨A, hA, hA2⟩ := rest_at I3.out hkl
                have HA2 := Lib.hid hA2
                clear hA2
                go_upto_region 20 with (at_builtin; refine wpList_append_each rfl (.tmp 66) (.tmp 69) 22 rfl w3.heap.size 42 i0 (In.val inZero) 11 24 Tryz.underlying22 hi0 hz0 hz1 hz2 rfl (by decide) (.slice (some ⟨w3.heap.size, 0, none⟩) 0 0) 0 [] rfl H0.out (some ⟨b, o, none⟩) k c (flatI (left.take k)) rfl HN1.out hl1 HC1.out (flatI_one _) hx2 hb2 hsz.out ?_; intro v4 w4 hown4 hgr4; have G1 := Lib.hid (got_copy O3.out.made O3.out.made.size HS1.out HT1.out hown4 hgr4); clear hown4 hgr4)
                obtain ⟨hG1, hm1⟩ := G1.out
                have G2 := Lib.hid hG1
                have M4 := Lib.hid hm1
                have hrow := hG1.row
                obtain ⟨s1, c1, rfl, -⟩ := hG1.insts
                rewrite [HT1.out] at hrow G2 ⊢
                have HR := Lib.hid hrow
                clear hG1 hm1 hrow G1
                go_wp2_with (at_builtin; refine wpList_append_each rfl (.tmp 71) (.tmp 75) 22 rfl w3.heap.size 42 i0 (In.val inZero) 11 24 Tryz.underlying22 hi0 hz0 hz1 hz2 rfl (by decide) (.slice s1 k c1) k (flatI (left.take k)) rfl HR.out (some A) (left.length - (k + 1)) (c - (k + 1)) (flatI (left.drop (k + 1))) rfl (fun h => by simp at h) hl2 (fun ad had => by obtain rfl := Option.some.inj had; exact HA2.out _ M4.out) (flatI_one _) hx3 hb3 M4.out.size ?_; intro v5 w5 hown5 hgr5; have M5 := Lib.hid (Below.grown M4.out hgr5 M4.out.size (fun t ht => (HR.out.lt t ht).1)); have G3 := Lib.hid (G2.out.grows HS2.out HT2.out hown5 hgr5); clear hown5 hgr5)
                obtain ⟨s5, c5, rfl, -⟩ := G3.out.insts
                have hnew : (left.take k ++ left.drop (k + 1)).length < left.length := by rw [List.length_append, HT2.out]; omega
                go_wp2
                go_roundw
                case rel => exact ⟨_, _, w3.heap.size, _, rfl, HPN.out, G3.out, O3.out.next M5.out, fun t h => (O3.out.row.lt t h).2⟩
                case measure => simpa [lenV] using hnew
          · have hgt : decide ((left.length : Int) > 0) = false := decide_eq_false (by omega)
            have hnil : left = [] := List.eq_nil_of_length_eq_zero (by omega)
            have HE := Lib.hid (show out = orderL pc l by rw [order_some HOR.out]; exact picked_end (said_of H.out.small HSA.out) (by have := HP.out; rw [hnil] at this; exact this))
            obtain ⟨so2, c2, e2, hI2⟩ := HOO.out.insts
            have HI2 := Lib.hid hI2
            clear hI2 hnil
            subst e2
            go_wp2
            refine bodyPost_ret (v := .tuple #[.slice so2 out.length c2, .bool true]) (by simp [results, Tryz.results10, go_sem]) rfl ?_
            exact ⟨so2, out.length, c2, by rw [HOR.out], by rw [← HE.out], by rw [← HE.out]; exact HI2.out, HOO.out.made⟩
end
end Go.Proofs.YtdghnlbfmaehoaaGreatDoor
