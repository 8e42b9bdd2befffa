/- What package pack's rowOf, instsOf and Order return, for any instructions in memory, in every world that holds the three tables. -/
import Derived.Test.YtdghnlbfmaehoaaGreatDoorPackFn
import Derived.Test.YtdghnlbfmaehoaaGreatDoorGPack
import Derived.Test.YtdghnlbfmaehoaaGreatDoorLegalCode
namespace Go.Proofs.YtdghnlbfmaehoaaGreatDoor
open Go.ChangeShapes Go.WideShapes Go.ChangeAt Go.RowKit Go.Sort BigFrame

theorem porder_many {pc : Int} {l : List In} (h : 4 < l.length) : orderB pc l = false := by
  unfold orderB
  rw [decide_eq_false (by omega), Bool.false_and]
theorem psay_next {pc : Int} {l : List In} {k : Nat} (h : k < l.length) (x : In) (hx : l[k] = x) : sayAll pc (l.take (k + 1)) = (sayAll pc (l.take k) && sayB x pc) := by
  unfold sayAll
  rw [List.take_succ_eq_append_getElem h, List.all_append, hx]
  simp
theorem psay_out {pc : Int} {l : List In} {k : Nat} (h : k < l.length) (x : In) (hx : l[k] = x) (hs : sayB x pc = false) : orderB pc l = false := by
  have : sayAll pc l = false := by
    unfold sayAll
    rw [List.all_eq_false]
    exact ⟨x, hx ▸ List.getElem_mem h, by simp [hs]⟩
  unfold orderB
  rw [this, Bool.and_false]
/-- The keyed ones while they are made. -/
def fillE (pc : Int) (l : List In) (k : Nat) : List Ent := (l.take k).map (entP pc) ++ List.replicate (l.length - k) zeroE
theorem fillE_len (pc : Int) (l : List In) {k : Nat} (h : k ≤ l.length) : (fillE pc l k).length = l.length := by
  unfold fillE
  rw [List.length_append, List.length_map, List.length_take, List.length_replicate]
  omega
theorem fillE_zero (pc : Int) (l : List In) : fillE pc l 0 = List.replicate l.length zeroE := by simp [fillE]
theorem fillE_all (pc : Int) (l : List In) : fillE pc l l.length = l.map (entP pc) := by simp [fillE]
theorem fillE_put (pc : Int) (l : List In) {k : Nat} (h : k < l.length) (x : In) (hx : l[k] = x) : (fillE pc l k).set k (entP pc x) = fillE pc l (k + 1) := by
  unfold fillE
  have e1 : ((l.take k).map (entP pc)).length = k := by rw [List.length_map, List.length_take]; omega
  rw [List.set_append_right _ _ (by omega), e1, Nat.sub_self, show l.length - k = (l.length - (k + 1)) + 1 by omega, List.replicate_succ, List.set_cons_zero, List.take_succ_eq_append_getElem h, List.map_append, List.append_assoc, hx]
  rfl
/-- What rowOf tells. -/
def RowSays (pc : Int) (l : List In) (w : World) (e : Ending) (w' : World) : Prop := Made w w' ∧ ((orderB pc l = false ∧ e = .returned (.tuple #[.slice none 0 0, .bool false])) ∨ (orderB pc l = true ∧ ∃ so c, e = .returned (.tuple #[.slice so l.length c, .bool true]) ∧ Ents w' so c ((rowP pc l).map (entP pc))))
theorem enters_pack : Enters 37 := enters_of Tryz.func37 (by kernel_rfl) (by kernel_rfl)
section
attribute [local irreducible] World.cell?
set_option maxRecDepth 100000 in
set_option maxHeartbeats 16000000 in
theorem prow_any (ao : Option Addr) (cap : Nat) (l : List In) (w : World) (hT : Tabs w) (hI : Insts w ao cap l) (hl : l.length ≤ 1000) (pc : Int) :
    Calls Tryz.prog 19 #[.slice ao l.length cap, .int .u32 pc] w (RowSays pc l w) := by
  by_cases h4 : 4 < l.length
  · have hb : decide ((l.length : Int) > 4) = true := decide_eq_true (by omega)
    have HO := Lib.hid (porder_many (pc := pc) h4)
    clear h4 hT hI
    go_enter Tryz.func19, Tryz.ntmps19
    go_wp2
    refine bodyPost_ret (v := .tuple #[.slice none 0 0, .bool false]) (by simp [results, Tryz.results19, go_sem]) rfl ?_
    exact ⟨Made.refl w, .inl ⟨HO.out, rfl⟩⟩
  · have hb : decide ((l.length : Int) > 4) = false := decide_eq_false (by omega)
    obtain ⟨i0, hi, hz0, hz1, hz2⟩ := info_parts ent_row
    have hzb : i0.bytes * l.length ≤ 281474976710656 := by rw [hz2]; omega
    have H := Lib.hid hI
    have HC := Lib.hid (fun (u : World) (hu : Made w u) (x : In) (hx : x.small) => pcode_any u (hT.made hu).names (hT.made hu).pieces x hx pc u (Made.refl u))
    clear hT hI
    go_enter Tryz.func19, Tryz.ntmps19
    go_upto_region 4 with (at_make; refine wpList_make_full _ rfl _ _ 48 rfl w.heap.size 69 i0 (Ent.val zeroE) 15 Tryz.underlying48 hi hz0 hz1 _ _ _ _ l.length rfl rfl rfl rfl hzb (by unfold maxLen; omega) (Nat.le_refl _) ?_; intro w1 hown hgr)
    rewrite [made_ents] at hown
    have K0 := Lib.hid (show SortAt w w.heap.size w.heap.size l.length (fillE pc l 0) w1 from ⟨⟨hgr.os, hgr.tape, hgr.output, hgr.size, fun k hk => hgr.block k hk (by simp)⟩, Nat.le_refl _, by rw [fillE_zero, List.length_replicate]; exact hown⟩)
    clear hown hgr hzb
    go_wp2_with (fail)
    go_loopw [19] (fun v wr => ∃ k : Nat, k ≤ l.length ∧ v = .int .i64 k ∧ sayAll pc (l.take k) = true ∧ SortAt w w.heap.size w.heap.size l.length (fillE pc l k) wr) (fun v _ => l.length - (intOf v).toNat)
    case atStart => exact ⟨0, by omega, rfl, by simp [sayAll], K0.out⟩
    case round =>
      obtain ⟨k, hk, rfl, hsay, hS⟩ := hrel
      have HS := Lib.hid hsay
      have K1 := Lib.hid hS
      clear hsay hS K0
      by_cases hlt : k < l.length
      · obtain ⟨x, hx⟩ : ∃ x, l[k] = x := ⟨_, rfl⟩
        have hsx := H.out.small x (hx ▸ List.getElem_mem hlt)
        have hsn := psay_next (pc := pc) hlt x hx
        have hso := fun h => psay_out (pc := pc) hlt x hx h
        have hce : sayB x pc = true → codedE pc x = entP pc x := fun h => by unfold codedE; rw [if_pos h]
        obtain ⟨b, o, rfl, c0, c1, c2, c3, c4, c5, c6, c7, c8, c9, c10⟩ := insts_cells (insts_made H.out K1.out.made) hlt x hx
        have m2 := Lib.hid (made_alloc' (Made.refl wr) (.cells x.cells.toArray 42))
        have K2 := Lib.hid (K1.out.next m2.out)
        have HG := Lib.hid (HC.out _ K2.out.made x hsx)
        have HP := Lib.hid (fillE_put pc l hlt x hx)
        generalize codedE pc x = ce at *
        generalize sayB x pc = sy at *
        have HSN := Lib.hid hsn
        have HSO := Lib.hid hso
        have HCE := Lib.hid hce
        clear hsn hso hx hce hsx
        go_wp2_with (fail)
        refine HG.out.mono ?_
        rintro e w3 ⟨rfl, h3⟩
        have K3 := Lib.hid (K2.out.next h3)
        clear h3 c0 c1 c2 c3 c4 c5 c6 c7 c8 c9 c10 K2 m2 HG
        cases sy with
        | false =>
          have HO := Lib.hid (HSO.out rfl)
          have m3 := Lib.hid (made_alloc' (Made.refl w3) (.cells ce.cells.toArray 69))
          have K4 := Lib.hid (K3.out.next m3.out)
          go_wp2
          refine bodyPost_ret (v := .tuple #[.slice none 0 0, .bool false]) (by simp [results, Tryz.results19, go_sem]) rfl ?_
          exact ⟨K4.out.made, .inl ⟨HO.out, rfl⟩⟩
        | true =>
          have HN := Lib.hid (show sayAll pc (l.take (k + 1)) = true by rw [HSN.out, HS.out]; rfl)
          have HE := Lib.hid (HCE.out rfl)
          have m3 := Lib.hid (made_alloc' (Made.refl w3) (.cells ce.cells.toArray 69))
          have EB := Lib.hid (And.intro (show EntIn (w3.alloc (.cells ce.cells.toArray 69)) w3.heap.size ce from heap_alloc_new w3 _) (K3.out.next m3.out))
          clear m3 K3
          go_upto_region 10 with (fail)
          refine world_named (fun u => EntIn u w3.heap.size ce ∧ SortAt w w.heap.size w.heap.size l.length (fillE pc l k) u) EB.out ?_
          rintro z ⟨hz1', hz2'⟩
          have KS := Lib.hid hz2'
          have fl := fillE_len pc l hk
          have hput := hz2'.put (t := k) (by rw [fl]; exact hlt) ce
          rewrite [HE.out, HP.out] at hput
          rewrite [← HE.out] at hput
          have KN := Lib.hid hput
          obtain ⟨a0, a1, a2, a3, a4, a5, a6, a7, a8, a9, a10, a11, a12, a13, a14⟩ := entIn_cells hz1'
          have hrow : z.ownsRow w.heap.size 69 15 (.slice (some ⟨w.heap.size, 0, none⟩) l.length l.length) l.length (flatE (fillE pc l k)) := by
            have h5 := hz2'.row
            rwa [fl] at h5
          obtain ⟨y, hy⟩ : ∃ y, (fillE pc l k)[k]'(by rw [fl]; exact hlt) = y := ⟨_, rfl⟩
          obtain ⟨d0, d1, d2, d3, d4, d5, d6, d7, d8, d9, d10, d11, d12, d13, d14⟩ := hz2'.cells (by rw [fl]; exact hlt) y hy
          have fr := hrow.frozenAt
          have lg := (hrow.lt w.heap.size rfl).2
          have la := heap_lt hz1'
          clear hz1' hz2' hput hrow fl hy EB KS HP HE
          go_wp2
          go_roundw
          case rel => exact ⟨k + 1, by omega, by go_num, HN.out, KN.out⟩
          case measure => simp [intOf]; omega
      · obtain rfl : k = l.length := by omega
        have hsa := HS.out
        rewrite [List.take_length] at hsa
        have HSD := Lib.hid (said_of H.out.small hsa)
        have HOR := Lib.hid (show orderB pc l = true by unfold orderB; rw [hsa, decide_eq_true (by omega)]; rfl)
        have K2 := Lib.hid (show SortAt w w.heap.size w.heap.size l.length (l.map (entP pc)) wr by rw [← fillE_all]; exact K1.out)
        have hml : (l.map (entP pc)).length = l.length := List.length_map _
        have HCM := Lib.hid (show CmpOf w 37 #[] cmpE (l.map (entP pc)) from fun x _ y _ u _ => by simpa using pclosure_any u x y)
        clear hsa HS K1
        by_cases h0 : l.length = 0
        · have HRW := Lib.hid (show l = [] from List.eq_nil_of_length_eq_zero h0)
          obtain rfl := HRW.out
          have HSN := Lib.hid (sort_none (some ⟨w.heap.size, 0, none⟩) 0 (.func (.func 37) #[] #[]) wr)
          have HM := Lib.hid K2.out.made
          have HE := Lib.hid (show Ents wr (some ⟨w.heap.size, 0, none⟩) 0 ((rowP pc []).map (entP pc)) from by
            have e : (rowP pc []).map (entP pc) = [] := by rw [List.eq_nil_of_length_eq_zero (row_len pc [])]; rfl
            rw [e]
            exact ⟨Nat.le_refl _, Nat.zero_le _, fun h => by simp at h, fun t ht => absurd ht (Nat.not_lt_zero t)⟩)
          clear h0 hml HCM K2 HSD HRW
          simp only [List.length_nil] at *
          go_wp2_with (fail)
          refine HSN.out.mono ?_
          rintro e z ⟨rfl, rfl⟩
          go_wp2
          refine bodyPost_ret (v := .tuple #[.slice (some ⟨w.heap.size, 0, none⟩) 0 0, .bool true]) (by simp [results, Tryz.results19, go_sem]) rfl ?_
          exact ⟨HM.out, .inr ⟨HOR.out, _, _, rfl, HE.out⟩⟩
        · have hsort := sort_any 37 #[] cmpE w w.heap.size w.heap.size l.length (l.map (entP pc)) wr K2.out (by omega) (by omega) enters_pack HCM.out cmp_trans cmp_anti
          rewrite [hml] at hsort
          have HSO := Lib.hid hsort
          clear hsort K2 HCM
          go_wp2_with (fail)
          refine HSO.out.mono ?_
          rintro e z ⟨rfl, r, hp, hs, hK⟩
          have hr := sorted_row HSD.out hp hs
          subst hr
          obtain ⟨hlr, so, c, hv, hE⟩ := owns_ents hK.row
          have hmr : ((rowP pc l).map (entP pc)).length = l.length := by rw [List.length_map, row_len]
          rewrite [hmr] at hv
          simp only [Value.slice.injEq] at hv
          obtain ⟨rfl, -, rfl⟩ := hv
          have HE := Lib.hid hE
          have HM := Lib.hid hK.made
          clear hp hs hK hlr hmr hE HSO HSD
          go_wp2
          refine bodyPost_ret (v := .tuple #[.slice (some ⟨w.heap.size, 0, none⟩) l.length l.length, .bool true]) (by simp [results, Tryz.results19, go_sem]) rfl ?_
          exact ⟨HM.out, .inr ⟨HOR.out, _, _, rfl, HE.out⟩⟩
/-- The instructions while they are taken out of their keyed ones. -/
def fillI (es : List Ent) (k : Nat) : List In := (es.take k).map Ent.x ++ List.replicate (es.length - k) inZero
theorem fillI_len (es : List Ent) {k : Nat} (h : k ≤ es.length) : (fillI es k).length = es.length := by
  unfold fillI
  rw [List.length_append, List.length_map, List.length_take, List.length_replicate]
  omega
theorem fillI_zero (es : List Ent) : fillI es 0 = List.replicate es.length inZero := by simp [fillI]
theorem fillI_all (es : List Ent) : fillI es es.length = es.map Ent.x := by simp [fillI]
theorem fillI_put (es : List Ent) {k : Nat} (h : k < es.length) (e : Ent) (he : es[k] = e) : (fillI es k).set k e.x = fillI es (k + 1) := by
  unfold fillI
  have e1 : ((es.take k).map Ent.x).length = k := by rw [List.length_map, List.length_take]; omega
  rw [List.set_append_right _ _ (by omega), e1, Nat.sub_self, show es.length - k = (es.length - (k + 1)) + 1 by omega, List.replicate_succ, List.set_cons_zero, List.take_succ_eq_append_getElem h, List.map_append, List.append_assoc, he]
  rfl
/-- A row of instructions of a call's own, in a block that is known. -/
structure RowTook (W : World) (g n : Nat) (l : List In) (w : World) : Prop where
  made : Made W w
  low : W.heap.size ≤ g
  row : w.ownsRow W.heap.size 42 11 (.slice (some ⟨g, 0, none⟩) n n) n (flatI l)
theorem RowTook.next {W w w' : World} {g n : Nat} {l : List In} (h : RowTook W g n l w) (hm : Made w w') : RowTook W g n l w' := ⟨Made.trans h.made hm, h.low, owns_made h.row hm⟩
theorem RowTook.put {W w : World} {g n : Nat} {l : List In} (h : RowTook W g n l w) {t : Nat} (ht : t < l.length) (x : In) : RowTook W g n (l.set t x) (put11 w g (t * 11) x) := ⟨put_made h.made h.low x, h.low, row_put h.row ht x⟩
theorem RowTook.len {W w : World} {g n : Nat} {l : List In} (h : RowTook W g n l w) : l.length = n := by
  have := h.row.1
  rw [flatI_len] at this
  omega
/-- What instsOf tells. -/
def InstsSay (es : List Ent) (w : World) (e : Ending) (w' : World) : Prop := ∃ so c, e = .returned (.slice so es.length c) ∧ Insts w' so c (es.map Ent.x) ∧ Made w w'
set_option maxRecDepth 100000 in
set_option maxHeartbeats 16000000 in
theorem pinstsOf_any (so : Option Addr) (cap : Nat) (es : List Ent) (w : World) (hI : Ents w so cap es) (hs : ∀ e ∈ es, e.x.small) (hl : es.length ≤ 1000) :
    Calls Tryz.prog 20 #[.slice so es.length cap] w (InstsSay es w) := by
  obtain ⟨i0, hi, hz0, hz1, hz2⟩ := info_parts inst_row
  have hzb : i0.bytes * es.length ≤ 281474976710656 := by rw [hz2]; omega
  have H := Lib.hid hI
  have HSM := Lib.hid hs
  clear hI hs
  go_enter Tryz.func20, Tryz.ntmps20
  go_upto_region 2 with (at_make; refine wpList_make_full _ rfl _ _ 22 rfl w.heap.size 42 i0 (In.val inZero) 11 Tryz.underlying22 hi hz0 hz1 _ _ _ _ es.length rfl rfl rfl rfl hzb (by unfold maxLen; omega) (Nat.le_refl _) ?_; intro w1 hown hgr)
  rewrite [made_insts] at hown
  have K0 := Lib.hid (show RowTook w w.heap.size es.length (fillI es 0) w1 from ⟨⟨hgr.os, hgr.tape, hgr.output, hgr.size, fun k hk => hgr.block k hk (by simp)⟩, Nat.le_refl _, by rw [fillI_zero]; exact hown⟩)
  clear hown hgr hzb
  go_wp2_with (fail)
  go_loopw [11] (fun v wr => ∃ k : Nat, k ≤ es.length ∧ v = .int .i64 k ∧ RowTook w w.heap.size es.length (fillI es k) wr) (fun v _ => es.length - (intOf v).toNat)
  case atStart => exact ⟨0, by omega, rfl, K0.out⟩
  case round =>
    obtain ⟨k, hk, rfl, hS⟩ := hrel
    have K1 := Lib.hid hS
    clear hS K0
    by_cases hlt : k < es.length
    · obtain ⟨x, hx⟩ : ∃ x, es[k] = x := ⟨_, rfl⟩
      obtain ⟨b, o, rfl, c0, c1, c2, c3, c4, c5, c6, c7, c8, c9, c10, c11, c12, c13, c14⟩ := ents_cells (ents_made H.out K1.out.made) hlt x hx
      have HP := Lib.hid (fillI_put es hlt x hx)
      have m3 := Lib.hid (made_alloc' (Made.refl wr) (.cells x.cells.toArray 69))
      have EB := Lib.hid (And.intro (show EntIn (wr.alloc (.cells x.cells.toArray 69)) wr.heap.size x from heap_alloc_new wr _) (K1.out.next m3.out))
      clear m3 K1 hx
      go_upto_region 5 with (fail)
      clear c0 c1 c2 c3 c4 c5 c6 c7 c8 c9 c10 c11 c12 c13 c14
      refine world_named (fun u => EntIn u wr.heap.size x ∧ RowTook w w.heap.size es.length (fillI es k) u) EB.out ?_
      rintro z ⟨hz1', hz2'⟩
      have fl := fillI_len es hk
      have hput := hz2'.put (t := k) (by rw [fl]; exact hlt) x.x
      rewrite [HP.out] at hput
      have KN := Lib.hid hput
      obtain ⟨a0, a1, a2, a3, a4, a5, a6, a7, a8, a9, a10, a11, a12, a13, a14⟩ := entIn_cells hz1'
      obtain ⟨y, hy⟩ : ∃ y, (fillI es k)[k]'(by rw [fl]; exact hlt) = y := ⟨_, rfl⟩
      obtain ⟨d0, d1, d2, d3, d4, d5, d6, d7, d8, d9, d10⟩ := rowI_cells hz2'.row (by rw [fl]; exact hlt) y hy
      have fr := hz2'.row.frozenAt
      have lg := (hz2'.row.lt w.heap.size rfl).2
      have la := heap_lt hz1'
      clear hz1' hz2' hput fl hy EB HP
      go_wp2
      go_roundw
      case rel => exact ⟨k + 1, by omega, by go_num, KN.out⟩
      case measure => simp [intOf]; omega
    · obtain rfl : k = es.length := by omega
      have K2 := K1.out
      rewrite [fillI_all] at K2
      have hsm : ∀ y ∈ es.map Ent.x, y.small := fun y hy => by
        obtain ⟨e, he, rfl⟩ := List.mem_map.1 hy
        exact HSM.out e he
      obtain ⟨-, so2, c2, hv, hI2⟩ := owns_insts K2.row hsm
      simp only [Value.slice.injEq] at hv
      obtain ⟨rfl, -, rfl⟩ := hv
      have HI2 := Lib.hid hI2
      have HM := Lib.hid K2.made
      clear K2 hsm hI2 K1
      go_wp2
      go_ret
      exact ⟨_, _, rfl, HI2.out, HM.out⟩
set_option maxRecDepth 100000 in
set_option maxHeartbeats 16000000 in
theorem porder_any (ao : Option Addr) (cap : Nat) (l : List In) (w : World) (hT : Tabs w) (hI : Insts w ao cap l) (hl : l.length ≤ 1000) (pc : Int) (_hp : isU32 pc) :
    Calls Tryz.prog 9 #[.slice ao l.length cap, .int .u32 pc] w (Rowed pc l w) := by
  have HR := Lib.hid (prow_any ao cap l w hT hI hl pc)
  have hsm : ∀ e ∈ (rowP pc l).map (entP pc), e.x.small := fun e he => by
    obtain ⟨x, hx, rfl⟩ := List.mem_map.1 he
    exact hI.small x ((row_perm pc l).mem_iff.1 hx)
  have HSM := Lib.hid hsm
  clear hT hI hsm
  go_enter Tryz.func9, Tryz.ntmps9
  go_wp2_with (fail)
  refine HR.out.mono ?_
  rintro e w1 ⟨h1, ⟨ho, rfl⟩ | ⟨ho, so, c, rfl, hE⟩⟩
  · have HM := Lib.hid h1
    have HO := Lib.hid ho
    clear h1 ho
    go_wp2
    refine bodyPost_ret (v := .tuple #[.slice none 0 0, .bool false]) (by simp [results, Tryz.results9, go_sem]) rfl ?_
    have e2 : orderL pc l = [] := by unfold orderL; rw [HO.out]; rfl
    exact ⟨none, 0, 0, by rw [HO.out], by rw [e2]; rfl, by rw [e2]; exact ⟨Nat.le_refl _, Nat.zero_le _, fun x hx => by simp at hx, fun _ => ⟨rfl, rfl⟩, fun t ht => absurd ht (Nat.not_lt_zero t)⟩, HM.out⟩
  · have HM := Lib.hid h1
    have HO := Lib.hid ho
    have hlen : ((rowP pc l).map (entP pc)).length = l.length := by rw [List.length_map, row_len]
    have hins := pinstsOf_any so c _ w1 hE HSM.out (by rw [hlen]; exact hl)
    rewrite [hlen] at hins
    have HIN := Lib.hid hins
    clear h1 ho hins hE
    go_wp2_with (fail)
    refine HIN.out.mono ?_
    rintro e w2 ⟨so2, c2, rfl, hI2, h2⟩
    rewrite [hlen]
    rewrite [map_ent] at hI2
    have HI2 := Lib.hid hI2
    have HM2 := Lib.hid (Made.trans HM.out h2)
    clear hI2 h2 hlen
    go_wp2
    refine bodyPost_ret (v := .tuple #[.slice so2 l.length c2, .bool true]) (by simp [results, Tryz.results9, go_sem]) rfl ?_
    have e2 : orderL pc l = rowP pc l := by unfold orderL; rw [HO.out]; rfl
    exact ⟨so2, l.length, c2, by rw [HO.out], by rw [e2, row_len], by rw [e2]; exact HI2.out, HM2.out⟩
end
end Go.Proofs.YtdghnlbfmaehoaaGreatDoor
