/- What package pack's parse, singly and paired return; no condition but those named. -/
import Derived.Test.YtdghnlbfmaehoaaGreatDoorPackOrd
import Derived.Test.YtdghnlbfmaehoaaGreatDoorPackCat
import Derived.Test.YtdghnlbfmaehoaaGreatDoorGPack
namespace Go.Proofs.YtdghnlbfmaehoaaGreatDoor
open Go.ChangeShapes Go.WideShapes Go.ChangeAt Go.RowKit Go.Sort BigFrame

section
attribute [local irreducible] World.cell?
set_option maxRecDepth 100000 in
set_option maxHeartbeats 8000000 in
theorem pparse_any (W : World) (ao : Option Addr) (m cap : Nat) (e0 e1 raw dup : Bool) (n k : Nat) (_hk : k < n) (_hn : n ≤ 1000) : Makes Tryz.prog W 27 #[pkV ao m cap e0 e1 raw dup, .int .i64 k, .int .i64 n] (.int .u8 (parseAt e0 e1 dup n k)) := by
  intro w hm
  have K0 := Lib.hid (box_start hm (boxL ao m cap e0 e1 raw dup))
  clear hm
  by_cases hlast : k + 1 = n
  · have HQ := Lib.hid (parse_last e0 e1 dup hlast)
    have gl : ((k : Int) == (n : Int) - 1) = true := beq_iff_eq.2 (by omega)
    cases dup
    all_goals
      go_enter Tryz.func27, Tryz.ntmps27
      obtain ⟨p0, p1, p2, p3, p4⟩ := box_cells K0.out
      have lp := heap_lt K0.out.at_
      go_wp2
      go_ret
      exact ⟨by rw [HQ.out]; rfl, K0.out.made⟩
  · have gl : ((k : Int) == (n : Int) - 1) = false := beq_eq_false_iff_ne.2 (by omega)
    have H2 := Lib.hid (fun a b c h => parse_two a b c hlast h)
    have H1 := Lib.hid (fun a b c h => parse_one a b c hlast h)
    rcases bit_ways e0 e1 k with ⟨g0, rfl, hb⟩ | ⟨g0, rfl, g1, hb⟩ | ⟨g0, g1, rfl, hb⟩ | ⟨g0, g1, rfl, hb⟩ | ⟨g0, g1, hb⟩
    all_goals
      have HB := Lib.hid hb
      clear hb
      go_enter Tryz.func27, Tryz.ntmps27
      obtain ⟨p0, p1, p2, p3, p4⟩ := box_cells K0.out
      have lp := heap_lt K0.out.at_
      go_wp2
      go_ret
      first
        | exact ⟨by rw [H2.out _ _ _ HB.out]; rfl, K0.out.made⟩
        | exact ⟨by rw [H1.out _ _ _ HB.out]; rfl, K0.out.made⟩
theorem ent_kept {w w1 : World} {b : Nat} {e : Ent} {v : Value} (h : EntIn w b e) (gr : w.grownBy w1 v.ownBlock) (hb : ∀ g, v.ownBlock = some g → g < b) : EntIn w1 b e :=
  (gr.block b (heap_lt h) (fun hc => by have := hb b hc.symm; omega)).trans h
/-- What singly tells. -/
def WordsSay (zs : List Int) (w : World) (e : Ending) (w' : World) : Prop := ∃ v, e = .returned v ∧ WordsAt w v zs w'
set_option maxRecDepth 100000 in
set_option maxHeartbeats 16000000 in
theorem psingly_any (so : Option Addr) (cap : Nat) (es : List Ent) (w : World) (hP : Pieces w) (hI : Ents w so cap es) (hu : ∀ e ∈ es, isU32 e.upper) (hl : es.length ≤ 1000) :
    Calls Tryz.prog 23 #[.slice so es.length cap] w (WordsSay (bareE es) w) := by
  obtain ⟨i0, hi0, hz0, hz1, hz2⟩ := info_parts word_row
  have H := Lib.hid hI
  have HU := Lib.hid hu
  have HW := Lib.hid (fun (u : World) (hm : Made w u) (p : Int) (hp : isU32 p) => word_made u (hP.made hm) 0 p 0 (by unfold isU8; omega) hp (by unfold isU8; omega) u (Made.refl u))
  clear hI hu hP
  go_enter Tryz.func23, Tryz.ntmps23
  go_wp2_with (fail)
  go_loopw [3, 8] (fun ov kk wk => ∃ (k : Nat) (v : Value), k ≤ es.length ∧ kk = .int .i64 k ∧ v = ov ∧ WordsAt w v (bareE (es.take k)) wk) (fun _ kk _ => es.length - (intOf kk).toNat)
  case atStart => exact ⟨0, _, by omega, rfl, rfl, by simpa [bareE] using words_nil (Made.refl w)⟩
  case round =>
    obtain ⟨k, v, hk, rfl, rfl, hO⟩ := hrel
    have KV := Lib.hid hO
    clear hO
    by_cases hkl : k < es.length
    · obtain ⟨x, hx⟩ : ∃ x, es[k] = x := ⟨_, rfl⟩
      have hux := HU.out x (hx ▸ List.getElem_mem hkl)
      obtain ⟨b, o, rfl, c0, c1, c2, c3, c4, c5, c6, c7, c8, c9, c10, c11, c12, c13, c14⟩ := ents_cells (ents_made H.out KV.out.made) hkl x hx
      have hbn := bareE_next es hkl x hx
      have hle := bareE_le (es.take k)
      have htl : (es.take k).length ≤ 1000 := by rw [List.length_take]; omega
      have hL8 : (bareE (es.take k)).length ≤ 2000 := by omega
      have hone : (x.ext = true ∧ bareE (es.take (k + 1)) = bareE (es.take k) ++ [wordZ 0 x.upper 0] ++ [x.word]) ∨ (x.ext = false ∧ bareE (es.take (k + 1)) = bareE (es.take k) ++ [x.word]) := by
        unfold oneE at hbn
        cases hxe : x.ext with
        | true => rw [hxe] at hbn; exact .inl ⟨rfl, by rw [hbn]; simp⟩
        | false => rw [hxe] at hbn; exact .inr ⟨rfl, by rw [hbn]; simp⟩
      have HON := Lib.hid hone
      have m3 := Lib.hid (made_alloc' (Made.refl wr) (.cells x.cells.toArray 69))
      have EB := Lib.hid (And.intro (show EntIn (wr.alloc (.cells x.cells.toArray 69)) wr.heap.size x from heap_alloc_new wr _) (And.intro (KV.out.next m3.out) (fun g hg => (KV.out.row.lt g hg).2)))
      clear hbn hle htl hone hx m3 KV
      generalize bareE (es.take k) = L at *
      go_upto_region 5 with (fail)
      clear c0 c1 c2 c3 c4 c5 c6 c7 c8 c9 c10 c11 c12 c13 c14
      refine world_named (fun u => EntIn u wr.heap.size x ∧ WordsAt w v L u ∧ ∀ g, v.ownBlock = some g → g < wr.heap.size) EB.out ?_
      rintro z ⟨hz1', hz2', hz3'⟩
      have EN := Lib.hid hz1'
      have KV := Lib.hid hz2'
      have HB := Lib.hid hz3'
      clear hz1' hz2' hz3' EB
      have cf := fun j => cell_of_lit EN.out j
      have d12 : z.cell? ⟨wr.heap.size, 12, none⟩ = some (.int .u32 x.word) := cf 12
      have d13 : z.cell? ⟨wr.heap.size, 13, none⟩ = some (.int .u32 x.upper) := cf 13
      have d14 : z.cell? ⟨wr.heap.size, 14, none⟩ = some (.bool x.ext) := cf 14
      have le_ := heap_lt EN.out
      clear cf
      rcases HON.out with ⟨hxe, hbk⟩ | ⟨hxe, hbk⟩
      · rewrite [hxe] at d14
        have HBK := Lib.hid hbk
        have HG := Lib.hid (HW.out z KV.out.made x.upper hux)
        clear hxe hbk HON hux
        go_wp2_with (fail)
        refine HG.out.mono ?_
        rintro e w4 ⟨rfl, h4⟩
        have EN4 := Lib.hid (Made.heap h4 EN.out)
        have KV4 := Lib.hid (KV.out.next h4)
        clear h4 d12 d13 d14 le_ EN KV HG
        generalize wordZ 0 x.upper 0 = ew at *
        have m2 : Made w4 (w4.alloc (.cells (wordsV [ew]).toArray 23)) := (Made.refl w4).alloc (Nat.le_refl _) _
        have KA := Lib.hid (KV4.out.next m2)
        have EA := Lib.hid (Made.heap m2 EN4.out)
        have hone2 := Lib.hid (one_word w4 ew)
        have hsz := Lib.hid KA.out.made.size
        have hmx : L.length + 1 ≤ maxLen := by unfold maxLen; omega
        have hby : (L.length + 1) * 4 ≤ 140737488355328 := by omega
        clear m2
        go_upto_region 7 with (at_builtin; refine wpList_append_each rfl (.tmp 15) (.tmp 20) 31 rfl w.heap.size 23 i0 (.int .u32 0) 1 4 Tryz.underlying31 hi0 hz0 hz1 hz2 rfl (by decide) v L.length (wordsV L) rfl KA.out.row (some ⟨w4.heap.size, 0, none⟩) 1 1 (wordsV [ew]) rfl (fun h => by simp at h) rfl hone2.out (words_one_cell _) hmx hby hsz.out ?_; intro v7 w9 own1 gr1; have KG := Lib.hid (And.intro (KA.out.grows own1 gr1) (ent_kept EA.out gr1 HB.out)); clear own1 gr1)
        clear hone2 hsz hmx hby KA KV4 EN4 EA HB
        have KV := Lib.hid KG.out.1
        have EN := Lib.hid KG.out.2
        clear KG
        have cf := fun j => cell_of_lit EN.out j
        have d12 : w9.cell? ⟨wr.heap.size, 12, none⟩ = some (.int .u32 x.word) := cf 12
        have le_ := heap_lt EN.out
        clear cf
        have hL9 : (L ++ [ew]).length ≤ 2001 := by rw [List.length_append, List.length_singleton]; omega
        have m2 : Made w9 (w9.alloc (.cells (wordsV [x.word]).toArray 23)) := (Made.refl w9).alloc (Nat.le_refl _) _
        have KA := Lib.hid (KV.out.next m2)
        have hone2 := Lib.hid (one_word w9 x.word)
        have hsz := Lib.hid KA.out.made.size
        have hmx : (L ++ [ew]).length + 1 ≤ maxLen := by unfold maxLen; omega
        have hby : ((L ++ [ew]).length + 1) * 4 ≤ 140737488355328 := by omega
        clear m2
        go_upto_region 8 with (at_builtin; refine wpList_append_each rfl (.tmp 22) (.tmp 26) 31 rfl w.heap.size 23 i0 (.int .u32 0) 1 4 Tryz.underlying31 hi0 hz0 hz1 hz2 rfl (by decide) v7 (L ++ [ew]).length (wordsV (L ++ [ew])) rfl KA.out.row (some ⟨w9.heap.size, 0, none⟩) 1 1 (wordsV [x.word]) rfl (fun h => by simp at h) rfl hone2.out (words_one_cell _) hmx hby hsz.out ?_; intro v8 w10 own1 gr1; have KG := Lib.hid (KA.out.grows own1 gr1); clear own1 gr1)
        clear hone2 hsz hmx hby KA
        have KN := Lib.hid (show WordsAt w v8 (bareE (es.take (k + 1))) w10 by rw [HBK.out]; exact KG.out)
        go_wp2
        go_roundw
        case rel => exact ⟨k + 1, _, by omega, by go_num, rfl, KN.out⟩
        case measure => simp [intOf]; omega
      · rewrite [hxe] at d14
        have HBK := Lib.hid hbk
        clear hxe hbk HON hux HB
        have m2 : Made z (z.alloc (.cells (wordsV [x.word]).toArray 23)) := (Made.refl z).alloc (Nat.le_refl _) _
        have KA := Lib.hid (KV.out.next m2)
        have hone2 := Lib.hid (one_word z x.word)
        have hsz := Lib.hid KA.out.made.size
        have hmx : L.length + 1 ≤ maxLen := by unfold maxLen; omega
        have hby : (L.length + 1) * 4 ≤ 140737488355328 := by omega
        clear m2
        go_upto_region 8 with (at_builtin; refine wpList_append_each rfl (.tmp 22) (.tmp 26) 31 rfl w.heap.size 23 i0 (.int .u32 0) 1 4 Tryz.underlying31 hi0 hz0 hz1 hz2 rfl (by decide) v L.length (wordsV L) rfl KA.out.row (some ⟨z.heap.size, 0, none⟩) 1 1 (wordsV [x.word]) rfl (fun h => by simp at h) rfl hone2.out (words_one_cell _) hmx hby hsz.out ?_; intro v8 w10 own1 gr1; have KG := Lib.hid (KA.out.grows own1 gr1); clear own1 gr1)
        clear hone2 hsz hmx hby KA
        have KN := Lib.hid (show WordsAt w v8 (bareE (es.take (k + 1))) w10 by rw [HBK.out]; exact KG.out)
        go_wp2
        go_roundw
        case rel => exact ⟨k + 1, _, by omega, by go_num, rfl, KN.out⟩
        case measure => simp [intOf]; omega
    · obtain rfl : k = es.length := by omega
      have KE := Lib.hid (show WordsAt w v (bareE es) wr by have h := KV.out; rwa [List.take_length] at h)
      clear KV
      go_wp2
      go_ret
      exact ⟨_, rfl, KE.out⟩
/-! Two chosen, and the others. -/
theorem entsP_cells {w : World} {so : Option Addr} {c : Nat} {pc : Int} {r : List In} (h : Ents w so c (r.map (entP pc))) {t : Nat} (ht : t < r.length) (x : In) (hx : r[t] = x) : ∃ b o, so = some ⟨b, o, none⟩ ∧
    w.cell? ⟨b, o + t * 15, none⟩ = some (.int .u8 x.op) ∧ w.cell? ⟨b, o + t * 15 + 1, none⟩ = some (.int .u8 x.d) ∧ w.cell? ⟨b, o + t * 15 + 2, none⟩ = some (.int .u8 x.s) ∧ w.cell? ⟨b, o + t * 15 + 3, none⟩ = some (.int .u8 x.t) ∧
    w.cell? ⟨b, o + t * 15 + 4, none⟩ = some (.int .u8 x.n) ∧ w.cell? ⟨b, o + t * 15 + 5, none⟩ = some (.int .u8 x.pred) ∧ w.cell? ⟨b, o + t * 15 + 6, none⟩ = some (.int .u8 x.mode) ∧ w.cell? ⟨b, o + t * 15 + 7, none⟩ = some (.bool x.new) ∧
    w.cell? ⟨b, o + t * 15 + 8, none⟩ = some (.bool x.ext) ∧ w.cell? ⟨b, o + t * 15 + 9, none⟩ = some (.int .u16 x.count) ∧ w.cell? ⟨b, o + t * 15 + 10, none⟩ = some (.int .i64 x.imm) := by
  obtain ⟨b, o, e, c0, c1, c2, c3, c4, c5, c6, c7, c8, c9, c10, -⟩ := ents_cells h (t := t) (by simpa using ht) (entP pc x) (by simp [hx])
  exact ⟨b, o, e, c0, c1, c2, c3, c4, c5, c6, c7, c8, c9, c10⟩
theorem rest_parts (l : List In) {i j : Nat} (hij : i < j) (hj : j < l.length) : restOf l i j = l.take i ++ ((l.take j).drop (i + 1) ++ l.drop (j + 1)) := by
  unfold restOf
  have e1 : (l.take j).length = j := by rw [List.length_take]; omega
  rw [List.eraseIdx_eq_take_drop_succ l j, List.eraseIdx_append_of_lt_length (by omega), List.eraseIdx_eq_take_drop_succ, List.take_take, show min i j = i by omega, List.append_assoc]
/-- The three parts of the row that are no duplex. -/
def partsL (pc : Int) (r : List In) (i j : Nat) : List (List Ent) := [(r.map (entP pc)).take i, ((r.map (entP pc)).take j).drop (i + 1), (r.map (entP pc)).drop (j + 1)]
theorem parts_flat (pc : Int) (r : List In) {i j : Nat} (hij : i < j) (hj : j < r.length) : (partsL pc r i j).flatten = (restOf r i j).map (entP pc) := by
  rw [rest_parts r hij hj]
  unfold partsL
  simp
theorem parts_len (pc : Int) (r : List In) {i j : Nat} (hij : i < j) (hj : j < r.length) : ((r.map (entP pc)).take i).length = i ∧ (((r.map (entP pc)).take j).drop (i + 1)).length = j - (i + 1) ∧ ((r.map (entP pc)).drop (j + 1)).length = r.length - (j + 1) := by
  simp
  omega
def PairSays (pc : Int) (r : List In) (w : World) (e : Ending) (w' : World) : Prop := ∃ (v : Value) (i j : Nat), e = .returned v ∧ IsChoice r i j true ∧ WordsAt w v (dupW pc r i j) w'
/-- What lies in a block behind the first of a slice's parts, and which address the walk takes. -/
theorem part_ents {u : World} {b o c : Nat} {L : List Ent} (h : Ents u (some ⟨b, o, none⟩) c L) {p q : Nat} (hpq : p ≤ q) (hq : q ≤ L.length) : Ents u (if c = p then some ⟨b, o, none⟩ else some ⟨b, o + p * 15, none⟩) (c - p) ((L.take q).drop p) := by
  by_cases hc : c = p
  · rw [if_pos hc]
    have hr := h.room
    have e : (L.take q).drop p = [] := List.drop_eq_nil_of_le (by rw [List.length_take]; omega)
    rw [e]
    exact ⟨Nat.zero_le _, Nat.le_trans (Nat.sub_le _ _) h.max, fun h => by simp at h, fun t ht => absurd ht (Nat.not_lt_zero t)⟩
  · rw [if_neg hc]
    exact ents_part h hpq hq
theorem parts_lists {u : World} {b o c i j g : Nat} {pc : Int} {r : List In} (h : Ents u (some ⟨b, o, none⟩) c (r.map (entP pc))) (hij : i < j) (hj : j < r.length) (hg : g < u.heap.size) (c0 : u.cell? ⟨g, 0, none⟩ = some (.slice (some ⟨b, o, none⟩) i c))
    (c1 : u.cell? ⟨g, 1, none⟩ = some (.slice (some ⟨b, o + (i + 1) * 15, none⟩) (j - (i + 1)) (c - (i + 1)))) (c2 : u.cell? ⟨g, 2, none⟩ = some (.slice (if c = j + 1 then some ⟨b, o, none⟩ else some ⟨b, o + (j + 1) * 15, none⟩) (r.length - (j + 1)) (c - (j + 1)))) : Lists u g (partsL pc r i j) := by
  obtain ⟨l1, l2, l3⟩ := parts_len pc r hij hj
  have hml : (r.map (entP pc)).length = r.length := List.length_map _
  have hroom := h.room
  have e1 := part_ents h (p := 0) (q := i) (by omega) (by omega)
  have e2 := part_ents h (p := i + 1) (q := j) (by omega) (by omega)
  have e3 := part_ents h (p := j + 1) (q := r.length) (by omega) (by omega)
  rw [if_neg (show ¬ c = 0 by omega), Nat.zero_mul, Nat.add_zero, List.drop_zero, Nat.sub_zero] at e1
  rw [if_neg (show ¬ c = i + 1 by omega)] at e2
  rw [show (r.map (entP pc)).take r.length = r.map (entP pc) by rw [← hml, List.take_length]] at e3
  refine ⟨hg, fun k hk => ?_⟩
  have hk3 : k < 3 := hk
  match k, hk3 with
  | 0, _ => exact ⟨_, _, c0.trans (by show some _ = some _; rw [show (partsL pc r i j)[0] = (r.map (entP pc)).take i from rfl, l1]), e1⟩
  | 1, _ => exact ⟨_, _, c1.trans (by show some _ = some _; rw [show (partsL pc r i j)[1] = ((r.map (entP pc)).take j).drop (i + 1) from rfl, l2]), e2⟩
  | 2, _ => exact ⟨_, _, c2.trans (by show some _ = some _; rw [show (partsL pc r i j)[2] = (r.map (entP pc)).drop (j + 1) from rfl, l3]), e3⟩
set_option maxRecDepth 100000 in
set_option maxHeartbeats 32000000 in
theorem ppaired_any (so : Option Addr) (c : Nat) (pc : Int) (r : List In) (w : World) (hT : Tabs w) (hI : Ents w so c (r.map (entP pc))) (hsd : Said pc r) (hany : anyP r = true) (hl : r.length ≤ 4) :
    Calls Tryz.prog 24 #[.slice so r.length c] w (PairSays pc r w) := by
  obtain ⟨i0, hi0, hz0, hz1, hz2⟩ := info_parts word_row
  have hml : (r.map (entP pc)).length = r.length := List.length_map _
  have hins := pinstsOf_any so c _ w hI (fun e he => by
    obtain ⟨x, hx, rfl⟩ := List.mem_map.1 he
    exact (hsd x hx).1) (by rw [hml]; omega)
  rewrite [hml] at hins
  have HIN := Lib.hid hins
  have HT := Lib.hid hT
  have HI := Lib.hid hI
  have HSD := Lib.hid hsd
  have HAN := Lib.hid hany
  clear hT hI hsd hany hins
  go_enter Tryz.func24, Tryz.ntmps24
  go_wp2_with (fail)
  refine HIN.out.mono ?_
  rintro e w1 ⟨so1, c1, rfl, hI1, h1⟩
  rewrite [hml]
  rewrite [map_ent] at hI1
  have M1 := Lib.hid h1
  have HC := Lib.hid (lchoose_any so1 c1 r w1 (HT.out.made h1) hI1 (by omega))
  clear h1 hI1 HIN hml
  go_wp2_with (fail)
  refine HC.out.mono ?_
  rintro e w2 ⟨i, j, ok, rfl, hch, h2⟩
  obtain rfl : ok = true := by rw [choice_any hch]; exact HAN.out
  obtain ⟨hij, hj, hoab, -⟩ := hch.some rfl
  have hi : i < r.length := by omega
  have M2 := Lib.hid (Made.trans M1.out h2)
  have HCH := Lib.hid hch
  obtain ⟨x0, hx0⟩ : ∃ x, r[i] = x := ⟨_, rfl⟩
  obtain ⟨y0, hy0⟩ : ∃ x, r[j] = x := ⟨_, rfl⟩
  have hgx : r.getD i inZero = x0 := by simp [List.getD, hi, hx0]
  have hgy : r.getD j inZero = y0 := by simp [List.getD, hj, hy0]
  have hpb : pairB x0 y0 = true := by
    unfold okAt at hoab
    rw [hgx, hgy, Bool.and_eq_true] at hoab
    exact hoab.1
  obtain ⟨pv, hpv⟩ : ∃ v, pairP x0 y0 = (v, true) := ⟨(pairP x0 y0).1, Prod.ext rfl hpb⟩
  have HDW := Lib.hid (show dupW pc r i j = bareW pc (restOf r i j) ++ [pv] by unfold dupW; rw [hgx, hgy, hpv])
  have hpr := pair_any w2 (HT.out.made M2.out) x0 y0 (HSD.out _ (hx0 ▸ List.getElem_mem hi)).1 (HSD.out _ (hy0 ▸ List.getElem_mem hj)).1
  rewrite [hpv] at hpr
  have HPR := Lib.hid hpr
  have E2 := Lib.hid (ents_made HI.out M2.out)
  obtain ⟨b, o, rfl, c0, c1, c2, c3, c4, c5, c6, c7, c8, c9, c10⟩ := entsP_cells E2.out hi x0 hx0
  obtain ⟨b', o', e', d0, d1, d2, d3, d4, d5, d6, d7, d8, d9, d10⟩ := entsP_cells E2.out hj y0 hy0
  obtain ⟨rfl, rfl⟩ : b = b' ∧ o = o' := by simpa using e'
  have lb := World.block_lt_of_cell? w2 _ c0
  have hroom := E2.out.room
  rewrite [List.length_map] at hroom
  have hmax := E2.out.max
  unfold maxLen at hmax
  clear h2 hch hoab hgx hgy hpb hpv hpr hx0 hy0 HAN HC e'
  have gc0 := fun d os => cell_regrown c0 d os
  have gd0 := fun d os => cell_regrown d0 d os
  have gc1 := fun d os => cell_regrown c1 d os
  have gd1 := fun d os => cell_regrown d1 d os
  have gc2 := fun d os => cell_regrown c2 d os
  have gd2 := fun d os => cell_regrown d2 d os
  have gc3 := fun d os => cell_regrown c3 d os
  have gd3 := fun d os => cell_regrown d3 d os
  have gc4 := fun d os => cell_regrown c4 d os
  have gd4 := fun d os => cell_regrown d4 d os
  have gc5 := fun d os => cell_regrown c5 d os
  have gd5 := fun d os => cell_regrown d5 d os
  have gc6 := fun d os => cell_regrown c6 d os
  have gd6 := fun d os => cell_regrown d6 d os
  have gc7 := fun d os => cell_regrown c7 d os
  have gd7 := fun d os => cell_regrown d7 d os
  have gc8 := fun d os => cell_regrown c8 d os
  have gd8 := fun d os => cell_regrown d8 d os
  have gc9 := fun d os => cell_regrown c9 d os
  have gd9 := fun d os => cell_regrown d9 d os
  have gc10 := fun d os => cell_regrown c10 d os
  have gd10 := fun d os => cell_regrown d10 d os
  have hi0' : (0 : Int) ≤ (i : Int) := by omega
  have hi1' : (i : Int) < (r.length : Int) := by omega
  have hj0' : (0 : Int) ≤ (j : Int) := by omega
  have hj1' : (j : Int) < (r.length : Int) := by omega
  go_upto_region 2 with (fail)
  refine wp_region_quiet_below (by kernel_rfl) (by kernel_rfl) ?_
  repeat (go_big_quiet_step ((go_at_call 50; with_reducible exact HPR.out.again _ _)))
  refine wpQuiet_nil ?_
  intro w3 hz
  have m3 := made_regrown hz
  have M3 := Lib.hid (Made.trans M2.out m3)
  have E3 := Lib.hid (ents_made E2.out m3)
  clear hz m3 lb HPR E2 gc0 c0 gd0 d0 gc1 c1 gd1 d1 gc2 c2 gd2 d2 gc3 c3 gd3 d3 gc4 c4 gd4 d4 gc5 c5 gd5 d5 gc6 c6 gd6 d6 gc7 c7 gd7 d7 gc8 c8 gd8 d8 gc9 c9 gd9 d9 gc10 c10 gd10 d10
  have hwi : IntKind.i64.wrap ((i : Int) + 1) = (i : Int) + 1 := by rw [IntKind.wrap_i64]; omega
  have hwj : IntKind.i64.wrap ((j : Int) + 1) = (j : Int) + 1 := by rw [IntKind.wrap_i64]; omega
  have hic : i ≤ c := by omega
  have hjc : j ≤ c := by omega
  have p0 : (0 : Int) ≤ (i : Int) + 1 := by omega
  have p1 : (i : Int) + 1 ≤ (j : Int) := by omega
  have p2 : ((i : Int) + 1).toNat = i + 1 := by omega
  have p3 : (0 : Int) ≤ (j : Int) + 1 := by omega
  have p4 : (j : Int) + 1 ≤ (r.length : Int) := by omega
  have p5 : ((j : Int) + 1).toNat = j + 1 := by omega
  obtain ⟨A, hA⟩ : ∃ A : Addr, (if c = j + 1 then (some ⟨b, o, none⟩ : Option Addr) else some ⟨b, o + (j + 1) * 15, none⟩) = some A := by split <;> exact ⟨_, rfl⟩
  go_upto_region 3 with (fail)
  refine wp_region_made 12 [] [0, 1, 2, 3, 4, 5, 6, 7, 8, 9, 10, 11] (by kernel_rfl) (by kernel_rfl) (by intro c a d v w h; cases d <;> exact h) ?_
  simp only [moved, picked, List.foldr_cons, List.foldr_nil, Option.elim_some, List.getElem?_toArray, List.getElem?_cons_zero, List.getElem?_cons_succ, List.drop_succ_cons, List.drop_zero]
  repeat (go_big_quiet_step (fail))
  refine wpQuiet_nil ?_
  intro w4 h4
  have M4 := Lib.hid (Made.trans M3.out h4)
  have hbk := heap_alloc_new w4 (.cells #[.slice (some ⟨b, o, none⟩) i c, .slice (some ⟨b, o + (i + 1) * 15, none⟩) (j - (i + 1)) (c - (i + 1)), .slice (some A) (r.length - (j + 1)) (c - (j + 1))] 48)
  have cf := fun k => cell_of_lit (cs := [.slice (some ⟨b, o, none⟩) i c, .slice (some ⟨b, o + (i + 1) * 15, none⟩) (j - (i + 1)) (c - (i + 1)), .slice (some A) (r.length - (j + 1)) (c - (j + 1))]) hbk k
  have hlists := parts_lists (ents_made E3.out (Made.trans h4 (made_alloc' (Made.refl w4) _))) hij hj (heap_lt hbk) (cf 0) (cf 1) (by rw [hA]; exact cf 2)
  have hflat := parts_flat pc r hij hj
  have hrl : (restOf r i j).length ≤ r.length := by
    have h5 := rest_len r i j r.length
    rwa [rest_whole] at h5
  have hcat := concat_any (partsL pc r i j) w4.heap.size _ hlists (by show 3 ≤ 1000; omega) (by rw [hflat, List.length_map]; omega)
  rewrite [hflat] at hcat
  have HCT := Lib.hid (show Calls Tryz.prog 51 #[.slice (some ⟨w4.heap.size, 0, none⟩) 3 3] _ (CatSays ((restOf r i j).map (entP pc)) _) from hcat)
  have M5 := Lib.hid (made_alloc' M4.out (.cells #[.slice (some ⟨b, o, none⟩) i c, .slice (some ⟨b, o + (i + 1) * 15, none⟩) (j - (i + 1)) (c - (i + 1)), .slice (some A) (r.length - (j + 1)) (c - (j + 1))] 48))
  clear h4 hlists hflat hcat hbk cf hA E3 M3 M4 hwi hwj hic hjc p0 p1 p2 p3 p4 p5 hroom hmax
  go_wp2_with (fail)
  refine HCT.out.mono ?_
  rintro e w6 ⟨so6, c6, rfl, hE6, h6⟩
  have M6 := Lib.hid (Made.trans M5.out h6)
  have hsi := psingly_any so6 c6 ((restOf r i j).map (entP pc)) w6 (HT.out.made M6.out).pieces hE6 (fun e he => by
    obtain ⟨x, hx, rfl⟩ := List.mem_map.1 he
    exact upP_u32 x pc) (by rw [List.length_map]; omega)
  rewrite [List.length_map, bareE_ent] at hsi
  have HSI := Lib.hid hsi
  have hbl := bareW_le pc (restOf r i j)
  have hL8 : (bareW pc (restOf r i j)).length ≤ 8 := by omega
  clear hsi hE6 h6 HCT M5 hbl
  go_wp2_with (fail)
  refine HSI.out.mono ?_
  rintro e w7 ⟨v, rfl, hW⟩
  have KV := Lib.hid (show WordsAt w v (bareW pc (restOf r i j)) w7 from ⟨Made.trans M6.out hW.made, owns_mono hW.row M6.out.size⟩)
  clear hW HSI M6 hrl
  generalize bareW pc (restOf r i j) = L at *
  have m2 : Made w7 (w7.alloc (.cells (wordsV [pv]).toArray 23)) := (Made.refl w7).alloc (Nat.le_refl _) _
  have KA := Lib.hid (KV.out.next m2)
  have hone2 := Lib.hid (one_word w7 pv)
  have hsz := Lib.hid KA.out.made.size
  have hmx : L.length + 1 ≤ maxLen := by unfold maxLen; omega
  have hby : (L.length + 1) * 4 ≤ 140737488355328 := by omega
  clear m2 KV
  go_wp2_with (at_builtin; refine wpList_append_each rfl (.tmp 45) (.tmp 47) 31 rfl w.heap.size 23 i0 (.int .u32 0) 1 4 Tryz.underlying31 hi0 hz0 hz1 hz2 rfl (by decide) v L.length (wordsV L) rfl KA.out.row (some ⟨w7.heap.size, 0, none⟩) 1 1 (wordsV [pv]) rfl (fun h => by simp at h) rfl hone2.out (words_one_cell _) hmx hby hsz.out ?_; intro v8 w10 own1 gr1; have KG := Lib.hid (KA.out.grows own1 gr1); clear own1 gr1)
  go_ret
  exact ⟨_, i, j, rfl, HCH.out, by rw [HDW.out]; exact KG.out⟩
end
end Go.Proofs.YtdghnlbfmaehoaaGreatDoor
