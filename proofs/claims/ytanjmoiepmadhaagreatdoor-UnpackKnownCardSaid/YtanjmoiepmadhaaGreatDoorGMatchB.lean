/- What the method admit of package match returns and leaves, whatever has the slots: by induction on the number of slots that may be asked for. · What the method slots of package match returns: the slots as a list, in memory of its own. · What complete of package match returns: some assignment that goes on from the fixed slots, or none where the search finds none. · What lower of package match returns: an assignment that agrees with the given one before an index and has the least slot there. · What Slots and Fits of package match return: the least assignment as the search finds it, in memory of its own, or none; whether there is one. · A slice of bytes among a law's arguments, opened into its numbers; it reads behind a call that makes new memory alone as before it. -/
import Derived.Test.YtanjmoiepmadhaaGreatDoorGMatch
import Derived.ArgAppend
import Derived.Test.YtanjmoiepmadhaaGreatDoorGBase
import Derived.OpenShut
import Derived.Carry
namespace Go.Proofs.YtanjmoiepmadhaaGreatDoor
section
open Go.ChangeShapes Go.WideShapes Go.ChangeAt Go.RowKit Go.Sort BigFrame

/-- Of what stood in w nothing has turned but two blocks. -/
structure TwoRows (b c : Nat) (w w' : World) : Prop where
  os : w'.os = w.os
  tape : w'.tape = w.tape
  output : w'.output = w.output
  size : w.heap.size ≤ w'.heap.size
  block : ∀ k, k < w.heap.size → k ≠ b → k ≠ c → w'.heap[k]? = w.heap[k]?
theorem TwoRows.refl (b c : Nat) (w : World) : TwoRows b c w w := ⟨rfl, rfl, rfl, Nat.le_refl _, fun _ _ _ _ => rfl⟩
theorem TwoRows.trans {b c : Nat} {x y z : World} (h : TwoRows b c x y) (k : TwoRows b c y z) : TwoRows b c x z :=
  ⟨k.os.trans h.os, k.tape.trans h.tape, k.output.trans h.output, Nat.le_trans h.size k.size, fun i hi h1 h2 => (k.block i (Nat.lt_of_lt_of_le hi h.size) h1 h2).trans (h.block i hi h1 h2)⟩
theorem TwoRows.set {b c : Nat} (w : World) (a : Addr) (v : Value) (h : a.block = b ∨ a.block = c) : TwoRows b c w (w.setCell a v) :=
  ⟨rfl, rfl, rfl, by simp, fun k _ h1 h2 => heap_setCell_other w a k v (by rcases h with rfl | rfl <;> assumption)⟩
theorem TwoRows.made {b c : Nat} {W w w' : World} (h : TwoRows b c w w') (hm : Made W w) (hb : W.heap.size ≤ b) (hc : W.heap.size ≤ c) : Made W w' :=
  ⟨h.os.trans hm.os, h.tape.trans hm.tape, h.output.trans hm.output, Nat.le_trans hm.size h.size, fun i hi => (h.block i (Nat.lt_of_lt_of_le hi hm.size) (by omega) (by omega)).trans (hm.block i hi)⟩
theorem TwoRows.cell {b c : Nat} {w w' : World} (h : TwoRows b c w w') {a : Addr} {v : Value} (hc : w.cell? a = some v) (h1 : a.block ≠ b) (h2 : a.block ≠ c) : w'.cell? a = some v :=
  (World.cell?_of_block (h.block a.block (World.block_lt_of_cell? w a hc) h1 h2)).trans hc
theorem add_block (a : Addr) (t : Nat) : (a.add t).block = a.block := by unfold Addr.add; split <;> rfl
/-- What stands while a mask asks: the two blocks and the masks. -/
structure Asks (ns : List Nat) (a : Addr) (b c : Nat) (w : World) (o : Nat → Int) (m : Nat → Bool) : Prop where
  occ : Occ w b o
  mark : Mark w c m
  cell : ∀ t, t < ns.length → w.cell? (a.add t) = some (.int .u8 (ns.getD t 0))
/-- How the blocks lie, and what the masks are. -/
structure Lies (ns : List Nat) (a : Addr) (b c : Nat) : Prop where
  ab : a.block ≠ b
  ac : a.block ≠ c
  bc : b ≠ c
  few : ns.length ≤ 1000
  byte : ∀ t, ns.getD t 0 < 256
theorem Asks.setM {ns : List Nat} {a : Addr} {b c : Nat} {w : World} {o : Nat → Int} {m : Nat → Bool} (h : Asks ns a b c w o m) (hl : Lies ns a b c) {s : Nat} (hs : s < 4) (v : Bool) : Asks ns a b c (w.setCell ⟨c, s, none⟩ (.bool v)) o (upd m s v) :=
  ⟨(heap_setCell_other w ⟨c, s, none⟩ _ _ hl.bc).trans h.occ, mark_set h.mark hs v, fun t ht => (TwoRows.set (b := b) (c := c) w ⟨c, s, none⟩ _ (.inr rfl)).cell (h.cell t ht) (by rw [add_block]; exact hl.ab) (by rw [add_block]; exact hl.ac)⟩
theorem Asks.setO {ns : List Nat} {a : Addr} {b c : Nat} {w : World} {o : Nat → Int} {m : Nat → Bool} (h : Asks ns a b c w o m) (hl : Lies ns a b c) {s : Nat} (hs : s < 4) (v : Int) : Asks ns a b c (w.setCell ⟨b, s, none⟩ (.int .i64 v)) (upd o s v) m :=
  ⟨occ_set h.occ hs v, (heap_setCell_other w ⟨b, s, none⟩ _ _ (Ne.symm hl.bc)).trans h.mark, fun t ht => (TwoRows.set (b := b) (c := c) w ⟨b, s, none⟩ _ (.inl rfl)).cell (h.cell t ht) (by rw [add_block]; exact hl.ab) (by rw [add_block]; exact hl.ac)⟩
/-- What a call of admit leaves. -/
def Admits (ns : List Nat) (a : Addr) (b c : Nat) (w : World) (o : Nat → Int) (m : Nat → Bool) (i : Nat) (e : Ending) (w' : World) : Prop :=
  ∃ (r : Bool) (o' : Nat → Int) (m' : Nat → Bool), e = .returned (.bool r) ∧ Asks ns a b c w' o' m' ∧ TwoRows b c w w' ∧
    ((r = true ∧ Post ns o m i o') ∨ (r = false ∧ o' = o ∧ Dead ns o m m' ∧ ∀ t, t < 4 → allowN ns i t = true → m' t = true))
section
attribute [local irreducible] World.cell?
set_option maxRecDepth 100000 in
set_option maxHeartbeats 4000000 in
theorem admit_any (ns : List Nat) (a : Addr) (cap b c : Nat) (hl : Lies ns a b c) (k : Nat) : ∀ (w : World) (o : Nat → Int) (m : Nat → Bool) (i : Nat), openN m < k → Asks ns a b c w o m → Pre ns o m i →
    Calls Tryz.prog 153 #[.pointer (some ⟨b, 0, none⟩), .slice (some a) ns.length cap, .int .i64 i, .pointer (some ⟨c, 0, none⟩)] w (Admits ns a b c w o m i) := by
  induction k with
  | zero => intro w o m i h; exact absurd h (Nat.not_lt_zero _)
  | succ k ih =>
    intro w o m i hk hA hp
    have HA := Lib.hid hA
    have HP := Lib.hid hp
    have HK := Lib.hid hk
    have HI := Lib.hid ih
    have hilen : i < ns.length := by have := hp.hi; omega
    have hfew := hl.few
    have hbyte := hl.byte i
    clear hA hp hk ih
    go_enter Tryz.func153, Tryz.ntmps153
    go_wp2_with (fail)
    go_loopw [10] (fun x wr => ∃ (s : Nat) (m' : Nat → Bool), s ≤ 4 ∧ x = .int .i64 s ∧ Asks ns a b c wr o m' ∧ TwoRows b c w wr ∧ Mid ns o m i s m') (fun x _ => 4 - (intOf x).toNat)
    case atStart => exact ⟨0, m, by omega, rfl, HA.out, TwoRows.refl .., mid_start ..⟩
    case round =>
      obtain ⟨s, m', hs, rfl, hA, hT, hm⟩ := hrel
      have KA := Lib.hid hA
      have KT := Lib.hid hT
      have KM := Lib.hid hm
      clear hA hT hm
      by_cases hs4 : s < 4
      · have hc := marks_cell KA.out.mark hs4
        by_cases hms : m' s = true
        · rewrite [hms] at hc
          have KX := Lib.hid (mid_skip KM.out (.inl hms))
          clear hms
          go_wp2
          go_roundw
          case rel => exact ⟨s + 1, m', by omega, by go_num, KA.out, KT.out, KX.out⟩
          case measure => simp [intOf]; omega
        · have hms2 : m' s = false := by simpa using hms
          rewrite [hms2] at hc
          have HM := Lib.hid hms2
          have hcell := KA.out.cell i hilen
          clear hms hms2
          by_cases hal : allowN ns i s = true
          · have hal2 : hasN (ns.getD i 0) s = true := by simpa [allowN] using hal
            have CA := Lib.hid (allows_any (ns.getD i 0) s hbyte hs4)
            have HL := Lib.hid hal
            rewrite [hal2] at CA
            generalize ns.getD i 0 = mk at *
            clear hal hal2
            have fr := free_of_lit KA.out.mark
            have KA2 := Lib.hid (KA.out.setM hl hs4 true)
            go_upto_region 6 with (go_at_call 180; refine (CA.out.at _).mono ?_; rintro e w' ⟨rfl, rfl⟩)
            refine world_named (fun u => Asks ns a b c u o (upd m' s true) ∧ TwoRows b c w u) ⟨KA2.out, KT.out.trans (TwoRows.set _ _ _ (.inr rfl))⟩ ?_
            rintro u ⟨hu, hu2⟩
            have KU := Lib.hid hu
            have KV := Lib.hid hu2
            clear hu hu2 KA2 fr hc hcell
            have hoc := occ_cell KU.out.occ hs4
            have fro := free_of_lit KU.out.occ
            by_cases ho : o s = -1
            · rewrite [ho] at hoc
              have KX := Lib.hid (post_free HP.out KM.out hs4 HM.out HL.out ho)
              have KO := Lib.hid (KU.out.setO hl hs4 i)
              clear ho
              go_wp2
              go_ret
              exact ⟨true, _, _, rfl, KO.out, KV.out.trans (TwoRows.set _ _ _ (.inl rfl)), .inl ⟨rfl, KX.out⟩⟩
            · have hpn := pre_next HP.out KM.out hs4 HM.out ho
              obtain ⟨j, hj⟩ : ∃ j : Nat, o s = j := ⟨(o s).toNat, by have := hpn.lo; omega⟩
              have HR := Lib.hid (HI.out u o (upd m' s true) j (by have := openN_next KM.out hs4 HM.out; have := HK.out; omega) KU.out (hj ▸ hpn))
              rewrite [hj] at hoc
              have hne : ((j : Int) == -1) = false := beq_eq_false_iff_ne.2 (by omega)
              have HJ := Lib.hid hj
              have HO := Lib.hid ho
              clear ho hj hpn
              go_wp2_with (fail)
              refine HR.out.mono ?_
              rintro e w2 ⟨r, o2, m2, rfl, hA2, hT2, hr⟩
              have KA2 := Lib.hid hA2
              have KT2 := Lib.hid (KV.out.trans hT2)
              have KR := Lib.hid hr
              clear hA2 hT2 hr
              cases r with
              | true =>
                have hpost := (KR.out.resolve_right (by simp)).2
                rewrite [← HJ.out] at hpost
                have KX := Lib.hid (post_rec HP.out KM.out hs4 HM.out HL.out HO.out hpost)
                have fro2 := free_of_lit KA2.out.occ
                have hoc2 := occ_cell KA2.out.occ hs4
                have KO := Lib.hid (KA2.out.setO hl hs4 i)
                clear hpost
                go_wp2
                go_ret
                exact ⟨true, _, _, rfl, KO.out, KT2.out.trans (TwoRows.set _ _ _ (.inl rfl)), .inl ⟨rfl, KX.out⟩⟩
              | false =>
                obtain ⟨_, ho2, hd, hall⟩ := KR.out.resolve_left (by simp)
                subst ho2
                rewrite [← HJ.out] at hall
                have KX := Lib.hid (mid_fail KM.out HO.out hd hall hs4)
                clear hd hall
                go_wp2
                go_roundw
                case rel => exact ⟨s + 1, m2, by omega, by go_num, KA2.out, KT2.out, KX.out⟩
                case measure => simp [intOf]; omega
          · have hal2 : allowN ns i s = false := by simpa using hal
            have hal3 : hasN (ns.getD i 0) s = false := by simpa [allowN] using hal2
            have CA := Lib.hid (allows_any (ns.getD i 0) s hbyte hs4)
            rewrite [hal3] at CA
            have KX := Lib.hid (mid_skip KM.out (.inr hal2))
            generalize ns.getD i 0 = mk at *
            clear hal hal2 hal3
            go_wp2_with (go_at_call 180; refine (CA.out.at _).mono ?_; rintro e w' ⟨rfl, rfl⟩)
            go_roundw
            case rel => exact ⟨s + 1, m', by omega, by go_num, KA.out, KT.out, KX.out⟩
            case measure => simp [intOf]; omega
      · obtain rfl : s = 4 := by omega
        go_wp2
        go_ret
        exact ⟨false, o, m', rfl, KA.out, KT.out, .inr ⟨rfl, rfl, KM.out.dead, fun t ht => KM.out.all t ht ht⟩⟩
end
end
section
open Go.ChangeShapes Go.WideShapes Go.ChangeAt Go.RowKit Go.Sort BigFrame

theorem int_row : (Tryz.prog.info? 3).map (fun i => (i.zero, i.size, i.bytes)) = some (some (.int .i64 0), 1, 8) := by kernel_rfl
abbrev intsV (zs : List Nat) : List Value := zs.map fun x : Nat => Value.int .i64 (x : Int)
theorem made_zeros (n : Nat) : (madeCells (Value.int .i64 0).cells (n * 1)).toList = intsV (List.replicate n 0) := by
  have h : (Value.int .i64 0).cells = #[.int .i64 0] := rfl
  rw [h, Nat.mul_one]
  refine List.ext_getElem (by simp [madeCells]) fun i h1 h2 => ?_
  simp [madeCells, Nat.mod_one]
theorem owns_nums {w : World} {B n cap g : Nat} {zs : List Nat} (h : w.ownsRow B 3 1 (.slice (some ⟨g, 0, none⟩) n cap) n (intsV zs)) : zs.length = n ∧ Nums .i64 w (some ⟨g, 0, none⟩) cap zs := by
  have hl : zs.length = n := by have := h.1; simpa using this
  refine ⟨hl, ?_⟩
  have hc := h.cells (g := g) rfl
  rcases h.2 with ⟨h', _⟩ | ⟨g', cap', cur, h', _, hg, hn, hm, _⟩
  · simp at h'
  · simp only [Value.slice.injEq, Option.some.injEq, Addr.mk.injEq, and_true, true_and] at h'
    obtain ⟨rfl, rfl⟩ := h'
    refine ⟨by omega, hm, fun h => by simp at h, fun a ha t ht => ?_⟩
    obtain rfl := Option.some.inj ha
    refine hc t _ ?_
    simp [List.getD, ht]
theorem fill_keep (o : Nat → Int) (n k : Nat) (h : o k = -1) : fillL o n (k + 1) = fillL o n k := if_pos h
theorem fill_put (o : Nat → Int) (n k j : Nat) (h : o k = j) : intsV (fillL o n (k + 1)) = (intsV (fillL o n k)).set j (.int .i64 k) := by
  have e : fillL o n (k + 1) = (fillL o n k).set (o k).toNat k := if_neg (by omega)
  rw [e, h]
  simp [intsV, List.map_set]
theorem owns_drewN {w : World} {B n : Nat} {v : Value} {xs : List Value} (h : w.ownsRow B 3 1 v n xs) (k : Nat) : (w.drewN k).ownsRow B 3 1 v n xs := ⟨h.1, h.2⟩
section
attribute [local irreducible] World.cell?
set_option maxRecDepth 100000 in
set_option maxHeartbeats 2000000 in
theorem mslots_any' (b : Nat) (o : Nat → Int) (n : Nat) (w : World) (hO : Occ w b o) (hn : n ≤ 1000) (ho : ∀ s, s < 4 → o s = -1 ∨ (0 ≤ o s ∧ o s < n)) :
    Calls Tryz.prog 154 #[.pointer (some ⟨b, 0, none⟩), .int .i64 n] w fun e w' => e = .returned (.slice (some ⟨w.heap.size, 0, none⟩) n n) ∧ Made w w' ∧ w'.ownsRow w.heap.size 3 1 (.slice (some ⟨w.heap.size, 0, none⟩) n n) n (intsV (fillL o n 4)) := by
  obtain ⟨i0, hi, hz0, hz1, hz2⟩ := info_parts int_row
  have HO := Lib.hid hO
  have HV := Lib.hid ho
  have hzb : i0.bytes * n ≤ 281474976710656 := by rw [hz2]; omega
  clear hO ho
  go_enter Tryz.func154, Tryz.ntmps154
  go_upto_region 2 with (at_make; refine wpList_make_full _ rfl _ _ 153 rfl w.heap.size 3 i0 (.int .i64 0) 1 Tryz.underlying153 hi hz0 hz1 _ _ _ _ n rfl rfl rfl rfl hzb (by unfold maxLen; omega) (Nat.le_refl _) ?_; intro w1 hown hgr)
  rewrite [made_zeros] at hown
  have KO := Lib.hid hown
  have KM := Lib.hid (show Made w w1 from ⟨hgr.os, hgr.tape, hgr.output, hgr.size, fun k hk => hgr.block k hk (by simp)⟩)
  clear hown hgr hzb
  go_wp2_with (fail)
  go_loopw [11] (fun x wr => ∃ k : Nat, k ≤ 4 ∧ x = .int .i64 k ∧ Made w wr ∧ wr.ownsRow w.heap.size 3 1 (.slice (some ⟨w.heap.size, 0, none⟩) n n) n (intsV (fillL o n k))) (fun x _ => 4 - (intOf x).toNat)
  case atStart => exact ⟨0, by omega, rfl, KM.out, KO.out⟩
  case round =>
    obtain ⟨k, hk, rfl, hm, hown⟩ := hrel
    have K1 := Lib.hid hm
    have K2 := Lib.hid hown
    clear hm hown KO KM
    by_cases hlt : k < 4
    · have hc := occ_cell (Made.heap K1.out HO.out) hlt
      have hv := HV.out k hlt
      by_cases he : o k = -1
      · rewrite [he] at hc
        have KX := Lib.hid (show wr.ownsRow w.heap.size 3 1 (.slice (some ⟨w.heap.size, 0, none⟩) n n) n (intsV (fillL o n (k + 1))) by rw [fill_keep o n k he]; exact K2.out)
        clear he hv
        go_upto_region 4 with (fail)
        go_quiet (fail)
        go_wp2
        go_roundw
        case rel => exact ⟨k + 1, by omega, by go_num, below_drewN K1.out _, owns_drewN KX.out _⟩
        case measure => simp [intOf]; omega
      · have hv2 := hv.resolve_left he
        obtain ⟨j, hj⟩ : ∃ j : Nat, o k = j := ⟨(o k).toNat, by omega⟩
        rewrite [hj] at hc
        have hjn : j < n := by omega
        have hne : ((j : Int) != -1) = true := by simp
        have HF := Lib.hid (fill_put o n k j hj)
        have fr := K2.out.frozenAt
        have cj := (K2.out.cellAt j (by omega)).trans (List.getElem?_eq_getElem (by simp [fillL_len]; exact hjn))
        clear he hv hv2 hj
        go_upto_region 4 with (fail)
        go_quiet (fail)
        rename_i nq
        have KX := Lib.hid ((owns_drewN K2.out nq).stored j (.int .i64 k)).1
        go_wp2
        go_roundw
        case rel => exact ⟨k + 1, by omega, by go_num, (below_drewN K1.out _).setCell (p := ⟨w.heap.size, j, none⟩) (Nat.le_refl _) _, by rw [HF.out]; exact KX.out⟩
        case measure => simp [intOf]; omega
    · obtain rfl : k = 4 := by omega
      go_wp2
      go_ret
      exact ⟨rfl, K1.out, K2.out⟩
end
end
section
open Go.ChangeShapes Go.WideShapes Go.ChangeAt Go.RowKit Go.Sort BigFrame

/-- What complete hands back. -/
def Done (ns fs : List Nat) (w : World) (e : Ending) (w' : World) : Prop :=
  Made w w' ∧ ((search (ns.drop fs.length) fs = none ∧ e = .returned (.tuple #[.slice none 0 0, .bool false])) ∨
    ∃ g l, e = .returned (.tuple #[.slice (some ⟨g, 0, none⟩) ns.length ns.length, .bool true]) ∧ Whole ns l ∧ l.take fs.length = fs ∧ Nums .i64 w' (some ⟨g, 0, none⟩) ns.length l)
/-- The masks while calls go on. -/
structure Masks (w : World) (ao : Option Addr) (cap : Nat) (ns : List Nat) : Prop where
  nums : Nums .u8 w ao cap ns
  few : ns.length ≤ 1000
  byte : ∀ t, ns.getD t 0 < 256
theorem Masks.made {w w' : World} {ao : Option Addr} {cap : Nat} {ns : List Nat} (h : Masks w ao cap ns) (hm : Made w w') : Masks w' ao cap ns := ⟨h.nums.made hm, h.few, h.byte⟩
theorem Masks.lies {w : World} {a : Addr} {cap : Nat} {ns : List Nat} (h : Masks w (some a) cap ns) (hp : 0 < ns.length) {b c : Nat} (hb : w.heap.size ≤ b) (hc : w.heap.size ≤ c) (hbc : b ≠ c) : Lies ns a b c := by
  have h1 := World.block_lt_of_cell? w _ (h.nums.cell a rfl 0 hp)
  rw [add_block] at h1
  exact ⟨by omega, by omega, hbc, h.few, h.byte⟩
/-- The blocks while one mask behind the other asks. -/
structure Goes (w : World) (b : Nat) (kept : Nat → Bool) (wr : World) (o : Nat → Int) : Prop where
  made : Made w wr
  occ : Occ wr b o
  mark : Mark wr (b + 1) kept
theorem goes_start {w w1 : World} (h : Made w w1) (o : Nat → Int) (kept : Nat → Bool) : Goes w w1.heap.size kept ((w1.alloc (.cells (occL o).toArray 191)).alloc (.cells (marksL kept).toArray 193)) o := by
  have m1 := h.alloc h.size (.cells (occL o).toArray 191)
  have b1 : (w1.alloc (.cells (occL o).toArray 191)).heap[w1.heap.size]? = some (.cells (occL o).toArray 191 (0, 0)) := heap_alloc_new w1 _
  exact ⟨m1.alloc m1.size _, (Below.heap_alloc _ _ _ (heap_lt b1)).trans b1, heap_at (by simp)⟩
theorem Goes.next {w wr : World} {b : Nat} {kept : Nat → Bool} {o : Nat → Int} (h : Goes w b kept wr o) (x : Obj) : Goes w b kept (wr.alloc x) o :=
  ⟨h.made.alloc h.made.size _, (Below.heap_alloc _ _ _ (heap_lt h.occ)).trans h.occ, (Below.heap_alloc _ _ _ (heap_lt h.mark)).trans h.mark⟩
theorem Goes.asked {w wr w2 : World} {b c : Nat} {kept : Nat → Bool} {o o' : Nat → Int} (h : Goes w b kept wr o) (hT : TwoRows b c wr w2) (hO : Occ w2 b o') (hb : w.heap.size ≤ b) (hc : b + 1 < c) : Goes w b kept w2 o' :=
  ⟨hT.made h.made hb (by omega), hO, (hT.block (b + 1) (heap_lt h.mark) (by omega) (by omega)).trans h.mark⟩
section
attribute [local irreducible] World.cell?
set_option maxRecDepth 100000 in
set_option maxHeartbeats 4000000 in
theorem complete_any (ns fs : List Nat) (ao fo : Option Addr) (cap fcap : Nat) (w : World) (hM : Masks w ao cap ns) (hF : Nums .i64 w fo fcap fs) (hx : FixOk ns fs) :
    Calls Tryz.prog 121 #[.slice ao ns.length cap, .slice fo fs.length fcap] w (Done ns fs w) := by
  have hle := hx.le
  have hfew := hM.few
  have HS := Lib.hid (seat_any fo fcap fs w hF (by omega) (fun j hj => (hx.ok j hj).1) hx.nodup)
  have HX := Lib.hid hx
  have HM := Lib.hid hM
  clear hF hx hM
  go_enter Tryz.func121, Tryz.ntmps121
  go_wp2_with (fail)
  refine HS.out.mono ?_
  rintro e w1 ⟨o, kept, rfl, hseat, hm1⟩
  have H1 := Lib.hid (filled_start HX.out hseat)
  have K1 := Lib.hid hm1
  clear hseat hm1 HS
  have hz1 := K1.out.size
  have KG := Lib.hid (goes_start K1.out o kept)
  clear K1
  generalize hB : w1.heap.size = B at *
  go_upto_region 2 with (fail)
  refine world_named (fun u => Goes w B kept u o) KG.out ?_
  intro u hu
  have KU := Lib.hid hu
  clear hu KG
  clear hB
  go_wp2_with (fail)
  go_loopw [8] (fun x wr => ∃ (i : Nat) (o' : Nat → Int), fs.length ≤ i ∧ i ≤ ns.length ∧ x = .int .i64 i ∧ Goes w B kept wr o' ∧ Filled ns fs kept o' i) (fun x _ => ns.length - (intOf x).toNat)
  case atStart => exact ⟨fs.length, o, by omega, hle, rfl, KU.out, H1.out⟩
  case round =>
    obtain ⟨i, o', hi0, hi, rfl, hg, hf⟩ := hrel
    have KG := Lib.hid hg
    have KF := Lib.hid hf
    clear hg hf KU H1
    by_cases hlt : i < ns.length
    · obtain ⟨a, rfl⟩ := HM.out.nums.some hlt
      have hP := Lib.hid (filled_pre KF.out hlt)
      have d0 := marks_cell KG.out.mark (s := 0) (by omega)
      have d1 := marks_cell KG.out.mark (s := 1) (by omega)
      have d2 := marks_cell KG.out.mark (s := 2) (by omega)
      have d3 := marks_cell KG.out.mark (s := 3) (by omega)
      have hsz := heap_lt KG.out.mark
      have hl := Lib.hid (HM.out.lies (b := B) (c := wr.heap.size) (by omega) hz1 (by omega) (by omega))
      go_upto_region 6 with (fail)
      refine world_named (fun v => Asks ns a B wr.heap.size v o' kept ∧ Goes w B kept v o') ?_ ?_
      · have hgn := KG.out.next (.cells (marksL kept).toArray 193)
        exact ⟨⟨hgn.occ, heap_alloc_new wr _, (HM.out.made hgn.made).nums.cell a rfl⟩, hgn⟩
      rintro v ⟨hv1, hv2⟩
      have KA := Lib.hid hv1
      have KV := Lib.hid hv2
      clear hv1 hv2 d0 d1 d2 d3
      have hcall := Lib.hid (admit_any ns a cap B wr.heap.size hl.out 5 v o' kept i (Nat.lt_succ_of_le (openN_le kept)) KA.out hP.out)
      go_wp2_with (fail)
      refine hcall.out.mono ?_
      rintro e w2 ⟨r, o2, m2, rfl, hA2, hT2, hr⟩
      have KX := Lib.hid (KV.out.asked hT2 hA2.occ hz1 hsz)
      clear hA2 hT2
      cases r with
      | true =>
        have KN := Lib.hid (filled_next KF.out hi0 (hr.resolve_right (by simp)).2 HX.out)
        clear hr
        go_wp2
        go_roundw
        case rel => exact ⟨i + 1, o2, by omega, by omega, by go_num, KX.out, KN.out⟩
        case measure => simp [intOf]; omega
      | false =>
        obtain ⟨_, _, hd, hall⟩ := hr.resolve_left (by simp)
        have KN := Lib.hid (filled_fail KF.out HX.out hi0 hlt hd hall)
        clear hd hall hr
        go_wp2
        go_ret2
        exact ⟨KX.out.made, .inl ⟨KN.out, rfl⟩⟩
    · obtain rfl : i = ns.length := by omega
      obtain ⟨hend, htake⟩ := filled_end KF.out HX.out
      have hsl := Lib.hid (mslots_any' B o' ns.length wr KG.out.occ hfew (fun s hs => (KF.out.val s hs).imp_right fun h => ⟨h.1, h.2.1⟩))
      have KE := Lib.hid hend
      have KT := Lib.hid htake
      clear hend htake
      go_wp2_with (fail)
      refine hsl.out.mono ?_
      rintro e w2 ⟨rfl, hm2, hown⟩
      have KO := Lib.hid (owns_nums hown).2
      have K2 := Lib.hid (Made.trans KG.out.made hm2)
      clear hm2 hown
      go_wp2
      go_ret2
      exact ⟨K2.out, .inr ⟨_, _, rfl, KE.out, KT.out, KO.out⟩⟩
end
end
section
open Go.ChangeShapes Go.WideShapes Go.ChangeAt Go.RowKit Go.Sort BigFrame

/-- An assignment in memory. -/
structure Assign (w : World) (so : Option Addr) (ns l : List Nat) : Prop where
  nums : Nums .i64 w so ns.length l
  whole : Whole ns l
theorem Assign.made {w w' : World} {so : Option Addr} {ns l : List Nat} (h : Assign w so ns l) (hm : Made w w') : Assign w' so ns l := ⟨h.nums.made hm, h.whole⟩
section
attribute [local irreducible] World.cell?
end
end
section
open Go.ChangeShapes Go.WideShapes Go.ChangeAt Go.RowKit Go.Sort BigFrame

theorem nums_nil (k : IntKind) (w : World) : Nums k w none 0 [] := ⟨Nat.le_refl _, Nat.zero_le _, fun _ => ⟨rfl, rfl⟩, fun a h => by cases h⟩
section
attribute [local irreducible] World.cell?
end
theorem mfits_any (ns : List Nat) (ao : Option Addr) (cap : Nat) (w : World) (hM : Masks w ao cap ns) : Calls Tryz.prog 90 #[.slice ao ns.length cap] w fun e w' => e = .returned (.bool (fitsN ns)) ∧ Made w w' := by
  have HC := Lib.hid (complete_any ns [] ao none cap 0 w hM (nums_nil _ w) (fix_nil ns))
  clear hM
  go_enter Tryz.func90, Tryz.ntmps90
  go_wp2_with (fail)
  refine HC.out.mono ?_
  rintro e w1 ⟨hm1, hr⟩
  have K1 := Lib.hid hm1
  clear hm1 HC
  rcases hr with ⟨hr, rfl⟩ | ⟨g, l, rfl, hw, -, hn⟩
  · have KX := Lib.hid (show fitsN ns = false by unfold fitsN; rw [show search ns [] = none from hr]; rfl)
    clear hr
    go_wp2
    go_ret
    exact ⟨ret_bool KX.out.symm, K1.out⟩
  · have KX := Lib.hid (show fitsN ns = true from (fits_iff ns).2 ⟨l, hw.good, hw.nodup⟩)
    clear hw hn
    go_wp2
    go_ret
    exact ⟨ret_bool KX.out.symm, K1.out⟩
end
section
open Go.ChangeShapes Go.WideShapes Go.ChangeAt Go.RowKit

theorem laid_out : laidOutB Tryz.prog = true := by kernel_rfl
end
end Go.Proofs.YtanjmoiepmadhaaGreatDoor
