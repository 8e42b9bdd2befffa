/- What complete of package match returns: some assignment that goes on from the fixed slots, or none where the search finds none. -/
import Derived.Test.YtplafgegjbppmaaMatchRows
namespace Go.Proofs.Ytplafgegjbppmaa
open Go.ChangeShapes Go.WideShapes Go.ChangeAt Go.RowKit Go.Sort BigFrame

/-- What complete hands back. -/
def Done (ns fs : List Nat) (w : World) (e : Ending) (w' : World) : Prop :=
  Made w w' ∧ ((search (ns.drop fs.length) fs = none ∧ e = .returned (.tuple #[.slice none 0 0, .bool false])) ∨
    ∃ g l, e = .returned (.tuple #[.slice (some ⟨g, 0, none⟩) ns.length ns.length, .bool true]) ∧ Whole ns l ∧ l.take fs.length = fs ∧ Nums .i64 w' (some ⟨g, 0, none⟩) ns.length l)
/-- The masks while calls go on. -/
structure Masks (w : World) (ao : Option Addr) (cap : Nat) (ns : List Nat) : Prop where
  nums : Nums .u8 w ao cap ns
  few : ns.length ≤ 1000
  byte : ∀ t, ns.getD t 0 < 256
theorem Masks.made {w w' : World} {ao : Option Addr} {cap : Nat} {ns : List Nat} (h : Masks w ao cap ns) (hm : Made w w') : Masks w' ao cap ns := ⟨h.nums.made hm, h.few, h.byte⟩
theorem Masks.lies {w : World} {a : Addr} {cap : Nat} {ns : List Nat} (h : Masks w (some a) cap ns) (hp : 0 < ns.length) {b c : Nat} (hb : w.heap.size ≤ b) (hc : w.heap.size ≤ c) (hbc : b ≠ c) : Lies ns a b c := by
  have h1 := World.block_lt_of_cell? w _ (h.nums.cell a rfl 0 hp)
  rw [add_block] at h1
  exact ⟨by omega, by omega, hbc, h.few, h.byte⟩
/-- The blocks while one mask behind the other asks. -/
structure Goes (w : World) (b : Nat) (kept : Nat → Bool) (wr : World) (o : Nat → Int) : Prop where
  made : Made w wr
  occ : Occ wr b o
  mark : Mark wr (b + 1) kept
theorem goes_start {w w1 : World} (h : Made w w1) (o : Nat → Int) (kept : Nat → Bool) : Goes w w1.heap.size kept ((w1.alloc (.cells (occL o).toArray 36)).alloc (.cells (markL kept).toArray 38)) o := by
  have m1 := h.alloc h.size (.cells (occL o).toArray 36)
  have b1 : (w1.alloc (.cells (occL o).toArray 36)).heap[w1.heap.size]? = some (.cells (occL o).toArray 36 (0, 0)) := heap_alloc_new w1 _
  exact ⟨m1.alloc m1.size _, (Below.heap_alloc _ _ _ (heap_lt b1)).trans b1, heap_at (by simp)⟩
theorem Goes.next {w wr : World} {b : Nat} {kept : Nat → Bool} {o : Nat → Int} (h : Goes w b kept wr o) (x : Obj) : Goes w b kept (wr.alloc x) o :=
  ⟨h.made.alloc h.made.size _, (Below.heap_alloc _ _ _ (heap_lt h.occ)).trans h.occ, (Below.heap_alloc _ _ _ (heap_lt h.mark)).trans h.mark⟩
theorem Goes.asked {w wr w2 : World} {b c : Nat} {kept : Nat → Bool} {o o' : Nat → Int} (h : Goes w b kept wr o) (hT : Two b c wr w2) (hO : Occ w2 b o') (hb : w.heap.size ≤ b) (hc : b + 1 < c) : Goes w b kept w2 o' :=
  ⟨hT.made h.made hb (by omega), hO, (hT.block (b + 1) (heap_lt h.mark) (by omega) (by omega)).trans h.mark⟩
section
attribute [local irreducible] World.cell?
set_option maxHeartbeats 4000000 in
theorem complete_any (ns fs : List Nat) (ao fo : Option Addr) (cap fcap : Nat) (w : World) (hM : Masks w ao cap ns) (hF : Nums .i64 w fo fcap fs) (hx : FixOk ns fs) :
    Calls Try.prog 12 #[.slice ao ns.length cap, .slice fo fs.length fcap] w (Done ns fs w) := by
  have hle := hx.le
  have hfew := hM.few
  have HS := Lib.hid (seat_any fo fcap fs w hF (by omega) (fun j hj => (hx.ok j hj).1) hx.nodup)
  have HX := Lib.hid hx
  have HM := Lib.hid hM
  clear hF hx hM
  go_enter Try.func12, Try.ntmps12
  go_wp2_with (fail)
  refine HS.out.mono ?_
  rintro e w1 ⟨o, kept, rfl, hseat, hm1⟩
  have H1 := Lib.hid (filled_start HX.out hseat)
  have K1 := Lib.hid hm1
  clear hseat hm1 HS
  have hz1 := K1.out.size
  have KG := Lib.hid (goes_start K1.out o kept)
  clear K1
  generalize hB : w1.heap.size = B at *
  go_upto_region 2 with (fail)
  refine world_named (fun u => Goes w B kept u o) KG.out ?_
  intro u hu
  have KU := Lib.hid hu
  clear hu KG
  clear hB
  go_wp2_with (fail)
  go_loopw [8] (fun x wr => ∃ (i : Nat) (o' : Nat → Int), fs.length ≤ i ∧ i ≤ ns.length ∧ x = .int .i64 i ∧ Goes w B kept wr o' ∧ Filled ns fs kept o' i) (fun x _ => ns.length - (intOf x).toNat)
  case atStart => exact ⟨fs.length, o, by omega, hle, rfl, KU.out, H1.out⟩
  case round =>
    obtain ⟨i, o', hi0, hi, rfl, hg, hf⟩ := hrel
    have KG := Lib.hid hg
    have KF := Lib.hid hf
    clear hg hf KU H1
    by_cases hlt : i < ns.length
    · obtain ⟨a, rfl⟩ := HM.out.nums.some hlt
      have hP := Lib.hid (filled_pre KF.out hlt)
      have d0 := mark_cell KG.out.mark (s := 0) (by omega)
      have d1 := mark_cell KG.out.mark (s := 1) (by omega)
      have d2 := mark_cell KG.out.mark (s := 2) (by omega)
      have d3 := mark_cell KG.out.mark (s := 3) (by omega)
      have hsz := heap_lt KG.out.mark
      have hl := Lib.hid (HM.out.lies (b := B) (c := wr.heap.size) (by omega) hz1 (by omega) (by omega))
      go_upto_region 6 with (fail)
      refine world_named (fun v => Asks ns a B wr.heap.size v o' kept ∧ Goes w B kept v o') ?_ ?_
      · have hgn := KG.out.next (.cells (markL kept).toArray 38)
        exact ⟨⟨hgn.occ, heap_alloc_new wr _, (HM.out.made hgn.made).nums.cell a rfl⟩, hgn⟩
      rintro v ⟨hv1, hv2⟩
      have KA := Lib.hid hv1
      have KV := Lib.hid hv2
      clear hv1 hv2 d0 d1 d2 d3
      have hcall := Lib.hid (admit_any ns a cap B wr.heap.size hl.out 5 v o' kept i (Nat.lt_succ_of_le (openN_le kept)) KA.out hP.out)
      go_wp2_with (fail)
      refine hcall.out.mono ?_
      rintro e w2 ⟨r, o2, m2, rfl, hA2, hT2, hr⟩
      have KX := Lib.hid (KV.out.asked hT2 hA2.occ hz1 hsz)
      clear hA2 hT2
      cases r with
      | true =>
        have KN := Lib.hid (filled_next KF.out hi0 (hr.resolve_right (by simp)).2 HX.out)
        clear hr
        go_wp2
        go_roundw
        case rel => exact ⟨i + 1, o2, by omega, by omega, by go_num, KX.out, KN.out⟩
        case measure => simp [intOf]; omega
      | false =>
        obtain ⟨_, _, hd, hall⟩ := hr.resolve_left (by simp)
        have KN := Lib.hid (filled_fail KF.out HX.out hi0 hlt hd hall)
        clear hd hall hr
        go_wp2
        go_ret2
        exact ⟨KX.out.made, .inl ⟨KN.out, rfl⟩⟩
    · obtain rfl : i = ns.length := by omega
      obtain ⟨hend, htake⟩ := filled_end KF.out HX.out
      have hsl := Lib.hid (slots_any' B o' ns.length wr KG.out.occ hfew (fun s hs => (KF.out.val s hs).imp_right fun h => ⟨h.1, h.2.1⟩))
      have KE := Lib.hid hend
      have KT := Lib.hid htake
      clear hend htake
      go_wp2_with (fail)
      refine hsl.out.mono ?_
      rintro e w2 ⟨rfl, hm2, hown⟩
      have KO := Lib.hid (owns_nums hown).2
      have K2 := Lib.hid (Made.trans KG.out.made hm2)
      clear hm2 hown
      go_wp2
      go_ret2
      exact ⟨K2.out, .inr ⟨_, _, rfl, KE.out, KT.out, KO.out⟩⟩
end
end Go.Proofs.Ytplafgegjbppmaa
