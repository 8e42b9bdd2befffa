/- What package unpack's singly returns; no condition but those named. -/
import Derived.Test.YtanjmoiepmadhaaGreatDoorUnFirst
namespace Go.Proofs.YtanjmoiepmadhaaGreatDoor
open Go.ChangeShapes Go.WideShapes Go.ChangeAt Go.RowKit Go.Sort BigFrame

/-- What 'singly' tells. -/
def SinglySays (pc : Int) (zs : List Int) (w : World) (e : Ending) (w' : World) : Prop :=
  ∃ (v : Value) (l : List In) (ok : Bool), e = .returned (.tuple #[v, .bool ok]) ∧ GotAt w w.heap.size v l w' ∧ sing pc zs = (if ok = true then some l else none) ∧ l.length ≤ zs.length
def lenV : Value → Nat
  | .slice _ n _ => n
  | _ => 0
theorem sing_none {pc : Int} {zs r : List Int} {l : List In} (h : sing pc zs = (sing pc r).map (l ++ ·)) (hr : r ≠ []) (hf : firstW pc r = none) : sing pc zs = none := by
  rw [h, sing_first pc r hr, hf]
  rfl
theorem sing_next {pc : Int} {zs r t : List Int} {l : List In} {x : In} (h : sing pc zs = (sing pc r).map (l ++ ·)) (hr : r ≠ []) (hf : firstW pc r = some (x, t)) : sing pc zs = (sing pc t).map (l ++ [x] ++ ·) := by
  rw [h, sing_first pc r hr, hf]
  show ((sing pc t).map (x :: ·)).map (l ++ ·) = _
  cases sing pc t with
  | none => rfl
  | some m =>
    show some (l ++ (x :: m)) = some (l ++ [x] ++ m)
    rw [List.append_assoc]
    rfl
section
attribute [local irreducible] World.cell?
set_option maxRecDepth 100000 in
set_option maxHeartbeats 16000000 in
theorem usingly_any (ao : Option Addr) (cap : Nat) (zs : List Int) (w : World) (hN : Names w) (hP : Pieces w) (hW : Ws w ao cap zs) (hu : U32s zs) (hl : zs.length ≤ 1000) (pc : Int) (n : Nat) (hn : n = zs.length) :
    Calls Tryz.prog 72 #[.slice ao n cap, .int .u32 pc] w (SinglySays pc zs w) := by
  obtain ⟨i0, hi0, hz0, hz1, hz2⟩ := info_parts inst_row
  have HF := Lib.hid (fun b o cap z r h1 h2 h3 n hn => ufirst_any w hN hP b o cap z r h1 h2 h3 pc n hn)
  have H := Lib.hid (And.intro hW (And.intro hu hn))
  clear hW hu hN hP hn
  go_enter Tryz.func72, Tryz.ntmps72
  go_wp2_with (fail)
  go_loopw [0, 6] (fun lv iv wr => ∃ (so : Option Addr) (m c : Nat) (r : List Int) (l : List In) (v : Value), lv = .slice so m c ∧ v = iv ∧ r.length = m ∧ Ws w so c r ∧ U32s r ∧ GotAt w w.heap.size v l wr ∧ sing pc zs = (sing pc r).map (l ++ ·) ∧ l.length + m ≤ zs.length) (fun lv _ _ => lenV lv)
  case atStart => exact ⟨ao, n, cap, zs, [], _, rfl, rfl, H.out.2.2.symm, H.out.1, H.out.2.1, got_nil (Made.refl w), by simp, by have := H.out.2.2; simp; omega⟩
  case round =>
    obtain ⟨so, m, c, r, l, v, rfl, rfl, hrm, hr, hru, hg, hs, hll⟩ := hrel
    have KV := Lib.hid hg
    have HS := Lib.hid hs
    have HRU := Lib.hid hru
    have HRW := Lib.hid hr
    clear hg hs hru hr
    cases r with
    | nil =>
      have hm0 : m = 0 := by simpa using hrm.symm
      subst hm0
      have HX := Lib.hid (show sing pc zs = some l by rw [HS.out]; simp [sing])
      clear HF HRW HS
      go_wp2
      refine bodyPost_ret (v := .tuple #[v, .bool true]) (by simp [results, Tryz.results72, go_sem]) rfl ?_
      exact ⟨v, l, true, rfl, KV.out, HX.out, by omega⟩
    | cons z t =>
      have hm1 : m = t.length + 1 := by simpa using hrm.symm
      obtain ⟨b, o, rfl, -⟩ := ws_cell HRW.out (t := 0) (by simp) z rfl
      have hgt : (0 : Int) < (m : Int) := by omega
      have HC := Lib.hid (HF.out b o c z t HRW.out HRU.out (by rw [List.length_cons]; omega) m hrm.symm wr KV.out.made)
      have HM := Lib.hid hm1
      clear hrm hm1
      go_wp2_with (fail)
      refine HC.out.mono ?_
      rintro e w1 ⟨x, so1, n1, c1, ok, rfl, h1, hno, hyes⟩
      have KN := Lib.hid (KV.out.next h1)
      have EB := Lib.hid (And.intro (show InAt (w1.alloc (.cells x.cells.toArray 40)) w1.heap.size x from heap_alloc_new w1 _) (And.intro (KN.out.next ((Made.refl w1).alloc (Nat.le_refl _) (.cells x.cells.toArray 40))) (fun g hg => (KN.out.row.lt g hg).2)))
      clear h1 HC KV
      go_upto_region 4 with (fail)
      refine world_named (fun u => InAt u w1.heap.size x ∧ GotAt w w.heap.size v l u ∧ ∀ g, v.ownBlock = some g → g < w1.heap.size) EB.out ?_
      rintro u ⟨hz1', hz2', hz3'⟩
      have EN := Lib.hid hz1'
      have KV := Lib.hid hz2'
      clear hz1' hz2' hz3' EB KN
      cases ok with
      | false =>
        have HX := Lib.hid (sing_none HS.out (by simp) (hno rfl))
        clear hno hyes
        go_wp2
        refine bodyPost_ret (v := .tuple #[.slice none 0 0, .bool false]) (by simp [results, Tryz.results72, go_sem]) rfl ?_
        exact ⟨_, [], false, rfl, got_nil KV.out.made, HX.out, Nat.zero_le _⟩
      | true =>
        obtain ⟨hxs, t1, hf, ht1, hw1⟩ := hyes rfl
        have HX := Lib.hid (sing_next HS.out (by simp) hf)
        have hfl := first_len hf
        have HL := Lib.hid (show U32s t1 from by
          obtain ⟨k, hk⟩ := hfl.2
          intro q hq
          rw [hk] at hq
          exact HRU.out q (List.mem_of_mem_drop hq))
        have hlt : t1.length < m := by have := hfl.1; rw [List.length_cons] at this; have := HM.out; omega
        have HT := Lib.hid (And.intro ht1 hw1)
        have HXS := Lib.hid (show ∀ y ∈ [x], y.small from fun y hy => by obtain rfl : y = x := (by simpa using hy); exact hxs)
        clear hno hyes hf hfl hw1 hxs
        obtain ⟨i_0, i_1, i_2, i_3, i_4, i_5, i_6, i_7, i_8, i_9, i_10⟩ := in_cells EN.out
        have hle := heap_lt EN.out
        have m2 : Made u (u.alloc (.cells (flatI [x]).toArray 40)) := (Made.refl u).alloc (Nat.le_refl _) _
        have KA := Lib.hid (KV.out.next m2)
        have HOL := Lib.hid (insts_olds (one_lit u x (HXS.out x (by simp))))
        have hsz := Lib.hid KA.out.made.size
        have hmx : l.length + 1 ≤ maxLen := by unfold maxLen; omega
        have hby : (l.length + 1) * 24 ≤ 140737488355328 := by omega
        clear m2
        go_wp2_with (at_builtin; refine wpList_append_each rfl (.tmp 22) (.tmp 24) 27 rfl w.heap.size 40 i0 (In.val inZero) 11 24 Tryz.underlying27 hi0 hz0 hz1 hz2 rfl (by decide) v l.length (flatI l) rfl KA.out.row (some ⟨u.heap.size, 0, none⟩) 1 1 (flatI [x]) rfl (fun h => by simp at h) rfl HOL.out (flatI_one _) hmx hby hsz.out ?_; intro v7 w9 own1 gr1; have KG := Lib.hid (KA.out.grows HXS.out rfl own1 gr1); clear own1 gr1)
        go_roundw
        case rel => exact ⟨so1, n1, c1, t1, l ++ [x], v7, rfl, rfl, HT.out.1, HT.out.2, HL.out, KG.out, HX.out, by rw [List.length_append]; have := HT.out.1; simp; omega⟩
        case measure => show n1 < m; have := HT.out.1; omega
end
end Go.Proofs.YtanjmoiepmadhaaGreatDoor
