/- What the method admit of package match returns and leaves, whatever has the slots: by induction on the number of slots that may be asked for. -/
import Derived.Test.YtplafgegjbppmaaMatchSeat
namespace Go.Proofs.Ytplafgegjbppmaa
open Go.ChangeShapes Go.WideShapes Go.ChangeAt Go.RowKit Go.Sort BigFrame

/-- Of what stood in w nothing has turned but two blocks. -/
structure Two (b c : Nat) (w w' : World) : Prop where
  os : w'.os = w.os
  tape : w'.tape = w.tape
  output : w'.output = w.output
  size : w.heap.size ≤ w'.heap.size
  block : ∀ k, k < w.heap.size → k ≠ b → k ≠ c → w'.heap[k]? = w.heap[k]?
theorem Two.refl (b c : Nat) (w : World) : Two b c w w := ⟨rfl, rfl, rfl, Nat.le_refl _, fun _ _ _ _ => rfl⟩
theorem Two.trans {b c : Nat} {x y z : World} (h : Two b c x y) (k : Two b c y z) : Two b c x z :=
  ⟨k.os.trans h.os, k.tape.trans h.tape, k.output.trans h.output, Nat.le_trans h.size k.size, fun i hi h1 h2 => (k.block i (Nat.lt_of_lt_of_le hi h.size) h1 h2).trans (h.block i hi h1 h2)⟩
theorem Two.set {b c : Nat} (w : World) (a : Addr) (v : Value) (h : a.block = b ∨ a.block = c) : Two b c w (w.setCell a v) :=
  ⟨rfl, rfl, rfl, by simp, fun k _ h1 h2 => heap_setCell_other w a k v (by rcases h with rfl | rfl <;> assumption)⟩
theorem Two.made {b c : Nat} {W w w' : World} (h : Two b c w w') (hm : Made W w) (hb : W.heap.size ≤ b) (hc : W.heap.size ≤ c) : Made W w' :=
  ⟨h.os.trans hm.os, h.tape.trans hm.tape, h.output.trans hm.output, Nat.le_trans hm.size h.size, fun i hi => (h.block i (Nat.lt_of_lt_of_le hi hm.size) (by omega) (by omega)).trans (hm.block i hi)⟩
theorem Two.cell {b c : Nat} {w w' : World} (h : Two b c w w') {a : Addr} {v : Value} (hc : w.cell? a = some v) (h1 : a.block ≠ b) (h2 : a.block ≠ c) : w'.cell? a = some v :=
  (World.cell?_of_block (h.block a.block (World.block_lt_of_cell? w a hc) h1 h2)).trans hc
theorem add_block (a : Addr) (t : Nat) : (a.add t).block = a.block := by unfold Addr.add; split <;> rfl
/-- What stands while a mask asks: the two blocks and the masks. -/
structure Asks (ns : List Nat) (a : Addr) (b c : Nat) (w : World) (o : Nat → Int) (m : Nat → Bool) : Prop where
  occ : Occ w b o
  mark : Mark w c m
  cell : ∀ t, t < ns.length → w.cell? (a.add t) = some (.int .u8 (ns.getD t 0))
/-- How the blocks lie, and what the masks are. -/
structure Lies (ns : List Nat) (a : Addr) (b c : Nat) : Prop where
  ab : a.block ≠ b
  ac : a.block ≠ c
  bc : b ≠ c
  few : ns.length ≤ 1000
  byte : ∀ t, ns.getD t 0 < 256
theorem Asks.setM {ns : List Nat} {a : Addr} {b c : Nat} {w : World} {o : Nat → Int} {m : Nat → Bool} (h : Asks ns a b c w o m) (hl : Lies ns a b c) {s : Nat} (hs : s < 4) (v : Bool) : Asks ns a b c (w.setCell ⟨c, s, none⟩ (.bool v)) o (upd m s v) :=
  ⟨(heap_setCell_other w ⟨c, s, none⟩ _ _ hl.bc).trans h.occ, mark_set h.mark hs v, fun t ht => (Two.set (b := b) (c := c) w ⟨c, s, none⟩ _ (.inr rfl)).cell (h.cell t ht) (by rw [add_block]; exact hl.ab) (by rw [add_block]; exact hl.ac)⟩
theorem Asks.setO {ns : List Nat} {a : Addr} {b c : Nat} {w : World} {o : Nat → Int} {m : Nat → Bool} (h : Asks ns a b c w o m) (hl : Lies ns a b c) {s : Nat} (hs : s < 4) (v : Int) : Asks ns a b c (w.setCell ⟨b, s, none⟩ (.int .i64 v)) (upd o s v) m :=
  ⟨occ_set h.occ hs v, (heap_setCell_other w ⟨b, s, none⟩ _ _ (Ne.symm hl.bc)).trans h.mark, fun t ht => (Two.set (b := b) (c := c) w ⟨b, s, none⟩ _ (.inl rfl)).cell (h.cell t ht) (by rw [add_block]; exact hl.ab) (by rw [add_block]; exact hl.ac)⟩
/-- What a call of admit leaves. -/
def Admits (ns : List Nat) (a : Addr) (b c : Nat) (w : World) (o : Nat → Int) (m : Nat → Bool) (i : Nat) (e : Ending) (w' : World) : Prop :=
  ∃ (r : Bool) (o' : Nat → Int) (m' : Nat → Bool), e = .returned (.bool r) ∧ Asks ns a b c w' o' m' ∧ Two b c w w' ∧
    ((r = true ∧ Post ns o m i o') ∨ (r = false ∧ o' = o ∧ Dead ns o m m' ∧ ∀ t, t < 4 → allowN ns i t = true → m' t = true))
section
attribute [local irreducible] World.cell?
set_option maxHeartbeats 4000000 in
theorem admit_any (ns : List Nat) (a : Addr) (cap b c : Nat) (hl : Lies ns a b c) (k : Nat) : ∀ (w : World) (o : Nat → Int) (m : Nat → Bool) (i : Nat), openN m < k → Asks ns a b c w o m → Pre ns o m i →
    Calls Try.prog 17 #[.pointer (some ⟨b, 0, none⟩), .slice (some a) ns.length cap, .int .i64 i, .pointer (some ⟨c, 0, none⟩)] w (Admits ns a b c w o m i) := by
  induction k with
  | zero => intro w o m i h; exact absurd h (Nat.not_lt_zero _)
  | succ k ih =>
    intro w o m i hk hA hp
    have HA := Lib.hid hA
    have HP := Lib.hid hp
    have HK := Lib.hid hk
    have HI := Lib.hid ih
    have hilen : i < ns.length := by have := hp.hi; omega
    have hfew := hl.few
    have hbyte := hl.byte i
    clear hA hp hk ih
    go_enter Try.func17, Try.ntmps17
    go_wp2_with (fail)
    go_loopw [10] (fun x wr => ∃ (s : Nat) (m' : Nat → Bool), s ≤ 4 ∧ x = .int .i64 s ∧ Asks ns a b c wr o m' ∧ Two b c w wr ∧ Mid ns o m i s m') (fun x _ => 4 - (intOf x).toNat)
    case atStart => exact ⟨0, m, by omega, rfl, HA.out, Two.refl .., mid_start ..⟩
    case round =>
      obtain ⟨s, m', hs, rfl, hA, hT, hm⟩ := hrel
      have KA := Lib.hid hA
      have KT := Lib.hid hT
      have KM := Lib.hid hm
      clear hA hT hm
      by_cases hs4 : s < 4
      · have hc := mark_cell KA.out.mark hs4
        by_cases hms : m' s = true
        · rewrite [hms] at hc
          have KX := Lib.hid (mid_skip KM.out (.inl hms))
          clear hms
          go_wp2
          go_roundw
          case rel => exact ⟨s + 1, m', by omega, by go_num, KA.out, KT.out, KX.out⟩
          case measure => simp [intOf]; omega
        · have hms2 : m' s = false := by simpa using hms
          rewrite [hms2] at hc
          have HM := Lib.hid hms2
          have hcell := KA.out.cell i hilen
          clear hms hms2
          by_cases hal : allowN ns i s = true
          · have hal2 : hasN (ns.getD i 0) s = true := by simpa [allowN] using hal
            have CA := Lib.hid (allows_any (ns.getD i 0) s hbyte hs4)
            have HL := Lib.hid hal
            rewrite [hal2] at CA
            generalize ns.getD i 0 = mk at *
            clear hal hal2
            have fr := free_of_lit KA.out.mark
            have KA2 := Lib.hid (KA.out.setM hl hs4 true)
            go_upto_region 6 with (go_at_call 19; refine (CA.out.at _).mono ?_; rintro e w' ⟨rfl, rfl⟩)
            refine world_named (fun u => Asks ns a b c u o (upd m' s true) ∧ Two b c w u) ⟨KA2.out, KT.out.trans (Two.set _ _ _ (.inr rfl))⟩ ?_
            rintro u ⟨hu, hu2⟩
            have KU := Lib.hid hu
            have KV := Lib.hid hu2
            clear hu hu2 KA2 fr hc hcell
            have hoc := occ_cell KU.out.occ hs4
            have fro := free_of_lit KU.out.occ
            by_cases ho : o s = -1
            · rewrite [ho] at hoc
              have KX := Lib.hid (post_free HP.out KM.out hs4 HM.out HL.out ho)
              have KO := Lib.hid (KU.out.setO hl hs4 i)
              clear ho
              go_wp2
              go_ret
              exact ⟨true, _, _, rfl, KO.out, KV.out.trans (Two.set _ _ _ (.inl rfl)), .inl ⟨rfl, KX.out⟩⟩
            · have hpn := pre_next HP.out KM.out hs4 HM.out ho
              obtain ⟨j, hj⟩ : ∃ j : Nat, o s = j := ⟨(o s).toNat, by have := hpn.lo; omega⟩
              have HR := Lib.hid (HI.out u o (upd m' s true) j (by have := openN_next KM.out hs4 HM.out; have := HK.out; omega) KU.out (hj ▸ hpn))
              rewrite [hj] at hoc
              have hne : ((j : Int) == -1) = false := beq_eq_false_iff_ne.2 (by omega)
              have HJ := Lib.hid hj
              have HO := Lib.hid ho
              clear ho hj hpn
              go_wp2_with (fail)
              refine HR.out.mono ?_
              rintro e w2 ⟨r, o2, m2, rfl, hA2, hT2, hr⟩
              have KA2 := Lib.hid hA2
              have KT2 := Lib.hid (KV.out.trans hT2)
              have KR := Lib.hid hr
              clear hA2 hT2 hr
              cases r with
              | true =>
                have hpost := (KR.out.resolve_right (by simp)).2
                rewrite [← HJ.out] at hpost
                have KX := Lib.hid (post_rec HP.out KM.out hs4 HM.out HL.out HO.out hpost)
                have fro2 := free_of_lit KA2.out.occ
                have hoc2 := occ_cell KA2.out.occ hs4
                have KO := Lib.hid (KA2.out.setO hl hs4 i)
                clear hpost
                go_wp2
                go_ret
                exact ⟨true, _, _, rfl, KO.out, KT2.out.trans (Two.set _ _ _ (.inl rfl)), .inl ⟨rfl, KX.out⟩⟩
              | false =>
                obtain ⟨_, ho2, hd, hall⟩ := KR.out.resolve_left (by simp)
                subst ho2
                rewrite [← HJ.out] at hall
                have KX := Lib.hid (mid_fail KM.out HO.out hd hall hs4)
                clear hd hall
                go_wp2
                go_roundw
                case rel => exact ⟨s + 1, m2, by omega, by go_num, KA2.out, KT2.out, KX.out⟩
                case measure => simp [intOf]; omega
          · have hal2 : allowN ns i s = false := by simpa using hal
            have hal3 : hasN (ns.getD i 0) s = false := by simpa [allowN] using hal2
            have CA := Lib.hid (allows_any (ns.getD i 0) s hbyte hs4)
            rewrite [hal3] at CA
            have KX := Lib.hid (mid_skip KM.out (.inr hal2))
            generalize ns.getD i 0 = mk at *
            clear hal hal2 hal3
            go_wp2_with (go_at_call 19; refine (CA.out.at _).mono ?_; rintro e w' ⟨rfl, rfl⟩)
            go_roundw
            case rel => exact ⟨s + 1, m', by omega, by go_num, KA.out, KT.out, KX.out⟩
            case measure => simp [intOf]; omega
      · obtain rfl : s = 4 := by omega
        go_wp2
        go_ret
        exact ⟨false, o, m', rfl, KA.out, KT.out, .inr ⟨rfl, rfl, KM.out.dead, fun t ht => KM.out.all t ht ht⟩⟩
end
end Go.Proofs.Ytplafgegjbppmaa
