/- What the law's reads, its awake and Reserved return at texts that are written out; conditions: the table of names and strconv's errors stand where their variables lie. -/
import Derived.Test.YtnfmlmamgkpocaaGreatDoorParRds
import Derived.Test.YtnfmlmamgkpocaaGreatDoorGParM
import Derived.Test.YtnfmlmamgkpocaaGreatDoorGParY
namespace Go.Proofs.YtnfmlmamgkpocaaGreatDoor
open Go.ChangeShapes Go.WideShapes Go.ChangeAt Go.RowKit Go.Sort BigFrame

theorem ipost_out {w u : World} {L : List Tk} {e : Ending} (h : IPost w L e u) {x : Ln} {k : Nat} {er : Int} (hI : instP L = (x, k, er)) : ∃ vo vc co cc, e = .returned (.tuple #[lnVal x (.slice vo x.value.length vc) (.slice co x.count.length cc), .int .i64 k, .int .i64 er]) ∧ Tms u vo vc x.value ∧ Tms u co cc x.count ∧ Made w u := by
  unfold IPost at h
  rw [hI] at h
  exact h
/-- Inst of a text that is written out, where there is none. -/
def badN (n : Nat) (l : List UInt8) (k : Nat) (e : Int) : Bool := valAll n (cutE l) && (match readF (valZ n (cutE l)) (cutE l) with | .bad a w => decide (a = k) && decide (w = e) | .ok _ _ => false)
theorem bad_lit {n : Nat} {l : List UInt8} {k : Nat} {e : Int} (h : badN n l k e = true) : instP (cutE l) = (lnZero, k, e) := by
  unfold badN at h
  rw [Bool.and_eq_true] at h
  rw [instF_eq, valZ_eq h.1]
  have h2 := h.2
  unfold instF
  split at h2
  · rename_i a w hq
    rw [Bool.and_eq_true, decide_eq_true_eq, decide_eq_true_eq] at h2
    rw [hq, h2.1, h2.2]
  · cases h2
/-- .. where all of it is one. -/
def allN (n : Nat) (l : List UInt8) (x : Ln) : Prop := valAll n (cutE l) = true ∧ instF (valZ n (cutE l)) (cutE l) = ({ x with line := 1, col := 1 }, (cutE l).length, 0)
theorem all_lit {n : Nat} {l : List UInt8} {x : Ln} (h : allN n l x) : instP (cutE l) = ({ x with line := 1, col := 1 }, (cutE l).length, 0) := inst_lit h.1 h.2
theorem cutE_tok {l : List UInt8} (hl : l.length ≤ 2000) : ∀ t ∈ cutE l, t.text.length ≤ 100000 := fun t ht => by have := cutE_short l t ht; omega
theorem reads_lit {n : Nat} {l : List UInt8} {x : Ln} (h : allN n l x) (hl : l.length ≤ 2000) (hlv : x.value.length ≤ 100000) (hlc : x.count.length ≤ 100000) {W : World} (hN : Names W) (hE : Errs W) (w : World) (hm : Made W w) (v2 c2 : Option Addr) (a2 b2 : Nat) (hv : Tms w v2 a2 x.value) (hc : Tms w c2 b2 x.count) :
    Calls Tryz.prog 17 #[.string ⟨l.toArray⟩, lnVal x (.slice v2 x.value.length a2) (.slice c2 x.count.length b2)] w fun e w' => e = .returned (.bool true) ∧ Made W w' :=
  (reads16_any ⟨l.toArray⟩ l rfl hl x (all_lit h) hlv hlc w (names_next hN hm) (hE.next hm) v2 c2 a2 b2 hv hc).mono fun _ _ h => ⟨h.1, Made.trans hm h.2⟩
theorem res_lit {s : List UInt8} {b : Bool} (h : resP s = b) (hs : s.length ≤ 100000) {W : World} (hE : Errs W) : Makes Tryz.prog W 16 #[.string ⟨s.toArray⟩] (.bool b) := by
  have := reserved_any s hs W hE
  rw [h] at this
  exact this
/-- What Inst tells of a text's tokens where they are none. -/
theorem inst_none {n : Nat} {l : List UInt8} {k : Nat} {e : Int} (h : badN n l k e = true) (hl : l.length ≤ 2000) {W : World} (hN : Names W) (hE : Errs W) (w : World) (hm : Made W w) (lo : Option Addr) (cap m : Nat) (hlen : (cutE l).length = m) (hT : Toks w lo cap (cutE l)) :
    Calls Tryz.prog 13 #[.slice lo m cap] w fun x u => (∃ vo vc co cc, x = .returned (.tuple #[.agg #[.int .u8 0, .int .u8 0, .int .u8 0, .int .u8 0, .int .u8 0, .int .u8 0, .int .u8 0, .bool false, .bool false, .int .u16 0, .int .i64 0, .slice vo 0 vc, .slice co 0 cc, .bool false, .int .i64 0, .int .i64 0], .int .i64 k, .int .i64 e])) ∧ Made W u := by
  subst hlen
  have hfew := cutE_few l
  refine (inst_any w lo cap (cutE l) hT (names_next hN hm) (hE.next hm) (by omega) (cutE_tok hl)).mono fun x u hi => ?_
  obtain ⟨vo, vc, co, cc, rfl, -, -, h2⟩ := ipost_out hi (bad_lit h)
  exact ⟨⟨vo, vc, co, cc, rfl⟩, Made.trans hm h2⟩
theorem t32_bad : badN 40 [114, 51, 50, 32, 61, 32, 114, 49] 0 8 = true := by decide +kernel
abbrev lnA : Ln := ⟨2, 1, 2, 3, 0, 1, 4, false, [], [], false, 0, 0⟩
abbrev lnB : Ln := ⟨30, 0, 0, 0, 1, 0, 0, false, [⟨2, 0, [120], 0, 0⟩], [⟨1, 10, [], 0, 0⟩], false, 0, 0⟩
theorem ta_all : allN 40 [105, 102, 32, 40, 33, 112, 49, 46, 110, 101, 119, 41, 32, 114, 49, 32, 61, 32, 97, 100, 100, 40, 114, 50, 44, 114, 51, 41] lnA := ⟨by decide +kernel, by kernel_rfl⟩
theorem tb_all : allN 40 [108, 111, 111, 112, 49, 40, 120, 44, 35, 49, 48, 41] lnB := ⟨by decide +kernel, by kernel_rfl⟩
theorem r3n_res : resP [114, 51, 46, 110, 101, 119] = true := by decide +kernel
theorem r32_res : resP [114, 51, 50] = false := by decide +kernel
theorem t32_len : (cutE [114, 51, 50, 32, 61, 32, 114, 49]).length = 3 := by decide +kernel
section
attribute [local irreducible] World.cell?
set_option maxRecDepth 100000 in
set_option maxHeartbeats 16000000 in
theorem awake16_any (W : World) (hN : Names W) (hE : Errs W) : Makes Tryz.prog W 20 #[] (.bool true) := by
  intro w hm
  have HC := Lib.hid (fun u => cut16_any ⟨#[114, 51, 50, 32, 61, 32, 114, 49]⟩ [114, 51, 50, 32, 61, 32, 114, 49] rfl (by decide) u)
  have HI := Lib.hid (fun u (h : Made W u) lo cap => inst_none t32_bad (by decide) hN hE u h lo cap 3 t32_len)
  have HA := Lib.hid (fun u (h : Made W u) => reads_lit ta_all (by decide) (by decide) (by decide) hN hE u h none none 0 0 (recs_none _) (recs_none _))
  have HB := Lib.hid (fun u (h : Made W u) v2 c2 a2 b2 => reads_lit tb_all (by decide) (by decide) (by decide) hN hE u h v2 c2 a2 b2)
  have HR := Lib.hid (fun u (h : Made W u) => res_lit r3n_res (by decide) (hE.next h))
  have HS := Lib.hid (fun u (h : Made W u) => res_lit r32_res (by decide) (hE.next h))
  have HL := Lib.hid t32_len
  have M0 := Lib.hid hm
  clear hm hN hE
  go_enter Tryz.func20, Tryz.ntmps20
  go_wp2_with (fail)
  refine (HC.out _).mono ?_
  rintro e w1 ⟨so, c, rfl, hT, m1⟩
  rewrite [HL.out]
  have M1 := Lib.hid (Made.trans M0.out m1)
  have HT := Lib.hid hT
  clear hT m1 M0 HC
  go_wp2_with (fail)
  refine (HI.out _ M1.out so c HT.out).mono ?_
  rintro e w2 ⟨⟨vo, vc, co, cc, rfl⟩, m2⟩
  have M2 := Lib.hid (show Made W (w2.alloc (.cells #[.int .u8 0, .int .u8 0, .int .u8 0, .int .u8 0, .int .u8 0, .int .u8 0, .int .u8 0, .bool false, .bool false, .int .u16 0, .int .i64 0, .slice vo 0 vc, .slice co 0 cc, .bool false, .int .i64 0, .int .i64 0] TLN)) from m2.alloc m2.size _)
  clear m2 M1 HT HI
  go_upto_region 2 with (fail)
  refine world_named (fun y => Made W y) M2.out ?_
  intro y hy
  have MY := Lib.hid hy
  clear hy M2
  go_wp2_with (fail)
  refine (HA.out _ MY.out).mono ?_
  rintro e w3 ⟨rfl, h3⟩
  have M3 := Lib.hid h3
  clear h3 MY HA
  go_wp2_with (fail)
  refine (name16_any [120] _).mono ?_
  rintro e w4 ⟨v2, rfl, hv2, m4⟩
  have M4 := Lib.hid (Made.trans M3.out m4)
  have HV := Lib.hid hv2
  clear m4 hv2 M3
  go_wp2_with (fail)
  refine (number16_any 10 _).mono ?_
  rintro e w5 ⟨c2, rfl, hc2, m5⟩
  have M5 := Lib.hid (Made.trans M4.out m5)
  have HV5 := Lib.hid (HV.out.made tm_len m5)
  have HC5 := Lib.hid hc2
  clear m5 hc2 M4 HV
  go_wp2_with (fail)
  refine (HB.out _ M5.out v2 c2 1 1 HV5.out HC5.out).mono ?_
  rintro e w6 ⟨rfl, h6⟩
  have M6 := Lib.hid h6
  clear h6 M5 HV5 HC5 HB
  go_wp2_with (fail)
  refine (HR.out _ M6.out _ (Made.refl _)).mono ?_
  rintro e w7 ⟨rfl, h7⟩
  have M7 := Lib.hid (Made.trans M6.out h7)
  clear h7 M6 HR
  go_wp2_with (fail)
  refine (HS.out _ M7.out _ (Made.refl _)).mono ?_
  rintro e w8 ⟨rfl, h8⟩
  have M8 := Lib.hid (Made.trans M7.out h8)
  clear h8 M7 HS
  go_wp2
  go_ret
  exact ⟨rfl, M8.out⟩
end
end Go.Proofs.YtnfmlmamgkpocaaGreatDoor
