/- ParseKnown of the laws of parse returns true; conditions: the table of names and strconv's errors stand where their variables lie. (Written by gen_parknown.py.) -/
import Derived.Test.YtnfmlmamgkpocaaGreatDoorParLaws2
namespace Go.Proofs.YtnfmlmamgkpocaaGreatDoor
open Go.ChangeShapes Go.WideShapes Go.ChangeAt Go.RowKit Go.Sort BigFrame

def bdL : List (List UInt8) := [[], [114, 49, 32, 61, 32, 97, 100, 100, 40, 114, 50, 32, 114, 51, 41], [105, 102, 32, 40, 112, 48, 41, 32, 112, 49, 32, 61, 32, 99, 109, 112, 46, 101, 113, 40, 114, 49, 44, 114, 50, 41], [105, 102, 32, 40, 112, 48, 41, 32, 114, 49, 32, 61, 32, 97, 100, 100, 40, 114, 50, 44, 35, 49, 41], [114, 49], [114, 49, 32, 61], [114, 49, 32, 61, 32, 53], [114, 48, 49, 32, 61, 32, 114, 49], [105, 102, 32, 112, 48], [105, 102, 32, 40, 112, 52, 41, 32, 110, 111, 112], [105, 102, 32, 40, 112, 48, 41, 32, 110, 111, 112], [109, 101, 109, 119, 40, 114, 49, 41, 32, 61, 32, 114, 50], [109, 101, 109, 119, 40, 114, 49, 43, 35, 52, 41, 32, 61, 32, 112, 48, 46, 110, 101, 119], [108, 111, 111, 112, 48, 40, 120, 44, 49, 48, 41], [106, 117, 109, 112], [106, 117, 109, 112, 114, 32, 120], [114, 49, 32, 61, 32, 97, 115, 108, 40, 114, 50, 44, 35, 35, 51, 41], [112, 48, 32, 61, 32, 114, 49], [114, 49, 32, 61, 32, 112, 48], [114, 49, 32, 61, 32, 109, 117, 120, 40, 112, 48, 46, 110, 101, 119, 44, 114, 49, 44, 114, 50, 41], [112, 48, 32, 61, 32, 97, 100, 100, 40, 114, 49, 44, 114, 50, 41], [114, 49, 46, 110, 101, 119, 32, 61, 32, 114, 50], [99, 97, 108, 108], [97, 100, 100, 40, 114, 49, 44, 114, 50, 41], [114, 49, 32, 61, 32, 99, 109, 112, 46, 101, 113, 40, 114, 49, 44, 114, 50, 41]]
def plL : List Nat := [0, 5, 4, 10, 1, 2, 2, 0, 1, 2, 4, 3, 8, 4, 1, 1, 6, 2, 2, 4, 2, 0, 1, 0, 2]
def wdL : List (List UInt8) := [[114, 48], [114, 51, 49], [112, 51], [112, 48, 46, 110, 101, 119], [110, 111, 112], [97, 100, 100], [109, 117, 120], [99, 109, 112, 46, 103, 116, 117], [109, 101, 109, 98], [106, 117, 109, 112], [108, 111, 111, 112, 48], [105, 102], [99, 111, 100, 101], [100, 97, 116, 97], [99, 109, 112, 121, 99]]
def frL : List (List UInt8) := [[], [114, 51, 50], [114, 48, 48], [112, 52], [114], [108, 111, 111, 112, 50], [99, 109, 112], [82, 48], [110, 101, 119], [110, 111, 112, 46, 110, 101, 119], [114, 49, 46, 110, 101, 119, 46, 110, 101, 119], [46, 111, 114, 103], [109, 111, 118, 105]]
theorem kbd_all : ∀ k : Fin 25, badN 60 (bdL.getD k.val []) (plL.getD k.val 0) 8 = true ∧ (bdL.getD k.val []).length ≤ 30 := by decide +kernel
theorem kwd_all : ∀ k : Fin 15, resP (wdL.getD k.val []) = true ∧ (wdL.getD k.val []).length ≤ 30 := by decide +kernel
theorem kfr_all : ∀ k : Fin 13, resP (frL.getD k.val []) = false ∧ (frL.getD k.val []).length ≤ 30 := by decide +kernel
abbrev lnC1 : Ln := ⟨8, 1, 0, 0, 0, 0, 0, false, [⟨2, 0, [76], 0, 0⟩, ⟨1, 4, [], 0, 0⟩, ⟨3, 0, [], 0, 1⟩], [], true, 0, 0⟩
theorem tc1_all : allN 60 [114, 49, 32, 61, 32, 35, 35, 76, 43, 52] lnC1 := ⟨by decide +kernel, by kernel_rfl⟩
abbrev lnC2 : Ln := ⟨26, 0, 2, 3, 0, 0, 0, true, [⟨1, 1, [], 0, 0⟩, ⟨6, 0, [], 0, 0⟩], [], false, 0, 0⟩
theorem tc2_all : allN 60 [109, 101, 109, 98, 40, 114, 50, 43, 35, 45, 49, 41, 32, 61, 32, 114, 51, 46, 110, 101, 119] lnC2 := ⟨by decide +kernel, by kernel_rfl⟩
abbrev lnC3 : Ln := ⟨31, 0, 3, 0, 0, 0, 0, false, [⟨2, 0, [120], 0, 0⟩], [], true, 0, 0⟩
theorem tc3_all : allN 60 [108, 111, 111, 112, 48, 40, 35, 35, 120, 44, 114, 51, 41] lnC3 := ⟨by decide +kernel, by kernel_rfl⟩
abbrev lnC4 : Ln := ⟨27, 0, 0, 0, 0, 0, 0, false, [⟨2, 0, [114, 49], 0, 0⟩], [], false, 0, 0⟩
theorem tc4_all : allN 60 [106, 117, 109, 112, 32, 114, 49] lnC4 := ⟨by decide +kernel, by kernel_rfl⟩
abbrev lnC5 : Ln := ⟨8, 4, 0, 0, 0, 2, 1, false, [⟨1, 7, [], 0, 0⟩], [], false, 0, 0⟩
theorem tc5_all : allN 60 [105, 102, 32, 40, 112, 50, 41, 32, 114, 52, 32, 61, 32, 35, 55] lnC5 := ⟨by decide +kernel, by kernel_rfl⟩
abbrev lnNop : Ln := ⟨1, 0, 0, 0, 0, 0, 0, false, [], [], false, 1, 1⟩
theorem nop_one : instP (cutE [110, 111, 112, 32, 59, 32, 110, 111, 112]) = (lnNop, 1, 0) := inst_lit (n := 60) (by decide +kernel) (by kernel_rfl)
theorem nop_len : (cutE [110, 111, 112, 32, 59, 32, 110, 111, 112]).length = 3 := by decide +kernel
/-- The two tables. -/
structure Kn16 (W : World) (b : Nat) (w : World) : Prop where
  made : Made W w
  txt : w.heap[b]? = some (.cells (bdL.map fun l => Value.string (strOf l)).toArray 9 (0, 0))
  plc : w.heap[b + 1]? = some (.cells (plL.map fun (p : Nat) => Value.int .i64 p).toArray 3 (0, 0))
theorem Kn16.next {W w w1 : World} {b : Nat} (h : Kn16 W b w) (hm : Made w w1) : Kn16 W b w1 := ⟨Made.trans h.made hm, hm.heap h.txt, hm.heap h.plc⟩
theorem kn16_cells {W w : World} {b k : Nat} (h : Kn16 W b w) (hk : k < 25) : w.cell? ⟨b, k, none⟩ = some (.string (strOf (bdL.getD k []))) ∧ w.cell? ⟨b + 1, k, none⟩ = some (.int .i64 (plL.getD k 0 : Nat)) := by
  refine ⟨(cell_of_lit h.txt k).trans ?_, (cell_of_lit h.plc k).trans ?_⟩
  all_goals
    rw [List.getElem?_map, List.getD_eq_getElem?_getD, List.getElem?_eq_getElem (by simpa [bdL, plL] using hk)]
    rfl
/-- A table of texts. -/
structure TxAt (W : World) (b : Nat) (l : List (List UInt8)) (w : World) : Prop where
  made : Made W w
  txt : w.heap[b]? = some (.cells (l.map fun l => Value.string (strOf l)).toArray 9 (0, 0))
theorem TxAt.next {W w w1 : World} {b : Nat} {l : List (List UInt8)} (h : TxAt W b l w) (hm : Made w w1) : TxAt W b l w1 := ⟨Made.trans h.made hm, hm.heap h.txt⟩
theorem tx_cell {W w : World} {b k : Nat} {l : List (List UInt8)} (h : TxAt W b l w) (hk : k < l.length) : w.cell? ⟨b, k, none⟩ = some (.string (strOf (l.getD k []))) := by
  refine (cell_of_lit h.txt k).trans ?_
  rw [List.getElem?_map, List.getD_eq_getElem?_getD, List.getElem?_eq_getElem hk]
  rfl
/-- The line that Inst tells where there is none, in a block, and its lists. -/
structure ZlAt (r : Nat) (vo co : Option Addr) (vc cc : Nat) (w : World) : Prop where
  blk : w.heap[r]? = some (.cells #[.int .u8 0, .int .u8 0, .int .u8 0, .int .u8 0, .int .u8 0, .int .u8 0, .int .u8 0, .bool false, .bool false, .int .u16 0, .int .i64 0, .slice vo 0 vc, .slice co 0 cc, .bool false, .int .i64 0, .int .i64 0] TLN (0, 0))
  val : Tms w vo vc []
  cnt : Tms w co cc []
theorem inst_none2 {n : Nat} {l : List UInt8} {k : Nat} {e : Int} (h : badN n l k e = true) (hl : l.length ≤ 2000) {W : World} (hN : Names W) (hE : Errs W) (w : World) (hm : Made W w) (lo : Option Addr) (cap m : Nat) (hlen : (cutE l).length = m) (hT : Toks w lo cap (cutE l)) :
    Calls Tryz.prog 13 #[.slice lo m cap] w fun x u => (∃ vo vc co cc, x = .returned (.tuple #[.agg #[.int .u8 0, .int .u8 0, .int .u8 0, .int .u8 0, .int .u8 0, .int .u8 0, .int .u8 0, .bool false, .bool false, .int .u16 0, .int .i64 0, .slice vo 0 vc, .slice co 0 cc, .bool false, .int .i64 0, .int .i64 0], .int .i64 k, .int .i64 e]) ∧ Tms u vo vc [] ∧ Tms u co cc []) ∧ Made w u := by
  have hfew := cutE_few l
  exact inst_tells hN hE (by omega) (cutE_tok hl) (bad_lit h) w hm lo cap m hlen hT
theorem same_none (z : World) (vo co : Option Addr) (vc cc : Nat) (hv : Tms z vo vc []) (hc : Tms z co cc []) : Calls Tryz.prog 15 #[.agg #[.int .u8 0, .int .u8 0, .int .u8 0, .int .u8 0, .int .u8 0, .int .u8 0, .int .u8 0, .bool false, .bool false, .int .u16 0, .int .i64 0, .slice vo 0 vc, .slice co 0 cc, .bool false, .int .i64 0, .int .i64 0], .agg #[.int .u8 0, .int .u8 0, .int .u8 0, .int .u8 0, .int .u8 0, .int .u8 0, .int .u8 0, .bool false, .bool false, .int .u16 0, .int .i64 0, .slice none 0 0, .slice none 0 0, .bool false, .int .i64 0, .int .i64 0]] z fun e w' => e = .returned (.bool true) ∧ Made z w' :=
  same16_any lnZero 0 0 vo none co none vc 0 cc 0 z hv (recs_none _) hc (recs_none _) (by decide) (by decide)

def kSum : List Tm := [⟨2, 0, [76], 0, 0⟩, ⟨1, 4, [], 0, 0⟩, ⟨3, 0, [], 0, 1⟩]
def kLess : List Tm := [⟨1, 1, [], 0, 0⟩, ⟨6, 0, [], 0, 0⟩]
theorem reads_keep {n : Nat} {l : List UInt8} {x : Ln} (h : allN n l x) (hl : l.length ≤ 2000) (hlv : x.value.length ≤ 100000) (hlc : x.count.length ≤ 100000) {W : World} (hN : Names W) (hE : Errs W) (w : World) (hm : Made W w) (v2 c2 : Option Addr) (a2 b2 : Nat) (hv : Tms w v2 a2 x.value) (hc : Tms w c2 b2 x.count) :
    Calls Tryz.prog 17 #[.string ⟨l.toArray⟩, lnVal x (.slice v2 x.value.length a2) (.slice c2 x.count.length b2)] w fun e w' => e = .returned (.bool true) ∧ Made w w' :=
  reads16_any ⟨l.toArray⟩ l rfl hl x (all_lit h) hlv hlc w (names_next hN hm) (hE.next hm) v2 c2 a2 b2 hv hc
/-- The two lists of terms. -/
structure Two16 (W : World) (q : Nat) (w : World) : Prop where
  made : Made W w
  sum : Tms w (some ⟨q, 0, none⟩) 3 kSum
  less : Tms w (some ⟨q + 1, 0, none⟩) 2 kLess
theorem Two16.next {W w w1 : World} {q : Nat} (h : Two16 W q w) (hm : Made w w1) : Two16 W q w1 := ⟨Made.trans h.made hm, h.sum.made tm_len hm, h.less.made tm_len hm⟩
theorem inst_nop {W : World} (hN : Names W) (hE : Errs W) (w : World) (hm : Made W w) (lo : Option Addr) (cap : Nat) (hT : Toks w lo cap (cutE [110, 111, 112, 32, 59, 32, 110, 111, 112])) :
    Calls Tryz.prog 13 #[.slice lo 3 cap] w fun x u => (∃ vo vc co cc, x = .returned (.tuple #[.agg #[.int .u8 1, .int .u8 0, .int .u8 0, .int .u8 0, .int .u8 0, .int .u8 0, .int .u8 0, .bool false, .bool false, .int .u16 0, .int .i64 0, .slice vo 0 vc, .slice co 0 cc, .bool false, .int .i64 1, .int .i64 1], .int .i64 1, .int .i64 0])) ∧ Made w u := by
  have hfew := cutE_few [110, 111, 112, 32, 59, 32, 110, 111, 112]
  refine (inst_tells hN hE (Nat.le_trans hfew (by decide)) (cutE_tok (by decide)) nop_one w hm lo cap 3 nop_len hT).mono ?_
  rintro x u ⟨⟨vo, vc, co, cc, rfl, -, -⟩, h⟩
  exact ⟨⟨vo, vc, co, cc, rfl⟩, h⟩

namespace parseKnown
section
attribute [local irreducible] World.cell?
set_option maxRecDepth 100000 in
set_option maxHeartbeats 64000000 in
theorem walk (W : World) (hN : Names W) (hE : Errs W) : Calls Tryz.prog 3 #[] W fun e w' => e = .returned (.bool true) ∧ Made W w' := by
  have HA := Lib.hid (fun (u : World) (hu : Made W u) => awake16_any W hN hE u hu)
  have HCUT := Lib.hid (fun (l : List UInt8) (hl : l.length ≤ 30) u => cut16_any (strOf l) l rfl (by omega) u)
  have HNE := Lib.hid (And.intro hN hE)
  clear hN hE
  go_enter Tryz.func3, Tryz.ntmps3
  go_upto_region 3 with (fail)
  have K0 := Lib.hid (show Kn16 W W.heap.size ((W.alloc (.cells (bdL.map fun l => Value.string (strOf l)).toArray 9)).alloc (.cells (plL.map fun (p : Nat) => Value.int .i64 p).toArray 3)) from by
    have m1 : Made W (W.alloc (.cells (bdL.map fun l => Value.string (strOf l)).toArray 9)) := (Made.refl W).alloc (Nat.le_refl _) _
    have m2 := m1.alloc m1.size (.cells (plL.map fun (p : Nat) => Value.int .i64 p).toArray 3)
    exact ⟨m2, heap_alloc2_old W _ _, heap_alloc2_new W _ _⟩)
  refine world_named (fun u => Kn16 W W.heap.size u) K0.out ?_
  intro u0 hu0
  have K1 := Lib.hid hu0
  clear hu0 K0
  generalize W.heap.size = b at *
  go_wp2_with (fail)
  go_loopw [3] (fun iv wr => ∃ k : Nat, k ≤ 25 ∧ iv = .int .i64 k ∧ Kn16 W b wr) (fun iv _ => 25 - (intOf iv).toNat)
  case atStart => exact ⟨0, Nat.zero_le _, rfl, K1.out⟩
  case round =>
    clear K1
    obtain ⟨k, hk, rfl, hK⟩ := hrel
    have KW := Lib.hid hK
    clear hK
    by_cases hlt : k < 25
    · obtain ⟨d0, d1⟩ := kn16_cells KW.out hlt
      obtain ⟨hkr, hkl⟩ := kbd_all ⟨k, hlt⟩
      simp only [] at hkr hkl
      have hki : (k : Int) < 25 := by omega
      obtain ⟨l, hl⟩ : ∃ l, bdL.getD k [] = l := ⟨_, rfl⟩
      obtain ⟨pz, hp⟩ : ∃ pz, plL.getD k 0 = pz := ⟨_, rfl⟩
      rewrite [hl, hp] at hkr
      rewrite [hl] at hkl d0
      obtain ⟨n, hn⟩ : ∃ n, (cutE l).length = n := ⟨_, rfl⟩
      have HLn := Lib.hid hn
      have HEQ := Lib.hid hp
      clear d1 hl hp hn
      have HC := Lib.hid (HCUT.out l hkl)
      have HI := Lib.hid (inst_none2 hkr (by omega) HNE.out.1 HNE.out.2)
      clear hkr hkl
      go_wp2_with (fail)
      refine (HC.out _).mono ?_
      rintro x w1 ⟨so, c, rfl, hT1, h1⟩
      rewrite [HLn.out]
      have KT := Lib.hid hT1
      have K1 := Lib.hid (KW.out.next h1)
      clear hT1 h1 KW d0 HC
      go_wp2_with (fail)
      refine (HI.out _ K1.out.made so c n HLn.out KT.out).mono ?_
      rintro x w2 ⟨⟨vo, vc, co, cc, rfl, hv, hc⟩, h2⟩
      have m3 : Made w2 (w2.alloc (.cells #[.int .u8 0, .int .u8 0, .int .u8 0, .int .u8 0, .int .u8 0, .int .u8 0, .int .u8 0, .bool false, .bool false, .int .u16 0, .int .i64 0, .slice vo 0 vc, .slice co 0 cc, .bool false, .int .i64 0, .int .i64 0] TLN)) := (Made.refl w2).alloc (Nat.le_refl _) _
      have K2 := Lib.hid (show Kn16 W b (w2.alloc (.cells #[.int .u8 0, .int .u8 0, .int .u8 0, .int .u8 0, .int .u8 0, .int .u8 0, .int .u8 0, .bool false, .bool false, .int .u16 0, .int .i64 0, .slice vo 0 vc, .slice co 0 cc, .bool false, .int .i64 0, .int .i64 0] TLN)) ∧ ZlAt w2.heap.size vo co vc cc (w2.alloc (.cells #[.int .u8 0, .int .u8 0, .int .u8 0, .int .u8 0, .int .u8 0, .int .u8 0, .int .u8 0, .bool false, .bool false, .int .u16 0, .int .i64 0, .slice vo 0 vc, .slice co 0 cc, .bool false, .int .i64 0, .int .i64 0] TLN)) from ⟨(K1.out.next h2).next m3, heap_alloc_new w2 _, hv.made tm_len m3, hc.made tm_len m3⟩)
      clear h2 K1 HI KT hv hc m3
      obtain ⟨r, hr⟩ : ∃ r, w2.heap.size = r := ⟨_, rfl⟩
      go_upto_region 7 with (fail)
      refine world_named (fun u => Kn16 W b u ∧ ZlAt w2.heap.size vo co vc cc u) K2.out ?_
      rintro z ⟨hz1, hz2⟩
      rewrite [hr] at hz2
      have KZ := Lib.hid hz1
      have LZ := Lib.hid hz2
      obtain ⟨-, d1⟩ := kn16_cells hz1 hlt
      rewrite [HEQ.out] at d1
      have hpp : ((pz : Int) != (pz : Int)) = false := bne_eq_false_iff_eq.2 rfl
      have HS := Lib.hid (same_none z vo co vc cc hz2.val hz2.cnt)
      clear hz1 hz2 K2
      go_wp2_with (refine BigFrame.wpList_want rfl fun K hK => wp_load_row TLN (.tmp 4) rfl r rfl TLN #[.int .u8 0, .int .u8 0, .int .u8 0, .int .u8 0, .int .u8 0, .int .u8 0, .int .u8 0, .bool false, .bool false, .int .u16 0, .int .i64 0, .slice vo 0 vc, .slice co 0 cc, .bool false, .int .i64 0, .int .i64 0] (0, 0) _ LZ.out.blk Tryz.underlying29 rfl (by kernel_rfl) (hK _ _ ?_))
      refine HS.out.mono ?_
      rintro x w5 ⟨rfl, m5⟩
      have K5 := Lib.hid (KZ.out.next m5)
      have hzl : w5.cell? ⟨r, 14, none⟩ = some (.int .i64 0) := cell_of_lit (cs := [.int .u8 0, .int .u8 0, .int .u8 0, .int .u8 0, .int .u8 0, .int .u8 0, .int .u8 0, .bool false, .bool false, .int .u16 0, .int .i64 0, .slice vo 0 vc, .slice co 0 cc, .bool false, .int .i64 0, .int .i64 0]) (m5.heap LZ.out.blk) 14
      clear m5 KZ LZ HS d1
      go_wp2
      go_roundw
      case rel => exact ⟨k + 1, by omega, by go_num, K5.out⟩
      case measure => simp [intOf]; omega
    · obtain rfl : k = 25 := by omega
      have M0 := Lib.hid KW.out.made
      clear KW
      have g25 : ¬ (((25 : Nat) : Int) < 25) := by decide
      go_upto_region 10 with (fail)
      have T0 := Lib.hid (show TxAt W wr.heap.size wdL (wr.alloc (.cells (wdL.map fun l => Value.string (strOf l)).toArray 9)) from ⟨M0.out.alloc M0.out.size _, heap_alloc_new wr _⟩)
      refine world_named (fun u => TxAt W wr.heap.size wdL u) T0.out ?_
      intro u1 hu1
      have T1 := Lib.hid hu1
      clear hu1 T0 M0
      generalize wr.heap.size = b2 at *
      go_wp2_with (fail)
      go_loopw [8] (fun iv wr => ∃ k : Nat, k ≤ 15 ∧ iv = .int .i64 k ∧ TxAt W b2 wdL wr) (fun iv _ => 15 - (intOf iv).toNat)
      case atStart => exact ⟨0, Nat.zero_le _, rfl, T1.out⟩
      case round =>
        clear T1
        obtain ⟨k, hk, rfl, hK⟩ := hrel
        have KW := Lib.hid hK
        clear hK
        by_cases hlt : k < 15
        · have d0 := tx_cell KW.out (k := k) hlt
          obtain ⟨hkr, hkl⟩ := kwd_all ⟨k, hlt⟩
          simp only [] at hkr hkl
          have hki : (k : Int) < 15 := by omega
          obtain ⟨l, hl⟩ : ∃ l, wdL.getD k [] = l := ⟨_, rfl⟩
          rewrite [hl] at hkr hkl d0
          have HR := Lib.hid (fun u (h : Made W u) => res_lit hkr (by omega) (HNE.out.2.next h))
          clear hkr hkl hl
          go_wp2_with (fail)
          refine (HR.out _ KW.out.made _ (Made.refl _)).mono ?_
          rintro x w1 ⟨rfl, h1⟩
          have K1 := Lib.hid (KW.out.next h1)
          clear h1 KW HR d0
          go_wp2
          go_roundw
          case rel => exact ⟨k + 1, by omega, by go_num, K1.out⟩
          case measure => simp [intOf]; omega
        · obtain rfl : k = 15 := by omega
          have M0 := Lib.hid KW.out.made
          clear KW
          have g15 : ¬ (((15 : Nat) : Int) < 15) := by decide
          go_upto_region 16 with (fail)
          have T0 := Lib.hid (show TxAt W wr.heap.size frL (wr.alloc (.cells (frL.map fun l => Value.string (strOf l)).toArray 9)) from ⟨M0.out.alloc M0.out.size _, heap_alloc_new wr _⟩)
          refine world_named (fun u => TxAt W wr.heap.size frL u) T0.out ?_
          intro u1 hu1
          have T1 := Lib.hid hu1
          clear hu1 T0 M0
          generalize wr.heap.size = b2 at *
          go_wp2_with (fail)
          go_loopw [10] (fun iv wr => ∃ k : Nat, k ≤ 13 ∧ iv = .int .i64 k ∧ TxAt W b2 frL wr) (fun iv _ => 13 - (intOf iv).toNat)
          case atStart => exact ⟨0, Nat.zero_le _, rfl, T1.out⟩
          case round =>
            clear T1
            obtain ⟨k, hk, rfl, hK⟩ := hrel
            have KW := Lib.hid hK
            clear hK
            by_cases hlt : k < 13
            · have d0 := tx_cell KW.out (k := k) hlt
              obtain ⟨hkr, hkl⟩ := kfr_all ⟨k, hlt⟩
              simp only [] at hkr hkl
              have hki : (k : Int) < 13 := by omega
              obtain ⟨l, hl⟩ : ∃ l, frL.getD k [] = l := ⟨_, rfl⟩
              rewrite [hl] at hkr hkl d0
              have HR := Lib.hid (fun u (h : Made W u) => res_lit hkr (by omega) (HNE.out.2.next h))
              clear hkr hkl hl
              go_wp2_with (fail)
              refine (HR.out _ KW.out.made _ (Made.refl _)).mono ?_
              rintro x w1 ⟨rfl, h1⟩
              have K1 := Lib.hid (KW.out.next h1)
              clear h1 KW HR d0
              go_wp2
              go_roundw
              case rel => exact ⟨k + 1, by omega, by go_num, K1.out⟩
              case measure => simp [intOf]; omega
            · obtain rfl : k = 13 := by omega
              have M0 := Lib.hid KW.out.made
              clear KW
              have g13 : ¬ (((13 : Nat) : Int) < 13) := by decide
              go_upto_region 23 with (fail)
              have m1 : Made wr (wr.alloc (.cells (kSum.flatMap Tm.cells).toArray 38)) := (Made.refl wr).alloc (Nat.le_refl _) _
              have m2 := m1.alloc m1.size (.cells (kLess.flatMap Tm.cells).toArray 38)
              have L0 := Lib.hid (show Two16 W wr.heap.size ((wr.alloc (.cells (kSum.flatMap Tm.cells).toArray 38)).alloc (.cells (kLess.flatMap Tm.cells).toArray 38)) from ⟨Made.trans M0.out m2, recs_lit tm_len (heap_alloc2_old wr _ _) rfl (by decide), recs_lit tm_len (heap_alloc2_new wr _ _) rfl (by decide)⟩)
              refine world_named (fun u => Two16 W wr.heap.size u) L0.out ?_
              intro u2 hu2
              have N1 := Lib.hid hu2
              clear hu2 L0 M0 m1 m2
              generalize wr.heap.size = q at *
              have HL := Lib.hid nop_len
              have HCN := Lib.hid (HCUT.out [110, 111, 112, 32, 59, 32, 110, 111, 112] (by decide))
              have HIN := Lib.hid (fun u (h : Made W u) lo cap => inst_nop HNE.out.1 HNE.out.2 u h lo cap)
              go_wp2_with (fail)
              refine (HCN.out _).mono ?_
              rintro e w1 ⟨so, c, rfl, hT, h1⟩
              rewrite [HL.out]
              have N2 := Lib.hid (N1.out.next h1)
              have KT := Lib.hid hT
              clear hT h1 N1 HCN
              go_wp2_with (fail)
              refine (HIN.out _ N2.out.made so c KT.out).mono ?_
              rintro e w2 ⟨⟨vo, vc, co, cc, rfl⟩, h2⟩
              have N3 := Lib.hid (show Two16 W q (w2.alloc (.cells #[.int .u8 1, .int .u8 0, .int .u8 0, .int .u8 0, .int .u8 0, .int .u8 0, .int .u8 0, .bool false, .bool false, .int .u16 0, .int .i64 0, .slice vo 0 vc, .slice co 0 cc, .bool false, .int .i64 1, .int .i64 1] TLN)) from (N2.out.next h2).next ((Made.refl w2).alloc (Nat.le_refl _) _))
              clear h2 N2 KT HIN
              go_upto_region 24 with (fail)
              refine world_named (fun u => Two16 W q u) N3.out ?_
              intro z hz
              have NZ := Lib.hid hz
              clear hz N3
              have H1 := Lib.hid (reads_keep tc1_all (by decide) (by decide) (by decide) HNE.out.1 HNE.out.2 z NZ.out.made (some ⟨q, 0, none⟩) none 3 0 NZ.out.sum (recs_none _))
              go_wp2_with (fail)
              refine H1.out.mono ?_
              rintro e w3 ⟨rfl, h3⟩
              have N4 := Lib.hid (NZ.out.next h3)
              clear h3 NZ H1
              have H2 := Lib.hid (reads_keep tc2_all (by decide) (by decide) (by decide) HNE.out.1 HNE.out.2 w3 N4.out.made (some ⟨q + 1, 0, none⟩) none 2 0 N4.out.less (recs_none _))
              go_wp2_with (fail)
              refine H2.out.mono ?_
              rintro e w4 ⟨rfl, h4⟩
              have M4 := Lib.hid (Made.trans N4.out.made h4)
              clear h4 N4 H2
              go_wp2_with (fail)
              refine (name16_any [120] _).mono ?_
              rintro e w5 ⟨v5, rfl, hv5, m5⟩
              have M5 := Lib.hid (Made.trans M4.out m5)
              have H3 := Lib.hid (reads_keep tc3_all (by decide) (by decide) (by decide) HNE.out.1 HNE.out.2 w5 M5.out v5 none 1 0 hv5 (recs_none _))
              clear m5 hv5 M4
              go_wp2_with (fail)
              refine H3.out.mono ?_
              rintro e w6 ⟨rfl, h6⟩
              have M6 := Lib.hid (Made.trans M5.out h6)
              clear h6 M5 H3
              go_wp2_with (fail)
              refine (name16_any [114, 49] _).mono ?_
              rintro e w7 ⟨v7, rfl, hv7, m7⟩
              have M7 := Lib.hid (Made.trans M6.out m7)
              have H4 := Lib.hid (reads_keep tc4_all (by decide) (by decide) (by decide) HNE.out.1 HNE.out.2 w7 M7.out v7 none 1 0 hv7 (recs_none _))
              clear m7 hv7 M6
              go_wp2_with (fail)
              refine H4.out.mono ?_
              rintro e w8 ⟨rfl, h8⟩
              have M8 := Lib.hid (Made.trans M7.out h8)
              clear h8 M7 H4
              go_wp2_with (fail)
              refine (number16_any 7 _).mono ?_
              rintro e w9 ⟨v9, rfl, hv9, m9⟩
              have M9 := Lib.hid (Made.trans M8.out m9)
              have H5 := Lib.hid (reads_keep tc5_all (by decide) (by decide) (by decide) HNE.out.1 HNE.out.2 w9 M9.out v9 none 1 0 hv9 (recs_none _))
              clear m9 hv9 M8
              go_wp2_with (fail)
              refine H5.out.mono ?_
              rintro e w10 ⟨rfl, h10⟩
              have M10 := Lib.hid (Made.trans M9.out h10)
              clear h10 M9 H5
              go_wp2_with (fail)
              refine (HA.out _ M10.out).mono ?_
              rintro e w11 ⟨rfl, h11⟩
              have M11 := Lib.hid h11
              clear h11 M10
              go_wp2
              go_ret
              exact ⟨rfl, M11.out⟩
end
end parseKnown
end Go.Proofs.YtnfmlmamgkpocaaGreatDoor
