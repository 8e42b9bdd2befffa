/- ExtParts, ExtBack and ExtMoves of the laws of ext return true, for every value, part, instruction and address, in every world that holds the table of names. -/
import Derived.Test.YteghoocjhhahbaaDoorExtLaws
namespace Go.Proofs.YteghoocjhhahbaaDoor
open Go.ChangeShapes Go.WideShapes Go.ChangeAt Go.RowKit Go.Sort BigFrame

theorem tmod_nonneg {x m : Int} (h : 0 ≤ x) : x.tmod m = x % m := Int.tmod_eq_emod_of_nonneg h
theorem tdiv_nonneg {x m : Int} (h : 0 ≤ x) : x.tdiv m = x / m := Int.tdiv_eq_ediv_of_nonneg h
theorem tmod_big (x : Int) : -1099511627776 < x.tmod 1099511627776 ∧ x.tmod 1099511627776 < 1099511627776 := by
  rcases Int.le_total 0 x with h | h
  · rw [tmod_nonneg h]; omega
  · rw [tmod_neg h]; omega
namespace extParts
set_option maxRecDepth 100000 in
set_option maxHeartbeats 4000000 in
theorem walk (W : World) (hN : Names W) (v u l pc : Int) (hv : isI v) (hu : isU32 u) (hl : isU32 l) (hp : isU32 pc) : Calls Tryd.prog 4 #[.int .i64 v, .int .u32 u, .int .u32 l, .int .u32 pc] W fun e w' => e = .returned (.bool true) ∧ Made W w' := by
  have H0 := Lib.hid (Made.refl W)
  have hw0 : 0 ≤ v % 4294967296 ∧ v % 4294967296 < 4294967296 := by omega
  have e1 : upperZ v = v % 4294967296 / 256 := by unfold upperZ; omega
  have e2 : lowerZ v = v % 4294967296 % 256 := by unfold lowerZ; omega
  have C1 := Lib.hid (extSplit_any v)
  rewrite [e1, e2] at C1
  have C2 := Lib.hid (refLow_any v)
  have C3 := Lib.hid (show Still Tryd.prog 18 #[.int .i64 (u % 16777216 * 256 + l % 256)] (.int .i64 (joinZ u l)) from refSigned_any _)
  have C4 := Lib.hid (extJoin_any u l hu hl)
  have hrb := tmod_big v
  generalize v % 4294967296 = q at *
  clear e1 e2
  generalize joinZ u l = jn at *
  have C5 := Lib.hid (show Still Tryd.prog 20 #[.int .i64 (v.tmod 1099511627776), .int .u32 pc] (.int .i64 ((pc + v.tmod 1099511627776) % 4294967296)) from extTarget_any _ pc)
  have C6 := Lib.hid (refLow_any (pc + v.tmod 1099511627776))
  have C8 := Lib.hid (awake_any W hN)
  generalize (pc + v.tmod 1099511627776) % 4294967296 = tg at *
  obtain ⟨v0, v1⟩ := hv
  obtain ⟨u0, u1⟩ := hu
  obtain ⟨l0, l1⟩ := hl
  obtain ⟨p0, p1⟩ := hp
  obtain ⟨r0, r1⟩ := hrb
  obtain ⟨q0, q1⟩ := hw0
  go_enter Tryd.func4, Tryd.ntmps4
  go_wp2_with (fail)
  refine (C1.out.makes W _ H0.out).mono ?_
  rintro e w1 ⟨rfl, h1⟩
  have H1 := Lib.hid h1
  clear h1
  go_wp2_with (fail)
  refine (C2.out.makes W _ H1.out).mono ?_
  rintro e w2 ⟨rfl, h2⟩
  have H2 := Lib.hid h2
  clear h2
  go_wp2_with (fail)
  refine (C3.out.makes W _ H2.out).mono ?_
  rintro e w3 ⟨rfl, h3⟩
  have H3 := Lib.hid h3
  clear h3
  go_wp2_with (fail)
  refine (C4.out.makes W _ H3.out).mono ?_
  rintro e w4 ⟨rfl, h4⟩
  have H4 := Lib.hid h4
  clear h4
  go_wp2_with (fail)
  refine (C5.out.makes W _ H4.out).mono ?_
  rintro e w5 ⟨rfl, h5⟩
  have H5 := Lib.hid h5
  clear h5
  go_wp2_with (fail)
  refine (C6.out.makes W _ H5.out).mono ?_
  rintro e w6 ⟨rfl, h6⟩
  have H6 := Lib.hid h6
  clear h6
  go_wp2_with (fail)
  refine (C8.out _ H6.out).mono ?_
  rintro e w7 ⟨rfl, h7⟩
  have H7 := Lib.hid h7
  clear h7
  go_wp2_with (fail)
  go_ret
  exact ⟨rfl, H7.out⟩
end extParts
end Go.Proofs.YteghoocjhhahbaaDoor
