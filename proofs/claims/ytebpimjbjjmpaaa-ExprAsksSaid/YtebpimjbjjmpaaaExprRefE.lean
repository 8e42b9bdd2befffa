/- What find of the document's answer for expr returns; no condition but that on the number of names. -/
import Derived.Test.YtebpimjbjjmpaaaExprRefU
import Derived.Test.YtebpimjbjjmpaaaExprRefR
import Derived.Test.YtebpimjbjjmpaaaExprNam
namespace Go.Proofs.Ytebpimjbjjmpaaa
open Go.ChangeShapes Go.WideShapes Go.ChangeAt Go.RowKit Go.Sort BigFrame

section
attribute [local irreducible] World.cell?
set_option maxRecDepth 100000 in
set_option maxHeartbeats 8000000 in
theorem rfind_any (W : World) (ao : Option Addr) (cap : Nat) (l : List Nm) (hT : Nms W ao cap l) (hl : l.length ≤ 100000) (s : List UInt8) : Makes Try.prog W 38 #[.slice ao l.length cap, .string (strOf s)] (.tuple #[.int .i64 (askL l s).1, .int .i64 (askL l s).2]) := by
  intro w hm
  have HT := Lib.hid hT
  have HM := Lib.hid hm
  clear hT hm
  go_enter Try.func38, Try.ntmps38
  go_wp2_with (fail)
  go_loopw [6] (fun iv wr => ∃ k : Nat, k ≤ l.length ∧ iv = .int .i64 k ∧ askL (l.drop k) s = askL l s ∧ Made W wr) (fun iv _ => l.length - (intOf iv).toNat)
  case atStart => exact ⟨0, Nat.zero_le _, rfl, rfl, HM.out⟩
  case round =>
    clear HM
    obtain ⟨k, hk, rfl, hok, hmr⟩ := hrel
    have MR := Lib.hid hmr
    have HOK := Lib.hid hok
    clear hok hmr
    by_cases hlt : k < l.length
    rotate_left
    · obtain rfl : k = l.length := by omega
      have HR := Lib.hid (show askL l s = (0, 4) by rw [← HOK.out, List.drop_length]; rfl)
      go_wp2
      refine bodyPost_ret (v := .tuple #[.int .i64 0, .int .i64 4]) (by simp [results, Try.results38, go_sem]) rfl ?_
      exact ⟨by rw [HR.out], MR.out⟩
    · obtain ⟨x, hx⟩ : ∃ x, l[k] = x := ⟨_, rfl⟩
      obtain ⟨b, o, rfl, c0, c1, c2⟩ := nms_cells (HT.out.made nm_len MR.out) hlt x hx
      have HST := Lib.hid (show askL l s = if x.name = s then (x.v, x.e) else askL (l.drop (k + 1)) s by rw [← HOK.out, List.drop_eq_getElem_cons hlt, hx]; rfl)
      have hki : (k : Int) < (l.length : Int) := by omega
      clear hx HOK
      obtain ⟨xn, xv, xe⟩ := x
      by_cases hn : xn = s
      · have g : (xn == s) = true := beq_iff_eq.2 hn
        have HR := Lib.hid (show askL l s = (xv, xe) by rw [HST.out]; exact if_pos hn)
        clear hn
        go_upto_region 5 with (fail)
        go_quiet (fail)
        go_wp2
        refine bodyPost_ret (v := .tuple #[.int .i64 xv, .int .i64 xe]) (by simp [results, Try.results38, go_sem]) rfl ?_
        exact ⟨by rw [HR.out], below_drewN MR.out _⟩
      · have g : (xn == s) = false := beq_eq_false_iff_ne.2 hn
        have HR := Lib.hid (show askL (l.drop (k + 1)) s = askL l s by rw [HST.out]; exact (if_neg hn).symm)
        clear hn
        go_wp2
        go_roundw
        case rel => exact ⟨k + 1, by omega, by go_num, HR.out, MR.out⟩
        case measure => simp [intOf]; omega
end
end Go.Proofs.Ytebpimjbjjmpaaa
