/- What Go's slices.Index and slices.Contains return at a slice of ints that lies in memory. -/
import Derived.Test.YtplafgegjbppmaaMatchFns
import Derived.Deep.Cut
import Derived.BigQuiet
namespace Go.Proofs.Ytplafgegjbppmaa
open Go.ChangeShapes Go.WideShapes Go.ChangeAt Go.RowKit Go.Sort BigFrame

theorem contains_step {fs : List Nat} {k s : Nat} (hk : k < fs.length) : (fs.drop k).contains s = (fs.getD k 0 == s || (fs.drop (k + 1)).contains s) := by
  rw [List.drop_eq_getElem_cons hk]
  simp only [List.contains_cons, List.getD, List.getElem?_eq_getElem hk, Option.getD_some]
  rw [Bool.beq_comm]
section
attribute [local irreducible] World.cell?
theorem idx_any (ao : Option Addr) (cap : Nat) (fs : List Nat) (s : Nat) (w : World) (hN : Nums .i64 w ao cap fs) (hl : fs.length ≤ 1000) :
    Calls Try.prog 21 #[.slice ao fs.length cap, .int .i64 s] w fun e w' => ∃ i : Int, e = .returned (.int .i64 i) ∧ decide (0 ≤ i) = fs.contains s ∧ w' = w := by
  go_enter Try.func21, Try.ntmps21
  go_wp2_with (fail)
  go_loopw [8] (fun i wr => ∃ k : Nat, k ≤ fs.length ∧ i = .int .i64 k ∧ (fs.drop k).contains s = fs.contains s ∧ wr = w) (fun i _ => fs.length - (intOf i).toNat)
  case atStart => exact ⟨0, Nat.zero_le _, rfl, rfl, rfl⟩
  case round =>
    obtain ⟨k, hk, rfl, hat, rfl⟩ := hrel
    by_cases hlt : k < fs.length
    · obtain ⟨a, rfl⟩ := hN.some hlt
      have hc := hN.cell a rfl k hlt
      have hstep := contains_step (s := s) hlt
      rewrite [hat] at hstep
      have HS := Lib.hid hstep
      generalize fs.getD k 0 = z at *
      clear hstep hat
      by_cases hz : z = s
      · subst hz
        go_wp2
        go_ret
        refine ⟨_, rfl, ?_, rfl⟩
        rw [HS.out]
        simp
      · have hzb : ((z : Int) == (s : Int)) = false := beq_eq_false_iff_ne.2 (by omega)
        have hzb2 : (z == s) = false := beq_eq_false_iff_ne.2 hz
        have HZ := Lib.hid hzb2
        clear hz hzb2
        go_wp2
        go_roundw
        case rel => exact ⟨k + 1, by omega, by go_num, by rw [HS.out, HZ.out]; rfl, trivial⟩
        case measure => simp [intOf]; omega
    · obtain rfl : k = fs.length := by omega
      rewrite [List.drop_length] at hat
      have HF := Lib.hid hat
      clear hat
      go_wp2
      go_ret
      exact ⟨-1, rfl, HF.out, rfl⟩
end
theorem contains_any (ao : Option Addr) (cap : Nat) (fs : List Nat) (s : Nat) (w : World) (hN : Nums .i64 w ao cap fs) (hl : fs.length ≤ 1000) :
    Calls Try.prog 20 #[.slice ao fs.length cap, .int .i64 s] w fun e w' => e = .returned (.bool (fs.contains s)) ∧ w = w' := by
  have H := Lib.hid (idx_any ao cap fs s w hN hl)
  clear hN hl
  go_enter Try.func20, Try.ntmps20
  go_wp2_with (fail)
  refine H.out.mono ?_
  rintro e w1 ⟨i, rfl, hi, rfl⟩
  have HI := Lib.hid hi
  clear hi
  go_wp2
  go_ret
  exact ⟨ret_bool HI.out, rfl⟩
end Go.Proofs.Ytplafgegjbppmaa
