/- What By of package isa returns, for every text, in every world that holds the table of names. -/
import Derived.Test.YtabcakdnnnajiaaDoorIsaFns
namespace Go.Proofs.YtabcakdnnnajiaaDoor
open Go.ChangeShapes Go.WideShapes Go.ChangeAt Go.RowKit Go.Sort

theorem byFrom_step (s : List UInt8) (n : Nat) (k : Int) : byFrom s (n + 1) k = if nameL k = s then (k, true) else byFrom s n (k + 1) := rfl
theorem nameZ_list (k : Int) : (nameZ k).toList = nameL k := by
  rw [ByteArray.toList_eq]; rfl
set_option maxHeartbeats 400000 in
theorem by_any (s : ByteArray) (w : World) (hN : Names w) : Calls Tryd.prog 8 #[.string s] w fun e w' => e = .returned (.tuple #[.int .u8 (byZ s.toList).1, .bool (byZ s.toList).2]) ∧ w = w' := by
  obtain ⟨T, fr, hb⟩ := hN
  have hcell : ∀ k : Nat, k < 32 → w.cell? ⟨0, k, none⟩ = some (.string (nameZ k)) := by
    intro k hk
    rw [cell_of_lit hb]
    have : k < namesL.length := hk
    simp [nameZ, nameL, List.getD_eq_getElem?_getD, this]
  have HC := Lib.hid hcell
  have HB := Lib.hid hb
  clear hcell hb
  go_enter Tryd.func8, Tryd.ntmps8
  go_wp2
  go_loop [4] (fun i => ∃ k : Nat, 1 ≤ k ∧ k ≤ 32 ∧ i = .int .i64 k ∧ byFrom s.toList (32 - k) k = byZ s.toList) (fun i => 32 - (intOf i).toNat)
  case atStart => exact ⟨1, by omega, by omega, rfl, rfl⟩
  case round =>
    obtain ⟨k, hk1, hk2, rfl, hby⟩ := hrel
    by_cases hlt : k < 32
    · have hst := byFrom_step s.toList (31 - k) k
      rewrite [show 31 - k + 1 = 32 - k by omega, hby] at hst
      have hc := HC.out k hlt
      clear hby
      by_cases he : nameL k = s.toList
      · rewrite [if_pos he] at hst
        have hd1 : ((nameZ (k : Int)).toList == s.toList) = true := by rw [nameZ_list]; exact beq_iff_eq.2 he
        have HS := Lib.hid hst
        clear hst he
        go_wp2
        go_ret2
        exact ⟨by rw [HS.out]; rfl, rfl⟩
      · rewrite [if_neg he] at hst
        have hd1 : ((nameZ (k : Int)).toList == s.toList) = false := by rw [nameZ_list]; exact beq_eq_false_iff_ne.2 he
        have HS := Lib.hid hst
        clear hst he
        go_wp2
        go_round
        case rel => exact ⟨k + 1, by omega, by omega, by go_num, by rw [show 32 - (k + 1) = 31 - k by omega]; exact HS.out.symm⟩
        case measure => simp [intOf]; omega
    · obtain rfl : k = 32 := by omega
      have HF := Lib.hid hby
      clear hby
      go_wp2
      go_ret2
      exact ⟨by rw [← HF.out]; rfl, rfl⟩
end Go.Proofs.YtabcakdnnnajiaaDoor
