/- ExprValues walked, of any rows of terms and names; no condition but the values' ranges. -/
import Derived.Test.YtebpimjbjjmpaaaExprSame
import Derived.Test.YtebpimjbjjmpaaaExprRefF
import Derived.Test.YtebpimjbjjmpaaaExprRefN
import Derived.Test.YtebpimjbjjmpaaaExprOpen
namespace Go.Proofs.Ytebpimjbjjmpaaa
open Go.ChangeShapes Go.WideShapes Go.ChangeAt Go.RowKit Go.Sort BigFrame

theorem names_most (e : List Tm) : (namesL e).length ≤ e.length := by
  unfold namesL
  split
  · exact names_few e _
  · exact Nat.zero_le _
section
attribute [local irreducible] World.cell?
set_option maxRecDepth 100000 in
set_option maxHeartbeats 16000000 in
theorem values_any (W : World) (ao : Option Addr) (cap : Nat) (e : List Tm) (hT : Tms W ao cap e) (hNM : ∀ t ∈ e, t.name.length ≤ 140737488351232) (no : Option Addr) (nc : Nat) (l : List Nm) (hN : Nms W no nc l) (h64 : ∀ s, -9223372036854775808 ≤ (askL l s).1 ∧ (askL l s).1 ≤ 9223372036854775807) (n m : Nat) (hn : e.length = n) (hm : l.length = m) :
    Calls Try.prog 5 #[.slice ao n cap, .slice no m nc] W fun x w' => x = .returned (.bool true) ∧ Made W w' := by
  have HA := Lib.hid (awake15_any W)
  by_cases hbig : 60 < n ∨ 10 < m
  · clear hT hN h64 hn hm
    go_enter Try.func5, Try.ntmps5
    by_cases h60 : 60 < n
    · have g : (60 : Int) < (n : Int) := by omega
      clear hbig
      go_wp2_with (fail)
      refine (HA.out W (Made.refl W)).mono ?_
      rintro x w1 ⟨rfl, h1⟩
      have M1 := Lib.hid h1
      clear h1
      go_wp2
      go_ret
      exact ⟨rfl, M1.out⟩
    · have g : (n : Int) ≤ 60 := by omega
      have g2 : (10 : Int) < (m : Int) := by omega
      clear hbig h60
      go_wp2_with (fail)
      refine (HA.out W (Made.refl W)).mono ?_
      rintro x w1 ⟨rfl, h1⟩
      have M1 := Lib.hid h1
      clear h1
      go_wp2
      go_ret
      exact ⟨rfl, M1.out⟩
  · have hn60 : n ≤ 60 := by omega
    have hm10 : m ≤ 10 := by omega
    have gn : (n : Int) ≤ 60 := by omega
    have gm : (m : Int) ≤ 10 := by omega
    have HT := Lib.hid hT
    have HN := Lib.hid hN
    have HNM := Lib.hid hNM
    have H64 := Lib.hid h64
    have HL := Lib.hid (And.intro hn hm)
    clear hbig hT hN hNM h64 hn hm
    go_enter Try.func5, Try.ntmps5
    go_wp2_with (fail)
    refine (mkby_any _ _ _ _).mono ?_
    rintro x w1 ⟨rfl, hw1⟩
    have hc1 : w1.heap[W.heap.size]? = some (.cells #[.slice no l.length nc] 39 (0, 0)) := by rw [hw1, HL.out.2]; exact heap_alloc_new W _
    have m1 : Made W w1 := by rw [hw1]; exact (Made.refl W).alloc (Nat.le_refl _) _
    have HAS := Lib.hid (by_asks w1 no nc l (HN.out.made nm_len m1) (by rw [HL.out.2]; omega) _ _ hc1)
    have HEV := Lib.hid (xeval_any w1 ao cap e (HT.out.made tm_len m1) (by rw [HL.out.1]; omega) _ _ _ _ (fun _ => False) HAS.out ⟨fun _ h => h, Made.refl w1⟩ H64.out)
    rewrite [HL.out.1] at HEV
    have M1 := Lib.hid m1
    clear hw1 hc1 m1 HAS
    go_wp2_with (fail)
    refine HEV.out.mono ?_
    rintro x w2 ⟨rfl, F', ⟨hF', hm2⟩, -, -⟩
    have M2 := Lib.hid (Made.trans M1.out hm2)
    clear hm2 HEV
    have HRV := Lib.hid (reval_any W ao cap e HT.out (by rw [HL.out.1]; omega) no nc l HN.out (by rw [HL.out.2]; omega) H64.out w2 M2.out)
    rewrite [HL.out.1, HL.out.2] at HRV
    go_wp2_with (fail)
    refine HRV.out.mono ?_
    rintro x w3 ⟨rfl, h3⟩
    have M3 := Lib.hid h3
    clear h3 HRV
    have HR1 := Lib.hid (xright_any W ao cap e HT.out (by rw [HL.out.1]; omega) w3 M3.out)
    rewrite [HL.out.1] at HR1
    go_wp2_with (fail)
    refine HR1.out.mono ?_
    rintro x w4 ⟨rfl, h4⟩
    have M4 := Lib.hid h4
    clear h4 HR1
    have HR2 := Lib.hid (rright_any W ao cap e HT.out (by rw [HL.out.1]; omega) w4 M4.out)
    rewrite [HL.out.1] at HR2
    go_wp2_with (fail)
    refine HR2.out.mono ?_
    rintro x w5 ⟨rfl, h5⟩
    have M5 := Lib.hid h5
    clear h5 HR2
    have hbb : (rightB e == rightB e) = true := by simp
    have HN1 := Lib.hid (xnames_any ao cap e w5 (HT.out.made tm_len M5.out) (by rw [HL.out.1]; omega) HNM.out)
    rewrite [HL.out.1] at HN1
    go_wp2_with (fail)
    refine HN1.out.mono ?_
    rintro x w6 ⟨so, c, rfl, hX, h6⟩
    have HX := Lib.hid hX
    have M6 := Lib.hid (Made.trans M5.out h6)
    clear hX h6 HN1
    have HN2 := Lib.hid (rnames_any ao cap e w6 (HT.out.made tm_len M6.out) (by rw [HL.out.1]; omega))
    rewrite [HL.out.1] at HN2
    go_wp2_with (fail)
    refine HN2.out.mono ?_
    rintro x w7 ⟨so2, c2, rfl, hX2, h7⟩
    have M7 := Lib.hid (Made.trans M6.out h7)
    have hlen : (namesL e).length ≤ 100000 := by have := names_most e; have := HL.out.1; omega
    have HTX := Lib.hid (texts15_any so so2 c c2 (namesL e) w7 (HX.out.made tx_len h7) hX2 hlen _ _ rfl rfl)
    clear hX2 h7 HN2 hlen
    go_wp2_with (fail)
    refine HTX.out.mono ?_
    rintro x w8 ⟨rfl, h8⟩
    have M8 := Lib.hid (Made.trans M7.out h8)
    clear h8 HTX
    go_wp2_with (fail)
    refine (HA.out w8 M8.out).mono ?_
    rintro x w9 ⟨rfl, h9⟩
    have M9 := Lib.hid h9
    clear h9
    go_wp2
    go_ret
    exact ⟨rfl, M9.out⟩
end
namespace exprValues
theorem walk (W : World) (ao : Option Addr) (c : Nat) (e : List Tm) (no : Option Addr) (nc : Nat) (l : List Nm) (w : TmIn W ao c e) (w2 : NmIn W no nc l) : Calls Try.prog 5 #[.slice ao e.length c, .slice no l.length nc] W fun x w' => x = .returned (.bool true) ∧ Made W w' :=
  values_any W ao c e w.row w.nm no nc l w2.row w2.v64 _ _ rfl rfl
end exprValues
end Go.Proofs.Ytebpimjbjjmpaaa
