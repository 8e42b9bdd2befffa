/- What of, dup, movi and awake of the laws of legal return; packets written out in memory. -/
import Derived.Test.YtaieiaopdbhjaaaGreatDoorLegalCode
import Derived.Great.BuildSlice
namespace Go.Proofs.YtaieiaopdbhjaaaGreatDoor
open Go.ChangeShapes Go.WideShapes Go.ChangeAt Go.RowKit Go.Sort BigFrame

abbrev moviIn (d : Int) : In := ⟨8, d, 0, 0, 0, 0, 0, false, false, 0, 0⟩
section
attribute [local irreducible] World.cell?
theorem moviI_any (W : World) (d : Int) : Makes Tryz.prog W 14 #[.int .u8 d] (In.val (moviIn d)) := by
  intro w hm
  have hz := hm.size
  have H0 := Lib.hid hm
  clear hm
  go_enter Tryz.func14, Tryz.ntmps14
  go_wp2
  refine bodyPost_ret (v := In.val (moviIn d)) (by simp [results, Tryz.results14, go_sem]) rfl ?_
  exact ⟨rfl, H0.out.alloc hz _⟩
theorem ofL_any (W : World) (ao : Option Addr) (n cap : Nat) : Makes Tryz.prog W 15 #[.slice ao n cap] (pkV ao n cap false false false false) := by
  intro w hm
  have hz := hm.size
  have H0 := Lib.hid hm
  clear hm
  go_enter Tryz.func15, Tryz.ntmps15
  go_wp2
  refine bodyPost_ret (v := pkV ao n cap false false false false) (by simp [results, Tryz.results15, go_sem]) rfl ?_
  exact ⟨rfl, H0.out.alloc hz _⟩
theorem dupL_any (W : World) (ao : Option Addr) (n cap : Nat) : Makes Tryz.prog W 13 #[.slice ao n cap] (pkV ao n cap false false false true) := by
  intro w hm
  have hz := hm.size
  have H0 := Lib.hid hm
  clear hm
  go_enter Tryz.func13, Tryz.ntmps13
  go_wp2
  refine bodyPost_ret (v := pkV ao n cap false false false true) (by simp [results, Tryz.results13, go_sem]) rfl ?_
  exact ⟨rfl, H0.out.alloc hz _⟩
end
section
variable (l : List In) (n : Nat) (hn : l.length = n) (hl : n ≤ 1000) (hs : l.all smallB = true) (e0 e1 raw dup : Bool) (w : World) (b : Nat) (T : TypeId) (h : w.heap[b]? = some (.cells (l.flatMap In.cells).toArray T (0, 0)))
include hn hl hs h
theorem lit_insts : Insts w (some ⟨b, 0, none⟩) n l := insts_lit h hn hl fun x hx => small_of (List.all_eq_true.1 hs x hx)
theorem words_lit (v : Int) (hv : wordsP ⟨l, e0, e1, raw, dup⟩ = v) : Makes Tryz.prog w 9 #[pkV (some ⟨b, 0, none⟩) n n e0 e1 raw dup] (.int .i64 v) := by
  intro u hu
  have hi := lit_insts l n hn hl hs w b T h
  subst hn
  subst hv
  exact (lwords_any _ _ l e0 e1 raw dup u (insts_made hi hu) hl).mono fun _ _ ⟨he, hm⟩ => ⟨he, Made.trans hu hm⟩
theorem takes_lit (hT : Tabs w) (v : Bool) (hv : takesP ⟨l, e0, e1, raw, dup⟩ = v) : Makes Tryz.prog w 11 #[pkV (some ⟨b, 0, none⟩) n n e0 e1 raw dup] (.bool v) := by
  intro u hu
  have hi := lit_insts l n hn hl hs w b T h
  subst hn
  subst hv
  exact (ltakes_any _ _ l e0 e1 raw dup u (hT.made hu) (insts_made hi hu) hl).mono fun _ _ ⟨he, hm⟩ => ⟨he, Made.trans hu hm⟩
theorem legal_lit (hT : Tabs w) (v : Int) (hv : legalP ⟨l, e0, e1, raw, dup⟩ = v) : Makes Tryz.prog w 7 #[pkV (some ⟨b, 0, none⟩) n n e0 e1 raw dup] (.int .i64 v) := by
  intro u hu
  have hi := lit_insts l n hn hl hs w b T h
  subst hn
  subst hv
  exact (lcheck_any _ _ l e0 e1 raw dup u (hT.made hu) (insts_made hi hu) hl).mono fun _ _ ⟨he, hm⟩ => ⟨he, Made.trans hu hm⟩
end
abbrev twoM : List In := [moviIn 0, moviIn 1]
/-- What of the two is so. -/
theorem two_facts : legalP ⟨twoM, false, false, false, false⟩ = 0 ∧ wordsP ⟨twoM, false, false, false, false⟩ = 2 ∧ legalP ⟨twoM, false, false, false, true⟩ = 0 ∧ wordsP ⟨twoM, true, false, false, true⟩ = 1 ∧ legalP ⟨twoM, true, false, false, true⟩ = 13 ∧
    takesP ⟨twoM, true, false, false, true⟩ = false ∧ takesP ⟨twoM, false, false, false, false⟩ = true ∧ twoM.all smallB = true := by decide +kernel
/-- The packet with an end. -/
structure EndAt (W : World) (B S : Nat) (w : World) : Prop where
  made : Made W w
  pk : w.heap[B]? = some (.cells (boxL (some ⟨S, 0, none⟩) 2 2 true false false true).toArray 24 (0, 0))
  row : w.heap[S]? = some (.cells (twoM.flatMap In.cells).toArray 34 (0, 0))
theorem EndAt.next {W w w' : World} {B S : Nat} (h : EndAt W B S w) (hm : Made w w') : EndAt W B S w' := ⟨Made.trans h.made hm, hm.heap h.pk, hm.heap h.row⟩
section
attribute [local irreducible] World.cell?
set_option maxRecDepth 100000 in
set_option maxHeartbeats 16000000 in
theorem awake11_any (W : World) (hT : Tabs W) : Makes Tryz.prog W 4 #[] (.bool true) := by
  intro w hm
  have M0 := Lib.hid hm
  have HT := Lib.hid hT
  obtain ⟨f1, f2, f3, f4, f5, f6, f7, f8⟩ := two_facts
  have F1 := Lib.hid f1
  have F2 := Lib.hid f2
  have F3 := Lib.hid f3
  have F4 := Lib.hid f4
  have F5 := Lib.hid f5
  have F6 := Lib.hid f6
  have F7 := Lib.hid f7
  have F8 := Lib.hid f8
  clear f1 f2 f3 f4 f5 f6 f7 f8 hm hT
  go_enter Tryz.func4, Tryz.ntmps4
  go_wp2_with (fail)
  refine (moviI_any _ 0 _ (Made.refl _)).mono ?_
  rintro e w1 ⟨rfl, h1⟩
  have M1 := Lib.hid (Made.trans M0.out h1)
  clear h1 M0
  go_wp2_with (fail)
  refine (moviI_any _ 1 _ (Made.refl _)).mono ?_
  rintro e w2 ⟨rfl, h2⟩
  have M2 := Lib.hid (Made.trans M1.out h2)
  clear h2 M1
  go_wp2_with (fail)
  refine (dupL_any _ _ _ _ _ (Made.refl _)).mono ?_
  rintro e w3 ⟨rfl, h3⟩
  have B3 := Lib.hid (Made.heap h3 (heap_alloc_new w2 (.cells (twoM.flatMap In.cells).toArray 34)))
  have M3 := Lib.hid (Made.trans (M2.out.alloc M2.out.size (.cells (twoM.flatMap In.cells).toArray 34)) h3)
  have A3 := Lib.hid (Made.trans ((Made.refl w2).alloc (Nat.le_refl _) (.cells (twoM.flatMap In.cells).toArray 34)) h3)
  clear h3 M2
  go_upto_region 3 with (fail)
  refine name_world (fun u => EndAt W w3.heap.size w2.heap.size u) ⟨M3.out.alloc M3.out.size _, heap_alloc_new w3 _, (Below.heap_alloc _ _ _ (heap_lt B3.out)).trans B3.out⟩ ?_
  intro v hv
  have E0 := Lib.hid hv
  have M0 := Lib.hid hv.made
  clear hv B3 M3 A3
  generalize w3.heap.size = B at *
  generalize w2.heap.size = S at *
  go_wp2_with (fail)
  refine (moviI_any _ 0 _ (Made.refl _)).mono ?_
  rintro e v1 ⟨rfl, h1⟩
  have E1 := Lib.hid (E0.out.next h1)
  have M1 := Lib.hid E1.out.made
  clear h1 E0 M0
  go_wp2_with (fail)
  refine (moviI_any _ 1 _ (Made.refl _)).mono ?_
  rintro e v2 ⟨rfl, h2⟩
  have E2 := Lib.hid (E1.out.next h2)
  have M2 := Lib.hid E2.out.made
  clear h2 E1 M1
  go_wp2_with (fail)
  refine (ofL_any _ _ _ _ _ (Made.refl _)).mono ?_
  rintro e v3 ⟨rfl, h3⟩
  have B3 := Lib.hid (Made.heap h3 (heap_alloc_new v2 (.cells (twoM.flatMap In.cells).toArray 34)))
  have E3 := Lib.hid ((E2.out.next ((Made.refl v2).alloc (Nat.le_refl _) (.cells (twoM.flatMap In.cells).toArray 34))).next h3)
  have M3 := Lib.hid E3.out.made
  clear h3 E2 M2
  go_wp2_with (fail)
  refine (legal_lit twoM 2 rfl (by omega) F8.out false false false false v3 v2.heap.size 34 B3.out (HT.out.made M3.out) 0 F1.out v3 (Made.refl _)).mono ?_
  rintro e v4 ⟨rfl, h4⟩
  have E4 := Lib.hid (E3.out.next h4)
  have M4 := Lib.hid E4.out.made
  clear h4 E3 M3
  clear B3
  go_wp2_with (fail)
  refine (moviI_any _ 0 _ (Made.refl _)).mono ?_
  rintro e v5 ⟨rfl, h5⟩
  have E5 := Lib.hid (E4.out.next h5)
  have M5 := Lib.hid E5.out.made
  clear h5 E4 M4
  go_wp2_with (fail)
  refine (moviI_any _ 1 _ (Made.refl _)).mono ?_
  rintro e v6 ⟨rfl, h6⟩
  have E6 := Lib.hid (E5.out.next h6)
  have M6 := Lib.hid E6.out.made
  clear h6 E5 M5
  go_wp2_with (fail)
  refine (ofL_any _ _ _ _ _ (Made.refl _)).mono ?_
  rintro e v7 ⟨rfl, h7⟩
  have B7 := Lib.hid (Made.heap h7 (heap_alloc_new v6 (.cells (twoM.flatMap In.cells).toArray 34)))
  have E7 := Lib.hid ((E6.out.next ((Made.refl v6).alloc (Nat.le_refl _) (.cells (twoM.flatMap In.cells).toArray 34))).next h7)
  have M7 := Lib.hid E7.out.made
  clear h7 E6 M6
  go_wp2_with (fail)
  refine (words_lit twoM 2 rfl (by omega) F8.out false false false false v7 v6.heap.size 34 B7.out 2 F2.out v7 (Made.refl _)).mono ?_
  rintro e v8 ⟨rfl, h8⟩
  have E8 := Lib.hid (E7.out.next h8)
  have M8 := Lib.hid E8.out.made
  clear h8 E7 M7
  clear B7
  go_wp2_with (fail)
  refine (moviI_any _ 0 _ (Made.refl _)).mono ?_
  rintro e v9 ⟨rfl, h9⟩
  have E9 := Lib.hid (E8.out.next h9)
  have M9 := Lib.hid E9.out.made
  clear h9 E8 M8
  go_wp2_with (fail)
  refine (moviI_any _ 1 _ (Made.refl _)).mono ?_
  rintro e v10 ⟨rfl, h10⟩
  have E10 := Lib.hid (E9.out.next h10)
  have M10 := Lib.hid E10.out.made
  clear h10 E9 M9
  go_wp2_with (fail)
  refine (dupL_any _ _ _ _ _ (Made.refl _)).mono ?_
  rintro e v11 ⟨rfl, h11⟩
  have B11 := Lib.hid (Made.heap h11 (heap_alloc_new v10 (.cells (twoM.flatMap In.cells).toArray 34)))
  have E11 := Lib.hid ((E10.out.next ((Made.refl v10).alloc (Nat.le_refl _) (.cells (twoM.flatMap In.cells).toArray 34))).next h11)
  have M11 := Lib.hid E11.out.made
  clear h11 E10 M10
  go_wp2_with (fail)
  refine (legal_lit twoM 2 rfl (by omega) F8.out false false false true v11 v10.heap.size 34 B11.out (HT.out.made M11.out) 0 F3.out v11 (Made.refl _)).mono ?_
  rintro e v12 ⟨rfl, h12⟩
  have E12 := Lib.hid (E11.out.next h12)
  have M12 := Lib.hid E12.out.made
  clear h12 E11 M11
  clear B11
  obtain ⟨p0, p1, p2, p3, p4⟩ := pk5 E12.out.pk
  have lp := heap_lt E12.out.pk
  go_wp2_with (fail)
  refine (words_lit twoM 2 rfl (by omega) F8.out true false false true v12 S 34 E12.out.row 1 F4.out v12 (Made.refl _)).mono ?_
  rintro e v13 ⟨rfl, h13⟩
  have E13 := Lib.hid (E12.out.next h13)
  have M13 := Lib.hid E13.out.made
  clear h13 E12 M12
  clear p0 p1 p2 p3 p4 lp
  obtain ⟨p0, p1, p2, p3, p4⟩ := pk5 E13.out.pk
  have lp := heap_lt E13.out.pk
  go_wp2_with (fail)
  refine (legal_lit twoM 2 rfl (by omega) F8.out true false false true v13 S 34 E13.out.row (HT.out.made M13.out) 13 F5.out v13 (Made.refl _)).mono ?_
  rintro e v14 ⟨rfl, h14⟩
  have E14 := Lib.hid (E13.out.next h14)
  have M14 := Lib.hid E14.out.made
  clear h14 E13 M13
  clear p0 p1 p2 p3 p4 lp
  obtain ⟨p0, p1, p2, p3, p4⟩ := pk5 E14.out.pk
  have lp := heap_lt E14.out.pk
  go_wp2_with (fail)
  refine (takes_lit twoM 2 rfl (by omega) F8.out true false false true v14 S 34 E14.out.row (HT.out.made M14.out) false F6.out v14 (Made.refl _)).mono ?_
  rintro e v15 ⟨rfl, h15⟩
  have E15 := Lib.hid (E14.out.next h15)
  have M15 := Lib.hid E15.out.made
  clear h15 E14 M14
  clear p0 p1 p2 p3 p4 lp
  go_wp2_with (fail)
  refine (moviI_any _ 0 _ (Made.refl _)).mono ?_
  rintro e v16 ⟨rfl, h16⟩
  have E16 := Lib.hid (E15.out.next h16)
  have M16 := Lib.hid E16.out.made
  clear h16 E15 M15
  go_wp2_with (fail)
  refine (moviI_any _ 1 _ (Made.refl _)).mono ?_
  rintro e v17 ⟨rfl, h17⟩
  have E17 := Lib.hid (E16.out.next h17)
  have M17 := Lib.hid E17.out.made
  clear h17 E16 M16
  go_wp2_with (fail)
  refine (ofL_any _ _ _ _ _ (Made.refl _)).mono ?_
  rintro e v18 ⟨rfl, h18⟩
  have B18 := Lib.hid (Made.heap h18 (heap_alloc_new v17 (.cells (twoM.flatMap In.cells).toArray 34)))
  have E18 := Lib.hid ((E17.out.next ((Made.refl v17).alloc (Nat.le_refl _) (.cells (twoM.flatMap In.cells).toArray 34))).next h18)
  have M18 := Lib.hid E18.out.made
  clear h18 E17 M17
  go_wp2_with (fail)
  refine (takes_lit twoM 2 rfl (by omega) F8.out false false false false v18 v17.heap.size 34 B18.out (HT.out.made M18.out) true F7.out v18 (Made.refl _)).mono ?_
  rintro e v19 ⟨rfl, h19⟩
  have E19 := Lib.hid (E18.out.next h19)
  have M19 := Lib.hid E19.out.made
  clear h19 E18 M18
  go_wp2
  go_ret
  exact ⟨rfl, M19.out⟩
end
end Go.Proofs.YtaieiaopdbhjaaaGreatDoor
