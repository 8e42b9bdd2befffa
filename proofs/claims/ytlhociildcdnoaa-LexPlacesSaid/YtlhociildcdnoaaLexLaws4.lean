/- LexLines of the laws of lex returns true, for every two texts. -/
import Derived.Test.YtlhociildcdnoaaLexLaws3
namespace Go.Proofs.Ytlhociildcdnoaa
open Go.ChangeShapes Go.WideShapes Go.ChangeAt Go.RowKit Go.Sort BigFrame

theorem neq_ltok (x : Tk) (w : World) : (binOp .neq 28 x.val x.val).run Try.prog w = .ok (.bool false) w := by
  obtain ⟨x0, x1, x2, x3, x4⟩ := x
  simp [go_sem]
/-- Both texts' tokens, the second one's lines counted on. -/
theorem lexT_both (a b : List UInt8) : lexT (a ++ 10 :: b) = lexT a ++ (lexT b).map (onLine ((lfs a : Nat) + 1)) := by
  have h := run_app_lf (x := 10) rfl b a.length a 1 1 (Nat.le_refl _)
  show (lxRun 1 1 (a ++ 10 :: b)).1 = _
  rw [h]
  show (lxRun 1 1 a).1 ++ _ = _
  rw [show (1 : Int) + (lfs a : Nat) + 1 = 1 + ((lfs a : Nat) + 1) by omega, run_shift _ b.length b (Nat.le_refl _)]
  rfl
def endsN (l : List Tk) : Nat := l.countP (fun t => decide (t.kind = 4))
theorem ends_next {l : List Tk} {k : Nat} (h : k < l.length) (x : Tk) (hx : l[k] = x) : endsN (l.take (k + 1)) = endsN (l.take k) + if x.kind = 4 then 1 else 0 := by
  unfold endsN
  rw [List.take_succ_eq_append_getElem h, List.countP_append, hx, List.countP_cons, List.countP_nil]
  simp
theorem ends_le (l : List Tk) : endsN l ≤ l.length := List.countP_le_length
theorem placed_line {s : List UInt8} : ∀ {p : Nat} {l : List Tk}, PlacedT s p l → ∀ t ∈ l, 1 ≤ t.line ∧ t.line ≤ s.length + 1
  | _, [], _, t, ht => by cases ht
  | _, u :: r, ⟨q, _, ha, _, _, _, _, hr⟩, t, ht => by
    rcases List.mem_cons.1 ht with rfl | ht
    · have h1 := ha.line_
      have h2 : lfs (s.take q) ≤ s.length := Nat.le_trans List.countP_le_length (by rw [List.length_take]; omega)
      omega
    · exact placed_line hr t ht
theorem lexT_line (s : List UInt8) : ∀ t ∈ lexT s, 1 ≤ t.line ∧ t.line ≤ s.length + 1 := placed_line (lex_placed s).1
/-- A token's own variable, whose line is counted on. -/
theorem tok_on {W w : World} (h : Made W w) (t : Tk) (T : TypeId) : Made W (w.alloc (.cells t.cells.toArray T)) ∧ (w.alloc (.cells t.cells.toArray T)).heap[w.heap.size]? = some (.cells t.cells.toArray T (0, 0)) :=
  ⟨h.alloc h.size _, heap_alloc_new w _⟩
namespace lexLines
section
attribute [local irreducible] World.cell?
set_option maxRecDepth 100000 in
set_option maxHeartbeats 32000000 in
theorem walk (W : World) (a0 a1 : ByteArray) (w0 : a0.size ≤ maxLen) (w1 : a1.size ≤ maxLen) : Calls Try.prog 7 #[.string a0, .string a1] W fun e w' => e = .returned (.bool true) ∧ Made W w' := by
  have HA := Lib.hid (fun (u : World) (hu : Made W u) => awake14_any W u hu)
  unfold maxLen at w0 w1
  obtain ⟨S, l1, hS, hl1, hwS⟩ := cut_text a0 1500
  obtain ⟨T, l2, hT, hl2, hwT⟩ := cut_text a1 1500
  have HL1 := Lib.hid (fun (u : World) => lex_any S l1 hS (by omega) u)
  have HL2 := Lib.hid (fun (u : World) => lex_any T l2 hT (by omega) u)
  have hcat : IsStr (S ++ ⟨#[10]⟩ ++ T) (l1 ++ 10 :: l2) := by
    have := str_cat (str_cat hS (T := ⟨#[10]⟩) (b := [10]) rfl) hT
    rwa [List.append_assoc] at this
  have HL3 := Lib.hid (fun (u : World) => lex_any (S ++ ⟨#[10]⟩ ++ T) (l1 ++ 10 :: l2) hcat (by rw [List.length_append, List.length_cons]; omega) u)
  have hs1 : S.size ≤ 1500 := by rw [str_size hS]; exact hl1
  have hs2 : T.size ≤ 1500 := by rw [str_size hT]; exact hl2
  have HBO := Lib.hid (lexT_both l1 l2)
  have HEN := Lib.hid (show endsN (lexT l1) = lfs l1 + 1 from run_ends l1.length l1 (Nat.le_refl _) 1 1)
  have hf1 := lexT_few l1
  have hf2 := lexT_few l2
  have HLN := Lib.hid (lexT_line l2)
  clear hS hT hcat
  generalize hT1 : lexT l1 = T1 at *
  generalize hT2 : lexT l2 = T2 at *
  have HT1 := Lib.hid hT1
  have HT2 := Lib.hid hT2
  clear hT1 hT2
  have hcS : ((a0.size : Int) ≤ 1500 ∧ S = a0) ∨ ((1500 : Int) < (a0.size : Int) ∧ S = a0.extract 0 1500) := by
    rcases hwS with ⟨h1, h2⟩ | ⟨h1, h2⟩
    · exact .inl ⟨h2, h1⟩
    · exact .inr ⟨h2, h1⟩
  have hcT : ((a1.size : Int) ≤ 1500 ∧ T = a1) ∨ ((1500 : Int) < (a1.size : Int) ∧ T = a1.extract 0 1500) := by
    rcases hwT with ⟨h1, h2⟩ | ⟨h1, h2⟩
    · exact .inl ⟨h2, h1⟩
    · exact .inr ⟨h2, h1⟩
  clear hwS hwT
  rcases hcS with ⟨hs, rfl⟩ | ⟨hs, rfl⟩ <;> rcases hcT with ⟨ht, rfl⟩ | ⟨ht, rfl⟩
  all_goals
    go_enter Try.func7, Try.ntmps7
    go_wp2_with (fail)
    refine (HL1.out _).mono ?_
    rintro e v1 ⟨s1, n1, c1, dg1, m1, d1, rfl, hn1, -, hK1, -, h1⟩
    rewrite [HT1.out] at hn1 hK1
    have K1 := Lib.hid hK1
    have N1 := Lib.hid hn1
    have M1 := Lib.hid h1
    have hnn1 : n1 ≤ 1501 := by omega
    clear hn1 hK1 h1
    go_wp2_with (fail)
    refine (HL2.out _).mono ?_
    rintro e v2 ⟨s2, n2, c2, dg2, m2, d2, rfl, hn2, -, hK2, -, h2⟩
    rewrite [HT2.out] at hn2 hK2
    have K2 := Lib.hid hK2
    have N2 := Lib.hid hn2
    have KA := Lib.hid (toks_made K1.out h2)
    have M2 := Lib.hid (Made.trans M1.out h2)
    have hnn2 : n2 ≤ 1501 := by omega
    clear hn2 hK2 h2 K1 M1
    go_wp2_with (fail)
    refine (HL3.out _).mono ?_
    rintro e v3 ⟨s3, n3, c3, dg3, m3, d3, rfl, hn3, -, hK3, -, h3⟩
    rewrite [HBO.out] at hn3 hK3
    have K3 := Lib.hid hK3
    have KA3 := Lib.hid (toks_made KA.out h3)
    have KB3 := Lib.hid (toks_made K2.out h3)
    have M3 := Lib.hid (Made.trans M2.out h3)
    obtain rfl : n3 = n1 + n2 := by rw [← hn3, List.length_append, List.length_map, N1.out, N2.out]
    clear hn3 hK3 h3 KA K2 M2 HL1 HL2 HL3 HBO
    have hsum : (((n1 + n2 : Nat) : Int) != (n1 : Int) + (n2 : Int)) = false := by simp
    go_wp2_with (fail)
    go_loopw [11, 12] (fun lv iv wr => ∃ k nd : Nat, k ≤ n1 ∧ iv = .int .i64 k ∧ lv = .int .i64 (endsN (T1.take k) : Nat) ∧ wr = v3.drewN nd) (fun _ iv _ => n1 - (intOf iv).toNat)
    case atStart => exact ⟨0, 0, Nat.zero_le _, rfl, rfl, rfl⟩
    case round =>
      obtain ⟨k, nd, hk, rfl, rfl, hwr⟩ := hrel
      have HW := Lib.hid hwr
      have hmw : Made v3 wr := hwr ▸ below_drewN (Made.refl v3) nd
      have MW := Lib.hid hmw
      clear hwr hmw
      by_cases hlt : k < n1
      · have hkl : k < T1.length := by have := N1.out; omega
        obtain ⟨t, ht⟩ : ∃ t, T1[k] = t := ⟨_, rfl⟩
        have ht3 : (T1 ++ T2.map (onLine ((lfs l1 : Nat) + 1)))[k]'(by rw [List.length_append]; omega) = t := by rw [List.getElem_append_left hkl]; exact ht
        obtain ⟨b, o, rfl, p0, p1, p2, p3, p4⟩ := toks_cells (toks_made KA3.out MW.out) hkl t ht
        obtain ⟨b2, o2, rfl, e0, e1, e2, e3, e4⟩ := toks_cells (toks_made K3.out MW.out) (by rw [List.length_append]; omega) t ht3
        have hen := ends_next hkl t ht
        have HE := Lib.hid hen
        have hel : endsN (T1.take k) ≤ 1501 := by
          have h5 := ends_le (T1.take k)
          rw [List.length_take] at h5
          omega
        have hop := neq_ltok t
        have q0 : (0 : Int) ≤ (k : Int) := by omega
        have q1 : (k : Int) < (n1 : Int) := by omega
        have q2 : (k : Int) < ((n1 + n2 : Nat) : Int) := by omega
        clear ht ht3 hen
        generalize endsN (T1.take k) = en at *
        go_upto_region 14 with (fail)
        go_quiet (fail)
        rename_i nq
        by_cases h4 : t.kind = 4
        · have g4 : (t.kind == 4) = true := beq_iff_eq.2 h4
          have HE2 := Lib.hid (show endsN (T1.take (k + 1)) = en + 1 by rw [HE.out, if_pos h4])
          clear h4
          go_wp2
          go_roundw
          case rel => exact ⟨k + 1, nd + nq, by omega, by go_num, by rw [HE2.out]; go_num, by rw [HW.out]; simp only [World.drewN_drewN]⟩
          case measure => simp [intOf]; omega
        · have g4 : (t.kind == 4) = false := beq_eq_false_iff_ne.2 h4
          have HE2 := Lib.hid (show endsN (T1.take (k + 1)) = en by rw [HE.out, if_neg h4]; rfl)
          clear h4
          go_wp2
          go_roundw
          case rel => exact ⟨k + 1, nd + nq, by omega, by go_num, by rw [HE2.out], by rw [HW.out]; simp only [World.drewN_drewN]⟩
          case measure => simp [intOf]; omega
      · obtain rfl : k = n1 := by omega
        have hee : endsN (T1.take k) = lfs l1 + 1 := by rw [← N1.out, List.take_length]; exact HEN.out
        have HEE := Lib.hid hee
        have hle : lfs l1 + 1 ≤ 1501 := by
          have h5 := ends_le T1
          rw [HEN.out] at h5
          omega
        rewrite [hee]
        clear hee hlt
        have hkc : ((lfs l1 : Nat) : Int) + 1 = ((lfs l1 + 1 : Nat) : Int) := by omega
        have K3' := K3.out
        rewrite [hkc] at K3'
        have K4 := Lib.hid K3'
        clear K3' hkc K3
        generalize hK : lfs l1 + 1 = K at *
        have HKK := Lib.hid hK
        clear hK
        go_wp2_with (fail)
        go_loopw [13] (fun iv wq => ∃ j : Nat, j ≤ n2 ∧ iv = .int .i64 j ∧ Made v3 wq) (fun iv _ => n2 - (intOf iv).toNat)
        case atStart => exact ⟨0, Nat.zero_le _, rfl, MW.out⟩
        case round =>
          obtain ⟨j, hj, rfl, hmq⟩ := hrel
          have MQ := Lib.hid hmq
          clear hmq
          by_cases hjl : j < n2
          · have hkl : j < T2.length := by have := N2.out; omega
            obtain ⟨t, ht⟩ : ∃ t, T2[j] = t := ⟨_, rfl⟩
            have hi3 : k + j < (T1 ++ T2.map (onLine (K : Nat))).length := by
              rw [List.length_append, List.length_map]
              have := N1.out
              omega
            have ht3 : (T1 ++ T2.map (onLine (K : Nat)))[k + j]'hi3 = onLine (K : Nat) t := by
              have e1 := N1.out
              rw [List.getElem_append_right (by omega), List.getElem_map]
              simp only [show k + j - T1.length = j by omega, ht]
            obtain ⟨l0, l9⟩ := HLN.out t (ht ▸ List.getElem_mem hkl)
            have l91 : t.line ≤ 1501 := by omega
            obtain ⟨b, o, rfl, p0, p1, p2, p3, p4⟩ := toks_cells (toks_made KB3.out MQ.out) hkl t ht
            have KN := Lib.hid (tok_on MQ.out (onLine (K : Nat) t) 28)
            have q0 : (0 : Int) ≤ (j : Int) := by omega
            have q1 : (j : Int) < (n2 : Int) := by omega
            have hkb : (K : Int) ≤ 1501 := by omega
            clear ht l9
            go_upto_region 23 with (fail)
            refine world_named (fun u => Made v3 u ∧ u.heap[wr.heap.size]? = some (.cells (onLine (K : Nat) t).cells.toArray 28 (0, 0))) KN.out ?_
            rintro u ⟨hu1, hu2⟩
            have MU := Lib.hid hu1
            have BU := Lib.hid hu2
            clear hu1 hu2 KN p0 p1 p2 p3 p4
            obtain ⟨b2, o2, rfl, e0, e1, e2, e3, e4⟩ := toks_cells (toks_made K4.out MU.out) hi3 _ ht3
            have f0 : u.cell? ⟨wr.heap.size, 0, none⟩ = some (.int .u8 (onLine (K : Nat) t).kind) := cell_of_lit BU.out 0
            have f1 : u.cell? ⟨wr.heap.size, 1, none⟩ = some (.string (strOf (onLine (K : Nat) t).text)) := cell_of_lit BU.out 1
            have f2 : u.cell? ⟨wr.heap.size, 2, none⟩ = some (.int .i64 (onLine (K : Nat) t).v) := cell_of_lit BU.out 2
            have f3 : u.cell? ⟨wr.heap.size, 3, none⟩ = some (.int .i64 (onLine (K : Nat) t).line) := cell_of_lit BU.out 3
            have f4 : u.cell? ⟨wr.heap.size, 4, none⟩ = some (.int .i64 (onLine (K : Nat) t).col) := cell_of_lit BU.out 4
            have lu := heap_lt BU.out
            have lb3 := World.block_lt_of_cell? u _ e0
            have hop := neq_ltok (onLine (K : Nat) t)
            generalize onLine (K : Nat) t = y at *
            have r0 : (0 : Int) ≤ (k : Int) + (j : Int) := by omega
            have r1 : (k : Int) + (j : Int) < ((k + n2 : Nat) : Int) := by omega
            have r2 : ((k : Int) + (j : Int)).toNat = k + j := by omega
            clear ht3 hi3
            go_quiet (fail)
            rename_i nq
            go_wp2
            go_roundw
            case rel => exact ⟨j + 1, by omega, by go_num, below_drewN MU.out _⟩
            case measure => simp [intOf]; omega
          · obtain rfl : j = n2 := by omega
            go_wp2_with (fail)
            refine (HA.out _ (Made.trans M3.out MQ.out)).mono ?_
            rintro e w4 ⟨rfl, h4⟩
            go_wp2
            go_ret
            exact ⟨rfl, h4⟩
end
end lexLines
end Go.Proofs.Ytlhociildcdnoaa
