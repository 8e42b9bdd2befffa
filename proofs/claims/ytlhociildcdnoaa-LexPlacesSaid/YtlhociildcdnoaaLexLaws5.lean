/- LexPlaces of the laws of lex returns true, for every text. -/
import Derived.Test.YtlhociildcdnoaaLexLaws4
import Derived.Test.YtlhociildcdnoaaGBase
import Derived.OwnWalk
import Derived.Deep.CutBlock
import Derived.Deep.CutRange
namespace Go.Proofs.Ytlhociildcdnoaa
open Go.ChangeShapes Go.WideShapes Go.ChangeAt Go.RowKit Go.Sort BigFrame

abbrev oneI (k : Nat) : List Value := [.int .i64 (k : Nat)]
theorem oneI_len (k : Nat) : (oneI k).length = 1 := rfl
theorem oneI_one (l : List Nat) : ∀ u ∈ l.flatMap oneI, u.oneCell' = true := by
  intro u hu
  obtain ⟨x, _, h⟩ := List.mem_flatMap.1 hu
  simp only [List.mem_cons, List.not_mem_nil, or_false] at h
  subst h
  rfl
theorem int_row : (Try.prog.info? 3).map (fun i => (i.zero, i.size, i.bytes)) = some (some (.int .i64 0), 1, 8) := by kernel_rfl
theorem froms_next {l : List UInt8} {k : Nat} (h : k < l.length) (b : UInt8) (hb : l[k] = b) : fromsN (l.take (k + 1)) 0 = fromsN (l.take k) 0 ++ if b.toNat = 10 then [k + 1] else [] := by
  rw [List.take_succ_eq_append_getElem h, froms_app, hb, List.length_take, Nat.zero_add, show min k l.length = k by omega]
  rfl
theorem froms_few (l : List UInt8) : (fromsL l).length ≤ l.length + 1 := by
  show (fromsN l 0).length + 1 ≤ _
  rw [froms_len]
  have : lfs l ≤ l.length := List.countP_le_length
  omega
theorem froms_start (w : World) : Grows oneI 1 3 w w.heap.size (.slice (some ⟨w.heap.size, 0, none⟩) 1 1) [0] (w.alloc (.cells #[.int .i64 0] 3)) :=
  ⟨(Made.refl w).alloc (Nat.le_refl _) _, Nat.le_refl _, World.ownsRow_lit (base := w.heap.size) (e := 3) (size := 1) w #[.int .i64 0] 1 (Nat.le_refl _) (by decide) rfl⟩
theorem int_olds (w : World) (k : Nat) : ∀ ad, (some ⟨w.heap.size, 0, none⟩ : Option Addr) = some ad → ∀ j u, ([k].flatMap oneI)[j]? = some u → (w.alloc (.cells ([k].flatMap oneI).toArray 3)).cell? (ad.add j) = some u :=
  recs_olds oneI_len (by decide) (recs_lit (l := [k]) (n := 1) oneI_len (heap_alloc_new w _) rfl (by omega))
theorem froms_cell {w : World} {so : Option Addr} {c : Nat} {l : List Nat} (h : Recs oneI 1 w so c l) {t : Nat} (x : Nat) (hx : l[t]? = some x) : ∃ b o, so = some ⟨b, o, none⟩ ∧ w.cell? ⟨b, o + t, none⟩ = some (.int .i64 (x : Nat)) := by
  obtain ⟨ht, hx⟩ := List.getElem?_eq_some_iff.1 hx
  subst hx
  obtain ⟨b, o, e, hc⟩ := h.cell t ht
  have h2 := hc 0 (by decide)
  rw [Nat.mul_one, Nat.add_zero] at h2
  exact ⟨b, o, e, h2⟩
/-- What a place says, in numbers. -/
theorem at_nums {s : List UInt8} {q : Nat} {line col : Int} (h : AtP s q line col) (hq : q ≤ s.length) : ∃ (li f : Nat), line = (li : Int) + 1 ∧ ∃ hli : li < (fromsL s).length, (fromsL s)[li] = f ∧ (f : Int) + col - 1 = q ∧ 1 ≤ col ∧ col ≤ s.length + 1 ∧ f ≤ s.length := by
  obtain ⟨f, h1, h2⟩ := h.col_
  have h3 := h.one
  obtain ⟨hl, h4⟩ := List.getElem?_eq_some_iff.1 h1
  exact ⟨lfs (s.take q), f, h.line_, hl, h4, h2, h3, by omega, by omega⟩
namespace lexPlaces
section
attribute [local irreducible] World.cell?
set_option maxRecDepth 100000 in
set_option maxHeartbeats 64000000 in
theorem walk (W : World) (a0 : ByteArray) (w0 : a0.size ≤ maxLen) : Calls Try.prog 6 #[.string a0] W fun e w' => e = .returned (.bool true) ∧ Made W w' := by
  have HA := Lib.hid (fun (u : World) (hu : Made W u) => awake14_any W u hu)
  unfold maxLen at w0
  obtain ⟨i0, hi0, hz0, hz1, hz2⟩ := info_parts int_row
  obtain ⟨S, l, hS, hl, hways⟩ := cut_text a0 3000
  have HL := Lib.hid (fun (u : World) => lex_any S l hS (by omega) u)
  have HS := Lib.hid hS
  have HZ := Lib.hid (str_size hS)
  have hsz : S.size ≤ 3000 := by rw [str_size hS]; exact hl
  have hfT := lexT_few l
  have hfW := lexW_few l
  have HPT := Lib.hid (lex_placed l).1
  have HPW := Lib.hid (lex_placed l).2
  have HEN := Lib.hid (show endsN (lexT l) = (fromsL l).length from lex_ends l)
  have hff := froms_few l
  clear hS
  generalize hT : lexT l = T at *
  generalize hD : lexW l = D at *
  have HT := Lib.hid hT
  have HD := Lib.hid hD
  clear hT hD
  have hcut : ((a0.size : Int) ≤ 3000 ∧ S = a0) ∨ ((3000 : Int) < (a0.size : Int) ∧ S = a0.extract 0 3000) := by
    rcases hways with ⟨h1, h2⟩ | ⟨h1, h2⟩
    · exact .inl ⟨h2, h1⟩
    · exact .inr ⟨h2, h1⟩
  clear hways
  go_enter Try.func6, Try.ntmps6
  go_upto_if 17 with (fail)
  go_cut [0] from 18 to 19 (fun v wc => v = .string S ∧ W = wc)
  case first =>
    rcases hcut with ⟨hs, rfl⟩ | ⟨hs, rfl⟩
    · go_wp2
      go_meet
      case rel => exact ⟨rfl, rfl⟩
    · go_wp2
      go_meet
      case rel => exact ⟨rfl, rfl⟩
  case rest =>
    obtain ⟨rfl, rfl⟩ := hcut
    clear hcut
    go_wp2_with (fail)
    refine (HL.out _).mono ?_
    rintro e w1 ⟨so, n, c, dg, m, d, rfl, hn, hm, hT1, hD1, h1⟩
    rewrite [HT.out] at hn hT1
    rewrite [HD.out] at hm hD1
    have KT := Lib.hid hT1
    have KD := Lib.hid hD1
    have HN := Lib.hid hn
    have HM := Lib.hid hm
    have M1 := Lib.hid h1
    have hnn : n ≤ 3001 := by omega
    have hmm : m ≤ 100 := by omega
    have F0 := Lib.hid (froms_start w1)
    clear hn hm hT1 hD1 h1
    go_wp2_with (fail)
    go_loopw [5, 6] (fun fv iv wr => ∃ (k : Nat) (v : Value) (fl : List Nat), k ≤ S.size ∧ v = fv ∧ iv = .int .i64 k ∧ Grows oneI 1 3 w1 w1.heap.size v fl wr ∧ fl = 0 :: fromsN (l.take k) 0 ∧ fl.length ≤ k + 1) (fun _ iv _ => S.size - (intOf iv).toNat)
    case atStart => exact ⟨0, _, [0], Nat.zero_le _, rfl, rfl, F0.out, rfl, Nat.le_refl _⟩
    case round =>
      obtain ⟨k, v, fl, hk, rfl, rfl, hg, hfl, hfn⟩ := hrel
      have KF := Lib.hid hg
      have HF := Lib.hid hfl
      clear hg hfl F0
      by_cases hlt : k < S.size
      · have hkl : k < l.length := by have := HZ.out; omega
        obtain ⟨b, hb⟩ : ∃ b, l[k] = b := ⟨_, rfl⟩
        have hidx := str_at (w := wr) HS.out hkl b hb
        have hfx := froms_next hkl b hb
        have HFX := Lib.hid hfx
        clear hb hfx
        by_cases h10 : b.toNat = 10
        · have g10 : ((b.toNat : Int) == 10) = true := beq_iff_eq.2 (by omega)
          have HNF := Lib.hid (show fl ++ [k + 1] = 0 :: fromsN (l.take (k + 1)) 0 by rw [HFX.out, if_pos h10, HF.out]; rfl)
          have KA := Lib.hid (KF.out.next ((Made.refl wr).alloc (Nat.le_refl _) (.cells ([k + 1].flatMap oneI).toArray 3)))
          have HOL := Lib.hid (int_olds wr (k + 1))
          have hsz2 := Lib.hid KA.out.made.size
          have hmx : fl.length + 1 ≤ maxLen := by unfold maxLen; omega
          have hby : (fl.length + 1) * 8 ≤ 140737488355328 := by omega
          clear h10
          go_wp2_with (at_builtin; refine wpList_append_each rfl (.tmp 36) (.tmp 39) 39 rfl w1.heap.size 3 i0 (.int .i64 0) 1 8 Try.underlying39 hi0 hz0 hz1 hz2 rfl (by decide) v fl.length (fl.flatMap oneI) rfl KA.out.row (some ⟨wr.heap.size, 0, none⟩) 1 1 ([k + 1].flatMap oneI) rfl (fun h => by simp at h) rfl HOL.out (oneI_one _) hmx hby hsz2.out ?_; intro v7 w9 own1 gr1; have KG := Lib.hid (KA.out.more (l2 := [k + 1]) rfl own1 gr1); clear own1 gr1)
          go_roundw
          case rel => exact ⟨k + 1, v7, _, by omega, rfl, by go_num, KG.out, HNF.out, by rw [List.length_append, List.length_singleton]; omega⟩
          case measure => simp [intOf]; omega
        · have g10 : ((b.toNat : Int) == 10) = false := beq_eq_false_iff_ne.2 (by omega)
          have HNF := Lib.hid (show fl = 0 :: fromsN (l.take (k + 1)) 0 by rw [HFX.out, if_neg h10, List.append_nil]; exact HF.out)
          clear h10
          go_wp2
          go_roundw
          case rel => exact ⟨k + 1, v, fl, by omega, rfl, by go_num, KF.out, HNF.out, by omega⟩
          case measure => simp [intOf]; omega
      · obtain rfl : k = S.size := by omega
        have hfe : fl = fromsL l := by
          have h5 := HF.out
          rw [HZ.out, List.take_length] at h5
          exact h5
        have HFE := Lib.hid hfe
        obtain ⟨sf, cf, hv, hrf⟩ := KF.out.recs oneI_len (by decide)
        subst hv
        have RF := Lib.hid hrf
        have M2 := Lib.hid KF.out.made
        have K2 := Lib.hid (toks_made KT.out KF.out.made)
        have D2 := Lib.hid (wrs_made KD.out KF.out.made)
        have HP0 := Lib.hid HPT.out
        clear hfe hrf HF KF hlt
        generalize wr = wz at *
        go_wp2_with (fail)
        go_loopw [7, 8, 9] (fun bv ev iv wq => ∃ j p : Nat, j ≤ n ∧ p ≤ S.size ∧ bv = .int .i64 p ∧ ev = .int .i64 (endsN (T.take j) : Nat) ∧ iv = .int .i64 j ∧ PlacedT l p (T.drop j) ∧ Made wz wq) (fun _ _ iv _ => n - (intOf iv).toNat)
        case atStart => exact ⟨0, 0, Nat.zero_le _, Nat.zero_le _, rfl, rfl, rfl, HP0.out, Made.refl _⟩
        case round =>
          obtain ⟨j, p, hj, hp, rfl, rfl, rfl, hpl, hmq⟩ := hrel
          have MQ := Lib.hid hmq
          have HPL := Lib.hid hpl
          clear hmq hpl HP0
          by_cases hjl : j < n
          · have hkl : j < T.length := by have := HN.out; omega
            obtain ⟨t, ht⟩ : ∃ t, T[j] = t := ⟨_, rfl⟩
            have hpl := HPL.out
            rewrite [List.drop_eq_getElem_cons hkl, ht] at hpl
            obtain ⟨q, hq1, hat, hq2, hq3, hq4, hq5, hq6⟩ := hpl
            obtain ⟨li, f, hline, hli, hf, hcl, hc1, hc2, hf2⟩ := at_nums hat (by omega)
            have HTC := Lib.hid (toks_cells (toks_made K2.out MQ.out) hkl t ht)
            have HE := Lib.hid (ends_next hkl t ht)
            have hel : endsN (T.take j) ≤ 3001 := by
              have h5 := ends_le (T.take j)
              rw [List.length_take] at h5
              omega
            have HFV := Lib.hid (show fl[li]? = some f by
              rw [HFE.out]
              exact List.getElem?_eq_some_iff.2 ⟨hli, hf⟩)
            have HFC := Lib.hid (froms_cell (RF.out.made oneI_len MQ.out) (t := li) f HFV.out)
            have HNX := Lib.hid hq6
            have HLF := Lib.hid hq5
            have HK4 := Lib.hid hq4
            have hlen : fl.length ≤ 3001 := by omega
            have hlil : li < fl.length := by rw [HFE.out]; exact hli
            clear ht hat hq4 hq5 hq6 hf hli HPL
            obtain ⟨ki, tx, va, ln, cl⟩ := t
            simp only [] at hline hcl hc1 hc2 hq2 hq3 HTC HE HNX HLF HK4
            subst hline
            have HQ3 := Lib.hid (show S.extract q (q + tx.length) = strOf tx by
              have h7 := str_part HS.out q (q + tx.length)
              rw [Nat.add_sub_cancel_left, hq3] at h7
              exact str_of h7)
            obtain ⟨b, o, rfl, p0, p1, p2, p3, p4⟩ := HTC.out
            obtain ⟨b2, o2, rfl, e0⟩ := HFC.out
            have hq2' : q + tx.length ≤ S.size := by have := HZ.out; omega
            have TN := Lib.hid (tok_on MQ.out ⟨ki, tx, va, (li : Int) + 1, cl⟩ 28)
            have lb2 := World.block_lt_of_cell? _ _ e0
            clear hq3 HTC HFC
            go_upto_region 16 with (fail)
            refine world_named (fun u => Made wz u ∧ u.heap[wr.heap.size]? = some (.cells (Tk.cells ⟨ki, tx, va, (li : Int) + 1, cl⟩).toArray 28 (0, 0))) TN.out ?_
            rintro u ⟨hu1, hu2⟩
            have MU := Lib.hid hu1
            have BU := Lib.hid hu2
            clear hu1 hu2 TN p0 p1 p2 p3 p4
            obtain ⟨b3, o3, e3', e1⟩ := froms_cell (RF.out.made oneI_len MU.out) (t := li) f HFV.out
            obtain ⟨rfl, rfl⟩ : b2 = b3 ∧ o2 = o3 := by simpa using e3'
            have f0 : u.cell? ⟨wr.heap.size, 0, none⟩ = some (.int .u8 ki) := cell_of_lit BU.out 0
            have f1 : u.cell? ⟨wr.heap.size, 1, none⟩ = some (.string (strOf tx)) := cell_of_lit BU.out 1
            have f3 : u.cell? ⟨wr.heap.size, 3, none⟩ = some (.int .i64 ((li : Int) + 1)) := cell_of_lit BU.out 3
            have f4 : u.cell? ⟨wr.heap.size, 4, none⟩ = some (.int .i64 cl) := cell_of_lit BU.out 4
            have lu := heap_lt BU.out
            have lb3 := World.block_lt_of_cell? u _ e1
            have x0 : (1 : Int) ≤ (li : Int) + 1 := by omega
            have x1 : (li : Int) + 1 ≤ (fl.length : Int) := by omega
            have x2 : (li : Int) < (fl.length : Int) := by omega
            have x3 : (0 : Int) ≤ (li : Int) := by omega
            clear e0 e3' lb2
            go_upto_region 18 with (fail)
            go_quiet (fail)
            rename_i nq
            have y0 : (p : Int) ≤ (q : Int) := by omega
            have y1 : (q : Int) + (tx.length : Int) ≤ (S.size : Int) := by omega
            have y2 : (q : Int) ≤ (q : Int) + (tx.length : Int) := by omega
            have y3 : (0 : Int) ≤ (q : Int) := by omega
            have hty : ∀ v : World, (Instr.slice 9 (.string S) (some (.int .i64 (q : Int))) (some (.int .i64 ((q : Int) + (tx.length : Int)))) none).run Try.prog v = .ok (.string (strOf tx)) v := fun v => by
              have h7 := run_slice_string (P := Try.prog) v 9 S .i64 .i64 (q : Int) ((q : Int) + (tx.length : Int)) (by kernel_rfl) (by omega) (by omega) (by omega)
              rw [h7]
              have e7 : ((q : Int) + (tx.length : Int)).toNat = q + tx.length := by omega
              rw [e7, Int.toNat_natCast, HQ3.out]
            have z0 : decide (q < p) = false := decide_eq_false (by omega)
            have zw : IntKind.i64.wrap ((q : Int) + (tx.length : Int)) = (q : Int) + (tx.length : Int) := by rw [IntKind.wrap_i64]; omega
            have zw2 : IntKind.i64.wrap (q : Int) = (q : Int) := by rw [IntKind.wrap_i64]; omega
            have z1 : decide ((S.size : Int) < (q : Int) + (tx.length : Int)) = false := decide_eq_false (by omega)
            have z2 : decide (S.size < q + tx.length) = false := decide_eq_false (by omega)
            have z3 : decide (S.size < q) = false := decide_eq_false (by omega)
            have z4 : decide ((S.size : Int) < (q : Int)) = false := decide_eq_false (by omega)
            by_cases h4 : ki = 4
            · have htx := HK4.out.2 h4
              subst htx
              subst h4
              have hsl : ∀ v : World, (Instr.slice 9 (.string S) (some (.int .i64 (q : Int))) (some (.int .i64 (q : Int))) none).run Try.prog v = .ok (.string (strOf [])) v := fun v => by
                have h7 := hty v
                rwa [show (q : Int) + (([] : List UInt8).length : Int) = (q : Int) from Int.add_zero _] at h7
              clear hty
              have HE2 := Lib.hid (show endsN (T.take (j + 1)) = endsN (T.take j) + 1 from HE.out)
              have hlast : ((S.size : Int) ≤ (q : Int)) ∨ (∃ bb : UInt8, (q : Int) < (S.size : Int) ∧ ((bb.toNat : Int) != 10) = false ∧ ∀ v : World, (Instr.index 9 (.string S) (.int .i64 (q : Int))).run Try.prog v = .ok (.int .u8 bb.toNat) v) := by
                by_cases h : q < S.size
                · have hql : q < l.length := by have := HZ.out; omega
                  have h10 := HLF.out rfl hql
                  exact .inr ⟨l[q], by omega, by simp [h10], fun v => str_at HS.out hql _ rfl v⟩
                · exact .inl (by omega)
              have HNX2 := Lib.hid (show PlacedT l q (T.drop (j + 1)) from HNX.out)
              clear HE HNX HLF HK4 HQ3
              generalize endsN (T.take j) = en at *
              go_upto_region 19 with (fail)
              go_quiet (fail)
              rename_i nq2
              rcases hlast with hge | ⟨bb, hlt2, hbb, hib⟩
              all_goals
                go_wp2
                go_roundw
                case rel => exact ⟨j + 1, q, by omega, by omega, by go_num, by rw [HE2.out]; go_num, by go_num, HNX2.out, below_drewN MU.out _⟩
                case measure => simp [intOf]; omega
            · have htx : tx.isEmpty = false := by
                cases tx with
                | nil => exact absurd (HK4.out.1 rfl) h4
                | cons a r => rfl
              have g4 : (ki == 4) = false := beq_eq_false_iff_ne.2 h4
              have HE2 := Lib.hid (show endsN (T.take (j + 1)) = endsN (T.take j) by rw [HE.out, if_neg h4]; rfl)
              have HNX2 := Lib.hid (show PlacedT l (q + tx.length) (T.drop (j + 1)) from HNX.out)
              clear HE HNX HLF HK4 HQ3 h4
              generalize endsN (T.take j) = en at *
              go_upto_region 19 with (fail)
              go_quiet (fail)
              rename_i nq2
              go_wp2
              go_roundw
              case rel => exact ⟨j + 1, q + tx.length, by omega, by omega, by go_num, by rw [HE2.out], by go_num, HNX2.out, below_drewN MU.out _⟩
              case measure => simp [intOf]; omega
          · obtain rfl : j = n := by omega
            have hen : endsN (T.take j) = fl.length := by rw [← HN.out, List.take_length, HEN.out, HFE.out]
            rewrite [hen]
            have DQ := Lib.hid (wrs_made D2.out MQ.out)
            have RQ := Lib.hid (RF.out.made oneI_len MQ.out)
            have M3 := Lib.hid (Made.trans M2.out MQ.out)
            have hlen : fl.length ≤ 3001 := by
              have h6 := HFE.out
              rw [h6]
              omega
            clear hen HPL hjl MQ RF D2
            generalize wr = wy at *
            go_wp2_with (fail)
            go_loopw [12, 13] (fun lv iv wq => ∃ g p : Nat, g ≤ m ∧ p ≤ S.size ∧ lv = .int .i64 ((p : Int) - 1) ∧ iv = .int .i64 g ∧ PlacedW l p (D.drop g) ∧ Made wy wq) (fun _ iv _ => m - (intOf iv).toNat)
            case atStart => exact ⟨0, 0, Nat.zero_le _, Nat.zero_le _, rfl, rfl, HPW.out, Made.refl _⟩
            case round =>
              obtain ⟨g, p, hg, hp, rfl, rfl, hpw, hmq⟩ := hrel
              have MG := Lib.hid hmq
              have HPG := Lib.hid hpw
              clear hmq hpw
              by_cases hgl : g < m
              · have hkl : g < D.length := by have := HM.out; omega
                obtain ⟨t, ht⟩ : ∃ t, D[g] = t := ⟨_, rfl⟩
                have hpw := HPG.out
                rewrite [List.drop_eq_getElem_cons hkl, ht] at hpw
                obtain ⟨q, hq1, hat, hq2, hq3, hq4⟩ := hpw
                obtain ⟨li, f, hline, hli, hf, hcl, hc1, hc2, hf2⟩ := at_nums hat (by omega)
                have HFV := Lib.hid (show fl[li]? = some f by
                  rw [HFE.out]
                  exact List.getElem?_eq_some_iff.2 ⟨hli, hf⟩)
                have hlil : li < fl.length := by rw [HFE.out]; exact hli
                obtain ⟨b, o, rfl, p0, p1, p2⟩ := wrs_cells (wrs_made DQ.out MG.out) hkl t ht
                obtain ⟨b2, o2, rfl, e0⟩ := froms_cell (RQ.out.made oneI_len MG.out) (t := li) f HFV.out
                have HNX := Lib.hid hq4
                have hq2' : q < S.size := by have := HZ.out; omega
                clear ht hat hf hli HPG hq4 hq2
                obtain ⟨ln, cl, cd⟩ := t
                simp only [] at hline hcl hc1 hc2 hq3 p0 p1 p2
                subst hline
                have lb := World.block_lt_of_cell? _ _ p0
                have lb2 := World.block_lt_of_cell? _ _ e0
                have x0 : (1 : Int) ≤ (li : Int) + 1 := by omega
                have x1 : (li : Int) + 1 ≤ (fl.length : Int) := by omega
                have x2 : (li : Int) < (fl.length : Int) := by omega
                have x3 : (0 : Int) ≤ (li : Int) := by omega
                have x4 : (0 : Int) ≤ (g : Int) := by omega
                have x5 : (g : Int) < (m : Int) := by omega
                have y0 : (p : Int) - 1 < (q : Int) := by omega
                have y1 : (q : Int) < (S.size : Int) := by omega
                have hways : (cd = 8) ∨ (cd = 3) ∨ (cd = 6) := by omega
                rcases hways with rfl | rfl | rfl
                all_goals
                  go_upto_region 32 with (fail)
                  go_quiet (fail)
                  rename_i nq
                  go_wp2
                  go_roundw
                  case rel => exact ⟨g + 1, q + 1, by omega, by omega, by go_num, by go_num, HNX.out, below_drewN MG.out _⟩
                  case measure => simp [intOf]; omega
              · obtain rfl : g = m := by omega
                have hmm2 : (g : Int) ≤ 100 := by omega
                have M4 := Lib.hid (Made.trans M1.out (Made.trans M3.out MG.out))
                clear HPG
                go_wp2_with (fail)
                refine (HA.out _ M4.out).mono ?_
                rintro e w4 ⟨rfl, h4⟩
                go_wp2
                go_ret
                exact ⟨rfl, h4⟩
end
end lexPlaces
end Go.Proofs.Ytlhociildcdnoaa
