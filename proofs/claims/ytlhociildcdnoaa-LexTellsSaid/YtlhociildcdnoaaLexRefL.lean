/- What line of the document's answer for lex returns; no condition but those named. -/
import Derived.Test.YtlhociildcdnoaaLexRefN
import Derived.Test.YtlhociildcdnoaaLexTwo
import Derived.Test.YtlhociildcdnoaaGBase
import Derived.Great.Walk
import Derived.OwnWalk
import Derived.Deep.Cut
import Derived.Deep.CutBlock
namespace Go.Proofs.Ytlhociildcdnoaa
open Go.ChangeShapes Go.WideShapes Go.ChangeAt Go.RowKit Go.Sort BigFrame

theorem rblk_any (b : UInt8) : Still Try.prog 30 #[.string ⟨#[32, 9, 13]⟩, .int .u8 b.toNat] (.bool (isBlk b)) := by
  rw [← in_blk b]
  exact rin_any ⟨#[32, 9, 13]⟩ [32, 9, 13] rfl (by decide) b
theorem rlet_any (b : UInt8) : Still Try.prog 30 #[.string ⟨#[97, 98, 99, 100, 101, 102, 103, 104, 105, 106, 107, 108, 109, 110, 111, 112, 113, 114, 115, 116, 117, 118, 119, 120, 121, 122, 65, 66, 67, 68, 69, 70, 71, 72, 73, 74, 75, 76, 77, 78, 79, 80, 81, 82, 83, 84, 85, 86, 87, 88, 89, 90, 95]⟩, .int .u8 b.toNat] (.bool (isLet b)) := by
  rw [← in_let b]
  exact rin_any _ letL rfl (by decide) b
theorem rdig_any (b : UInt8) : Still Try.prog 30 #[.string ⟨#[48, 49, 50, 51, 52, 53, 54, 55, 56, 57]⟩, .int .u8 b.toNat] (.bool (isDig b)) := by
  rw [← in_dig b]
  exact rin_any _ digL rfl (by decide) b
theorem rsgn_any (b : UInt8) : Still Try.prog 30 #[.string ⟨#[123, 125, 59, 58, 40, 41, 44, 61, 43, 45, 42, 33, 35]⟩, .int .u8 b.toNat] (.bool (isSgn b)) := by
  rw [← in_sgn b]
  exact rin_any _ sgnL rfl (by decide) b
/-! The ways of one byte. -/
theorem cut_ways (b : UInt8) (r : List UInt8) :
    (isBlk b = true ∧ lxCut b r = ⟨0, 0, 0, 0⟩) ∨
    (isBlk b = false ∧ (isLet b = true ∨ (isLet b = false ∧ b.toNat = 46)) ∧ lxCut b r = ⟨(r.takeWhile isNam).length, 1, 0, if 32 < (r.takeWhile isNam).length + 1 then 3 else 0⟩) ∨
    (isBlk b = false ∧ isLet b = false ∧ b.toNat ≠ 46 ∧ isDig b = true ∧ lxCut b r = ⟨(r.takeWhile isWrd).length, 2, lxNum (b :: r.takeWhile isWrd), if lxNum (b :: r.takeWhile isWrd) = -1 then 8 else if lxNum (b :: r.takeWhile isWrd) = -2 then 6 else 0⟩) ∨
    (isBlk b = false ∧ isLet b = false ∧ b.toNat ≠ 46 ∧ isDig b = false ∧
      ((b.toNat = 47 ∧ (r.head?.map UInt8.toNat) = some 47 ∧ lxCut b r = ⟨(r.takeWhile notLf).length, 0, 0, 0⟩) ∨
       (b.toNat ≠ 47 ∧ b.toNat = 35 ∧ (r.head?.map UInt8.toNat) = some 35 ∧ lxCut b r = ⟨1, 3, 0, 0⟩) ∨
       (((b.toNat ≠ 47 ∧ b.toNat ≠ 35) ∨ (b.toNat = 47 ∧ (r.head?.map UInt8.toNat) ≠ some 47) ∨ (b.toNat ≠ 47 ∧ b.toNat = 35 ∧ (r.head?.map UInt8.toNat) ≠ some 35)) ∧ ((isSgn b = true ∧ lxCut b r = ⟨0, 3, 0, 0⟩) ∨ (isSgn b = false ∧ lxCut b r = ⟨0, 0, 0, 8⟩))))) := by
  by_cases h1 : isBlk b = true
  · exact .inl ⟨h1, by unfold lxCut; rw [if_pos h1]⟩
  by_cases h2 : (isLet b || decide (b.toNat = 46)) = true
  · refine .inr (.inl ⟨by simpa using h1, ?_, by unfold lxCut; rw [if_neg h1, if_pos h2]⟩)
    cases hl : isLet b with
    | true => exact .inl rfl
    | false =>
      rw [hl] at h2
      exact .inr ⟨rfl, by simpa using h2⟩
  have h2' : isLet b = false ∧ b.toNat ≠ 46 := by simpa using h2
  by_cases h3 : isDig b = true
  · exact .inr (.inr (.inl ⟨by simpa using h1, h2'.1, h2'.2, h3, by unfold lxCut; rw [if_neg h1, if_neg h2, if_pos h3]⟩))
  refine .inr (.inr (.inr ⟨by simpa using h1, h2'.1, h2'.2, by simpa using h3, ?_⟩))
  by_cases h4 : b.toNat = 47 ∧ (r.head?.map UInt8.toNat) = some 47
  · exact .inl ⟨h4.1, h4.2, by unfold lxCut; rw [if_neg h1, if_neg h2, if_neg h3, if_pos h4]⟩
  by_cases h5 : b.toNat = 35 ∧ (r.head?.map UInt8.toNat) = some 35
  · exact .inr (.inl ⟨fun h => by have := h5.1; omega, h5.1, h5.2, by unfold lxCut; rw [if_neg h1, if_neg h2, if_neg h3, if_neg h4, if_pos h5]⟩)
  refine .inr (.inr ⟨?_, ?_⟩)
  · by_cases h47 : b.toNat = 47
    · exact .inr (.inl ⟨h47, fun h => h4 ⟨h47, h⟩⟩)
    · by_cases h35 : b.toNat = 35
      · exact .inr (.inr ⟨h47, h35, fun h => h5 ⟨h35, h⟩⟩)
      · exact .inl ⟨h47, h35⟩
  · by_cases h6 : isSgn b = true
    · exact .inl ⟨h6, by unfold lxCut; rw [if_neg h1, if_neg h2, if_neg h3, if_neg h4, if_neg h5, if_pos h6]⟩
    · exact .inr ⟨by simpa using h6, by unfold lxCut; rw [if_neg h1, if_neg h2, if_neg h3, if_neg h4, if_neg h5, if_neg h6]⟩
theorem while_next (p : UInt8 → Bool) {l : List UInt8} {j : Nat} (h : j < l.length) (b : UInt8) (hb : l[j] = b) : ((l.drop j).takeWhile p).length = if p b = true then ((l.drop (j + 1)).takeWhile p).length + 1 else 0 := by
  rw [List.drop_eq_getElem_cons h, hb, List.takeWhile_cons]
  split <;> rfl
theorem while_end (p : UInt8 → Bool) (l : List UInt8) : ((l.drop l.length).takeWhile p).length = 0 := by
  rw [List.drop_length]
  rfl
/-- What line tells. -/
def LineSays (n : Int) (l : List UInt8) (w : World) (e : Ending) (w' : World) : Prop := ∃ v1 v2, e = .returned (.tuple #[v1, v2]) ∧ LineTwo 44 46 w v1 v2 (lxRun n 1 l).1 (lxRun n 1 l).2 w'
theorem no_lf {l : List UInt8} (h : lfs l = 0) {k : Nat} (hk : k < l.length) (b : UInt8) (hb : l[k] = b) : b.toNat ≠ 10 := by
  unfold lfs at h
  have := List.countP_eq_zero.1 h b (hb ▸ List.getElem_mem hk)
  simpa using this
theorem types_apart : 44 ≠ 46 := by decide
theorem tok_row : (Try.prog.info? 44).map (fun i => (i.zero, i.size, i.bytes)) = some (some (Tk.val ⟨0, [], 0, 0, 0⟩), 5, 48) := by kernel_rfl
theorem wrong_row : (Try.prog.info? 46).map (fun i => (i.zero, i.size, i.bytes)) = some (some (Wr.val ⟨0, 0, 0⟩), 3, 24) := by kernel_rfl
abbrev RTok := LineTok 44 46
abbrev RTwo := LineTwo 44 46
section
attribute [local irreducible] World.cell?
set_option maxRecDepth 100000 in
set_option maxHeartbeats 32000000 in
theorem rline_any (S : ByteArray) (l : List UInt8) (hS : IsStr S l) (hlf : lfs l = 0) (hl : l.length ≤ 100000) (n : Int) (_hn0 : 0 ≤ n) (_hn1 : n ≤ 1000000) (w : World) : Calls Try.prog 13 #[.string S, .int .i64 n] w (LineSays n l w) := by
  have hz := str_size hS
  have H := Lib.hid hS
  have HZ := Lib.hid hz
  have HLF := Lib.hid hlf
  have hsz : S.size ≤ 100000 := by omega
  have hfew := run_few l.length l (Nat.le_refl _) n 1
  have HFEW := Lib.hid hfew
  obtain ⟨i0, hi0, hz0, hz1, hz2⟩ := info_parts tok_row
  obtain ⟨j0, hj0, hy0, hy1, hy2⟩ := info_parts wrong_row
  have K0 := Lib.hid (two_start (T1 := 44) (T2 := 46) w)
  clear hS hz hlf hfew
  go_enter Try.func13, Try.ntmps13
  go_wp2_with (fail)
  go_loopw [6, 7, 8] (fun ov bv iv wr => ∃ (k : Nat) (v1 v2 : Value) (l1 : List Tk) (l2 : List Wr), k ≤ S.size ∧ iv = .int .i64 k ∧ v1 = ov ∧ v2 = bv ∧ RTwo w v1 v2 l1 l2 wr ∧
    lxRun n 1 l = (l1 ++ (lxRun n (k + 1) (l.drop k)).1, l2 ++ (lxRun n (k + 1) (l.drop k)).2)) (fun _ _ iv _ => S.size - (intOf iv).toNat)
  case atStart => exact ⟨0, _, _, [], [], Nat.zero_le _, rfl, rfl, rfl, K0.out, rfl⟩
  case round =>
    obtain ⟨k, v1, v2, l1, l2, hk, rfl, rfl, rfl, hT, hR⟩ := hrel
    have KR := Lib.hid hT
    have HR := Lib.hid hR
    have hll : l1.length ≤ 100001 ∧ l2.length ≤ 100000 := by
      have h1 := HFEW.out
      rw [HR.out] at h1
      simp only [List.length_append] at h1
      omega
    obtain ⟨hl1, hl2⟩ := hll
    clear hT hR K0
    by_cases hlt : k < S.size
    rotate_left
    · obtain rfl : k = S.size := by omega
      have HX := Lib.hid (show lxRun n 1 l = (l1 ++ [lxEnd n ((S.size : Int) + 1)], l2) by
        have h5 := HR.out
        rw [HZ.out, List.drop_length, lxRun_nil, List.append_nil, ← HZ.out] at h5
        exact h5)
      have KA := Lib.hid (KR.out.next ((Made.refl wr).alloc (Nat.le_refl _) (.cells ([lxEnd n ((S.size : Int) + 1)].flatMap Tk.cells).toArray 44)))
      have HOL := Lib.hid (tok_olds wr 44 (lxEnd n ((S.size : Int) + 1)))
      have hsz2 := Lib.hid KA.out.made.size
      have hmx : l1.length + 1 ≤ maxLen := by unfold maxLen; omega
      have hby : (l1.length + 1) * 48 ≤ 140737488355328 := by omega
      clear HR HFEW
      go_wp2_with (at_builtin; refine wpList_append_each rfl (.tmp 161) (.tmp 167) 33 rfl w.heap.size 44 i0 (Tk.val ⟨0, [], 0, 0, 0⟩) 5 48 Try.underlying33 hi0 hz0 hz1 hz2 rfl (by decide) v1 l1.length (l1.flatMap Tk.cells) rfl KA.out.fst.row (some ⟨wr.heap.size, 0, none⟩) 1 1 ([lxEnd n ((S.size : Int) + 1)].flatMap Tk.cells) rfl (fun h => by simp at h) rfl HOL.out (tk_one _) hmx hby hsz2.out ?_; intro v7 w9 own1 gr1; have KG := Lib.hid (KA.out.more1 types_apart rfl own1 gr1); clear own1 gr1)
      refine bodyPost_ret (v := .tuple #[v7, v2]) (by simp [results, Try.results13, go_sem]) rfl ?_
      exact ⟨v7, v2, rfl, by rw [HX.out]; exact KG.out⟩
    · have hkl : k < l.length := by have := HZ.out; omega
      obtain ⟨b, hb⟩ : ∃ b, l[k] = b := ⟨_, rfl⟩
      have hidx := str_at (w := wr) H.out hkl b hb
      have hbn := no_lf HLF.out hkl b hb
      have hdr : l.drop k = b :: l.drop (k + 1) := by rw [List.drop_eq_getElem_cons hkl, hb]
      have hrc := lxRun_cut n ((k : Int) + 1) hbn (l.drop (k + 1))
      rewrite [← hdr] at hrc
      obtain ⟨c, hc⟩ : ∃ c, c = lxCut b (l.drop (k + 1)) := ⟨_, rfl⟩
      have HC := Lib.hid hc
      have hway := cut_ways b (l.drop (k + 1))
      rewrite [← hc] at hway
      have HW := Lib.hid hway
      have HRC := Lib.hid hrc
      have HDR := Lib.hid hdr
      have HCL := Lib.hid (show k + c.more + 1 ≤ S.size by
        have := cut_le b (l.drop (k + 1))
        rw [List.length_drop, ← hc] at this
        have := HZ.out
        omega)
      have HBK := Lib.hid (fun u => rblk_any b u)
      have HLT := Lib.hid (fun u => rlet_any b u)
      have HDG := Lib.hid (fun u => rdig_any b u)
      have HSG := Lib.hid (fun u => rsgn_any b u)
      have T0 := Lib.hid (tok_start KR.out ⟨0, [], 0, n, (k : Int) + 1⟩)
      clear hb hdr hrc hc hway hbn
      go_upto_block 2 with (fail)
      refine world_named (fun u => RTok w v1 v2 l1 l2 wr.heap.size ⟨0, [], 0, n, (k : Int) + 1⟩ u) T0.out ?_
      intro u hu
      have TK := Lib.hid hu
      clear hu T0
      go_cut [10, 12] from 26 to 137 (fun kv ev wc => ∃ k2 : Nat, kv = .int .i64 k2 ∧ k2 = k + c.more + 1 ∧ ev = .int .i64 c.e ∧ RTok w v1 v2 l1 l2 wr.heap.size ⟨c.kind, [], c.v, n, (k : Int) + 1⟩ wc)
      case first =>
        obtain ⟨c0, c1, c2, c3, c4⟩ := tok_cells TK.out
        have ft := free_of_lit TK.out.blk
        have lt := heap_lt TK.out.blk
        rcases HW.out with ⟨hb1, hce⟩ | ⟨hb1, hlet, hce⟩ | ⟨hb1, hb2, hb3, hb4, hce⟩ | ⟨hb1, hb2, hb3, hb4, hsub⟩
        · subst hce
          go_wp2_with (fail)
          refine (HBK.out _).mono ?_
          rintro e w' ⟨rfl, rfl⟩
          rewrite [hb1]
          go_wp2
          go_meet
          case rel => exact ⟨k + 1, by go_num, rfl, rfl, TK.out⟩
        · rcases hlet with hl1' | ⟨hl1', h46b⟩
          · have hbb := hb1
            go_wp2_with (fail)
            refine (HBK.out _).mono ?_
            rintro e w' ⟨rfl, rfl⟩
            rewrite [hb1]
            go_wp2_with (fail)
            refine (HLT.out _).mono ?_
            rintro e w' ⟨rfl, rfl⟩
            rewrite [hl1']
            go_wp2_with (fail)
            obtain ⟨m, hm⟩ : ∃ m, m = ((l.drop (k + 1)).takeWhile isNam).length := ⟨_, rfl⟩
            rewrite [← hm] at hce
            have HM := Lib.hid hm
            have HCE := Lib.hid hce
            clear hm hce
            go_loopw [10] (fun kv wq => ∃ j : Nat, k + 1 ≤ j ∧ j ≤ S.size ∧ kv = .int .i64 j ∧ (j - (k + 1)) + ((l.drop j).takeWhile isNam).length = m ∧ u = wq) (fun kv _ => S.size - (intOf kv).toNat)
            case atStart => exact ⟨k + 1, Nat.le_refl _, by omega, by go_num, by rw [HM.out, Nat.sub_self, Nat.zero_add], rfl⟩
            case round =>
              obtain ⟨j, hj1, hj2, rfl, hj3, rfl⟩ := hrel
              have HJ := Lib.hid hj3
              clear hj3
              by_cases hjl : j < S.size
              · have hjk : j < l.length := by have := HZ.out; omega
                obtain ⟨d, hd⟩ : ∃ d, l[j] = d := ⟨_, rfl⟩
                have hidj := str_at (w := u) H.out hjk d hd
                have HWN := Lib.hid (while_next isNam hjk d hd)
                have HLT2 := Lib.hid (rlet_any d)
                have HDG2 := Lib.hid (rdig_any d)
                have hnam : isNam d = (isLet d || isDig d || decide (d.toNat = 46)) := rfl
                have HNM := Lib.hid hnam
                clear hd hnam
                cases hdl : isLet d with
                | true =>
                  go_wp2_with (fail)
                  refine (HLT2.out _).mono ?_
                  rintro e w' ⟨rfl, rfl⟩
                  rewrite [hdl]
                  have HN := Lib.hid (show (j + 1 - (k + 1)) + ((l.drop (j + 1)).takeWhile isNam).length = m by
                    have h1 := HJ.out
                    rw [HWN.out, HNM.out, hdl] at h1
                    simp only [Bool.true_or, if_true] at h1
                    omega)
                  go_wp2
                  go_roundw
                  case rel => exact ⟨j + 1, by omega, by omega, by go_num, HN.out, trivial⟩
                  case measure => simp [intOf]; omega
                | false =>
                  go_wp2_with (fail)
                  refine (HLT2.out _).mono ?_
                  rintro e w' ⟨rfl, rfl⟩
                  rewrite [hdl]
                  cases hdd : isDig d with
                  | true =>
                    go_wp2_with (fail)
                    refine (HDG2.out _).mono ?_
                    rintro e w' ⟨rfl, rfl⟩
                    rewrite [hdd]
                    have HN := Lib.hid (show (j + 1 - (k + 1)) + ((l.drop (j + 1)).takeWhile isNam).length = m by
                      have h1 := HJ.out
                      rw [HWN.out, HNM.out, hdl, hdd] at h1
                      simp only [Bool.or_true, Bool.true_or, if_true] at h1
                      omega)
                    go_wp2
                    go_roundw
                    case rel => exact ⟨j + 1, by omega, by omega, by go_num, HN.out, trivial⟩
                    case measure => simp [intOf]; omega
                  | false =>
                    go_wp2_with (fail)
                    refine (HDG2.out _).mono ?_
                    rintro e w' ⟨rfl, rfl⟩
                    rewrite [hdd]
                    by_cases hd46 : d.toNat = 46
                    · have h46 : ((d.toNat : Int) == 46) = true := beq_iff_eq.2 (by omega)
                      have HN := Lib.hid (show (j + 1 - (k + 1)) + ((l.drop (j + 1)).takeWhile isNam).length = m by
                        have h1 := HJ.out
                        rw [HWN.out, HNM.out, hdl, hdd, decide_eq_true hd46] at h1
                        simp only [Bool.or_true, if_true] at h1
                        omega)
                      clear hd46
                      go_wp2
                      go_roundw
                      case rel => exact ⟨j + 1, by omega, by omega, by go_num, HN.out, trivial⟩
                      case measure => simp [intOf]; omega
                    · have h46 : ((d.toNat : Int) == 46) = false := beq_eq_false_iff_ne.2 (by omega)
                      have HJM := Lib.hid (show j = k + m + 1 by
                        have h1 := HJ.out
                        rw [HWN.out, HNM.out, hdl, hdd, decide_eq_false hd46] at h1
                        simp only [Bool.or_false, Bool.false_eq_true, if_false] at h1
                        omega)
                      by_cases h32 : 32 < m + 1
                      · have g32 : (32 : Int) < (j : Int) - (k : Int) := by have := HJM.out; omega
                        have hce := HCE.out
                        rewrite [if_pos h32] at hce
                        have HE := Lib.hid hce
                        clear h32 hce
                        go_wp2
                        go_meet
                        case rel =>
                          have hset := TK.out.set 0 (.int .u8 1) ⟨1, [], 0, n, (k : Int) + 1⟩ rfl
                          exact ⟨j, rfl, by rw [HE.out]; exact HJM.out, by rw [HE.out], by rw [HE.out]; exact hset⟩
                      · have g32 : (j : Int) - (k : Int) ≤ 32 := by have := HJM.out; omega
                        have hce := HCE.out
                        rewrite [if_neg h32] at hce
                        have HE := Lib.hid hce
                        clear h32 hce
                        go_wp2
                        go_meet
                        case rel =>
                          have hset := TK.out.set 0 (.int .u8 1) ⟨1, [], 0, n, (k : Int) + 1⟩ rfl
                          exact ⟨j, rfl, by rw [HE.out]; exact HJM.out, by rw [HE.out], by rw [HE.out]; exact hset⟩
              · obtain rfl : j = S.size := by omega
                have HJM := Lib.hid (show S.size = k + m + 1 by
                  have h1 := HJ.out
                  have h2 := while_end isNam l
                  rw [← HZ.out] at h2
                  rw [h2] at h1
                  omega)
                by_cases h32 : 32 < m + 1
                · have g32 : (32 : Int) < (S.size : Int) - (k : Int) := by have := HJM.out; omega
                  have hce := HCE.out
                  rewrite [if_pos h32] at hce
                  have HE := Lib.hid hce
                  clear h32 hce
                  go_wp2
                  go_meet
                  case rel =>
                    have hset := TK.out.set 0 (.int .u8 1) ⟨1, [], 0, n, (k : Int) + 1⟩ rfl
                    exact ⟨S.size, rfl, by rw [HE.out]; exact HJM.out, by rw [HE.out], by rw [HE.out]; exact hset⟩
                · have g32 : (S.size : Int) - (k : Int) ≤ 32 := by have := HJM.out; omega
                  have hce := HCE.out
                  rewrite [if_neg h32] at hce
                  have HE := Lib.hid hce
                  clear h32 hce
                  go_wp2
                  go_meet
                  case rel =>
                    have hset := TK.out.set 0 (.int .u8 1) ⟨1, [], 0, n, (k : Int) + 1⟩ rfl
                    exact ⟨S.size, rfl, by rw [HE.out]; exact HJM.out, by rw [HE.out], by rw [HE.out]; exact hset⟩
          · have hbb := hb1
            have g46 : ((b.toNat : Int) == 46) = true := beq_iff_eq.2 (by omega)
            clear h46b
            go_wp2_with (fail)
            refine (HBK.out _).mono ?_
            rintro e w' ⟨rfl, rfl⟩
            rewrite [hb1]
            go_wp2_with (fail)
            refine (HLT.out _).mono ?_
            rintro e w' ⟨rfl, rfl⟩
            rewrite [hl1']
            go_wp2_with (fail)
            obtain ⟨m, hm⟩ : ∃ m, m = ((l.drop (k + 1)).takeWhile isNam).length := ⟨_, rfl⟩
            rewrite [← hm] at hce
            have HM := Lib.hid hm
            have HCE := Lib.hid hce
            clear hm hce
            go_loopw [10] (fun kv wq => ∃ j : Nat, k + 1 ≤ j ∧ j ≤ S.size ∧ kv = .int .i64 j ∧ (j - (k + 1)) + ((l.drop j).takeWhile isNam).length = m ∧ u = wq) (fun kv _ => S.size - (intOf kv).toNat)
            case atStart => exact ⟨k + 1, Nat.le_refl _, by omega, by go_num, by rw [HM.out, Nat.sub_self, Nat.zero_add], rfl⟩
            case round =>
              obtain ⟨j, hj1, hj2, rfl, hj3, rfl⟩ := hrel
              have HJ := Lib.hid hj3
              clear hj3
              by_cases hjl : j < S.size
              · have hjk : j < l.length := by have := HZ.out; omega
                obtain ⟨d, hd⟩ : ∃ d, l[j] = d := ⟨_, rfl⟩
                have hidj := str_at (w := u) H.out hjk d hd
                have HWN := Lib.hid (while_next isNam hjk d hd)
                have HLT2 := Lib.hid (rlet_any d)
                have HDG2 := Lib.hid (rdig_any d)
                have hnam : isNam d = (isLet d || isDig d || decide (d.toNat = 46)) := rfl
                have HNM := Lib.hid hnam
                clear hd hnam
                cases hdl : isLet d with
                | true =>
                  go_wp2_with (fail)
                  refine (HLT2.out _).mono ?_
                  rintro e w' ⟨rfl, rfl⟩
                  rewrite [hdl]
                  have HN := Lib.hid (show (j + 1 - (k + 1)) + ((l.drop (j + 1)).takeWhile isNam).length = m by
                    have h1 := HJ.out
                    rw [HWN.out, HNM.out, hdl] at h1
                    simp only [Bool.true_or, if_true] at h1
                    omega)
                  go_wp2
                  go_roundw
                  case rel => exact ⟨j + 1, by omega, by omega, by go_num, HN.out, trivial⟩
                  case measure => simp [intOf]; omega
                | false =>
                  go_wp2_with (fail)
                  refine (HLT2.out _).mono ?_
                  rintro e w' ⟨rfl, rfl⟩
                  rewrite [hdl]
                  cases hdd : isDig d with
                  | true =>
                    go_wp2_with (fail)
                    refine (HDG2.out _).mono ?_
                    rintro e w' ⟨rfl, rfl⟩
                    rewrite [hdd]
                    have HN := Lib.hid (show (j + 1 - (k + 1)) + ((l.drop (j + 1)).takeWhile isNam).length = m by
                      have h1 := HJ.out
                      rw [HWN.out, HNM.out, hdl, hdd] at h1
                      simp only [Bool.or_true, Bool.true_or, if_true] at h1
                      omega)
                    go_wp2
                    go_roundw
                    case rel => exact ⟨j + 1, by omega, by omega, by go_num, HN.out, trivial⟩
                    case measure => simp [intOf]; omega
                  | false =>
                    go_wp2_with (fail)
                    refine (HDG2.out _).mono ?_
                    rintro e w' ⟨rfl, rfl⟩
                    rewrite [hdd]
                    by_cases hd46 : d.toNat = 46
                    · have h46 : ((d.toNat : Int) == 46) = true := beq_iff_eq.2 (by omega)
                      have HN := Lib.hid (show (j + 1 - (k + 1)) + ((l.drop (j + 1)).takeWhile isNam).length = m by
                        have h1 := HJ.out
                        rw [HWN.out, HNM.out, hdl, hdd, decide_eq_true hd46] at h1
                        simp only [Bool.or_true, if_true] at h1
                        omega)
                      clear hd46
                      go_wp2
                      go_roundw
                      case rel => exact ⟨j + 1, by omega, by omega, by go_num, HN.out, trivial⟩
                      case measure => simp [intOf]; omega
                    · have h46 : ((d.toNat : Int) == 46) = false := beq_eq_false_iff_ne.2 (by omega)
                      have HJM := Lib.hid (show j = k + m + 1 by
                        have h1 := HJ.out
                        rw [HWN.out, HNM.out, hdl, hdd, decide_eq_false hd46] at h1
                        simp only [Bool.or_false, Bool.false_eq_true, if_false] at h1
                        omega)
                      by_cases h32 : 32 < m + 1
                      · have g32 : (32 : Int) < (j : Int) - (k : Int) := by have := HJM.out; omega
                        have hce := HCE.out
                        rewrite [if_pos h32] at hce
                        have HE := Lib.hid hce
                        clear h32 hce
                        go_wp2
                        go_meet
                        case rel =>
                          have hset := TK.out.set 0 (.int .u8 1) ⟨1, [], 0, n, (k : Int) + 1⟩ rfl
                          exact ⟨j, rfl, by rw [HE.out]; exact HJM.out, by rw [HE.out], by rw [HE.out]; exact hset⟩
                      · have g32 : (j : Int) - (k : Int) ≤ 32 := by have := HJM.out; omega
                        have hce := HCE.out
                        rewrite [if_neg h32] at hce
                        have HE := Lib.hid hce
                        clear h32 hce
                        go_wp2
                        go_meet
                        case rel =>
                          have hset := TK.out.set 0 (.int .u8 1) ⟨1, [], 0, n, (k : Int) + 1⟩ rfl
                          exact ⟨j, rfl, by rw [HE.out]; exact HJM.out, by rw [HE.out], by rw [HE.out]; exact hset⟩
              · obtain rfl : j = S.size := by omega
                have HJM := Lib.hid (show S.size = k + m + 1 by
                  have h1 := HJ.out
                  have h2 := while_end isNam l
                  rw [← HZ.out] at h2
                  rw [h2] at h1
                  omega)
                by_cases h32 : 32 < m + 1
                · have g32 : (32 : Int) < (S.size : Int) - (k : Int) := by have := HJM.out; omega
                  have hce := HCE.out
                  rewrite [if_pos h32] at hce
                  have HE := Lib.hid hce
                  clear h32 hce
                  go_wp2
                  go_meet
                  case rel =>
                    have hset := TK.out.set 0 (.int .u8 1) ⟨1, [], 0, n, (k : Int) + 1⟩ rfl
                    exact ⟨S.size, rfl, by rw [HE.out]; exact HJM.out, by rw [HE.out], by rw [HE.out]; exact hset⟩
                · have g32 : (S.size : Int) - (k : Int) ≤ 32 := by have := HJM.out; omega
                  have hce := HCE.out
                  rewrite [if_neg h32] at hce
                  have HE := Lib.hid hce
                  clear h32 hce
                  go_wp2
                  go_meet
                  case rel =>
                    have hset := TK.out.set 0 (.int .u8 1) ⟨1, [], 0, n, (k : Int) + 1⟩ rfl
                    exact ⟨S.size, rfl, by rw [HE.out]; exact HJM.out, by rw [HE.out], by rw [HE.out]; exact hset⟩
        · have g46 : ((b.toNat : Int) == 46) = false := beq_eq_false_iff_ne.2 (by omega)
          go_wp2_with (fail)
          refine (HBK.out _).mono ?_
          rintro e w' ⟨rfl, rfl⟩
          rewrite [hb1]
          go_wp2_with (fail)
          refine (HLT.out _).mono ?_
          rintro e w' ⟨rfl, rfl⟩
          rewrite [hb2]
          go_wp2_with (fail)
          refine (HDG.out _).mono ?_
          rintro e w' ⟨rfl, rfl⟩
          rewrite [hb4]
          go_wp2_with (fail)
          obtain ⟨m, hm⟩ : ∃ m, m = ((l.drop (k + 1)).takeWhile isWrd).length := ⟨_, rfl⟩
          rewrite [← hm] at hce
          have HM := Lib.hid hm
          have HCE := Lib.hid hce
          clear hm hce
          go_loopw [10] (fun kv wq => ∃ j : Nat, k + 1 ≤ j ∧ j ≤ S.size ∧ kv = .int .i64 j ∧ (j - (k + 1)) + ((l.drop j).takeWhile isWrd).length = m ∧ u = wq) (fun kv _ => S.size - (intOf kv).toNat)
          case atStart => exact ⟨k + 1, Nat.le_refl _, by omega, by go_num, by rw [HM.out, Nat.sub_self, Nat.zero_add], rfl⟩
          case round =>
            obtain ⟨j, hj1, hj2, rfl, hj3, rfl⟩ := hrel
            have HJ := Lib.hid hj3
            clear hj3
            by_cases hjl : j < S.size
            · have hjk : j < l.length := by have := HZ.out; omega
              obtain ⟨d, hd⟩ : ∃ d, l[j] = d := ⟨_, rfl⟩
              have hidj := str_at (w := u) H.out hjk d hd
              have HWN := Lib.hid (while_next isWrd hjk d hd)
              have HLT2 := Lib.hid (rlet_any d)
              have HDG2 := Lib.hid (rdig_any d)
              have hnam : isWrd d = (isLet d || isDig d) := rfl
              have HNM := Lib.hid hnam
              clear hd hnam
              cases hdl : isLet d with
              | true =>
                go_wp2_with (fail)
                refine (HLT2.out _).mono ?_
                rintro e w' ⟨rfl, rfl⟩
                rewrite [hdl]
                have HN := Lib.hid (show (j + 1 - (k + 1)) + ((l.drop (j + 1)).takeWhile isWrd).length = m by
                  have h1 := HJ.out
                  rw [HWN.out, HNM.out, hdl] at h1
                  simp only [Bool.true_or, if_true] at h1
                  omega)
                go_wp2
                go_roundw
                case rel => exact ⟨j + 1, by omega, by omega, by go_num, HN.out, trivial⟩
                case measure => simp [intOf]; omega
              | false =>
                go_wp2_with (fail)
                refine (HLT2.out _).mono ?_
                rintro e w' ⟨rfl, rfl⟩
                rewrite [hdl]
                cases hdd : isDig d with
                | true =>
                  go_wp2_with (fail)
                  refine (HDG2.out _).mono ?_
                  rintro e w' ⟨rfl, rfl⟩
                  rewrite [hdd]
                  have HN := Lib.hid (show (j + 1 - (k + 1)) + ((l.drop (j + 1)).takeWhile isWrd).length = m by
                    have h1 := HJ.out
                    rw [HWN.out, HNM.out, hdl, hdd] at h1
                    simp only [Bool.or_true, if_true] at h1
                    omega)
                  go_wp2
                  go_roundw
                  case rel => exact ⟨j + 1, by omega, by omega, by go_num, HN.out, trivial⟩
                  case measure => simp [intOf]; omega
                | false =>
                  go_wp2_with (fail)
                  refine (HDG2.out _).mono ?_
                  rintro e w' ⟨rfl, rfl⟩
                  rewrite [hdd]
                  have HJM := Lib.hid (show j = k + m + 1 by
                    have h1 := HJ.out
                    rw [HWN.out, HNM.out, hdl, hdd] at h1
                    simp only [Bool.or_false, Bool.false_eq_true, if_false] at h1
                    omega)
                  have HTX := Lib.hid (show IsStr (S.extract k j) (b :: (l.drop (k + 1)).takeWhile isWrd) by
                    have h7 := str_part H.out k j
                    have h8 : (l.drop k).take (j - k) = b :: (l.drop (k + 1)).takeWhile isWrd := by
                      rw [HDR.out, show j - k = m + 1 by have := HJM.out; omega, List.take_succ_cons, HM.out, take_pre]
                    rwa [h8] at h7)
                  have HNU := Lib.hid (fun u => rnumber_any _ _ HTX.out (by
                    rw [List.length_cons, ← HM.out]
                    have := HJM.out
                    omega) u)
                  have hkj0 : (0 : Int) ≤ (k : Int) := by omega
                  have hkj1 : (k : Int) ≤ (j : Int) := by omega
                  have hkj2 : k ≤ j := by omega
                  obtain ⟨x, hx⟩ : ∃ x, x = lxNum (b :: (l.drop (k + 1)).takeWhile isWrd) := ⟨_, rfl⟩
                  rewrite [← hx] at HNU HCE
                  clear hx
                  go_wp2_with (fail)
                  refine (HNU.out _).mono ?_
                  rintro e w' ⟨rfl, rfl⟩
                  have hxw : (x = -1) ∨ ((x == -1) = false ∧ x = -2) ∨ ((x == -1) = false ∧ (x == -2) = false) := by
                    by_cases h1 : x = -1
                    · exact .inl h1
                    · by_cases h2 : x = -2
                      · exact .inr (.inl ⟨beq_eq_false_iff_ne.2 h1, h2⟩)
                      · exact .inr (.inr ⟨beq_eq_false_iff_ne.2 h1, beq_eq_false_iff_ne.2 h2⟩)
                  rcases hxw with rfl | ⟨hx1, rfl⟩ | ⟨hx1, hx2⟩
                  · have hce := HCE.out
                    rewrite [if_pos rfl] at hce
                    have HE := Lib.hid hce
                    clear hce
                    go_wp2
                    go_meet
                    case rel =>
                      have hset := (TK.out.set 0 (.int .u8 2) ⟨2, [], 0, n, (k : Int) + 1⟩ rfl).set 2 (.int .i64 (-1)) ⟨2, [], (-1), n, (k : Int) + 1⟩ rfl
                      exact ⟨j, rfl, by rw [HE.out]; exact HJM.out, by rw [HE.out], by rw [HE.out]; exact hset⟩
                  · have hce := HCE.out
                    rewrite [if_neg (by decide), if_pos rfl] at hce
                    have HE := Lib.hid hce
                    clear hce
                    go_wp2
                    go_meet
                    case rel =>
                      have hset := (TK.out.set 0 (.int .u8 2) ⟨2, [], 0, n, (k : Int) + 1⟩ rfl).set 2 (.int .i64 (-2)) ⟨2, [], (-2), n, (k : Int) + 1⟩ rfl
                      exact ⟨j, rfl, by rw [HE.out]; exact HJM.out, by rw [HE.out], by rw [HE.out]; exact hset⟩
                  · have hce := HCE.out
                    rewrite [if_neg (beq_eq_false_iff_ne.1 hx1), if_neg (beq_eq_false_iff_ne.1 hx2)] at hce
                    have HE := Lib.hid hce
                    clear hce
                    go_wp2
                    go_meet
                    case rel =>
                      have hset := (TK.out.set 0 (.int .u8 2) ⟨2, [], 0, n, (k : Int) + 1⟩ rfl).set 2 (.int .i64 x) ⟨2, [], x, n, (k : Int) + 1⟩ rfl
                      exact ⟨j, rfl, by rw [HE.out]; exact HJM.out, by rw [HE.out], by rw [HE.out]; exact hset⟩
            · obtain rfl : j = S.size := by omega
              have HJM := Lib.hid (show S.size = k + m + 1 by
                have h1 := HJ.out
                have h2 := while_end isWrd l
                rw [← HZ.out] at h2
                rw [h2] at h1
                omega)
              have HTX := Lib.hid (show IsStr (S.extract k S.size) (b :: (l.drop (k + 1)).takeWhile isWrd) by
                have h7 := str_part H.out k S.size
                have h8 : (l.drop k).take (S.size - k) = b :: (l.drop (k + 1)).takeWhile isWrd := by
                  rw [HDR.out, show S.size - k = m + 1 by have := HJM.out; omega, List.take_succ_cons, HM.out, take_pre]
                rwa [h8] at h7)
              have HNU := Lib.hid (fun u => rnumber_any _ _ HTX.out (by
                rw [List.length_cons, ← HM.out]
                have := HJM.out
                omega) u)
              have hkj0 : (0 : Int) ≤ (k : Int) := by omega
              have hkj1 : (k : Int) ≤ (S.size : Int) := by omega
              have hkj2 : k ≤ S.size := by omega
              obtain ⟨x, hx⟩ : ∃ x, x = lxNum (b :: (l.drop (k + 1)).takeWhile isWrd) := ⟨_, rfl⟩
              rewrite [← hx] at HNU HCE
              clear hx
              go_wp2_with (fail)
              refine (HNU.out _).mono ?_
              rintro e w' ⟨rfl, rfl⟩
              have hxw : (x = -1) ∨ ((x == -1) = false ∧ x = -2) ∨ ((x == -1) = false ∧ (x == -2) = false) := by
                by_cases h1 : x = -1
                · exact .inl h1
                · by_cases h2 : x = -2
                  · exact .inr (.inl ⟨beq_eq_false_iff_ne.2 h1, h2⟩)
                  · exact .inr (.inr ⟨beq_eq_false_iff_ne.2 h1, beq_eq_false_iff_ne.2 h2⟩)
              rcases hxw with rfl | ⟨hx1, rfl⟩ | ⟨hx1, hx2⟩
              · have hce := HCE.out
                rewrite [if_pos rfl] at hce
                have HE := Lib.hid hce
                clear hce
                go_wp2
                go_meet
                case rel =>
                  have hset := (TK.out.set 0 (.int .u8 2) ⟨2, [], 0, n, (k : Int) + 1⟩ rfl).set 2 (.int .i64 (-1)) ⟨2, [], (-1), n, (k : Int) + 1⟩ rfl
                  exact ⟨S.size, rfl, by rw [HE.out]; exact HJM.out, by rw [HE.out], by rw [HE.out]; exact hset⟩
              · have hce := HCE.out
                rewrite [if_neg (by decide), if_pos rfl] at hce
                have HE := Lib.hid hce
                clear hce
                go_wp2
                go_meet
                case rel =>
                  have hset := (TK.out.set 0 (.int .u8 2) ⟨2, [], 0, n, (k : Int) + 1⟩ rfl).set 2 (.int .i64 (-2)) ⟨2, [], (-2), n, (k : Int) + 1⟩ rfl
                  exact ⟨S.size, rfl, by rw [HE.out]; exact HJM.out, by rw [HE.out], by rw [HE.out]; exact hset⟩
              · have hce := HCE.out
                rewrite [if_neg (beq_eq_false_iff_ne.1 hx1), if_neg (beq_eq_false_iff_ne.1 hx2)] at hce
                have HE := Lib.hid hce
                clear hce
                go_wp2
                go_meet
                case rel =>
                  have hset := (TK.out.set 0 (.int .u8 2) ⟨2, [], 0, n, (k : Int) + 1⟩ rfl).set 2 (.int .i64 x) ⟨2, [], x, n, (k : Int) + 1⟩ rfl
                  exact ⟨S.size, rfl, by rw [HE.out]; exact HJM.out, by rw [HE.out], by rw [HE.out]; exact hset⟩
        · have g46 : ((b.toNat : Int) == 46) = false := beq_eq_false_iff_ne.2 (by omega)
          have hnx : (S.size ≤ k + 1 ∧ ((l.drop (k + 1)).head?.map UInt8.toNat) = none) ∨ (∃ d : UInt8, k + 1 < S.size ∧ ((l.drop (k + 1)).head?.map UInt8.toNat) = some d.toNat ∧ (Instr.index 9 (.string S) (.int .i64 ((k : Int) + 1))).run Try.prog u = .ok (.int .u8 d.toNat) u) := by
            by_cases h : k + 1 < S.size
            · have hk1 : k + 1 < l.length := by have := HZ.out; omega
              refine .inr ⟨l[k + 1], h, by rw [List.drop_eq_getElem_cons hk1]; rfl, ?_⟩
              have h9 := str_at (w := u) H.out hk1 _ rfl
              rwa [show ((k + 1 : Nat) : Int) = (k : Int) + 1 by omega] at h9
            · refine .inl ⟨by omega, ?_⟩
              rw [List.drop_eq_nil_of_le (by have := HZ.out; omega)]
              rfl
          rcases hsub with ⟨h47, hhd, hce⟩ | ⟨h47, h35, hhd, hce⟩ | ⟨hno, hce⟩
          · rcases hnx with ⟨-, hn2⟩ | ⟨d, hk1, hd, hidn⟩
            · rw [hn2] at hhd
              cases hhd
            · have g47 : ((b.toNat : Int) == 47) = true := beq_iff_eq.2 (by omega)
              have hd47 : d.toNat = 47 := by rw [hd] at hhd; exact Option.some.inj hhd
              have gd : ((d.toNat : Int) == 47) = true := beq_iff_eq.2 (by omega)
              have gk : (k : Int) + 1 < (S.size : Int) := by omega
              have HE := Lib.hid hce
              have HMM := Lib.hid (show S.size = k + c.more + 1 by
                rw [hce]
                show S.size = k + ((l.drop (k + 1)).takeWhile notLf).length + 1
                have h8 : ∀ y ∈ l.drop (k + 1), notLf y = true := fun y hy => by
                  have h9 := List.countP_eq_zero.1 HLF.out y (List.mem_of_mem_drop hy)
                  unfold notLf
                  simpa using h9
                rw [take_idem notLf _ h8, List.length_drop]
                have := HZ.out
                omega)
              clear hce hhd hd hd47 h47 hb3
              go_wp2_with (fail)
              refine (HBK.out _).mono ?_
              rintro e w' ⟨rfl, rfl⟩
              rewrite [hb1]
              go_wp2_with (fail)
              refine (HLT.out _).mono ?_
              rintro e w' ⟨rfl, rfl⟩
              rewrite [hb2]
              go_wp2_with (fail)
              refine (HDG.out _).mono ?_
              rintro e w' ⟨rfl, rfl⟩
              rewrite [hb4]
              go_wp2
              go_meet
              case rel => exact ⟨S.size, rfl, HMM.out, by rw [HE.out], by rw [HE.out]; exact TK.out⟩
          · rcases hnx with ⟨-, hn2⟩ | ⟨d, hk1, hd, hidn⟩
            · rw [hn2] at hhd
              cases hhd
            · have g47 : ((b.toNat : Int) == 47) = false := beq_eq_false_iff_ne.2 (by omega)
              have g35 : ((b.toNat : Int) == 35) = true := beq_iff_eq.2 (by omega)
              have hd35 : d.toNat = 35 := by rw [hd] at hhd; exact Option.some.inj hhd
              have gd : ((d.toNat : Int) == 35) = true := beq_iff_eq.2 (by omega)
              have gk : (k : Int) + 1 < (S.size : Int) := by omega
              have HE := Lib.hid hce
              clear hce hhd hd hd35 h47 h35 hb3
              go_wp2_with (fail)
              refine (HBK.out _).mono ?_
              rintro e w' ⟨rfl, rfl⟩
              rewrite [hb1]
              go_wp2_with (fail)
              refine (HLT.out _).mono ?_
              rintro e w' ⟨rfl, rfl⟩
              rewrite [hb2]
              go_wp2_with (fail)
              refine (HDG.out _).mono ?_
              rintro e w' ⟨rfl, rfl⟩
              rewrite [hb4]
              go_wp2
              go_meet
              case rel =>
                have hset := TK.out.set 0 (.int .u8 3) ⟨3, [], 0, n, (k : Int) + 1⟩ rfl
                exact ⟨k + 1 + 1, by go_num, by rw [HE.out], by rw [HE.out], by rw [HE.out]; exact hset⟩
          · have hcases : (((b.toNat : Int) == 47) = false ∧ ((b.toNat : Int) == 35) = false) ∨ (((b.toNat : Int) == 47) = true ∧ ((b.toNat : Int) == 35) = false ∧ (((S.size : Int) ≤ (k : Int) + 1) ∨ (∃ d : UInt8, (k : Int) + 1 < (S.size : Int) ∧ ((d.toNat : Int) == 47) = false ∧ (Instr.index 9 (.string S) (.int .i64 ((k : Int) + 1))).run Try.prog u = .ok (.int .u8 d.toNat) u))) ∨
                (((b.toNat : Int) == 47) = false ∧ ((b.toNat : Int) == 35) = true ∧ (((S.size : Int) ≤ (k : Int) + 1) ∨ (∃ d : UInt8, (k : Int) + 1 < (S.size : Int) ∧ ((d.toNat : Int) == 35) = false ∧ (Instr.index 9 (.string S) (.int .i64 ((k : Int) + 1))).run Try.prog u = .ok (.int .u8 d.toNat) u))) := by
              have hb47 : ∀ q : Nat, b.toNat = q → ((b.toNat : Int) == (q : Int)) = true := fun q h => beq_iff_eq.2 (by omega)
              have hn47 : ∀ q : Nat, b.toNat ≠ q → ((b.toNat : Int) == (q : Int)) = false := fun q h => beq_eq_false_iff_ne.2 (by omega)
              rcases hno with ⟨h1, h2⟩ | ⟨h1, h2⟩ | ⟨h1, h2, h3⟩
              · exact .inl ⟨hn47 47 h1, hn47 35 h2⟩
              · refine .inr (.inl ⟨hb47 47 h1, hn47 35 (by omega), ?_⟩)
                rcases hnx with ⟨h5, -⟩ | ⟨d, hk1, hd, hidn⟩
                · exact .inl (by omega)
                · exact .inr ⟨d, by omega, beq_eq_false_iff_ne.2 (fun h => h2 (by rw [hd]; congr 1; omega)), hidn⟩
              · refine .inr (.inr ⟨hn47 47 h1, hb47 35 h2, ?_⟩)
                rcases hnx with ⟨h5, -⟩ | ⟨d, hk1, hd, hidn⟩
                · exact .inl (by omega)
                · exact .inr ⟨d, by omega, beq_eq_false_iff_ne.2 (fun h => h3 (by rw [hd]; congr 1; omega)), hidn⟩
            have HCE := Lib.hid hce
            clear hno hnx hce hb3
            rcases hcases with ⟨g47, g35⟩ | ⟨g47, g35, hge | ⟨d, gk, gd, hidn⟩⟩ | ⟨g47, g35, hge | ⟨d, gk, gd, hidn⟩⟩
            all_goals
              go_wp2_with (fail)
              refine (HBK.out _).mono ?_
              rintro e w' ⟨rfl, rfl⟩
              rewrite [hb1]
              go_wp2_with (fail)
              refine (HLT.out _).mono ?_
              rintro e w' ⟨rfl, rfl⟩
              rewrite [hb2]
              go_wp2_with (fail)
              refine (HDG.out _).mono ?_
              rintro e w' ⟨rfl, rfl⟩
              rewrite [hb4]
              rcases HCE.out with ⟨hsg, hce⟩ | ⟨hsg, hce⟩
              · have HE := Lib.hid hce
                clear hce
                go_wp2_with (fail)
                refine (HSG.out _).mono ?_
                rintro e w' ⟨rfl, rfl⟩
                rewrite [hsg]
                go_wp2
                go_meet
                case rel =>
                  have hset := TK.out.set 0 (.int .u8 3) ⟨3, [], 0, n, (k : Int) + 1⟩ rfl
                  exact ⟨k + 1, by go_num, by rw [HE.out]; rfl, by rw [HE.out], by rw [HE.out]; exact hset⟩
              · have HE := Lib.hid hce
                clear hce
                go_wp2_with (fail)
                refine (HSG.out _).mono ?_
                rintro e w' ⟨rfl, rfl⟩
                rewrite [hsg]
                go_wp2
                go_meet
                case rel => exact ⟨k + 1, by go_num, by rw [HE.out]; rfl, by rw [HE.out], by rw [HE.out]; exact TK.out⟩
      case rest =>
        obtain ⟨k2, rfl, hk2, rfl, hwt⟩ := hcut
        have TW := Lib.hid hwt
        have HK2 := Lib.hid hk2
        have hk2s : k2 ≤ S.size := by have := HCL.out; omega
        have hk2k : k < k2 := by omega
        have HTX := Lib.hid (show S.extract k k2 = strOf ((b :: l.drop (k + 1)).take (c.more + 1)) by
          have h7 := str_part H.out k k2
          rw [HDR.out, show k2 - k = c.more + 1 by omega] at h7
          exact str_of h7)
        have HNE := Lib.hid (show lxRun n ((k : Int) + 1) (l.drop k) = (lxTok b (l.drop (k + 1)) n ((k : Int) + 1) ++ (lxRun n ((k2 : Int) + 1) (l.drop k2)).1, lxBad b (l.drop (k + 1)) n ((k : Int) + 1) ++ (lxRun n ((k2 : Int) + 1) (l.drop k2)).2) by
          rw [HRC.out, ← HC.out, List.drop_drop, show k + 1 + c.more = k2 by omega, show (k : Int) + 1 + (c.more : Nat) + 1 = (k2 : Int) + 1 by omega])
        have HTK := Lib.hid (show lxTok b (l.drop (k + 1)) n ((k : Int) + 1) = if c.e = 0 ∧ c.kind ≠ 0 then [⟨c.kind, (b :: l.drop (k + 1)).take (c.more + 1), c.v, n, (k : Int) + 1⟩] else [] by unfold lxTok; rw [← HC.out])
        have HBD := Lib.hid (show lxBad b (l.drop (k + 1)) n ((k : Int) + 1) = if c.e = 0 then [] else [⟨n, (k : Int) + 1, c.e⟩] by unfold lxBad; rw [← HC.out])
        clear hwt hk2 HBK HLT HDG HSG HW TK HRC HCL hidx
        generalize (b :: l.drop (k + 1)).take (c.more + 1) = tx at *
        obtain ⟨mo, ki, va, er⟩ := c
        simp only [] at *
        generalize lxTok b (l.drop (k + 1)) n ((k : Int) + 1) = tk1 at *
        generalize lxBad b (l.drop (k + 1)) n ((k : Int) + 1) = bd1 at *
        obtain ⟨c0, c1, c2, c3, c4⟩ := tok_cells TW.out
        have ft := free_of_lit TW.out.blk
        have lt := heap_lt TW.out.blk
        have hkj0 : (0 : Int) ≤ (k : Int) := by omega
        have hkj1 : (k : Int) ≤ (k2 : Int) := by omega
        have hkj2 : (k2 : Int) ≤ (S.size : Int) := by omega
        have TS := Lib.hid (TW.out.set 1 (.string (S.extract k k2)) ⟨ki, tx, va, n, (k : Int) + 1⟩ (by rw [HTX.out]; rfl))
        go_upto_region 34 with (fail)
        refine world_named (fun u => RTok w v1 v2 l1 l2 wr.heap.size ⟨ki, tx, va, n, (k : Int) + 1⟩ u) TS.out ?_
        intro z hz'
        have TZ := Lib.hid hz'
        clear hz' TS TW c0 c1 c2 c3 c4 ft lt
        obtain ⟨c0, c1, c2, c3, c4⟩ := tok_cells TZ.out
        have lt := heap_lt TZ.out.blk
        by_cases hen : er = 0
        · have ge : (er != 0) = false := by rw [hen]; rfl
          have hbd := HBD.out
          rewrite [if_pos hen] at hbd
          by_cases hkn : ki = 0
          · have gk : (ki != 0) = false := by rw [hkn]; rfl
            have htk := HTK.out
            rewrite [if_neg (fun h => h.2 hkn)] at htk
            have HFIN := Lib.hid (show lxRun n 1 l = (l1 ++ (lxRun n ((k2 : Int) + 1) (l.drop k2)).1, l2 ++ (lxRun n ((k2 : Int) + 1) (l.drop k2)).2) by rw [HR.out, HNE.out, htk, hbd]; rfl)
            clear htk hbd hen hkn
            go_wp2
            go_roundw
            case rel => exact ⟨k2, v1, v2, l1, l2, hk2s, rfl, rfl, rfl, TZ.out.two, HFIN.out⟩
            case measure => simp [intOf]; omega
          · have gk : (ki != 0) = true := bne_iff_ne.2 hkn
            have htk := HTK.out
            rewrite [if_pos ⟨hen, hkn⟩] at htk
            have HFIN := Lib.hid (show lxRun n 1 l = (l1 ++ [⟨ki, tx, va, n, (k : Int) + 1⟩] ++ (lxRun n ((k2 : Int) + 1) (l.drop k2)).1, l2 ++ (lxRun n ((k2 : Int) + 1) (l.drop k2)).2) by rw [HR.out, HNE.out, htk, hbd]; simp only [List.append_assoc, List.nil_append])
            clear htk hbd hen hkn
            have KA := Lib.hid (TZ.out.two.next ((Made.refl z).alloc (Nat.le_refl _) (.cells ([(⟨ki, tx, va, n, (k : Int) + 1⟩ : Tk)].flatMap Tk.cells).toArray 44)))
            have HOL := Lib.hid (tok_olds z 44 ⟨ki, tx, va, n, (k : Int) + 1⟩)
            have hsz2 := Lib.hid KA.out.made.size
            have hmx : l1.length + 1 ≤ maxLen := by unfold maxLen; omega
            have hby : (l1.length + 1) * 48 ≤ 140737488355328 := by omega
            go_wp2_with (at_builtin; refine wpList_append_each rfl (.tmp 156) (.tmp 158) 33 rfl w.heap.size 44 i0 (Tk.val ⟨0, [], 0, 0, 0⟩) 5 48 Try.underlying33 hi0 hz0 hz1 hz2 rfl (by decide) v1 l1.length (l1.flatMap Tk.cells) rfl KA.out.fst.row (some ⟨z.heap.size, 0, none⟩) 1 1 ([(⟨ki, tx, va, n, (k : Int) + 1⟩ : Tk)].flatMap Tk.cells) rfl (fun h => by simp at h) rfl HOL.out (tk_one _) hmx hby hsz2.out ?_; intro v7 w9 own1 gr1; have KG := Lib.hid (KA.out.more1 types_apart rfl own1 gr1); clear own1 gr1)
            go_roundw
            case rel => exact ⟨k2, v7, v2, _, l2, hk2s, rfl, rfl, rfl, KG.out, HFIN.out⟩
            case measure => simp [intOf]; omega
        · have ge : (er != 0) = true := bne_iff_ne.2 hen
          have hbd := HBD.out
          rewrite [if_neg hen] at hbd
          have htk := HTK.out
          rewrite [if_neg (fun h => hen h.1)] at htk
          have HFIN := Lib.hid (show lxRun n 1 l = (l1 ++ (lxRun n ((k2 : Int) + 1) (l.drop k2)).1, l2 ++ [⟨n, (k : Int) + 1, er⟩] ++ (lxRun n ((k2 : Int) + 1) (l.drop k2)).2) by rw [HR.out, HNE.out, htk, hbd]; simp only [List.append_assoc, List.nil_append])
          clear htk hbd hen
          have KA := Lib.hid (TZ.out.two.next ((Made.refl z).alloc (Nat.le_refl _) (.cells ([(⟨n, (k : Int) + 1, er⟩ : Wr)].flatMap Wr.cells).toArray 46)))
          have HOL := Lib.hid (wr_olds z 46 ⟨n, (k : Int) + 1, er⟩)
          have hsz2 := Lib.hid KA.out.made.size
          have hmx : l2.length + 1 ≤ maxLen := by unfold maxLen; omega
          have hby : (l2.length + 1) * 24 ≤ 140737488355328 := by omega
          go_wp2_with (at_builtin; refine wpList_append_each rfl (.tmp 145) (.tmp 151) 34 rfl w.heap.size 46 j0 (Wr.val ⟨0, 0, 0⟩) 3 24 Try.underlying34 hj0 hy0 hy1 hy2 rfl (by decide) v2 l2.length (l2.flatMap Wr.cells) rfl KA.out.snd.row (some ⟨z.heap.size, 0, none⟩) 1 1 ([(⟨n, (k : Int) + 1, er⟩ : Wr)].flatMap Wr.cells) rfl (fun h => by simp at h) rfl HOL.out (wr_one _) hmx hby hsz2.out ?_; intro v7 w9 own1 gr1; have KG := Lib.hid (KA.out.more2 types_apart rfl own1 gr1); clear own1 gr1)
          go_roundw
          case rel => exact ⟨k2, v1, v7, l1, _, hk2s, rfl, rfl, rfl, KG.out, HFIN.out⟩
          case measure => simp [intOf]; omega
end
end Go.Proofs.Ytlhociildcdnoaa
