/- ParseFirst of the laws of parse returns true, for all texts; conditions: the table of names and strconv's errors stand where their variables lie. -/
import Derived.Test.YtnfmlmamgkpocaaGreatDoorParLaws1
import Derived.Test.YtnfmlmamgkpocaaGreatDoorGParF
namespace Go.Proofs.YtnfmlmamgkpocaaGreatDoor
open Go.ChangeShapes Go.WideShapes Go.ChangeAt Go.RowKit Go.Sort BigFrame

theorem inst_range {L : List Tk} {x : Ln} {k : Nat} {e : Int} (h : instP L = (x, k, e)) : k ≤ L.length ∧ (e = 0 ∨ e = 3 ∨ e = 8) := by
  have hf := read_from L
  unfold instP at h
  split at h
  · rename_i a w hq
    rw [hq] at hf
    cases h
    exact ⟨hf.2.1, .inr (hf.2.2 _ _ rfl)⟩
  · rename_i a y hq
    rw [hq] at hf
    cases h
    exact ⟨hf.2.1, .inl rfl⟩
/-- What Inst tells of the tokens of a text, or of a part of them and others. -/
theorem inst_tells {W : World} (hN : Names W) (hE : Errs W) {L : List Tk} (hL : L.length ≤ 5000) (hS : ∀ t ∈ L, t.text.length ≤ 100000) {x : Ln} {k : Nat} {e : Int} (hI : instP L = (x, k, e)) (u : World) (hm : Made W u) (lo : Option Addr) (cap m : Nat) (hlen : L.length = m) (hT : Toks u lo cap L) :
    Calls Tryz.prog 13 #[.slice lo m cap] u fun y z => (∃ vo vc co cc, y = .returned (.tuple #[lnVal x (.slice vo x.value.length vc) (.slice co x.count.length cc), .int .i64 k, .int .i64 e]) ∧ Tms z vo vc x.value ∧ Tms z co cc x.count) ∧ Made u z := by
  subst hlen
  refine (inst_any u lo cap L hT (names_next hN hm) (hE.next hm) hL hS).mono fun y z hi => ?_
  obtain ⟨vo, vc, co, cc, rfl, h1, h2, h3⟩ := ipost_out hi hI
  exact ⟨⟨vo, vc, co, cc, rfl, h1, h2⟩, h3⟩
theorem tok_empty (w : World) : Grows Tk.cells 5 46 w w.heap.size (.slice (some ⟨w.heap.size, 0, none⟩) 0 0) [] (w.alloc (.cells #[] 46)) :=
  ⟨(Made.refl w).alloc (Nat.le_refl _) _, Nat.le_refl _, ⟨by simp, .inr ⟨w.heap.size, 0, #[], rfl, Nat.le_refl _, heap_alloc_new w _, Nat.le_refl _, Nat.zero_le _, by simp, by simp⟩⟩⟩
namespace parseFirst
section
attribute [local irreducible] World.cell?
set_option maxRecDepth 100000 in
set_option maxHeartbeats 16000000 in
theorem walk (W : World) (hN : Names W) (hE : Errs W) (a0 a1 : ByteArray) (w0 : a0.size ≤ maxLen) (w1 : a1.size ≤ maxLen) : Calls Tryz.prog 6 #[.string a0, .string a1] W fun e w' => e = .returned (.bool true) ∧ Made W w' := by
  have HA := Lib.hid (fun (u : World) (hu : Made W u) => awake16_any W hN hE u hu)
  unfold maxLen at w0 w1
  obtain ⟨S, l, hS, hl, hways⟩ := cut_text16 a0 400
  obtain ⟨T, m, hT, hm, hways2⟩ := cut_text16 a1 400
  have HC1 := Lib.hid (fun u => cut16_any S l hS (by omega) u)
  have HC2 := Lib.hid (fun u => cut16_own T m hT (by omega) u)
  have hf1 := cutE_few l
  have hf2 := cutE_few m
  have ht1 := cutE_tok (l := l) (by omega)
  have ht2 := cutE_tok (l := m) (by omega)
  obtain ⟨L, hL⟩ : ∃ L, cutE l = L := ⟨_, rfl⟩
  obtain ⟨K, hK⟩ : ∃ K, cutE m = K := ⟨_, rfl⟩
  rewrite [hL] at hf1 ht1
  rewrite [hK] at hf2 ht2
  have HT1 := Lib.hid ht1
  have HT2 := Lib.hid ht2
  have HLE := Lib.hid hL
  have HKE := Lib.hid hK
  clear ht1 ht2 hL hK
  obtain ⟨x, k, er, hI⟩ : ∃ x k e, instP L = (x, k, e) := ⟨_, _, _, rfl⟩
  obtain ⟨hk, her⟩ := inst_range hI
  obtain ⟨n, hn⟩ : ∃ n, L.length = n := ⟨_, rfl⟩
  obtain ⟨p, hp⟩ : ∃ p, K.length = p := ⟨_, rfl⟩
  have HI := Lib.hid (inst_tells hN hE (by omega) HT1.out hI)
  have HIn := Lib.hid hI
  have HNE := Lib.hid (And.intro hN hE)
  have HLn := Lib.hid hn
  have HKn := Lib.hid hp
  have hn4 : n ≤ 401 := by omega
  have hp4 : p ≤ 401 := by omega
  rewrite [hn] at hk
  have hsl : S.size ≤ 400 := by rw [str_size hS]; exact hl
  have htl : T.size ≤ 400 := by rw [str_size hT]; exact hm
  have hcut : ((a0.size : Int) ≤ 400 ∧ S = a0) ∨ ((400 : Int) < (a0.size : Int) ∧ S = a0.extract 0 400) := by
    rcases hways with ⟨h1, h2⟩ | ⟨h1, h2⟩
    · exact .inl ⟨h2, h1⟩
    · exact .inr ⟨h2, h1⟩
  have hcut2 : ((a1.size : Int) ≤ 400 ∧ T = a1) ∨ ((400 : Int) < (a1.size : Int) ∧ T = a1.extract 0 400) := by
    rcases hways2 with ⟨h1, h2⟩ | ⟨h1, h2⟩
    · exact .inl ⟨h2, h1⟩
    · exact .inr ⟨h2, h1⟩
  obtain ⟨i0, hi0, hz0, hz1, hz2⟩ := info_parts tkC_row
  clear hways hways2 hS hT hN hE hI hn hp hf1 hf2
  go_enter Tryz.func6, Tryz.ntmps6
  go_upto_if 15 with (fail)
  go_cut [0] from 16 to 17 (fun v wc => v = .string S ∧ W = wc)
  case first =>
    rcases hcut with ⟨hs, rfl⟩ | ⟨hs, rfl⟩
    · go_wp2
      go_meet
      case rel => exact ⟨rfl, rfl⟩
    · go_wp2
      go_meet
      case rel => exact ⟨rfl, rfl⟩
  case rest =>
    obtain ⟨rfl, rfl⟩ := hcut
    clear hcut
    go_upto_if 20 with (fail)
    go_cut [1] from 21 to 22 (fun v wc => v = .string T ∧ W = wc)
    case first =>
      rcases hcut2 with ⟨hs, rfl⟩ | ⟨hs, rfl⟩
      · go_wp2
        go_meet
        case rel => exact ⟨rfl, rfl⟩
      · go_wp2
        go_meet
        case rel => exact ⟨rfl, rfl⟩
    case rest =>
      obtain ⟨rfl, rfl⟩ := hcut
      clear hcut2
      go_wp2_with (fail)
      refine (HC1.out _).mono ?_
      rintro e w1 ⟨so, c, rfl, hT1, m1⟩
      rewrite [HLE.out] at hT1 ⊢
      rewrite [HLn.out]
      have KT := Lib.hid hT1
      have M1 := Lib.hid m1
      clear hT1 m1
      go_wp2_with (fail)
      refine (HI.out _ M1.out so c n HLn.out KT.out).mono ?_
      rintro e w2 ⟨⟨vo, vc, co, cc, rfl, -, -⟩, m2⟩
      have K2 := Lib.hid (show Toks (w2.alloc (.cells #[.int .u8 x.op, .int .u8 x.d, .int .u8 x.s, .int .u8 x.t, .int .u8 x.n, .int .u8 x.pred, .int .u8 x.mode, .bool x.new, .bool false, .int .u16 0, .int .i64 0, .slice vo x.value.length vc, .slice co x.count.length cc, .bool x.forced, .int .i64 x.line, .int .i64 x.col] TLN)) so c L ∧ Made W (w2.alloc (.cells #[.int .u8 x.op, .int .u8 x.d, .int .u8 x.s, .int .u8 x.t, .int .u8 x.n, .int .u8 x.pred, .int .u8 x.mode, .bool x.new, .bool false, .int .u16 0, .int .i64 0, .slice vo x.value.length vc, .slice co x.count.length cc, .bool x.forced, .int .i64 x.line, .int .i64 x.col] TLN)) from
        ⟨toks_made KT.out (m2.alloc m2.size _), Made.trans M1.out (m2.alloc m2.size _)⟩)
      clear m2
      go_upto_region 7 with (fail)
      refine world_named (fun y => Toks y so c L ∧ Made W y) K2.out ?_
      rintro y ⟨hy1, hy2⟩
      have KY := Lib.hid hy1
      have MY := Lib.hid hy2
      clear hy1 hy2 K2 KT M1 HI HC1
      by_cases he : er = 0
      · subst he
        go_wp2_with (fail)
        refine (HA.out _ MY.out).mono ?_
        rintro e w3 ⟨rfl, m3⟩
        have M3 := Lib.hid m3
        clear m3
        go_wp2
        go_ret
        exact ⟨rfl, M3.out⟩
      · have hef : (er == 0) = false := beq_eq_false_iff_ne.2 he
        by_cases hkn : k < n
        · have hkf : (k : Int) < (n : Int) := by omega
          have hk1 : (k : Int) + 1 ≤ 402 := by omega
          have hcap : (k : Int) + 1 ≤ (c : Int) := by have := KY.out.room; have := HLn.out; omega
          have hk0 : (0 : Int) ≤ (k : Int) + 1 := by omega
          have hl0 : 0 < L.length := by have := HLn.out; omega
          obtain ⟨t, ht⟩ : ∃ t, L[0] = t := ⟨_, rfl⟩
          obtain ⟨g, o, rfl, -, -, -, -, -⟩ := toks_cells KY.out hl0 t ht
          have GE := Lib.hid (tok_empty y)
          have hl1 : (L.take (k + 1)).length = k + 1 := by rw [List.length_take]; have := HLn.out; omega
          have OL := Lib.hid (recs_olds tk_len (by decide) (recs_first (toks_made KY.out GE.out.made) (k + 1)))
          have hfl : ((L.take (k + 1)).flatMap Tk.cells).length = (k + 1) * 5 := by rw [flat_len' tk_len, hl1]
          have hmx : 0 + (k + 1) ≤ maxLen := by unfold maxLen; omega
          have hby : (0 + (k + 1)) * 48 ≤ 140737488355328 := by omega
          have hsz1 := Lib.hid GE.out.made.size
          clear ht hl0
          go_wp2_with (at_builtin; refine wpList_append_each rfl (.tmp 40) (.tmp 44) 33 rfl y.heap.size 46 i0 (Tk.val ⟨0, [], 0, 0, 0⟩) 5 48 Tryz.underlying33 hi0 hz0 hz1 hz2 rfl (by decide) (.slice (some ⟨y.heap.size, 0, none⟩) 0 0) 0 [] rfl GE.out.row (some ⟨g, o, none⟩) (k + 1) c ((L.take (k + 1)).flatMap Tk.cells) rfl (fun h => by simp at h) hfl OL.out (tk_one _) hmx hby hsz1.out ?_; intro v1 w3 own1 gr1; have KG := Lib.hid (show Grows Tk.cells 5 46 y y.heap.size v1 (L.take (k + 1)) w3 from GE.out.more (l2 := L.take (k + 1)) (by rw [hl1]; rfl) own1 gr1); clear own1 gr1)
          refine (HC2.out _).mono ?_
          rintro e w4 ⟨so2, c2, rfl, hT2, m4, hno⟩
          rewrite [HKE.out] at hT2 hno ⊢
          rewrite [HKn.out] at hno ⊢
          have KG4 := Lib.hid (KG.out.next m4)
          have OL2 := Lib.hid (recs_olds tk_len (by decide) hT2)
          have hfl2 : (K.flatMap Tk.cells).length = p * 5 := by rw [flat_len' tk_len, HKn.out]
          have hmx2 : (L.take (k + 1)).length + p ≤ maxLen := by unfold maxLen; omega
          have hby2 : ((L.take (k + 1)).length + p) * 48 ≤ 140737488355328 := by omega
          have hsz4 := Lib.hid KG4.out.made.size
          have HNO := Lib.hid hno
          clear hT2 m4 hno KG
          go_wp2_with (at_builtin; refine wpList_append_each rfl (.tmp 45) (.tmp 47) 33 rfl y.heap.size 46 i0 (Tk.val ⟨0, [], 0, 0, 0⟩) 5 48 Tryz.underlying33 hi0 hz0 hz1 hz2 rfl (by decide) v1 (L.take (k + 1)).length ((L.take (k + 1)).flatMap Tk.cells) rfl KG4.out.row so2 p c2 (K.flatMap Tk.cells) rfl HNO.out hfl2 OL2.out (tk_one _) hmx2 hby2 hsz4.out ?_; intro v2 w5 own2 gr2; have KH := Lib.hid (KG4.out.more (l2 := K) (by rw [HKn.out]) own2 gr2); clear own2 gr2)
          obtain ⟨so3, c3, rfl, hrec⟩ := KH.out.recs tk_len (by decide)
          have M5 := Lib.hid (Made.trans MY.out KH.out.made)
          have hq : (L.take (k + 1) ++ K).length = k + 1 + p := by rw [List.length_append, hl1, HKn.out]
          have hq2 : (L.take (k + 1)).length + p = k + 1 + p := by rw [hl1]
          rewrite [hq]
          have HI2 := Lib.hid (inst_tells HNE.out.1 HNE.out.2 (L := L.take (k + 1) ++ K) (by omega) (fun t ht => (List.mem_append.1 ht).elim (fun h => HT1.out t (List.mem_of_mem_take h)) (fun h => HT2.out t h)) (inst_first HIn.out he (by rw [HLn.out]; exact hkn) K) w5 M5.out so3 c3 (k + 1 + p) hq hrec)
          clear hrec KH hq hq2
          go_wp2_with (fail)
          refine HI2.out.mono ?_
          rintro e w6 ⟨⟨vo2, vc2, co2, cc2, rfl, -, -⟩, m6⟩
          have M6 := Lib.hid (show Made W (w6.alloc (.cells #[.int .u8 lnZero.op, .int .u8 lnZero.d, .int .u8 lnZero.s, .int .u8 lnZero.t, .int .u8 lnZero.n, .int .u8 lnZero.pred, .int .u8 lnZero.mode, .bool lnZero.new, .bool false, .int .u16 0, .int .i64 0, .slice vo2 lnZero.value.length vc2, .slice co2 lnZero.count.length cc2, .bool lnZero.forced, .int .i64 lnZero.line, .int .i64 lnZero.col] TLN)) from Made.trans M5.out (m6.alloc m6.size _))
          clear m6 M5 HI2
          have hkk : ((k : Int) == (k : Int)) = true := beq_iff_eq.2 rfl
          have hee : (er == er) = true := beq_iff_eq.2 rfl
          go_upto_region 11 with (fail)
          refine world_named (fun y => Made W y) M6.out ?_
          intro z hz
          have MZ := Lib.hid hz
          clear hz M6
          go_wp2_with (fail)
          refine (HA.out _ MZ.out).mono ?_
          rintro e w7 ⟨rfl, m7⟩
          have M7 := Lib.hid m7
          clear m7
          go_wp2
          go_ret
          exact ⟨rfl, M7.out⟩
        · have hkf : (n : Int) ≤ (k : Int) := by omega
          go_wp2_with (fail)
          refine (HA.out _ MY.out).mono ?_
          rintro e w3 ⟨rfl, m3⟩
          have M3 := Lib.hid m3
          clear m3
          go_wp2
          go_ret
          exact ⟨rfl, M3.out⟩
end
end parseFirst
end Go.Proofs.YtnfmlmamgkpocaaGreatDoor
