/- What Inst of package parse returns; conditions: the tokens are at most 5000, none longer than 100000; the table of names and strconv's errors stand where their variables lie. · What the laws of parse are made of: a text's tokens without ends; terms that are the same; condition: the text's length. · What same, name, number and reads of the laws of parse return; conditions: on lengths. -/
import Derived.Test.YtnfmlmamgkpocaaGreatDoorParIbad
import Derived.Test.YtnfmlmamgkpocaaGreatDoorParIok
import Derived.Test.YtnfmlmamgkpocaaGreatDoorGExprM
import Derived.Test.YtnfmlmamgkpocaaGreatDoorGLexX
import Derived.Test.YtnfmlmamgkpocaaGreatDoorGLexM
import Derived.Test.YtnfmlmamgkpocaaGreatDoorGBase
import Derived.Great.Walk
import Derived.Deep.Cut
import Derived.BigQuiet
import Derived.Laws.StructEq
namespace Go.Proofs.YtnfmlmamgkpocaaGreatDoor
section

theorem inst_any (w : World) (lo : Option Addr) (cap : Nat) (L : List Tk) (hT : Toks w lo cap L) (hN : Names w) (hE : Errs w) (hL : L.length ≤ 5000) (hS : ∀ t ∈ L, t.text.length ≤ 100000) : Calls Tryz.prog 13 #[.slice lo L.length cap] w (IPost w L) := by
  cases hq : readP L with
  | bad k y => exact inst_bad w lo cap L hT hN hE hL hS k y hq
  | ok k x => exact inst_ok w lo cap L hT hN hE hL hS k x hq
end
section
open Go.ChangeShapes Go.WideShapes Go.ChangeAt Go.RowKit Go.Sort BigFrame

theorem placed_text16 {s : List UInt8} : ∀ {p : Nat} {l : List Tk}, PlacedT s p l → ∀ t ∈ l, t.text.length ≤ s.length
  | p, t :: r, h, x, hx => by
    obtain ⟨q, -, -, h1, -, -, -, h2⟩ := h
    rcases List.mem_cons.1 hx with rfl | hx
    · omega
    · exact placed_text16 h2 x hx
/-- The tokens that are no ends. -/
def offE16 (L : List Tk) : List Tk := L.filter fun t => decide (t.kind ≠ 4)
theorem off_next16 {L : List Tk} {k : Nat} (h : k < L.length) (x : Tk) (hx : L[k] = x) : offE16 (L.take (k + 1)) = offE16 (L.take k) ++ if x.kind ≠ 4 then [x] else [] := by
  subst hx
  unfold offE16
  rw [List.take_succ_eq_append_getElem h, List.filter_append]
  congr 1
  by_cases h4 : L[k].kind = 4 <;> simp [h4]
theorem off_few16 (L : List Tk) (k : Nat) : (offE16 (L.take k)).length ≤ k := by
  unfold offE16
  exact Nat.le_trans (List.length_filter_le _ _) (by rw [List.length_take]; omega)
/-- The tokens that cut tells. -/
def cutE (s : List UInt8) : List Tk := offE16 (lexT s)
theorem cutE_short (s : List UInt8) : ∀ t ∈ cutE s, t.text.length ≤ s.length := fun t ht => placed_text16 (lex_placed s).1 t (List.mem_filter.1 (show t ∈ List.filter _ _ from ht)).1
theorem cutE_few (s : List UInt8) : (cutE s).length ≤ s.length + 1 := Nat.le_trans (List.length_filter_le _ _) (lexT_few s)
theorem tkC_row : (Tryz.prog.info? 46).map (fun i => (i.zero, i.size, i.bytes)) = some (some (Tk.val ⟨0, [], 0, 0, 0⟩), 5, 48) := by kernel_rfl
def CutE (s : List UInt8) (w : World) (x : Ending) (w' : World) : Prop := ∃ so c, x = .returned (.slice so (cutE s).length c) ∧ Toks w' so c (cutE s) ∧ Made w w'
def CutO (s : List UInt8) (w : World) (x : Ending) (w' : World) : Prop := ∃ so c, x = .returned (.slice so (cutE s).length c) ∧ Toks w' so c (cutE s) ∧ Made w w' ∧ (so = none → (cutE s).length = 0 ∧ c = 0)
theorem own_none {w : World} {B s n : Nat} {T : TypeId} {v : Value} {xs : List Value} (h : w.ownsRow B T s v n xs) {so : Option Addr} {m c : Nat} (e : v = .slice so m c) (hs : so = none) : m = 0 ∧ c = 0 := by
  rcases h.2 with ⟨rfl, rfl⟩ | ⟨g, cap, cur, rfl, _⟩
  · cases e
    exact ⟨rfl, rfl⟩
  · cases e
    cases hs
section
attribute [local irreducible] World.cell?
set_option maxRecDepth 100000 in
set_option maxHeartbeats 16000000 in
theorem cut16_own (S : ByteArray) (s : List UInt8) (h : IsStr S s) (hl : s.length ≤ 5000) (w : World) : Calls Tryz.prog 14 #[.string S] w (CutO s w) := by
  have HX := Lib.hid (lex_any S s h (by omega) w)
  have hfw := lexT_few s
  obtain ⟨i0, hi0, hz0, hz1, hz2⟩ := info_parts tkC_row
  obtain ⟨T, hT⟩ : ∃ T, lexT s = T := ⟨_, rfl⟩
  rewrite [hT] at hfw
  have HTT := Lib.hid hT
  clear h
  go_enter Tryz.func14, Tryz.ntmps14
  go_wp2_with (fail)
  refine HX.out.mono ?_
  rintro x w1 ⟨so, n, c, dg, m, d, rfl, hn, hm, hTk, -, hM⟩
  rewrite [hT] at hn hTk
  have KT := Lib.hid hTk
  have HN := Lib.hid hn
  have M1 := Lib.hid hM
  have hnn : n ≤ 5001 := by omega
  have G0 := Lib.hid (show Grows Tk.cells 5 46 w1 w1.heap.size (.slice none 0 0) [] w1 from grows_nil (Made.refl w1) (Nat.le_refl _))
  clear hn hm hTk hM hT HX
  go_wp2_with (fail)
  go_loopw [5, 6] (fun tv iv wr => ∃ (k : Nat) (v1 : Value) (L1 : List Tk), k ≤ n ∧ v1 = tv ∧ iv = .int .i64 k ∧ Grows Tk.cells 5 46 w1 w1.heap.size v1 L1 wr ∧ L1 = offE16 (T.take k) ∧ L1.length ≤ k) (fun _ iv _ => n - (intOf iv).toNat)
  case atStart => exact ⟨0, _, [], Nat.zero_le _, rfl, rfl, G0.out, rfl, Nat.le_refl _⟩
  case round =>
    obtain ⟨k, v1, L1, hk, rfl, rfl, hg, hL1, hLn⟩ := hrel
    have KP := Lib.hid hg
    have HF := Lib.hid hL1
    clear hg hL1 G0
    by_cases hlt : k < n
    · have hkl : k < T.length := by have := HN.out; omega
      obtain ⟨x, hx⟩ : ∃ x, T[k] = x := ⟨_, rfl⟩
      have hkn : (k : Int) < (n : Int) := by omega
      obtain ⟨b, o, rfl, c0, c1, c2, c3, c4⟩ := toks_cells (toks_made KT.out KP.out.made) hkl x hx
      have HFX := Lib.hid (off_next16 hkl x hx)
      by_cases h4 : x.kind = 4
      · have g4 : (x.kind != 4) = false := bne_eq_false_iff_eq.2 h4
        have HNF := Lib.hid (show L1 = offE16 (T.take (k + 1)) by rw [HFX.out, if_neg (by simpa using h4), List.append_nil]; exact HF.out)
        clear h4 hx
        go_wp2
        go_roundw
        case rel => exact ⟨k + 1, v1, L1, by omega, rfl, by go_num, KP.out, HNF.out, by omega⟩
        case measure => simp [intOf]; omega
      · have g4 : (x.kind != 4) = true := bne_iff_ne.2 h4
        have HNF := Lib.hid (show L1 ++ [x] = offE16 (T.take (k + 1)) by rw [HFX.out, if_pos h4, HF.out])
        have KA := Lib.hid (KP.out.next ((Made.refl wr).alloc (Nat.le_refl _) (.cells ([x].flatMap Tk.cells).toArray 46)))
        have HOL := Lib.hid (tok_olds wr 46 x)
        have hsz2 := Lib.hid KA.out.made.size
        have hmx : L1.length + 1 ≤ maxLen := by unfold maxLen; omega
        have hby : (L1.length + 1) * 48 ≤ 140737488355328 := by omega
        clear h4 hx
        go_wp2_with (at_builtin; refine wpList_append_each rfl (.tmp 24) (.tmp 29) 33 rfl w1.heap.size 46 i0 (Tk.val ⟨0, [], 0, 0, 0⟩) 5 48 Tryz.underlying33 hi0 hz0 hz1 hz2 rfl (by decide) v1 L1.length (L1.flatMap Tk.cells) rfl KA.out.row (some ⟨wr.heap.size, 0, none⟩) 1 1 ([x].flatMap Tk.cells) rfl (fun h => by simp at h) rfl HOL.out (tk_one _) hmx hby hsz2.out ?_; intro v7 w9 own1 gr1; have KG := Lib.hid (KA.out.more rfl own1 gr1); clear own1 gr1)
        go_roundw
        case rel => exact ⟨k + 1, v7, L1 ++ [x], by omega, rfl, by go_num, KG.out, HNF.out, by rw [List.length_append, List.length_singleton]; omega⟩
        case measure => simp [intOf]; omega
    · obtain rfl : k = n := by omega
      have hno : ∀ so m c, v1 = .slice so m c → so = none → m = 0 ∧ c = 0 := fun so m c e => own_none KP.out.row e
      obtain ⟨so1, cp1, rfl, hrec⟩ := KP.out.recs tk_len (by decide)
      have HREC := Lib.hid (And.intro hrec (hno so1 L1.length cp1 rfl))
      have HLL := Lib.hid (show L1 = cutE s by rw [HF.out, ← HN.out, List.take_length, ← HTT.out]; rfl)
      clear hrec hno
      go_wp2
      go_ret
      have hm2 := Made.trans M1.out KP.out.made
      have hrr := HREC.out
      rw [HLL.out] at hrr ⊢
      exact ⟨so1, cp1, rfl, hrr.1, hm2, hrr.2⟩
theorem cut16_any (S : ByteArray) (s : List UInt8) (h : IsStr S s) (hl : s.length ≤ 5000) (w : World) : Calls Tryz.prog 14 #[.string S] w (CutE s w) :=
  (cut16_own S s h hl w).mono fun _ _ ⟨so, c, e, hT, hm, _⟩ => ⟨so, c, e, hT, hm⟩
theorem neq16 (x : Tm) (w : World) : (binOp .neq 38 x.val x.val).run Tryz.prog w = .ok (.bool false) w := by
  obtain ⟨x0, x1, x2, x3, x4⟩ := x
  simp [go_sem]
set_option maxRecDepth 100000 in
set_option maxHeartbeats 16000000 in
theorem terms16_any (s1 s2 : Option Addr) (c1 c2 : Nat) (l : List Tm) (w : World) (h1 : Tms w s1 c1 l) (h2 : Tms w s2 c2 l) (hl : l.length ≤ 100000) :
    Calls Tryz.prog 34 #[.slice s1 l.length c1, .slice s2 l.length c2] w fun e w' => e = .returned (.bool true) ∧ Made w w' := by
  obtain ⟨n, hn⟩ : ∃ n, l.length = n := ⟨_, rfl⟩
  rewrite [hn]
  have H1 := Lib.hid h1
  have H2 := Lib.hid h2
  have HN := Lib.hid hn
  have hn2 : n ≤ 100000 := by omega
  have hb1 : ((n : Int) != (n : Int)) = false := by simp
  clear h1 h2 hn hl
  go_enter Tryz.func34, Tryz.ntmps34
  go_wp2_with (fail)
  go_loopw [5] (fun i wr => ∃ k nd : Nat, k ≤ n ∧ i = .int .i64 k ∧ wr = w.drewN nd) (fun i _ => n - (intOf i).toNat)
  case atStart => exact ⟨0, 0, Nat.zero_le _, rfl, rfl⟩
  case round =>
    obtain ⟨k, nd, hk, rfl, hwr⟩ := hrel
    have HW := Lib.hid hwr
    have hmw : Made w wr := hwr ▸ below_drewN (Made.refl w) nd
    have MW := Lib.hid hmw
    clear hwr hmw
    by_cases hlt : k < n
    · have hkl : k < l.length := by have := HN.out; omega
      obtain ⟨x, hx⟩ : ∃ x, l[k] = x := ⟨_, rfl⟩
      obtain ⟨b, o, rfl, a0, a1, a2, a3, a4⟩ := tms_cells (H1.out.made tm_len MW.out) hkl x hx
      obtain ⟨b2, o2, rfl, e0, e1, e2, e3, e4⟩ := tms_cells (H2.out.made tm_len MW.out) hkl x hx
      have hop := neq16 x
      have k0 : (0 : Int) ≤ (k : Int) := by omega
      have k1 : (k : Int) < (n : Int) := by omega
      clear hx
      go_upto_region 6 with (fail)
      go_quiet (fail)
      rename_i nq
      go_wp2
      go_roundw
      case rel => exact ⟨k + 1, nd + nq, by omega, by go_num, by rw [HW.out]; simp only [World.drewN_drewN]⟩
      case measure => simp [intOf]; omega
    · obtain rfl : k = n := by omega
      go_wp2
      go_ret
      exact ⟨rfl, MW.out⟩
end
end
section
open Go.ChangeShapes Go.WideShapes Go.ChangeAt Go.RowKit Go.Sort BigFrame

abbrev inV (x : Ln) : Value := .agg #[.int .u8 x.op, .int .u8 x.d, .int .u8 x.s, .int .u8 x.t, .int .u8 x.n, .int .u8 x.pred, .int .u8 x.mode, .bool x.new, .bool false, .int .u16 0, .int .i64 0]
theorem eql16 (x : Ln) (w : World) : (binOp .eql 26 (inV x) (inV x)).run Tryz.prog w = .ok (.bool true) w := by
  simp [go_sem]
section
attribute [local irreducible] World.cell?
set_option maxRecDepth 100000 in
set_option maxHeartbeats 16000000 in
theorem same16_any (x : Ln) (l2 k2 : Int) (v1 v2 c1 c2 : Option Addr) (a1 a2 b1 b2 : Nat) (w : World) (h1 : Tms w v1 a1 x.value) (h2 : Tms w v2 a2 x.value) (h3 : Tms w c1 b1 x.count) (h4 : Tms w c2 b2 x.count) (hl : x.value.length ≤ 100000) (hc : x.count.length ≤ 100000) :
    Calls Tryz.prog 15 #[lnVal x (.slice v1 x.value.length a1) (.slice c1 x.count.length b1), lnVal { x with line := l2, col := k2 } (.slice v2 x.value.length a2) (.slice c2 x.count.length b2)] w fun e w' => e = .returned (.bool true) ∧ Made w w' := by
  have HT1 := Lib.hid (fun u (hu : Made w u) => terms16_any v1 v2 a1 a2 x.value u (h1.made tm_len hu) (h2.made tm_len hu) hl)
  have HT2 := Lib.hid (fun u (hu : Made w u) => terms16_any c1 c2 b1 b2 x.count u (h3.made tm_len hu) (h4.made tm_len hu) hc)
  have hop := eql16 x
  obtain ⟨nv, hnv⟩ : ∃ n, x.value.length = n := ⟨_, rfl⟩
  obtain ⟨nc, hnc⟩ : ∃ n, x.count.length = n := ⟨_, rfl⟩
  rewrite [hnv] at HT1
  rewrite [hnc] at HT2
  rewrite [hnv, hnc]
  obtain ⟨op, d, s, t, n, pred, mode, new, value, count, forced, line, col⟩ := x
  have hf : (forced == forced) = true := by cases forced <;> rfl
  clear h1 h2 h3 h4 hl hc hnv hnc
  go_enter Tryz.func15, Tryz.ntmps15
  go_wp2_with (fail)
  refine (HT1.out _ ?_).mono ?_
  · exact ((Made.refl w).alloc (Nat.le_refl _) _).alloc (by rw [World.size_alloc]; omega) _
  rintro e w1 ⟨rfl, m1⟩
  have M1 := Lib.hid (Made.trans (((Made.refl w).alloc (Nat.le_refl _) _).alloc (by rw [World.size_alloc]; omega) _) m1)
  have d1 : w1.cell? ⟨w.heap.size, 12, none⟩ = some (.slice c1 nc b1) := cell_of_lit (cs := [.int .u8 op, .int .u8 d, .int .u8 s, .int .u8 t, .int .u8 n, .int .u8 pred, .int .u8 mode, .bool new, .bool false, .int .u16 0, .int .i64 0, .slice v1 nv a1, .slice c1 nc b1, .bool forced, .int .i64 line, .int .i64 col]) (m1.heap (heap_alloc2_old w _ _)) 12
  have d2 : w1.cell? ⟨w.heap.size + 1, 12, none⟩ = some (.slice c2 nc b2) := cell_of_lit (cs := [.int .u8 op, .int .u8 d, .int .u8 s, .int .u8 t, .int .u8 n, .int .u8 pred, .int .u8 mode, .bool new, .bool false, .int .u16 0, .int .i64 0, .slice v2 nv a2, .slice c2 nc b2, .bool forced, .int .i64 l2, .int .i64 k2]) (m1.heap (heap_alloc2_new w _ _)) 12
  clear m1 HT1
  go_wp2_with (fail)
  refine (HT2.out _ M1.out).mono ?_
  rintro e w2 ⟨rfl, m2⟩
  have M2 := Lib.hid (Made.trans M1.out m2)
  clear m2 HT2
  go_wp2
  go_ret
  exact ⟨rfl, M2.out⟩
end
end
end Go.Proofs.YtnfmlmamgkpocaaGreatDoor
