/- What the document's own has, used and Slots of layer 9 return. -/
import Derived.Test.YtplafgegjbppmaaMatchTold
import Derived.Laws.AppendOwnNone
namespace Go.Proofs.Ytplafgegjbppmaa
open Go.ChangeShapes Go.WideShapes Go.ChangeAt Go.RowKit Go.Sort BigFrame

theorem even_nat (y : Nat) : (((y : Int) % 2) == 1) = (y % 2 == 1) := by
  rcases Nat.mod_two_eq_zero_or_one y with h | h
  · rw [h, show (y : Int) % 2 = 0 by omega]; rfl
  · rw [h, show (y : Int) % 2 = 1 by omega]; rfl
section
attribute [local irreducible] World.cell?
theorem has9_any (m s : Nat) (hm : m < 256) (hs : s < 4) : Still Try.prog 14 #[.int .u8 m, .int .i64 s] (.bool (hasN m s)) := by
  intro w
  go_enter Try.func14, Try.ntmps14
  go_wp2_with (fail)
  go_loopw [0, 5] (fun v x wr => ∃ (i y : Nat), i ≤ s ∧ v = .int .u8 y ∧ x = .int .i64 i ∧ y < 256 ∧ m / 2 ^ i = y ∧ wr = w) (fun _ x _ => s - (intOf x).toNat)
  case atStart => exact ⟨0, m, by omega, rfl, rfl, hm, by simp, rfl⟩
  case round =>
    obtain ⟨i, y, hi, rfl, rfl, hy, he, rfl⟩ := hrel
    have HE := Lib.hid he
    clear he
    by_cases hlt : i < s
    · have ed : ((y : Int).tdiv 2) = ((y / 2 : Nat) : Int) := by rw [Int.tdiv_eq_ediv_of_nonneg (by omega)]; omega
      have HX := Lib.hid (show m / 2 ^ (i + 1) = y / 2 by rw [Nat.pow_succ, ← Nat.div_div_eq_div_mul, HE.out])
      go_wp2
      go_roundw
      case rel => exact ⟨i + 1, y / 2, by omega, by go_num, by go_num, by omega, HX.out, trivial⟩
      case measure => simp [intOf]; omega
    · obtain rfl : i = s := by omega
      have HX := Lib.hid (show hasN m i = (y % 2 == 1) by unfold hasN; rw [HE.out])
      go_wp2
      go_ret
      exact ⟨ret_bool (by rw [HX.out]; exact even_nat y), rfl⟩
theorem used9_any (ao : Option Addr) (cap : Nat) (fs : List Nat) (s : Nat) (w : World) (hN : Nums .i64 w ao cap fs) (hl : fs.length ≤ 1000) :
    Calls Try.prog 15 #[.slice ao fs.length cap, .int .i64 s] w fun e w' => e = .returned (.bool (fs.contains s)) ∧ w = w' := by
  go_enter Try.func15, Try.ntmps15
  go_wp2_with (fail)
  go_loopw [5] (fun i wr => ∃ k : Nat, k ≤ fs.length ∧ i = .int .i64 k ∧ (fs.drop k).contains s = fs.contains s ∧ wr = w) (fun i _ => fs.length - (intOf i).toNat)
  case atStart => exact ⟨0, Nat.zero_le _, rfl, rfl, rfl⟩
  case round =>
    obtain ⟨k, hk, rfl, hat, rfl⟩ := hrel
    by_cases hlt : k < fs.length
    · obtain ⟨a, rfl⟩ := hN.some hlt
      have hc := hN.cell a rfl k hlt
      have hstep := contains_step (s := s) hlt
      rewrite [hat] at hstep
      have HS := Lib.hid hstep
      generalize fs.getD k 0 = z at *
      clear hstep hat
      by_cases hz : z = s
      · subst hz
        go_wp2
        go_ret
        exact ⟨ret_bool (by rw [HS.out]; simp), rfl⟩
      · have hzb : ((z : Int) == (s : Int)) = false := beq_eq_false_iff_ne.2 (by omega)
        have hzb2 : (z == s) = false := beq_eq_false_iff_ne.2 hz
        have HZ := Lib.hid hzb2
        clear hz hzb2
        go_wp2
        go_roundw
        case rel => exact ⟨k + 1, by omega, by go_num, by rw [HS.out, HZ.out]; rfl, trivial⟩
        case measure => simp [intOf]; omega
    · obtain rfl : k = fs.length := by omega
      rewrite [List.drop_length] at hat
      have HF := Lib.hid hat
      clear hat
      go_wp2
      go_ret
      exact ⟨ret_bool HF.out, rfl⟩
end
/-- 'append' of whatever came in to a slice of the call's own: nil, empty or not. -/
theorem wpList_append_all {P : Program} {w : World} {ops : Array Oper} {rest : List Oper} {o : Oper} {a : Act} {Q : Exit → Act → World → Prop} (hgd : o.guard = none) (s x : Operand) (t : TypeId)
    (ho : o.op = .call { callee := .builtin .append, args := #[s, x], argTypes := #[t, t] })
    (base : Nat) (e : TypeId) (i : TypeInfo) (z : Value) (bytes : Nat) (ht : P.underlying t = some (.slice e)) (hi : P.info? e = some i) (hz : i.zero = some z)
    (hsize : i.size = 1) (hby : i.bytes = bytes) (hzs : z.cells.size = 1)
    (v : Value) (n : Nat) (xs : List Value) (hs : a.eval s = v) (hown : w.ownsRow base e 1 v n xs)
    (ao : Option Addr) (m c : Nat) (news : List Value) (hx : a.eval x = .slice ao m c) (hnone : ao = none → m = 0 ∧ c = 0) (hl : news.length = m) (hnews : ∀ ad, ao = some ad → ∀ j u, news[j]? = some u → w.cell? (ad.add j) = some u) (h1 : ∀ u ∈ news, u.oneCell' = true)
    (h63 : n + m ≤ maxLen) (hbytes : (n + m) * bytes ≤ 140737488355328) (hbase : base ≤ w.heap.size)
    (h : ∀ v' w', w'.ownsRow base e 1 v' (n + m) (xs ++ news) → w.grownBy w' v.ownBlock → wpList P ops Q rest (a.put o.dst v') w') : wpList P ops Q (o :: rest) a w := by
  cases ao with
  | none =>
    obtain ⟨rfl, rfl⟩ := hnone rfl
    obtain rfl : news = [] := List.eq_nil_of_length_eq_zero hl
    exact wpList_append_own_none hgd s x t ho base e i 1 ht hi v n xs hs hown hx (h v w (by simpa using hown) ⟨rfl, rfl, rfl, Nat.le_refl _, fun _ _ _ => rfl⟩)
  | some ad =>
    exact wpList_append_own w hgd s x t ho base e i z 1 bytes ht hi hz hsize hby hzs (by decide) v n xs hs hown ad m c news hx (by omega) (hnews ad rfl) h1 h63 hbytes hbase fun v' w' h2 h3 _ => h v' w' h2 h3
theorem one_cells (zs : List Nat) : ∀ u ∈ intsV zs, u.oneCell' = true := by
  intro u hu
  obtain ⟨x, _, rfl⟩ := List.mem_map.1 hu
  rfl
/-- What the document's Slots hands back, from some slots on. -/
def Says9 (ns fs : List Nat) (w : World) (e : Ending) (w' : World) : Prop :=
  Made w w' ∧ ((search (ns.drop fs.length) fs = none ∧ e = .returned (.tuple #[.slice none 0 0, .bool false])) ∨
    ∃ so sc l, search (ns.drop fs.length) fs = some l ∧ e = .returned (.tuple #[.slice so l.length sc, .bool true]) ∧ Nums .i64 w' so sc l)
theorem none_search' {k : List Nat → Option (List Nat)} {m s : Nat} {a : List Nat} (h : k (a ++ [s]) = none) : pickS k m a s = none := by
  unfold pickS
  split
  · exact h
  · rfl
section
attribute [local irreducible] World.cell?
set_option maxHeartbeats 4000000 in
theorem slots9_any (ns : List Nat) (ao : Option Addr) (cap : Nat) (d : Nat) : ∀ (fs : List Nat) (fo : Option Addr) (fc : Nat) (w : World), fs.length + d = ns.length → Masks w ao cap ns → Nums .i64 w fo fc fs →
    Calls Try.prog 9 #[.slice ao ns.length cap, .slice fo fs.length fc] w (Says9 ns fs w) := by
  induction d with
  | zero =>
    intro fs fo fc w hd hM hF
    have KX := Lib.hid (show Says9 ns fs w (.returned (.tuple #[.slice fo fs.length fc, .bool true])) w from ⟨Made.refl _, .inr ⟨fo, fc, fs, by rw [show fs.length = ns.length by omega, List.drop_length]; rfl, rfl, hF⟩⟩)
    have hb : ((fs.length : Int) == (ns.length : Int)) = true := beq_iff_eq.2 (by omega)
    have HD := Lib.hid hd
    clear hM hF hd
    go_enter Try.func9, Try.ntmps9
    go_wp2_with (fail)
    go_ret2
    exact KX.out
  | succ d ih =>
    intro fs fo fc w hd hM hF
    have hfew := hM.few
    have hlt0 : fs.length < ns.length := by omega
    obtain ⟨a, rfl⟩ := hM.nums.some hlt0
    obtain ⟨i0, hi, hz0, hz1, hz2⟩ := info_parts int_row
    have hb : ((fs.length : Int) == (ns.length : Int)) = false := beq_eq_false_iff_ne.2 (by omega)
    have hcm := hM.nums.cell a rfl _ hlt0
    have hbyte := hM.byte fs.length
    have hdrop : ns.drop fs.length = ns.getD fs.length 0 :: ns.drop (fs.length + 1) := by
      rw [List.drop_eq_getElem_cons hlt0]
      simp [List.getD, hlt0]
    have HX1 := Lib.hid (fun l s h1 h2 h3 => search_hit (ns.getD fs.length 0) (ns.drop (fs.length + 1)) fs l s h1 h2 h3)
    have HX2 := Lib.hid (search_miss (ns.getD fs.length 0) (ns.drop (fs.length + 1)) fs)
    rewrite [← hdrop] at HX1 HX2
    have HI := Lib.hid (fun s => ih (fs ++ [s]))
    have HM := Lib.hid hM
    have HF := Lib.hid hF
    have hb1 : (0 + fs.length) * 8 ≤ 140737488355328 := by omega
    have hb2 : (0 + fs.length + 1) * 8 ≤ 140737488355328 := by omega
    have hx1 : 0 + fs.length ≤ maxLen := by unfold maxLen; omega
    have hx2 : 0 + fs.length + 1 ≤ maxLen := by unfold maxLen; omega
    have hil : (intsV fs).length = fs.length := by simp [intsV]
    clear hM hF ih hdrop
    generalize ns.getD fs.length 0 = mk at *
    go_enter Try.func9, Try.ntmps9
    go_wp2_with (fail)
    go_loopw [6] (fun x wr => ∃ s : Nat, s ≤ 4 ∧ x = .int .i64 s ∧ Made w wr ∧ ∀ j, j < s → pickS (search (ns.drop (fs.length + 1))) mk fs j = none) (fun x _ => 4 - (intOf x).toNat)
    case atStart => exact ⟨0, by omega, rfl, Made.refl _, fun j hj => absurd hj (Nat.not_lt_zero j)⟩
    case round =>
      obtain ⟨s, hs, rfl, hm, hnone⟩ := hrel
      have KM := Lib.hid hm
      have KN := Lib.hid hnone
      clear hm hnone
      by_cases hs4 : s < 4
      · have hcm2 := made_cell KM.out _ _ hcm
        have CA := Lib.hid (has9_any mk s hbyte hs4)
        have CC := Lib.hid (fun v (hv : Made w v) => used9_any fo fc fs s v (HF.out.made hv) (by omega))
        have HNX := Lib.hid (fun h => none_next (k := search (ns.drop (fs.length + 1))) (m := mk) (a := fs) (s := s) KN.out h)
        cases hh : hasN mk s with
        | false =>
          rewrite [hh] at CA
          have KX := Lib.hid (HNX.out (none_has hh))
          clear hh
          go_wp2_with (go_at_call 14; refine (CA.out _).mono ?_; rintro e w' ⟨rfl, rfl⟩)
          go_roundw
          case rel => exact ⟨s + 1, by omega, by go_num, KM.out, KX.out⟩
          case measure => simp [intOf]; omega
        | true =>
          rewrite [hh] at CA
          cases hu : fs.contains s with
          | true =>
            rewrite [hu] at CC
            have KX := Lib.hid (HNX.out (none_used hu))
            clear hh hu
            go_wp2_with (first | (go_at_call 14; refine (CA.out _).mono ?_; rintro e w' ⟨rfl, rfl⟩) | (go_at_call 15; refine (CC.out _ KM.out).mono ?_; rintro e w' ⟨rfl, rfl⟩))
            go_roundw
            case rel => exact ⟨s + 1, by omega, by go_num, KM.out, KX.out⟩
            case measure => simp [intOf]; omega
          | false =>
            rewrite [hu] at CC
            have HP := Lib.hid (show ∀ k : List Nat → Option (List Nat), pickS k mk fs s = k (fs ++ [s]) from fun k => if_pos (by rw [hh, hu]; rfl))
            have m2 := KM.out.alloc KM.out.size (.cells #[] 3)
            have hnone := HF.out.bare
            have hold := nums_olds (HF.out.made m2)
            have hown0 := World.ownsRow_made (e := 3) (size := 1) wr #[] 0 KM.out.size (Nat.zero_le _) rfl
            have HO := Lib.hid hold
            have HB := Lib.hid (show fo = none → fs.length = 0 ∧ fc = 0 from fun h => ⟨by rw [(hnone h).1]; rfl, (hnone h).2⟩)
            have H0 := Lib.hid hown0
            have K2 := Lib.hid m2
            clear hh hu hold hown0 m2 hnone
            go_upto_region 8 with (first
              | (go_at_call 14; refine (CA.out _).mono ?_; rintro e w' ⟨rfl, rfl⟩)
              | (go_at_call 15; refine (CC.out _ KM.out).mono ?_; rintro e w' ⟨rfl, rfl⟩)
              | (at_builtin; refine wpList_append_all rfl (.tmp 33) (.tmp 34) 24 rfl w.heap.size 3 i0 (.int .i64 0) 8 Try.underlying24 hi hz0 hz1 hz2 rfl (.slice (some ⟨wr.heap.size, 0, none⟩) 0 0) 0 [] rfl H0.out fo fs.length fc (intsV fs) rfl HB.out hil HO.out (one_cells fs) hx1 hb1 K2.out.size ?_; intro v1 w1 hown1 hgr1))
            have hm1 : Made w w1 := Below.grown K2.out hgr1 K2.out.size (fun k hk => (H0.out.lt k hk).1)
            have m3 := hm1.alloc hm1.size (.cells #[.int .i64 s] 3)
            have hrow := hown1.lt
            have HO1 := Lib.hid (World.ownsRow.alloc hown1 (.cells #[.int .i64 s] 3))
            have K3 := Lib.hid m3
            clear hown1 hgr1 hm1 m3
            go_wp2_with (at_builtin; refine wpList_append_own _ rfl (.tmp 36) (.tmp 38) 24 rfl w.heap.size 3 i0 (.int .i64 0) 1 8 Try.underlying24 hi hz0 hz1 hz2 rfl (by decide) v1 (0 + fs.length) ([] ++ intsV fs) rfl HO1.out ⟨w1.heap.size, 0, none⟩ 1 1 [.int .i64 s] rfl rfl (new_cell _ _ _) (by simp [Value.oneCell']) hx2 hb2 K3.out.size ?_; intro v2 w2 hown2 hgr2 _; obtain ⟨g, cap', rfl⟩ := owns_shape hown2)
            rewrite [List.nil_append, ints_snoc] at hown2
            obtain ⟨-, hnum⟩ := owns_nums hown2
            have hm2 : Made w w2 := Below.grown K3.out hgr2 K3.out.size (fun k hk => (hrow k hk).1)
            have HC := HI.out s (some ⟨g, 0, none⟩) cap' w2 (by simp; omega) (HM.out.made hm2) hnum
            have HL2 := Lib.hid (show (fs ++ [s]).length = fs.length + 1 by simp)
            rewrite [HL2.out] at HC
            have HP1 := HP.out (search (ns.drop (fs.length + 1)))
            have K4 := Lib.hid hm2
            clear hm2 hnum hown2 hgr2 hrow
            refine HC.mono ?_
            rintro e w3 ⟨hm3, hr⟩
            rewrite [HL2.out, ← HP1] at hr
            have K5 := Lib.hid (Made.trans K4.out hm3)
            clear hm3 HC HP1
            rcases hr with ⟨hr, rfl⟩ | ⟨so, sc, l, hr, rfl, hn⟩
            · have KX := Lib.hid (HNX.out hr)
              clear hr
              go_wp2
              go_roundw
              case rel => exact ⟨s + 1, by omega, by go_num, K5.out, KX.out⟩
              case measure => simp [intOf]; omega
            · have KX := Lib.hid (show Says9 ns fs w (.returned (.tuple #[.slice so l.length sc, .bool true])) w3 from ⟨K5.out, .inr ⟨so, sc, l, HX1.out l s hs4 KN.out hr, rfl, hn⟩⟩)
              clear hr hn
              go_wp2
              go_ret2
              exact KX.out
      · obtain rfl : s = 4 := by omega
        have KX := Lib.hid (show Says9 ns fs w (.returned (.tuple #[.slice none 0 0, .bool false])) wr from ⟨KM.out, .inl ⟨HX2.out KN.out, rfl⟩⟩)
        go_wp2
        go_ret2
        exact KX.out
end
end Go.Proofs.Ytplafgegjbppmaa
