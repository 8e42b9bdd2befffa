/- What line of the document's answer for isa returns, for every number. -/
import Derived.Test.YtabcakdnnnajiaaDoorIsaRef
import Derived.Test.YtabcakdnnnajiaaDoorIsaText
import Derived.IntWalk
namespace Go.Proofs.YtabcakdnnnajiaaDoor
open Go.ChangeShapes Go.WideShapes Go.ChangeAt Go.RowKit Go.Sort BigFrame

theorem str_index (S : ByteArray) (k : Nat) (b : UInt8) (h : k < S.size) (hb : S[k] = b) (w : World) : (Instr.index 9 (.string S) (.int .i64 k)).run Tryd.prog w = .ok (.int .u8 b.toNat) w := by
  go_simp
theorem byte_ne {a : UInt8} (h : a ≠ 59) : ((a.toNat : Int) != 59) = true := by
  rw [bne_iff_ne]
  intro e
  have : a.toNat = 59 := by omega
  exact h (UInt8.toNat_inj.1 this)
theorem str_slice (s : ByteArray) (m : Nat) (w : World) (h : m + 2 ≤ s.size) : (Instr.slice 9 (.string s) (some (.int .i64 ((m : Int) + 1))) (some (.int .i64 ((m : Int) + 2))) none).run Tryd.prog w = .ok (.string (s.extract (m + 1) (m + 2))) w :=
  run_slice_string w 9 s .i64 .i64 ((m : Int) + 1) ((m : Int) + 2) (by kernel_rfl) (by omega) (by omega) (by omega)
theorem str_from (s : ByteArray) (m : Nat) (w : World) (h : m + 3 ≤ s.size) : (Instr.slice 9 (.string s) (some (.int .i64 ((m : Int) + 3))) none none).run Tryd.prog w = .ok (.string (s.extract (m + 3) s.size)) w :=
  run_slice_string_l w 9 s (by kernel_rfl) .i64 ((m : Int) + 3) (by omega) (by omega)
theorem byte_ne2 {a : UInt8} (h : a ≠ 32) : ((a.toNat : Int) != 32) = true := by
  rw [bne_iff_ne]
  intro e
  have : a.toNat = 32 := by omega
  exact h (UInt8.toNat_inj.1 this)
theorem ext_list (S : ByteArray) (f k : Nat) : (S.extract f k).data.toList = (S.data.toList.drop f).take (k - f) := by
  rw [ByteArray.data_extract, Array.toList_extract, List.extract_eq_take_drop]
theorem bytes_of {a : ByteArray} {l : List UInt8} (h : a.data.toList = l) : a = ⟨l.toArray⟩ := by subst h; cases a; rfl
theorem line_name {s : ByteArray} {op : Nat} (h : s.data.toList = lineOf op) : s.extract 0 (nameL (op : Int)).length = nameZ op :=
  bytes_of (by rw [ext_list, h, lineOf]; simp)
theorem line_class {s : ByteArray} {op : Nat} (h : s.data.toList = lineOf op) : s.extract ((nameL (op : Int)).length + 1) ((nameL (op : Int)).length + 2) = ⟨#[classC op]⟩ :=
  bytes_of (l := [classC op]) (by rw [ext_list, h, lineOf, List.drop_append, List.drop_of_length_le (by omega)]; simp)
theorem line_rest {s : ByteArray} {op : Nat} (h : s.data.toList = lineOf op) (hl : s.size = (nameL (op : Int)).length + 3 + (letters op).length) : s.extract ((nameL (op : Int)).length + 3) s.size = ⟨(letters op).toArray⟩ :=
  bytes_of (by rw [ext_list, h, hl, lineOf, List.drop_append, List.drop_of_length_le (by omega)]; simp)
theorem byte_eq {a : UInt8} (h : a = 59) : ((a.toNat : Int) != 59) = false := by subst h; rfl
set_option maxRecDepth 100000 in
set_option maxHeartbeats 1000000 in
theorem refLine_any (op : Nat) (hop : op < 256) : Quiet Tryd.prog 17 #[.int .i64 op] (if 1 ≤ op ∧ op ≤ 31 then .tuple #[.string (nameZ op), .string ⟨#[classC op]⟩, .string ⟨(letters op).toArray⟩, .bool true] else .tuple #[.string ⟨#[]⟩, .string ⟨#[]⟩, .string ⟨#[]⟩, .bool false]) := by
  intro w
  generalize hV : (if 1 ≤ op ∧ op ≤ 31 then Value.tuple #[.string (nameZ op), .string ⟨#[classC op]⟩, .string ⟨(letters op).toArray⟩, .bool true] else .tuple #[.string ⟨#[]⟩, .string ⟨#[]⟩, .string ⟨#[]⟩, .bool false]) = V
  have HV := Lib.hid hV
  clear hV
  go_enter Tryd.func17, Tryd.ntmps17
  generalize hS : (ByteArray.mk (((([110, 111, 112, 32, 65, 32, 59, 97, 100, 100, 32, 65, 32, 99, 100, 115, 116, 59, 115, 117, 98, 32, 65, 32, 99, 100, 115, 116, 59, 97, 110, 100, 32, 65, 32, 99, 100, 115, 116, 59, 111].append [114, 32, 65, 32, 99, 100, 115, 116, 59, 120, 111, 114, 32, 65, 32, 99, 100, 115, 116, 59, 97, 100, 100, 105, 32, 65, 32, 100, 115, 105, 59, 109, 111, 118, 105, 32, 65, 32, 99, 100, 105, 59]).append ([109, 111, 118, 32, 65, 32, 99, 100, 115, 59, 99, 109, 112, 101, 113, 32, 65, 32, 112, 115, 116, 59, 99, 109, 112, 103, 116, 32, 65, 32, 112, 115, 116, 59, 99, 109, 112, 103, 116, 117, 32, 65].append [32, 112, 115, 116, 59, 99, 109, 112, 101, 113, 105, 32, 65, 32, 112, 115, 105, 59, 109, 117, 120, 32, 65, 32, 100, 113, 115, 116, 59, 97, 115, 108, 32, 88, 32, 100, 115, 117, 59, 108, 115, 114])).append (([32, 88, 32, 100, 115, 117, 59, 97, 115, 114, 32, 88, 32, 100, 115, 117, 59, 109, 112, 121, 32, 88, 32, 100, 115, 116, 59, 99, 109, 112, 121, 32, 88, 32, 100, 115, 116, 59, 99, 109, 112].append [121, 99, 32, 88, 32, 100, 115, 116, 59, 108, 100, 119, 32, 76, 32, 100, 115, 108, 59, 108, 100, 104, 32, 76, 32, 100, 115, 109, 59, 108, 100, 98, 32, 76, 32, 100, 115, 111, 59, 115, 116, 119]).append ([32, 83, 32, 115, 119, 116, 108, 59, 115, 116, 104, 32, 83, 32, 115, 119, 116, 109, 59, 115, 116, 98, 32, 83, 32, 115, 119, 116, 111, 59, 106, 117, 109, 112, 32, 74, 32, 99, 114, 59, 106, 117].append [109, 112, 114, 32, 74, 32, 99, 115, 59, 99, 97, 108, 108, 32, 74, 32, 120, 59, 108, 111, 111, 112, 105, 32, 67, 32, 110, 121, 118, 59, 108, 111, 111, 112, 114, 32, 67, 32, 110, 121, 115, 59])))).toArray) = S
  have hL : S.data.toList = linesB := by rw [← hS]; rfl
  have hsz : S.size = 334 := by show S.data.size = 334; rw [← Array.length_toList, hL]; exact lines_len
  have hget : ∀ i (h : i < S.size), S[i] = linesB.getD i 0 := by
    intro i h
    show S.data[i]'h = _
    rw [← Array.getElem_toList, List.getD_eq_getElem?_getD, ← hL, List.getElem?_eq_getElem]; rfl
  have HL := Lib.hid hL
  have HG := Lib.hid hget
  have HZ := Lib.hid hsz
  have hs1 : 334 ≤ S.size := by omega
  clear hS hL hget hsz
  go_wp2
  go_loopw [6, 7, 8] (fun n f i wr => ∃ k : Nat, k ≤ 334 ∧ i = .int .i64 k ∧ n = .int .i64 ((cntT.getD k 0 : Nat) + 1) ∧ f = .int .i64 (frmT.getD k 0 : Nat) ∧ (1 ≤ op → op ≤ 31 → cntT.getD k 0 < op) ∧ wr = w) (fun _ _ i _ => 334 - (intOf i).toNat)
  case atStart => exact ⟨0, by omega, rfl, rfl, rfl, fun h _ => h, rfl⟩
  case round =>
    obtain ⟨k, hk, rfl, rfl, rfl, hb, rfl⟩ := hrel
    have hcl := cnt_le k (by omega)
    by_cases hlt : k < 334
    · have hg := HG.out k (by omega)
      by_cases h59 : linesB.getD k 0 = 59
      · obtain ⟨e1, e2, e3, e4, e5⟩ := step_semi hlt h59
        have hidx := str_index S k (linesB.getD k 0) (by omega) hg
        have hne := byte_eq h59
        by_cases hco : (cntT.getD k 0 : Nat) + 1 = op
        · have hcb : (((cntT.getD k 0 : Nat) : Int) + 1 == (op : Int)) = true := beq_iff_eq.2 (by omega)
          rewrite [hco] at e5
          have E := Lib.hid e5
          have ho1 : 1 ≤ op := by omega
          have ho2 : op ≤ 31 := by omega
          have HV2 := Lib.hid ((HV.out.symm.trans (if_pos ⟨ho1, ho2⟩)))
          clear e1 e2 e5 hg h59 hco hb
          generalize ((linesB.getD k 0).toNat : Int) = b at *
          generalize cntT.getD k 0 = c at *
          generalize frmT.getD k 0 = f at *
          have hks : k ≤ S.size := by omega
          go_wp2
          generalize hs : S.extract f k = s
          have hsl : s.data.toList = lineOf op := by rw [← hs, ext_list, HL.out]; exact E.out
          clear hs hidx hne hcb
          have hN := name_no_space op (by omega)
          have hNl := name_len op (by omega)
          have hlen : s.size = (nameL op).length + 3 + (letters op).length := by
            show s.data.size = _
            rw [← Array.length_toList, hsl]; simp [lineOf]; omega
          have hsz1 : (nameL op).length + 3 ≤ s.size := by omega
          have hsz2 : s.size ≤ 13 := by omega
          have hin : ∀ j (h : j < (nameL op).length), (Instr.index 9 (.string s) (.int .i64 j)).run Tryd.prog wr = .ok (.int .u8 (nameL op)[j].toNat) wr := fun j h => str_index s j _ (by omega) (by
            show s.data[j]'_ = _
            rw [← Array.getElem_toList]; simp only [hsl, lineOf]; exact List.getElem_append_left h) wr
          have hsp := str_index s (nameL op).length 32 (by omega) (by
            show s.data[(nameL op).length]'_ = _
            rw [← Array.getElem_toList]; simp only [hsl, lineOf]; rw [List.getElem_append_right (Nat.le_refl _)]; simp) wr
          have HIN := Lib.hid hin
          have HSP := Lib.hid hsp
          have HSL := Lib.hid hsl
          have HN := Lib.hid hN
          have HLN := Lib.hid hlen
          clear hin hsp hsl hN hlen
          go_loop [10] (fun i => ∃ j : Nat, j ≤ (nameL op).length ∧ i = .int .i64 j) (fun i => (nameL op).length - (intOf i).toNat)
          case atStart => exact ⟨0, Nat.zero_le _, rfl⟩
          case round =>
            obtain ⟨j, hj, rfl⟩ := hrel
            have hj6 : j ≤ 6 := by omega
            by_cases hjl : j < (nameL op).length
            · have hi := HIN.out j hjl
              have hne : (((nameL op)[j].toNat : Int) != 32) = true := byte_ne2 (HN.out _ (List.getElem_mem _))
              generalize ((nameL op)[j].toNat : Int) = b at *
              go_wp2
              go_round
              case rel => exact ⟨j + 1, by omega, by go_num⟩
              case measure => simp [intOf]; omega
            · obtain rfl : j = (nameL op).length := by omega
              have hi := HSP.out
              go_wp2
              have w1 : IntKind.i64.wrap (((nameL (op : Int)).length : Int) + 1) = ((nameL (op : Int)).length : Int) + 1 := IntWalk.i64_in _ (by omega)
              have w2 : IntKind.i64.wrap (((nameL (op : Int)).length : Int) + 2) = ((nameL (op : Int)).length : Int) + 2 := IntWalk.i64_in _ (by omega)
              have w3 : IntKind.i64.wrap (((nameL (op : Int)).length : Int) + 3) = ((nameL (op : Int)).length : Int) + 3 := IntWalk.i64_in _ (by omega)
              have z1 : 0 ≤ ((nameL (op : Int)).length : Int) + 1 := by omega
              have z2 : 0 ≤ ((nameL (op : Int)).length : Int) + 2 := by omega
              have z3 : 0 ≤ ((nameL (op : Int)).length : Int) + 3 := by omega
              have t1 : (((nameL (op : Int)).length : Int) + 1).toNat = (nameL op).length + 1 := by omega
              have t2 : (((nameL (op : Int)).length : Int) + 2).toNat = (nameL op).length + 2 := by omega
              have t3 : (((nameL (op : Int)).length : Int) + 3).toNat = (nameL op).length + 3 := by omega
              have q1 := fun w => str_slice s ((nameL (op : Int)).length) w (by omega)
              have q2 := fun w => str_from s ((nameL (op : Int)).length) w (by omega)
              have l0 : (nameL (op : Int)).length ≤ s.size := by omega
              refine wp_region_quiet_lit (by kernel_rfl) (by kernel_rfl) ?_
              repeat (go_big_quiet_step (fail))
              refine wpQuiet_nil ?_
              intro _ hw'
              obtain ⟨nq, hw''⟩ := hw'
              subst hw''
              go_wp2
              refine bodyPost_ret (v := .tuple #[.string (s.extract 0 (nameL (op : Int)).length), .string (s.extract ((nameL (op : Int)).length + 1) ((nameL (op : Int)).length + 2)), .string (s.extract ((nameL (op : Int)).length + 3) s.size), .bool true]) (by simp [results, Tryd.results17, go_sem]) rfl ?_
              exact ⟨by rw [HV2.out, line_name HSL.out, line_class HSL.out, line_rest HSL.out HLN.out], nq, rfl⟩
        · have hcb : (((cntT.getD k 0 : Nat) : Int) + 1 == (op : Int)) = false := beq_eq_false_iff_ne.2 (by omega)
          have E := Lib.hid (And.intro e1 e2)
          clear e1 e2 e5 hg h59
          have hb2 : 1 ≤ op → op ≤ 31 → cntT.getD k 0 + 1 < op := fun h1 h2 => by have := hb h1 h2; omega
          have HB2 := Lib.hid hb2
          clear hb hb2 hco
          generalize ((linesB.getD k 0).toNat : Int) = b at *
          generalize cntT.getD k 0 = c at *
          generalize frmT.getD k 0 = f at *
          go_wp2
          go_roundw
          case rel => exact ⟨k + 1, by omega, by go_num, by rw [E.out.1]; go_num, by rw [E.out.2]; go_num, by rw [E.out.1]; exact HB2.out, trivial⟩
          case measure => simp [intOf]; omega
      · obtain ⟨e1, e2⟩ := step_other hlt h59
        have hidx := str_index S k (linesB.getD k 0) (by omega) hg
        have hne := byte_ne h59
        have E := Lib.hid (And.intro e1 e2)
        have HB2 := Lib.hid hb
        clear e1 e2 hg h59 hb
        generalize ((linesB.getD k 0).toNat : Int) = b at *
        generalize cntT.getD k 0 = c at *
        generalize frmT.getD k 0 = f at *
        go_wp2
        go_roundw
        case rel => exact ⟨k + 1, by omega, by go_num, by rw [E.out.1], by rw [E.out.2], by rw [E.out.1]; exact HB2.out, trivial⟩
        case measure => simp [intOf]; omega
    · obtain rfl : k = 334 := by omega
      rewrite [cnt_end] at hb
      have hno : ¬ (1 ≤ op ∧ op ≤ 31) := fun h => by have := hb h.1 h.2; omega
      have HV2 := Lib.hid (HV.out.symm.trans (if_neg hno))
      clear hb hno
      go_wp2
      refine bodyPost_ret (v := .tuple #[.string ⟨#[]⟩, .string ⟨#[]⟩, .string ⟨#[]⟩, .bool false]) (by simp [results, Tryd.results17, go_sem]) rfl ?_
      exact ⟨by rw [HV2.out], 0, rfl⟩
end Go.Proofs.YtabcakdnnnajiaaDoor
