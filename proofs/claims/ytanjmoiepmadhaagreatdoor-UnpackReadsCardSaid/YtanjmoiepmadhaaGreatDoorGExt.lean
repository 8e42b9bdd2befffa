/- Values, extenders and their parts as plain data, for every op, instruction and address; no condition but the Go types' bounds. · What the functions of package ext return, for every argument, in every world that has grown out of one that holds the table of names. · What valueField, Extendable, Value, Fits, Needs of package ext return, for every op and instruction, in every world that has grown out of one that holds the table of names. · What Extendable, Value, Fits, Needs of package ext return, for every instruction and address, in every world that has grown out of one that holds the table of names. -/
import Derived.Test.YtanjmoiepmadhaaGreatDoorGInst
import Derived.Test.YtanjmoiepmadhaaGreatDoorGOf
namespace Go.Proofs.YtanjmoiepmadhaaGreatDoor
section
open Go

/-- The field that holds a value or a target. -/
def vfIn : List Fd → Option Fd
  | [] => none
  | f :: r => if f.kind = 9 ∨ f.kind = 10 then some f else vfIn r
def vfZ (op : Int) : Option Fd := vfIn (fieldsZ (opN op))
def vF (op : Int) : Fd := (vfZ op).getD fZero
def vB (op : Int) : Bool := (vfZ op).isSome
theorem vfIn_drop (l : List Fd) (k : Nat) (h : k < l.length) : vfIn (l.drop k) = if l[k].kind = 9 ∨ l[k].kind = 10 then some l[k] else vfIn (l.drop (k + 1)) := by
  rw [List.drop_eq_getElem_cons h]; rfl
/-- A number modulo 2^32, as a signed one. -/
def s32 (v : Int) : Int := if 2147483648 ≤ v % 4294967296 then v % 4294967296 - 4294967296 else v % 4294967296
theorem s32_bounds (v : Int) : -2147483648 ≤ s32 v ∧ s32 v ≤ 2147483647 := by
  unfold s32; split <;> constructor <;> omega
theorem sext_s32 (v : Int) : sextZ v 32 = s32 v := by
  unfold sextZ s32
  rw [if_pos ⟨by decide, by decide⟩]
  rfl
theorem s32_mod (v : Int) : s32 (v % 4294967296) = s32 v := by unfold s32; rw [Int.emod_emod]
theorem s32_sub (a b : Int) : s32 (a % 4294967296 - b) = s32 (a - b) := by
  have e : (a % 4294967296 - b) % 4294967296 = (a - b) % 4294967296 := by omega
  unfold s32; rw [e]
/-- An instruction's value, if the field is its value field. -/
def valZ (f : Fd) (x : In) (pc : Int) : Int := if f.kind = 10 then s32 (x.imm - pc) else x.imm
theorem valZ_bounds (f : Fd) (x : In) (pc : Int) (hx : x.small) : isI (valZ f x pc) := by
  have := s32_bounds (x.imm - pc)
  unfold valZ; split
  · exact ⟨by omega, by omega⟩
  · exact ⟨hx.imm0, hx.imm1⟩
def fitZ (f : Fd) (x : In) (pc : Int) : Bool := fitsB (valZ f x pc) f.bits f.shift f.sg
def valueP (x : In) (pc : Int) : Int := if vB x.op then valZ (vF x.op) x pc else 0
def fitP (x : In) (pc : Int) : Bool := !vB x.op || fitZ (vF x.op) x pc
def mayZ (op : Int) : Bool := vB op && (vF op).ext
def upperZ (v : Int) : Int := v / 256 % 16777216
def lowerZ (v : Int) : Int := v % 256
def joinZ (u l : Int) : Int := s32 (u % 16777216 * 256 + l % 256)
def targetZ (rel pc : Int) : Int := (pc + rel) % 4294967296
theorem get_upper (v : Int) : getZ (v % 4294967296) 8 24 = upperZ v := by
  unfold getZ upperZ
  rw [if_pos (by decide)]
  show v % 4294967296 / 256 % 16777216 = _
  omega
theorem get_lower (v : Int) : getZ (v % 4294967296) 0 8 = lowerZ v := by
  unfold getZ lowerZ
  rw [if_pos (by decide)]
  show v % 4294967296 / 1 % 256 = _
  omega
theorem put_upper (u : Int) : putZ 0 8 24 u = u % 16777216 * 256 := by
  unfold putZ
  rw [if_pos (by decide)]
  show 0 / 4294967296 * 4294967296 + u % 16777216 * 256 + 0 % 256 = _
  omega
theorem put_lower (w l : Int) : putZ w 0 8 l = w / 256 * 256 + l % 256 := by
  unfold putZ
  rw [if_pos (by decide)]
  show w / 256 * 256 + l % 256 * 1 + w % 1 = _
  omega
theorem join_put (u l : Int) : sextZ (putZ (putZ 0 8 24 u) 0 8 l) 32 = joinZ u l := by
  rw [put_upper, put_lower, sext_s32]
  unfold joinZ
  rw [show u % 16777216 * 256 / 256 * 256 + l % 256 = u % 16777216 * 256 + l % 256 by omega]
theorem join_i (u l : Int) : isI (joinZ u l) := by
  have := s32_bounds (u % 16777216 * 256 + l % 256)
  unfold joinZ; exact ⟨by omega, by omega⟩
theorem target_i (r p : Int) : isI (targetZ r p) := by unfold targetZ; exact ⟨by omega, by omega⟩
theorem value_i (x : In) (pc : Int) (hx : x.small) : isI (valueP x pc) := by
  have := valZ_bounds (vF x.op) x pc hx
  unfold valueP; split
  · exact this
  · exact ⟨by decide, by decide⟩
theorem vfIn_mem {l : List Fd} {f : Fd} (h : vfIn l = some f) : f ∈ l ∧ (f.kind = 9 ∨ f.kind = 10) := by
  induction l with
  | nil => cases h
  | cons g r ih =>
    unfold vfIn at h
    by_cases hg : g.kind = 9 ∨ g.kind = 10
    · rw [if_pos hg] at h; cases h; exact ⟨List.mem_cons_self, hg⟩
    · rw [if_neg hg] at h; exact ⟨List.mem_cons_of_mem _ (ih h).1, (ih h).2⟩
end
section
open Go.ChangeShapes Go.WideShapes Go.ChangeAt Go.RowKit Go.Sort BigFrame

theorem extSigned_any (v : Int) (hv : isU32 v) : Quiet Tryz.prog 187 #[.int .u32 v] (.int .i64 (s32 v)) := by
  intro w
  have h := sext_any v 32 hv ⟨by decide, by decide⟩
  rw [sext_s32] at h
  go_enter Tryz.func187, Tryz.ntmps187
  go_wp2_with (go_at_call 175; refine (h _).mono ?_; rintro e w' ⟨rfl, k, rfl⟩)
  go_ret
  exact ⟨rfl, k, rfl⟩
theorem extSplit_any (v : Int) : Quiet Tryz.prog 159 #[.int .i64 v] (.tuple #[.int .u32 (upperZ v), .int .u32 (lowerZ v)]) := by
  intro w
  have hu : isU32 (v % 4294967296) := ⟨by omega, by omega⟩
  have h1 := get_any (v % 4294967296) 8 24 hu ⟨by decide, by decide⟩
  have h2 := get_any (v % 4294967296) 0 8 hu ⟨by decide, by decide⟩
  rw [get_upper] at h1
  rw [get_lower] at h2
  go_enter Tryz.func159, Tryz.ntmps159
  go_wp2_with (first
    | (go_at_call 105; with_reducible refine (h1 _).mono ?_; rintro e w' ⟨rfl, k, rfl⟩)
    | (go_at_call 105; with_reducible refine (h2 _).mono ?_; rintro e w' ⟨rfl, k2, rfl⟩))
  refine bodyPost_ret (v := .tuple #[.int .u32 (upperZ v), .int .u32 (lowerZ v)]) (by simp [results, Tryz.results159, go_sem]) rfl ?_
  exact ⟨rfl, _, rfl⟩
theorem extJoin_any (u l : Int) (hu : isU32 u) (hl : isU32 l) : Quiet Tryz.prog 188 #[.int .u32 u, .int .u32 l] (.int .i64 (joinZ u l)) := by
  intro w
  have u0 : isU32 0 := ⟨by decide, by decide⟩
  have h1 := put_any 0 8 24 u u0 hu ⟨by decide, by decide⟩
  have hq := putZ_u32 0 8 24 u u0 hu
  have h2 := put_any (putZ 0 8 24 u) 0 8 l hq hl ⟨by decide, by decide⟩
  have hr := putZ_u32 (putZ 0 8 24 u) 0 8 l hq hl
  have h3 := extSigned_any _ hr
  rw [← sext_s32, join_put] at h3
  go_enter Tryz.func188, Tryz.ntmps188
  go_wp2_with (first
    | (go_at_call 104; with_reducible refine (h1 _).mono ?_; rintro e w' ⟨rfl, rfl⟩)
    | (go_at_call 104; with_reducible refine (h2 _).mono ?_; rintro e w' ⟨rfl, rfl⟩)
    | (go_at_call 187; with_reducible refine (h3 _).mono ?_; rintro e w' ⟨rfl, k, rfl⟩))
  go_ret
  exact ⟨rfl, k, rfl⟩
theorem extTarget_any (r p : Int) : Still Tryz.prog 189 #[.int .i64 r, .int .u32 p] (.int .i64 (targetZ r p)) := by
  intro w
  have e : (p + r % 4294967296) % 4294967296 = targetZ r p := by unfold targetZ; omega
  have hb := target_i r p
  go_enter Tryz.func189, Tryz.ntmps189
  go_wp2
  go_ret
  exact ⟨rfl, rfl⟩
end
section
open Go.ChangeShapes Go.WideShapes Go.ChangeAt Go.RowKit Go.Sort BigFrame

theorem vf_some {W w : World} {op k b s : Int} {g e : Bool} {n0 : Nat} (h : vfZ op = some ⟨k, b, s, g, e⟩) (hM : Made W w) (hz : W.heap.size ≤ n0) (v0 v1 v2 v3 v4 : Value) (o : Obj) :
    Ending.returned (.tuple #[.agg #[.int .u8 k, .int .i64 b, .int .i64 s, .bool g, .bool e], .bool true]) = .returned (.tuple #[.agg #[.int .u8 (vF op).kind, .int .i64 (vF op).bits, .int .i64 (vF op).shift, .bool (vF op).sg, .bool (vF op).ext], .bool (vB op)]) ∧
      Made W ((((((w.setCell ⟨n0, 0, none⟩ v0).setCell ⟨n0, 1, none⟩ v1).setCell ⟨n0, 2, none⟩ v2).setCell ⟨n0, 3, none⟩ v3).setCell ⟨n0, 4, none⟩ v4).alloc o) := by
  unfold vF vB
  rw [h]
  have k := (((((hM.setCell (p := ⟨n0, 0, none⟩) hz v0).setCell (p := ⟨n0, 1, none⟩) hz v1).setCell (p := ⟨n0, 2, none⟩) hz v2).setCell (p := ⟨n0, 3, none⟩) hz v3).setCell (p := ⟨n0, 4, none⟩) hz v4)
  exact ⟨rfl, k.alloc k.size o⟩
theorem vf_none {W w' : World} {op : Int} (h : vfZ op = vfIn []) (hm : Made W w') :
    Ending.returned (.tuple #[.agg #[.int .u8 0, .int .i64 0, .int .i64 0, .bool false, .bool false], .bool false]) = .returned (.tuple #[.agg #[.int .u8 (vF op).kind, .int .i64 (vF op).bits, .int .i64 (vF op).shift, .bool (vF op).sg, .bool (vF op).ext], .bool (vB op)]) ∧ Made W w' := by
  unfold vF vB
  rw [h]
  exact ⟨rfl, hm⟩
section
attribute [local irreducible] World.cell?
set_option maxHeartbeats 1000000 in
theorem valueField_any (W : World) (hN : Names W) (op : Int) (h0 : 0 ≤ op) : Makes Tryz.prog W 155 #[.int .u8 op] (.tuple #[.agg #[.int .u8 (vF op).kind, .int .i64 (vF op).bits, .int .i64 (vF op).shift, .bool (vF op).sg, .bool (vF op).ext], .bool (vB op)]) := by
  intro w hm
  have hz := hm.size
  have hst0 := heap_alloc_new w (.cells fZero.cells.toArray 157)
  go_enter Tryz.func155, Tryz.ntmps155
  go_wp2_with (fail)
  refine (of_any _ (hN.made (hm.alloc hz _)) op h0 _ (Made.refl _)).mono ?_
  intro e w1 h
  obtain ⟨p, cap, fs, o, nm, c, s, hfs, ho, hnm, hc, hs, rfl, h1, hcell⟩ := isOf_any h
  clear h
  have hr1 := h1.heap hst0
  have hzz : w.heap.size + 1 ≤ w1.heap.size := by have := h1.size; simp only [World.size_alloc] at this; omega
  have hlt : w.heap.size < w1.heap.size := by omega
  have hfew := fields_few (opN op)
  have hsm := fields_small (opN op)
  rewrite [← hfs] at hfew hsm
  have HV : vfZ op = vfIn fs := by unfold vfZ; rw [hfs]
  have HM := Lib.hid (Made.trans (hm.alloc hz _) h1)
  have HFS := Lib.hid HV
  have HR := Lib.hid hr1
  have HS := Lib.hid hsm
  have HC := Lib.hid hcell
  clear hfs hr1 h1 ho hnm hc hs hsm hcell HV hst0
  go_wp2_with (fail)
  have hs16 : w1.heap.size < w1.heap.size + 1 := Nat.lt_succ_self _
  go_loopw [16] (fun i wr => ∃ k : Nat, k ≤ fs.length ∧ i = .int .i64 k ∧ vfIn (fs.drop k) = vfIn fs ∧ Made w1 wr) (fun i _ => fs.length - (intOf i).toNat)
  case atStart => exact ⟨0, Nat.zero_le _, rfl, rfl, (Made.refl w1).alloc (Nat.le_refl _) _⟩
  case round =>
    obtain ⟨k, hk, rfl, hat, hwr⟩ := hrel
    have hrr := hwr.heap HR.out
    obtain ⟨c0, c1, c2, c3, c4⟩ := row_cells hrr
    have fz := free_of_lit hrr
    have hlr : w.heap.size < wr.heap.size := Nat.lt_of_lt_of_le hlt hwr.size
    have HW := Lib.hid hwr
    clear hrr hwr
    by_cases hlt2 : k < fs.length
    · rcases HC.out with rfl | ⟨b, cur, rfl, hb, hbb, hcs, hnc, hcm, hce⟩
      · simp at hlt2
      have hbl := heap_lt hbb
      have hbr : b < wr.heap.size := Nat.lt_of_lt_of_le hbl HW.out.size
      have hd := vfIn_drop fs k hlt2
      have hs := HS.out fs[k] (List.getElem_mem _)
      have hfl := flat_at fs k hlt2
      have hce := fun r (hr : r < 5) => (bcell HW.out).1 b (k * 5 + r) hbl ▸ hce (k * 5 + r) (by omega)
      have k0 : wr.cell? ⟨b, k * 5, none⟩ = _ := (hce 0 (by omega)).trans hfl.1
      have k1 := (hce 1 (by omega)).trans hfl.2.1
      have k2 := (hce 2 (by omega)).trans hfl.2.2.1
      have k3 := (hce 3 (by omega)).trans hfl.2.2.2.1
      have k4 := (hce 4 (by omega)).trans hfl.2.2.2.2
      obtain ⟨hs1, hs2, hs3, hs4, hs5, hs6⟩ := hs
      unfold maxLen at hcm
      generalize fs[k] = f at *
      rewrite [hat] at hd
      clear hce hfl hat hbb hb hcs
      have h3 : f.kind = 9 ∨ f.kind = 10 ∨ ((f.kind == 9) = false ∧ (f.kind == 10) = false) := by
        simp only [beq_eq_false_iff_ne]
        omega
      obtain ⟨fk, fb, fsh, fsg, fex⟩ := f
      rcases h3 with h3 | h3 | ⟨h3, h4⟩
      case inr.inr =>
        have hd2 : vfIn fs = vfIn (fs.drop (k + 1)) := by
          simp only [beq_eq_false_iff_ne] at h3 h4
          rw [hd, if_neg (by simp [h3, h4])]
        have HD := Lib.hid hd2
        clear hd hd2
        go_wp2
        go_roundw
        case rel => exact ⟨k + 1, by omega, by go_num, HD.out.symm, HW.out.alloc HW.out.size _⟩
        case measure => simp [intOf]; omega
      case inl =>
        obtain rfl : fk = 9 := h3
        have hd2 := HFS.out.trans (hd.trans (if_pos (by simp)))
        have HD := Lib.hid hd2
        clear hd hd2
        go_wp2
        refine bodyPost_ret (v := .tuple #[.agg #[.int .u8 9, .int .i64 fb, .int .i64 fsh, .bool fsg, .bool fex], .bool true]) (by simp [results, Tryz.results155, go_sem, c0, c1, c2, c3, c4, hlr]) rfl ?_
        exact vf_some HD.out (Made.trans HM.out HW.out) hz _ _ _ _ _ _
      case inr.inl =>
        obtain rfl : fk = 10 := h3
        have hd2 := HFS.out.trans (hd.trans (if_pos (by simp)))
        have HD := Lib.hid hd2
        clear hd hd2
        go_wp2
        refine bodyPost_ret (v := .tuple #[.agg #[.int .u8 10, .int .i64 fb, .int .i64 fsh, .bool fsg, .bool fex], .bool true]) (by simp [results, Tryz.results155, go_sem, c0, c1, c2, c3, c4, hlr]) rfl ?_
        exact vf_some HD.out (Made.trans HM.out HW.out) hz _ _ _ _ _ _
    · obtain rfl : k = fs.length := by omega
      rewrite [List.drop_length] at hat
      have HF := Lib.hid (HFS.out.trans hat.symm)
      clear hat
      go_wp2
      refine bodyPost_ret (v := .tuple #[.agg #[.int .u8 0, .int .i64 0, .int .i64 0, .bool false, .bool false], .bool false]) (by simp [results, Tryz.results155, go_sem, c0, c1, c2, c3, c4]) rfl ?_
      have hM := Made.trans HM.out HW.out
      exact vf_none HF.out (((((hM.setCell hz _).setCell hz _).setCell hz _).setCell hz _).setCell hz _)
end
end
section
open Go.ChangeShapes Go.WideShapes Go.ChangeAt Go.RowKit Go.Sort BigFrame

theorem Quiet.makes {P : Program} {f : FuncId} {args : Array Value} {v : Value} (h : Quiet P f args v) (W : World) : Makes P W f args v :=
  fun w hg => (h w).mono fun _ _ ⟨he, k, hk⟩ => ⟨he, hk ▸ below_drewN hg k⟩
section
attribute [local irreducible] World.cell?
theorem valueIn_any (W : World) (f : Fd) (x : In) (pc : Int) : Makes Tryz.prog W 182 #[.agg #[.int .u8 f.kind, .int .i64 f.bits, .int .i64 f.shift, .bool f.sg, .bool f.ext], x.val, .int .u32 pc] (.int .i64 (valZ f x pc)) := by
  intro w hm
  have hz := hm.size
  have M := Lib.hid ((hm.alloc hz (.cells f.cells.toArray 157)).alloc (hm.alloc hz (.cells f.cells.toArray 157)).size (.cells x.cells.toArray 40))
  have hu : isU32 ((x.imm - pc) % 4294967296) := ⟨by omega, by omega⟩
  have hs := extSigned_any _ hu
  rw [s32_mod] at hs
  by_cases hk : f.kind = 10
  · have hv : valZ f x pc = s32 (x.imm - pc) := if_pos hk
    rewrite [hv]
    have hkb : (f.kind == 10) = true := beq_iff_eq.2 hk
    clear hk hv
    go_enter Tryz.func182, Tryz.ntmps182
    go_wp2_with (fail)
    refine (hs _).mono ?_
    rintro e w1 ⟨rfl, k, rfl⟩
    go_wp2
    go_ret
    exact ⟨rfl, below_drewN M.out k⟩
  · have hv : valZ f x pc = x.imm := if_neg hk
    rewrite [hv]
    have hkb : (f.kind == 10) = false := beq_eq_false_iff_ne.2 hk
    clear hk hv
    go_enter Tryz.func182, Tryz.ntmps182
    go_wp2_with (fail)
    go_ret
    exact ⟨rfl, M.out⟩
structure FdIn (W : World) (B : Nat) (f : Fd) (x : In) (u : World) : Prop where
  made : Made W u
  fd : u.heap[B]? = some (.cells f.cells.toArray 157 (0, 0))
  in_ : InAt u (B + 1) x
theorem fitsIn_any (W : World) (f : Fd) (x : In) (pc : Int) (hx : x.small) : Makes Tryz.prog W 156 #[.agg #[.int .u8 f.kind, .int .i64 f.bits, .int .i64 f.shift, .bool f.sg, .bool f.ext], x.val, .int .u32 pc] (.bool (fitZ f x pc)) := by
  intro w hm
  have hz := hm.size
  have hv := valZ_bounds f x pc hx
  have hfit := fits_any (valZ f x pc) f.bits f.shift f.sg hv
  have M := Lib.hid ((hm.alloc hz (.cells f.cells.toArray 157)).alloc (hm.alloc hz (.cells f.cells.toArray 157)).size (.cells x.cells.toArray 40))
  go_enter Tryz.func156, Tryz.ntmps156
  go_upto_region 1 with (fail)
  refine name_world (fun u => FdIn W w.heap.size f x u) ⟨M.out, (heap_alloc_old _ _ (heap_lt (heap_alloc_new w _))).trans (heap_alloc_new w _), heap_at (by simp)⟩ ?_
  intro u K
  clear M
  have HK := Lib.hid K
  obtain ⟨b0, b1, b2, b3, b4⟩ := row_cells K.fd
  obtain ⟨a0, a1, a2, a3, a4, a5, a6, a7, a8, a9, a10⟩ := in_cells K.in_
  clear K
  have g0 := fun d os => cell_regrown a0 d os
  have g1 := fun d os => cell_regrown a1 d os
  have g2 := fun d os => cell_regrown a2 d os
  have g3 := fun d os => cell_regrown a3 d os
  have g4 := fun d os => cell_regrown a4 d os
  have g5 := fun d os => cell_regrown a5 d os
  have g6 := fun d os => cell_regrown a6 d os
  have g7 := fun d os => cell_regrown a7 d os
  have g8 := fun d os => cell_regrown a8 d os
  have g9 := fun d os => cell_regrown a9 d os
  have g10 := fun d os => cell_regrown a10 d os
  have e0 := fun d os => cell_regrown b0 d os
  have e1 := fun d os => cell_regrown b1 d os
  have e2 := fun d os => cell_regrown b2 d os
  have e3 := fun d os => cell_regrown b3 d os
  have e4 := fun d os => cell_regrown b4 d os
  refine wp_region_quiet_below (by kernel_rfl) (by kernel_rfl) ?_
  repeat (go_big_quiet_step ((first
    | (go_at_call 182; exact (valueIn_any u f x pc).again _ _)
    | (go_at_call 181; exact (hfit.makes u).again _ _))))
  refine wpQuiet_nil ?_
  intro u1 hw9
  have hm9 := Lib.hid (Made.trans HK.out.made (made_regrown hw9))
  go_wp2
  go_ret
  exact ⟨rfl, hm9.out⟩
theorem value_any (W : World) (hN : Names W) (x : In) (hx : x.small) (pc : Int) : Makes Tryz.prog W 158 #[x.val, .int .u32 pc] (.tuple #[.int .i64 (valueP x pc), .bool (vB x.op)]) := by
  intro w hm
  have hz := hm.size
  have hop0 := hx.op0
  have HX := Lib.hid hx
  obtain ⟨f, b, hf, hb⟩ : ∃ f b, vF x.op = f ∧ vB x.op = b := ⟨_, _, rfl, rfl⟩
  have hcall := valueField_any _ (hN.made (hm.alloc hz (.cells x.cells.toArray 40))) x.op hop0
  have hv : valueP x pc = if b then valZ f x pc else 0 := by unfold valueP; rw [hf, hb]
  rewrite [hv, hb]
  rewrite [hf, hb] at hcall
  have M0 := Lib.hid (hm.alloc hz (.cells x.cells.toArray 40))
  have I0 := Lib.hid (show InAt _ _ _ from heap_alloc_new w (.cells x.cells.toArray 40))
  clear hf hb hv hx
  go_enter Tryz.func158, Tryz.ntmps158
  go_wp2_with (fail)
  refine (hcall _ (Made.refl _)).mono ?_
  rintro e w1 ⟨rfl, h1⟩
  have M1 := Lib.hid (Made.trans M0.out h1)
  have hi1 := h1.heap I0.out
  have hz1 := M1.out.size
  obtain ⟨a0, a1, a2, a3, a4, a5, a6, a7, a8, a9, a10⟩ := in_cells hi1
  have hlt := heap_lt hi1
  have Z1 := Lib.hid hz1
  clear h1 hi1 hz1 hcall
  cases b
  · go_wp2_with (fail)
    refine bodyPost_ret (v := .tuple #[.int .i64 0, .bool false]) (by simp [results, Tryz.results158, go_sem]) rfl ?_
    exact ⟨rfl, M1.out.alloc Z1.out _⟩
  · go_wp2_with (fail)
    refine (valueIn_any _ f x pc _ (Made.refl _)).mono ?_
    rintro e w2 ⟨rfl, h2⟩
    have M2 := Lib.hid (Made.trans (M1.out.alloc Z1.out _) h2)
    clear h2
    go_wp2
    refine bodyPost_ret (v := .tuple #[.int .i64 (valZ f x pc), .bool true]) (by simp [results, Tryz.results158, go_sem]) rfl ?_
    exact ⟨rfl, M2.out⟩
theorem extFits_any (W : World) (hN : Names W) (x : In) (hx : x.small) (pc : Int) : Makes Tryz.prog W 122 #[x.val, .int .u32 pc] (.bool (fitP x pc)) := by
  intro w hm
  have hz := hm.size
  have hop0 := hx.op0
  have HX := Lib.hid hx
  obtain ⟨f, b, hf, hb⟩ : ∃ f b, vF x.op = f ∧ vB x.op = b := ⟨_, _, rfl, rfl⟩
  have hcall := valueField_any _ (hN.made (hm.alloc hz (.cells x.cells.toArray 40))) x.op hop0
  have hv : fitP x pc = (!b || fitZ f x pc) := by unfold fitP; rw [hf, hb]
  rewrite [hv]
  rewrite [hf, hb] at hcall
  have M0 := Lib.hid (hm.alloc hz (.cells x.cells.toArray 40))
  have I0 := Lib.hid (show InAt _ _ _ from heap_alloc_new w (.cells x.cells.toArray 40))
  clear hf hb hv hx
  go_enter Tryz.func122, Tryz.ntmps122
  go_wp2_with (fail)
  refine (hcall _ (Made.refl _)).mono ?_
  rintro e w1 ⟨rfl, h1⟩
  have M1 := Lib.hid (Made.trans M0.out h1)
  have hi1 := h1.heap I0.out
  have hz1 := M1.out.size
  obtain ⟨a0, a1, a2, a3, a4, a5, a6, a7, a8, a9, a10⟩ := in_cells hi1
  have hlt := heap_lt hi1
  have Z1 := Lib.hid hz1
  clear h1 hi1 hz1 hcall
  cases b
  · go_wp2_with (fail)
    go_ret
    exact ⟨rfl, M1.out.alloc Z1.out _⟩
  · go_wp2_with (fail)
    refine (fitsIn_any _ f x pc HX.out _ (Made.refl _)).mono ?_
    rintro e w2 ⟨rfl, h2⟩
    have M2 := Lib.hid (Made.trans (M1.out.alloc Z1.out _) h2)
    clear h2
    go_wp2
    go_ret
    exact ⟨rfl, M2.out⟩
end
end
end Go.Proofs.YtanjmoiepmadhaaGreatDoor
