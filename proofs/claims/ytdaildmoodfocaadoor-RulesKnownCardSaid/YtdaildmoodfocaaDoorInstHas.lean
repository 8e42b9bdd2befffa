/- What has of package inst returns, for every row that lies in memory and every kind; the closure and Go's slices.IndexFunc beneath it. -/
import Derived.Test.YtdaildmoodfocaaDoorIsaUse
import Derived.Test.YtdaildmoodfocaaDoorInstTake
namespace Go.Proofs.YtdaildmoodfocaaDoor
open Go.ChangeShapes Go.WideShapes Go.ChangeAt Go.RowKit Go.Sort BigFrame

/-- A slice of fields in memory. -/
def Holds (w : World) (p : Option Addr) (n cap : Nat) (fs : List Fd) : Prop :=
  n = fs.length ∧ (fs = [] ∨ ∃ b, p = some ⟨b, 0, none⟩ ∧ b < w.heap.size ∧ n ≤ cap ∧ cap ≤ maxLen ∧ ∀ j, j < fs.length * 5 → w.cell? ⟨b, j, none⟩ = (flatF fs)[j]?)
theorem Holds.made {w w' : World} {p : Option Addr} {n cap : Nat} {fs : List Fd} (h : Holds w p n cap fs) (hm : Made w w') : Holds w' p n cap fs := by
  obtain ⟨hn, h⟩ := h
  refine ⟨hn, ?_⟩
  rcases h with h | ⟨b, hp, hb, h1, h2, hc⟩
  · exact .inl h
  · exact .inr ⟨b, hp, Nat.lt_of_lt_of_le hb hm.size, h1, h2, fun j hj => (hm.cell (p := ⟨b, j, none⟩) hb).trans (hc j hj)⟩

theorem has1_any (f : Fd) (c : Nat) (k : Int) (W w : World) (hm : Made W w) (T : TypeId) (hc : w.heap[c]? = some (.cells #[.int .u8 k] T (0, 0))) :
    Calls Tryd.prog 51 #[f.put, .pointer (some ⟨c, 0, none⟩)] w fun e w' => e = .returned (.bool (f.kind == k)) ∧ Made W w' := by
  have hz := hm.size
  have c0 : w.cell? ⟨c, 0, none⟩ = some (.int .u8 k) := cell_of_lit (cs := [.int .u8 k]) hc 0
  have hlt := heap_lt hc
  obtain ⟨fk, fb, fs, fg, fe⟩ := f
  clear hc
  go_enter Tryd.func51, Tryd.ntmps51
  go_wp2
  go_ret
  exact ⟨rfl, hm.alloc hz _⟩

def IsIdx (W : World) (fs : List Fd) (k : Int) (e : Ending) (w' : World) : Prop := ∃ i : Int, e = .returned (.int .i64 i) ∧ (decide (0 ≤ i) = hasB fs k) ∧ -1 ≤ i ∧ Made W w'
theorem hasB_drop (l : List Fd) (k : Nat) (h : k < l.length) (kd : Int) : hasB (l.drop k) kd = (l[k].kind == kd || hasB (l.drop (k + 1)) kd) := by
  rw [List.drop_eq_getElem_cons h]; rfl
section
attribute [local irreducible] World.cell?
set_option maxHeartbeats 1000000 in
theorem index_any (p : Option Addr) (n cap : Nat) (fs : List Fd) (c : Nat) (kd : Int) (w : World) (hh : Holds w p n cap fs) (T : TypeId) (hc : w.heap[c]? = some (.cells #[.int .u8 kd] T (0, 0))) :
    Calls Tryd.prog 63 #[.slice p n cap, .func (.func 51) #[] #[.pointer (some ⟨c, 0, none⟩)]] w (IsIdx w fs kd) := by
  obtain ⟨rfl, hh⟩ := hh
  have HC := Lib.hid hc
  clear hc
  rcases hh with rfl | ⟨b, rfl, hb, hnc, hcm, hcell⟩
  · go_enter Tryd.func63, Tryd.ntmps63
    go_wp2_with (fail)
    refine wp_loop_rounds 1 ?_
    rewrite [rounds_succ]
    go_wp2
    go_ret
    exact ⟨-1, rfl, rfl, by omega, Made.refl _⟩
  · have HE := Lib.hid hcell
    unfold maxLen at hcm
    clear hcell
    go_enter Tryd.func63, Tryd.ntmps63
    go_wp2_with (fail)
    go_loopw [8] (fun i wr => ∃ k : Nat, k ≤ fs.length ∧ i = .int .i64 k ∧ hasB (fs.drop k) kd = hasB fs kd ∧ Made w wr) (fun i _ => fs.length - (intOf i).toNat)
    case atStart => exact ⟨0, Nat.zero_le _, rfl, rfl, Made.refl _⟩
    case round =>
      obtain ⟨k, hk, rfl, hat, hwr⟩ := hrel
      have HW := Lib.hid hwr
      have hbr : b < wr.heap.size := Nat.lt_of_lt_of_le hb hwr.size
      have H1 := Lib.hid (fun f : Fd => has1_any f c kd wr wr (Made.refl _) T (hwr.heap HC.out))
      clear hwr
      by_cases hlt2 : k < fs.length
      · have hd := hasB_drop fs k hlt2 kd
        have hfl := flat_at fs k hlt2
        have hce := fun r (hr : r < 5) => (bcell HW.out).1 b (k * 5 + r) hb ▸ HE.out (k * 5 + r) (by omega)
        have k0 : wr.cell? ⟨b, k * 5, none⟩ = _ := (hce 0 (by omega)).trans hfl.1
        have k1 := (hce 1 (by omega)).trans hfl.2.1
        have k2 := (hce 2 (by omega)).trans hfl.2.2.1
        have k3 := (hce 3 (by omega)).trans hfl.2.2.2.1
        have k4 := (hce 4 (by omega)).trans hfl.2.2.2.2
        generalize fs[k] = f at *
        rewrite [hat] at hd
        have HD := Lib.hid hd
        clear hce hfl hat hd
        go_wp2_with (fail)
        refine (H1.out f).mono ?_
        rintro e w1 ⟨rfl, h1⟩
        by_cases hkd : f.kind = kd
        · have hkb : (f.kind == kd) = true := beq_iff_eq.2 hkd
          clear hkd
          go_wp2
          go_ret
          refine ⟨_, rfl, ?_, by omega, Made.trans HW.out h1⟩
          rw [HD.out, hkb]
          simp
        · have hkb : (f.kind == kd) = false := beq_eq_false_iff_ne.2 hkd
          clear hkd
          go_wp2
          go_roundw
          case rel => exact ⟨k + 1, by omega, by go_num, by rw [HD.out, hkb]; rfl, Made.trans HW.out h1⟩
          case measure => simp [intOf]; omega
      · obtain rfl : k = fs.length := by omega
        rewrite [List.drop_length] at hat
        have HF := Lib.hid hat
        clear hat
        go_wp2
        go_ret
        exact ⟨-1, rfl, HF.out, by omega, HW.out⟩
end
theorem contains_any (p : Option Addr) (n cap : Nat) (fs : List Fd) (c : Nat) (kd : Int) (w : World) (hh : Holds w p n cap fs) (T : TypeId) (hc : w.heap[c]? = some (.cells #[.int .u8 kd] T (0, 0))) :
    Calls Tryd.prog 50 #[.slice p n cap, .func (.func 51) #[] #[.pointer (some ⟨c, 0, none⟩)]] w fun e w' => e = .returned (.bool (hasB fs kd)) ∧ Made w w' := by
  have H := Lib.hid (index_any p n cap fs c kd w hh T hc)
  clear hh hc
  go_enter Tryd.func50, Tryd.ntmps50
  go_wp2_with (fail)
  refine H.out.mono ?_
  rintro e w1 ⟨i, rfl, hi, hlo, h1⟩
  have HI := Lib.hid hi
  clear hi
  go_wp2
  go_ret
  exact ⟨ret_bool HI.out, h1⟩
abbrev rowV (o : Int) (nm : ByteArray) (c s : Int) (p : Option Addr) (n cap : Nat) : Value := .agg #[.int .u8 o, .string nm, .int .u8 c, .int .u8 s, .slice p n cap]
theorem has_any (o c s kd : Int) (nm : ByteArray) (p : Option Addr) (n cap : Nat) (fs : List Fd) (w : World) (hh : Holds w p n cap fs) :
    Calls Tryd.prog 36 #[rowV o nm c s p n cap, .int .u8 kd] w fun e w' => e = .returned (.bool (hasB fs kd)) ∧ Made w w' := by
  have H := Lib.hid hh
  clear hh
  go_enter Tryd.func36, Tryd.ntmps36
  go_wp2_with (fail)
  have hm : Made w ((w.alloc (.cells #[.int .u8 o, .string nm, .int .u8 c, .int .u8 s, .slice p n cap] 56)).alloc (.cells #[.int .u8 kd] 5)) := ((Made.refl w).alloc (Nat.le_refl _) _).alloc (by simp) _
  refine (contains_any p n cap fs _ kd _ (H.out.made hm) 5 (heap_at (by simp))).mono ?_
  rintro e w1 ⟨rfl, h1⟩
  have h2 := Made.trans hm h1
  clear h1 hm
  go_wp2
  go_ret
  exact ⟨rfl, h2⟩
end Go.Proofs.YtdaildmoodfocaaDoor
