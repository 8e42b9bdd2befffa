/- What toSmall, widen, register, setRegister and write of package sub return and leave, for every row of the table's make. -/
import Derived.Test.YtckekkedjlkljaaDoorSubRows
import Derived.Test.YtckekkedjlkljaaDoorInstTake
namespace Go.Proofs.YtckekkedjlkljaaDoor
open Go.ChangeShapes Go.WideShapes Go.ChangeAt Go.RowKit Go.Sort BigFrame

theorem toSmall_any (v : Int) (h0 : 0 ≤ v) (h1 : v < 256) : Still Tryd.prog 37 #[.int .u8 v] (.int .u32 (smallZ v)) := by
  intro w
  by_cases h : v < 8
  · have e : smallZ v = v := if_pos h
    have E := Lib.hid e
    clear e
    go_enter Tryd.func37, Tryd.ntmps37
    go_wp2
    go_ret
    exact ⟨ret_int (by rw [E.out]), rfl⟩
  · have e : smallZ v = (v - 8) % 256 := if_neg h
    have E := Lib.hid e
    have hd : decide (v < 8) = false := decide_eq_false h
    clear e
    go_enter Tryd.func37, Tryd.ntmps37
    go_wp2
    go_ret
    exact ⟨ret_int (by rw [E.out]; omega), rfl⟩
theorem widen_any (v : Int) (h0 : 0 ≤ v) (h1 : v < 16) : Still Tryd.prog 44 #[.int .u32 v] (.int .u8 (wideZ v)) := by
  intro w
  by_cases h : v < 8
  · have e : wideZ v = v := if_pos h
    have E := Lib.hid e
    clear e
    go_enter Tryd.func44, Tryd.ntmps44
    go_wp2
    go_ret
    exact ⟨ret_int (by rw [E.out]), rfl⟩
  · have e : wideZ v = v + 8 := if_neg h
    have E := Lib.hid e
    have hd : decide (v < 8) = false := decide_eq_false h
    clear e
    go_enter Tryd.func44, Tryd.ntmps44
    go_wp2
    go_ret
    exact ⟨ret_int (by rw [E.out]), rfl⟩
set_option maxHeartbeats 1000000 in
theorem register_any (W : World) (x : In) (m : Int) : Makes Tryd.prog W 38 #[x.val, .int .u8 m] (.int .u8 (regZ x m)) := by
  intro w hm
  have hz := hm.size
  by_cases h2 : m = 2
  · subst h2
    go_enter Tryd.func38, Tryd.ntmps38
    go_wp2
    go_ret
    exact ⟨rfl, hm.alloc hz _⟩
  · have k2 : (m == 2) = false := beq_eq_false_iff_ne.2 h2
    by_cases h3 : m = 3
    · subst h3
      go_enter Tryd.func38, Tryd.ntmps38
      go_wp2
      go_ret
      exact ⟨rfl, hm.alloc hz _⟩
    · have k3 : (m == 3) = false := beq_eq_false_iff_ne.2 h3
      have e : regZ x m = x.d := by unfold regZ; rw [if_neg h2, if_neg h3]
      have E := Lib.hid e
      clear e
      go_enter Tryd.func38, Tryd.ntmps38
      go_wp2
      go_ret
      exact ⟨ret_int E.out.symm, hm.alloc hz _⟩
/-- The world behind setRegister. -/
def setSubW (w : World) (b : Nat) (m v : Int) : World :=
  if m = 1 then w.setCell ⟨b, 1, none⟩ (.int .u8 v) else if m = 2 then w.setCell ⟨b, 2, none⟩ (.int .u8 v) else if m = 3 then w.setCell ⟨b, 3, none⟩ (.int .u8 v)
  else if m = 4 then (w.setCell ⟨b, 1, none⟩ (.int .u8 v)).setCell ⟨b, 2, none⟩ (.int .u8 v) else w
set_option maxHeartbeats 1000000 in
theorem setRegister_any (w : World) (b : Nat) (x : In) (m v : Int) (hx : InAt w b x) (hm : 0 ≤ m ∧ m ≤ 4) :
    Calls Tryd.prog 43 #[.pointer (some ⟨b, 0, none⟩), .int .u8 m, .int .u8 v] w fun e w' => e = .returned (.tuple #[]) ∧ w' = setSubW w b m v := by
  obtain ⟨c0, c1, c2, c3, c4, c5, c6, c7, c8, c9, c10⟩ := in_cells hx
  have fz := free_of_lit hx
  have hlt := heap_lt hx
  clear hx
  have hc : m = 0 ∨ m = 1 ∨ m = 2 ∨ m = 3 ∨ m = 4 := by omega
  rcases hc with rfl | rfl | rfl | rfl | rfl
  all_goals
    go_enter Tryd.func43, Tryd.ntmps43
    go_wp2
    go_returns
    exact ⟨rfl, rfl⟩
theorem Took.then {w w' w'' : World} {b : Nat} {x y : In} (h : Took w w' b x) (k : Took w' w'' b y) : Took w w'' b y :=
  ⟨k.at_, fun i hi => (k.far i hi).trans (h.far i hi), k.size.trans h.size, fun W hW hm => k.made W hW (h.made W hW hm)⟩
theorem setSub_took {w : World} {b : Nat} {x : In} (m v : Int) (hx : InAt w b x) (hm : 0 ≤ m ∧ m ≤ 4) : Took w (setSubW w b m v) b (setR x m v) := by
  have hc : m = 0 ∨ m = 1 ∨ m = 2 ∨ m = 3 ∨ m = 4 := by omega
  rcases hc with rfl | rfl | rfl | rfl | rfl
  · exact ⟨hx, fun _ _ => rfl, rfl, fun _ _ h => h⟩
  · exact took_set hx rfl
  · exact took_set hx rfl
  · exact took_set hx rfl
  · have h1 : Took w (w.setCell ⟨b, 1, none⟩ (.int .u8 v)) b { x with d := v } := took_set hx rfl
    have h2 : Took (w.setCell ⟨b, 1, none⟩ (.int .u8 v)) ((w.setCell ⟨b, 1, none⟩ (.int .u8 v)).setCell ⟨b, 2, none⟩ (.int .u8 v)) b { x with d := v, s := v } := took_set h1.at_ rfl
    exact Took.then h1 h2
end Go.Proofs.YtckekkedjlkljaaDoor
