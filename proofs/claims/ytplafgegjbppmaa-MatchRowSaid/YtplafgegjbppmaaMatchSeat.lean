/- The blocks of the slots' occupants and of the slots that may not be asked for; what seat of package match returns. -/
import Derived.Test.YtplafgegjbppmaaMatchIdx
namespace Go.Proofs.Ytplafgegjbppmaa
open Go.ChangeShapes Go.WideShapes Go.ChangeAt Go.RowKit Go.Sort BigFrame

abbrev occL (o : Nat → Int) : List Value := [.int .i64 (o 0), .int .i64 (o 1), .int .i64 (o 2), .int .i64 (o 3)]
abbrev markL (c : Nat → Bool) : List Value := [.bool (c 0), .bool (c 1), .bool (c 2), .bool (c 3)]
abbrev Occ (w : World) (b : Nat) (o : Nat → Int) : Prop := w.heap[b]? = some (.cells (occL o).toArray 36 (0, 0))
abbrev Mark (w : World) (b : Nat) (c : Nat → Bool) : Prop := w.heap[b]? = some (.cells (markL c).toArray 38 (0, 0))
theorem four {s : Nat} (h : s < 4) : s = 0 ∨ s = 1 ∨ s = 2 ∨ s = 3 := by omega
theorem occ_cell {w : World} {b : Nat} {o : Nat → Int} (h : Occ w b o) {s : Nat} (hs : s < 4) : w.cell? ⟨b, s, none⟩ = some (.int .i64 (o s)) := by
  rw [cell_of_lit h s]
  rcases four hs with rfl | rfl | rfl | rfl <;> rfl
theorem mark_cell {w : World} {b : Nat} {c : Nat → Bool} (h : Mark w b c) {s : Nat} (hs : s < 4) : w.cell? ⟨b, s, none⟩ = some (.bool (c s)) := by
  rw [cell_of_lit h s]
  rcases four hs with rfl | rfl | rfl | rfl <;> rfl
theorem occ_set {w : World} {b : Nat} {o : Nat → Int} (h : Occ w b o) {s : Nat} (hs : s < 4) (v : Int) : Occ (w.setCell ⟨b, s, none⟩ (.int .i64 v)) b (upd o s v) := by
  refine (heap_setCell_same w b s _ _ _ h).trans ?_
  rcases four hs with rfl | rfl | rfl | rfl <;> rfl
theorem mark_set {w : World} {b : Nat} {c : Nat → Bool} (h : Mark w b c) {s : Nat} (hs : s < 4) (v : Bool) : Mark (w.setCell ⟨b, s, none⟩ (.bool v)) b (upd c s v) := by
  refine (heap_setCell_same w b s _ _ _ h).trans ?_
  rcases four hs with rfl | rfl | rfl | rfl <;> rfl
abbrev occV (o : Nat → Int) : Value := .agg (occL o).toArray
abbrev markV (c : Nat → Bool) : Value := .agg (markL c).toArray
/-- The two blocks while seats are taken. -/
structure Seats (w0 w : World) (o : Nat → Int) (c : Nat → Bool) : Prop where
  made : Made w0 w
  occ : Occ w w0.heap.size o
  mark : Mark w (w0.heap.size + 1) c
theorem Seats.setO {w0 w : World} {o : Nat → Int} {c : Nat → Bool} (h : Seats w0 w o c) {s : Nat} (hs : s < 4) (v : Int) : Seats w0 (w.setCell ⟨w0.heap.size, s, none⟩ (.int .i64 v)) (upd o s v) c :=
  ⟨h.made.setCell (p := ⟨w0.heap.size, s, none⟩) (Nat.le_refl _) _, occ_set h.occ hs v, (heap_setCell_other w ⟨w0.heap.size, s, none⟩ _ _ (by simp)).trans h.mark⟩
theorem Seats.setM {w0 w : World} {o : Nat → Int} {c : Nat → Bool} (h : Seats w0 w o c) {s : Nat} (hs : s < 4) (v : Bool) : Seats w0 (w.setCell ⟨w0.heap.size + 1, s, none⟩ (.bool v)) o (upd c s v) :=
  ⟨h.made.setCell (p := ⟨w0.heap.size + 1, s, none⟩) (by simp) _, (heap_setCell_other w ⟨w0.heap.size + 1, s, none⟩ _ _ (by simp)).trans h.occ, mark_set h.mark hs v⟩
theorem seats_start (w : World) : Seats w ((w.alloc (.cells (occL fun _ => 0).toArray 36)).alloc (.cells (markL fun _ => false).toArray 38)) (fun _ => 0) (fun _ => false) := by
  have m1 := (Made.refl w).alloc (Nat.le_refl _) (.cells (occL fun _ => 0).toArray 36)
  have b1 : (w.alloc (.cells (occL fun _ => 0).toArray 36)).heap[w.heap.size]? = some (.cells (occL fun _ => 0).toArray 36 (0, 0)) := heap_alloc_new w _
  exact ⟨m1.alloc m1.size _, (Below.heap_alloc _ _ _ (heap_lt b1)).trans b1, heap_at (by simp)⟩
theorem seat_ext {fs : List Nat} {k : Nat} {o o' : Nat → Int} {c : Nat → Bool} (h : SeatAt fs k o c) (e : ∀ s, s < 4 → o' s = o s) (hf : ∀ j, j < k → fs.getD j 9 < 4) : SeatAt fs k o' c :=
  ⟨fun s hs hn => by rw [e s hs]; exact h.none s hs hn, fun j hj => by rw [e _ (hf j hj)]; exact h.some j hj⟩
section
attribute [local irreducible] World.cell?
set_option maxHeartbeats 2000000 in
theorem seat_any (ao : Option Addr) (cap : Nat) (fs : List Nat) (w : World) (hN : Nums .i64 w ao cap fs) (hl : fs.length ≤ 1000) (h4 : ∀ j, j < fs.length → fs.getD j 9 < 4) (hn : fs.Nodup) :
    Calls Try.prog 16 #[.slice ao fs.length cap] w fun e w' => ∃ o c, e = .returned (.tuple #[occV o, markV c]) ∧ SeatAt fs fs.length o c ∧ Made w w' := by
  have K0 := Lib.hid (seats_start w)
  go_enter Try.func16, Try.ntmps16
  go_wp2_with (fail)
  refine world_named (fun u => Seats w u (fun _ => 0) (fun _ => false)) K0.out ?_
  intro u hu
  have KU := Lib.hid hu
  clear hu K0
  go_loopw [7] (fun i wr => ∃ (k : Nat) (o : Nat → Int), k ≤ 4 ∧ i = .int .i64 k ∧ (∀ s, s < k → o s = -1) ∧ Seats w wr o (fun _ => false)) (fun i _ => 4 - (intOf i).toNat)
  case atStart => exact ⟨0, fun _ => 0, by omega, rfl, fun s hs => absurd hs (Nat.not_lt_zero s), KU.out⟩
  case round =>
    obtain ⟨k, o, hk, rfl, ho, hwr⟩ := hrel
    have HO := Lib.hid ho
    have KR := Lib.hid hwr
    clear ho hwr
    by_cases hlt : k < 4
    · have hc := occ_cell KR.out.occ hlt
      have fr := free_of_lit KR.out.occ
      have KX := Lib.hid (KR.out.setO hlt (-1))
      go_wp2
      go_roundw
      case rel =>
        refine ⟨k + 1, upd o k (-1), by omega, by go_num, fun s hs => ?_, KX.out⟩
        by_cases e : s = k
        · subst e; exact upd_same ..
        · rw [upd_ne _ _ e]; exact HO.out s (by omega)
      case measure => simp [intOf]; omega
    · obtain rfl : k = 4 := by omega
      have HS := Lib.hid (seat_ext (seat_start fs) HO.out (fun j hj => absurd hj (Nat.not_lt_zero j)))
      clear HO
      go_wp2_with (fail)
      go_loopw [15] (fun i wr => ∃ (k : Nat) (o : Nat → Int) (c : Nat → Bool), k ≤ fs.length ∧ i = .int .i64 k ∧ SeatAt fs k o c ∧ Seats w wr o c) (fun i _ => fs.length - (intOf i).toNat)
      case atStart => exact ⟨0, o, _, by omega, rfl, HS.out, KR.out⟩
      case round =>
        obtain ⟨k, o, c, hk, rfl, hs, hwr⟩ := hrel
        have H1 := Lib.hid hs
        have K1 := Lib.hid hwr
        clear hs hwr HS KR
        by_cases hlt2 : k < fs.length
        · obtain ⟨a, rfl⟩ := hN.some hlt2
          have hc := made_cell K1.out.made _ _ (hN.cell a rfl k hlt2)
          have e9 : fs.getD k 0 = fs.getD k 9 := by simp [List.getD, hlt2]
          rewrite [e9] at hc
          have hs4 := h4 k hlt2
          have HX := Lib.hid (seat_step H1.out hn hlt2)
          have KX := Lib.hid ((K1.out.setO hs4 k).setM hs4 true)
          have f1 := free_of_lit K1.out.occ
          have f2 := free_of_lit (K1.out.setO hs4 k).mark
          have c1 := occ_cell K1.out.occ hs4
          have c2 := mark_cell (K1.out.setO hs4 k).mark hs4
          generalize fs.getD k 9 = z at *
          clear e9
          go_wp2
          go_roundw
          case rel => exact ⟨k + 1, _, _, by omega, by go_num, HX.out, KX.out⟩
          case measure => simp [intOf]; omega
        · obtain rfl : k = fs.length := by omega
          have f1 := free_of_lit K1.out.occ
          have f2 := free_of_lit K1.out.mark
          have c0 := occ_cell K1.out.occ (s := 0) (by omega)
          have c1 := occ_cell K1.out.occ (s := 1) (by omega)
          have c2 := occ_cell K1.out.occ (s := 2) (by omega)
          have c3 := occ_cell K1.out.occ (s := 3) (by omega)
          have d0 := mark_cell K1.out.mark (s := 0) (by omega)
          have d1 := mark_cell K1.out.mark (s := 1) (by omega)
          have d2 := mark_cell K1.out.mark (s := 2) (by omega)
          have d3 := mark_cell K1.out.mark (s := 3) (by omega)
          go_upto_region 11 with (fail)
          go_region
          go_wp2
          refine bodyPost_ret (v := .tuple #[occV o, markV c]) (by simp [results, Try.results16, go_sem, c0, c1, c2, c3, d0, d1, d2, d3]) rfl ?_
          refine ⟨o, c, rfl, H1.out, ?_⟩
          have z0 := Nat.le_refl w.heap.size
          have z1 := Nat.le_succ w.heap.size
          exact made_drew ((((((((K1.out.made.setCell (p := ⟨w.heap.size, 0, none⟩) z0 _).setCell (p := ⟨w.heap.size, 1, none⟩) z0 _).setCell (p := ⟨w.heap.size, 2, none⟩) z0 _).setCell (p := ⟨w.heap.size, 3, none⟩) z0 _).setCell
            (p := ⟨w.heap.size + 1, 0, none⟩) z1 _).setCell (p := ⟨w.heap.size + 1, 1, none⟩) z1 _).setCell (p := ⟨w.heap.size + 1, 2, none⟩) z1 _).setCell (p := ⟨w.heap.size + 1, 3, none⟩) z1 _)
end
end Go.Proofs.Ytplafgegjbppmaa
