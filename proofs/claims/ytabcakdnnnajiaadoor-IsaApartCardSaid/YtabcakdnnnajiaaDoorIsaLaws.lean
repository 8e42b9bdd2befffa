/- awake, IsaKnown and IsaOwn of the laws of isa return true, in every world that holds the table of names. -/
import Derived.Test.YtabcakdnnnajiaaDoorIsaAt
import Derived.Test.YtabcakdnnnajiaaDoorIsaBy
import Derived.Test.YtabcakdnnnajiaaDoorLaid
namespace Go.Proofs.YtabcakdnnnajiaaDoor
open Go.ChangeShapes Go.WideShapes Go.ChangeAt Go.RowKit Go.Sort BigFrame

theorem isOf_row {W : World} {op : Int} {e : Ending} {w' : World} (h : IsOf W op e w') (nm : ByteArray) (o c s : Int) (ok : Bool) (fs : List Fd) (hfs : fieldsZ (opN op) = fs) (ho : opN op = o) (hn : nameZ (opN op) = nm) (hc : classZ (opN op) = c) (hs : slotsZ c = s) (hk : isOp op = ok) (hne : fs ≠ []) :
    ∃ b cap, e = .returned (.tuple #[.agg #[.int .u8 o, .string nm, .int .u8 c, .int .u8 s, .slice (some ⟨b, 0, none⟩) fs.length cap], .bool ok]) ∧ Made W w' := by
  obtain ⟨p, n, cap, rfl, hm, hw⟩ := h
  rw [hfs] at hw
  rw [hn, hc, hs, hk, ho]
  rcases owns_cells hw with ⟨h, _⟩ | ⟨b, rfl, rfl, _⟩
  · exact absurd h hne
  · exact ⟨b, cap, rfl, hm⟩
theorem isOf_none {W : World} {op : Int} {e : Ending} {w' : World} (h : IsOf W op e w') (nm : ByteArray) (o c s : Int) (ok : Bool) (hfs : fieldsZ (opN op) = []) (ho : opN op = o) (hn : nameZ (opN op) = nm) (hc : classZ (opN op) = c) (hs : slotsZ c = s) (hk : isOp op = ok) :
    ∃ p cap, e = .returned (.tuple #[.agg #[.int .u8 o, .string nm, .int .u8 c, .int .u8 s, .slice p 0 cap], .bool ok]) ∧ Made W w' := by
  obtain ⟨p, n, cap, rfl, hm, hw⟩ := h
  rw [hfs] at hw
  rw [hn, hc, hs, hk, ho]
  rcases owns_cells hw with ⟨_, rfl, rfl, rfl⟩ | ⟨b, rfl, rfl, _⟩
  · exact ⟨_, _, rfl, hm⟩
  · exact ⟨_, _, rfl, hm⟩
/-- The cells of a row's block that still stands. -/
theorem row_cells {w : World} {b : Nat} {T : TypeId} {v0 v1 v2 v3 v4 : Value} (h : w.heap[b]? = some (.cells #[v0, v1, v2, v3, v4] T (0, 0))) :
    w.cell? ⟨b, 0, none⟩ = some v0 ∧ w.cell? ⟨b, 1, none⟩ = some v1 ∧ w.cell? ⟨b, 2, none⟩ = some v2 ∧ w.cell? ⟨b, 3, none⟩ = some v3 ∧ w.cell? ⟨b, 4, none⟩ = some v4 :=
  ⟨cell_of_lit (cs := [v0, v1, v2, v3, v4]) h 0, cell_of_lit (cs := [v0, v1, v2, v3, v4]) h 1, cell_of_lit (cs := [v0, v1, v2, v3, v4]) h 2, cell_of_lit (cs := [v0, v1, v2, v3, v4]) h 3, cell_of_lit (cs := [v0, v1, v2, v3, v4]) h 4⟩
theorem awake_any (W : World) (hN : Names W) : Makes Tryd.prog W 10 #[] (.bool true) := by
  intro w hm
  have hz := hm.size
  go_enter Tryd.func10, Tryd.ntmps10
  go_wp2_with (fail)
  refine (of_any W hN 30 (by decide) _ hm).mono ?_
  intro e w1 h
  obtain ⟨b, cap, rfl, h1⟩ := isOf_row h ⟨#[108, 111, 111, 112, 105]⟩ 30 6 8 true [fN, fR12, fCount] rfl rfl rfl rfl rfl rfl (by decide)
  clear h
  have hz1 := h1.size
  go_wp2_with (fail)
  refine (at_any _ (hN.made (h1.alloc hz1 _)) 21 9 (by decide) _ (Made.refl _)).mono ?_
  intro e w2 h
  obtain ⟨rfl, h2⟩ : e = .returned (.tuple #[.agg #[.int .u8 9, .int .i64 12, .int .i64 2, .bool true, .bool true], .int .i64 2, .bool true]) ∧ Made _ w2 := h
  have hr := h2.heap (heap_alloc_new w1 _)
  obtain ⟨k0, k1, k2, k3, k4⟩ := row_cells hr
  have hlt := heap_lt hr
  have HM := Lib.hid (Made.trans (h1.alloc hz1 _) h2)
  clear hr h2 h1
  have hz2 : W.heap.size ≤ w2.heap.size := by omega
  go_wp2
  go_ret
  exact ⟨rfl, HM.out.alloc hz2 _⟩

theorem by_lit {s : ByteArray} {r : Int} {b : Bool} (h : byZ s.toList = (r, b)) (w : World) (hN : Names w) : Calls Tryd.prog 8 #[.string s] w fun e w' => e = .returned (.tuple #[.int .u8 r, .bool b]) ∧ w = w' := by
  have := by_any s w hN
  rwa [h] at this
theorem at_lit {W : World} (hN : Names W) (op kd : Int) (h0 : 0 ≤ op) (f : Fd) (p : Int) (b : Bool) (hf : atF (opN op) kd = f) (hp : atP (opN op) kd = p) (hb : atB (opN op) kd = b) (w : World) (hm : Made W w) :
    Calls Tryd.prog 9 #[.int .u8 op, .int .u8 kd] w fun e w' => e = .returned (.tuple #[.agg #[.int .u8 f.kind, .int .i64 f.bits, .int .i64 f.shift, .bool f.sg, .bool f.ext], .int .i64 p, .bool b]) ∧ Made W w' := by
  subst hf; subst hp; subst hb
  exact (at_any W hN op kd h0 w hm).mono fun _ _ h => h
theorem keep {w w' : World} {o o' : Obj} {b : Nat} (h : w.heap[b]? = some o) (hm : Made (w.alloc o') w') : w'.heap[b]? = some o := hm.heap ((Below.heap_alloc w o' b (heap_lt h)).trans h)
theorem keepN {w w' : World} {o : Obj} {b : Nat} (h : w.heap[b]? = some o) (hm : Made w w') : w'.heap[b]? = some o := hm.heap h
theorem lt_next {w w' : World} {o' : Obj} {b : Nat} (h : b < w.heap.size) (hm : Made (w.alloc o') w') : b < w'.heap.size := by
  have := hm.size; simp only [World.size_alloc] at this; omega
theorem lt_new {w w' : World} {o' : Obj} (hm : Made (w.alloc o') w') : w.heap.size < w'.heap.size := by
  have := hm.size; simp only [World.size_alloc] at this; omega

namespace isaKnown
set_option maxRecDepth 100000 in
set_option maxHeartbeats 2000000 in
theorem walk (W : World) (hN : Names W) : Calls Tryd.prog 3 #[] W fun e w' => e = .returned (.bool true) ∧ Made W w' := by
  go_enter Tryd.func3, Tryd.ntmps3
  go_wp2_with (fail)
  refine (of_any W hN 1 (by decide) _ (Made.refl _)).mono ?_
  intro e w1 h
  obtain ⟨p1, cap1, rfl, h1⟩ := isOf_none h ⟨#[110, 111, 112]⟩ 1 1 15 true rfl rfl rfl rfl rfl rfl
  clear h
  go_wp2_with (fail)
  refine (of_any _ (hN.made (h1.alloc h1.size _)) 0 (by decide) _ (Made.refl _)).mono ?_
  intro e w2 h
  obtain ⟨p2, cap2, rfl, h2⟩ := isOf_none h ⟨#[]⟩ 0 0 0 false rfl rfl rfl rfl rfl rfl
  clear h
  have m2 := Made.trans (h1.alloc h1.size _) h2
  have r1 := h2.heap (heap_alloc_new w1 _)
  go_wp2_with (fail)
  refine (of_any _ (hN.made (m2.alloc m2.size _)) 32 (by decide) _ (Made.refl _)).mono ?_
  intro e w3 h
  obtain ⟨p3, cap3, rfl, h3⟩ := isOf_none h ⟨#[]⟩ 0 0 0 false rfl rfl rfl rfl rfl rfl
  clear h
  have m3 := Made.trans (m2.alloc m2.size _) h3
  replace r1 := keep r1 h3
  have n3 := fun o => hN.made (m3.alloc m3.size o)
  have m3a := m3.alloc m3.size
  clear h1 h2 h3 m2
  go_wp2_with (fail)
  refine (by_lit (r := 12) (b := true) (by decide +kernel) _ (n3 _)).mono ?_
  rintro e w4 ⟨rfl, rfl⟩
  go_wp2_with (fail)
  refine (by_lit (r := 0) (b := false) (by decide +kernel) _ (n3 _)).mono ?_
  rintro e w4 ⟨rfl, rfl⟩
  go_wp2_with (fail)
  refine (by_lit (r := 0) (b := false) (by decide +kernel) _ (n3 _)).mono ?_
  rintro e w4 ⟨rfl, rfl⟩
  go_wp2_with (fail)
  refine (at_lit (n3 _) 2 1 (by decide) fMode 21 true (by decide +kernel) (by decide +kernel) (by decide +kernel) _ (Made.refl _)).mono ?_
  rintro e w5 ⟨rfl, h5⟩
  have m5 := Made.trans (m3a _) h5
  replace r1 := keep r1 h5
  go_wp2_with (fail)
  refine (at_lit (hN.made (m5.alloc m5.size _)) 2 6 (by decide) fT 4 true (by decide +kernel) (by decide +kernel) (by decide +kernel) _ (Made.refl _)).mono ?_
  rintro e w6 ⟨rfl, h6⟩
  have m6 := Made.trans (m5.alloc m5.size _) h6
  replace r1 := keep r1 h6
  have r5 := h6.heap (heap_alloc_new w5 _)
  go_wp2_with (fail)
  refine (at_lit (hN.made (m6.alloc m6.size _)) 7 9 (by decide) fI14 0 true (by decide +kernel) (by decide +kernel) (by decide +kernel) _ (Made.refl _)).mono ?_
  rintro e w7 ⟨rfl, h7⟩
  have m7 := Made.trans (m6.alloc m6.size _) h7
  replace r1 := keep r1 h7
  replace r5 := keep r5 h7
  go_wp2_with (fail)
  refine (at_lit (hN.made (m7.alloc m7.size _)) 30 11 (by decide) fCount 0 true (by decide +kernel) (by decide +kernel) (by decide +kernel) _ (Made.refl _)).mono ?_
  rintro e w8 ⟨rfl, h8⟩
  have m8 := Made.trans (m7.alloc m7.size _) h8
  replace r1 := keep r1 h8
  replace r5 := keep r5 h8
  have r7 := h8.heap (heap_alloc_new w7 _)
  go_wp2_with (fail)
  refine (at_lit (hN.made (m8.alloc m8.size _)) 14 2 (by decide) fPred 17 true (by decide +kernel) (by decide +kernel) (by decide +kernel) _ (Made.refl _)).mono ?_
  rintro e w9 ⟨rfl, h9⟩
  have m9 := Made.trans (m8.alloc m8.size _) h9
  replace r1 := keep r1 h9
  replace r5 := keep r5 h9
  replace r7 := keep r7 h9
  go_wp2_with (fail)
  refine (at_lit (hN.made (m9.alloc m9.size _)) 1 3 (by decide) fZero 0 false (by decide +kernel) (by decide +kernel) (by decide +kernel) _ (Made.refl _)).mono ?_
  rintro e w10 ⟨rfl, h10⟩
  have m10 := Made.trans (m9.alloc m9.size _) h10
  replace r1 := keep r1 h10
  replace r5 := keep r5 h10
  replace r7 := keep r7 h10
  have N10 := Lib.hid (fun o => hN.made (m10.alloc m10.size o))
  have M10 := Lib.hid m10
  obtain ⟨a0, a1, a2, a3, a4⟩ := row_cells r1
  obtain ⟨b0, b1, b2, b3, b4⟩ := row_cells r5
  obtain ⟨c0, c1, c2, c3, c4⟩ := row_cells r7
  have l1 := heap_lt r1
  have l5 := heap_lt r5
  have l7 := heap_lt r7
  have hz10 := m10.size
  clear r1 r5 r7 m3 m3a n3 m5 m6 m7 m8 m9 m10 h5 h6 h7 h8 h9 h10
  go_wp2_with (fail)
  refine (awake_any _ (N10.out _) _ (Made.refl _)).mono ?_
  rintro e w11 ⟨rfl, h11⟩
  go_wp2
  go_ret
  exact ⟨rfl, Made.trans (M10.out.alloc M10.out.size _) h11⟩
end isaKnown

theorem names_of {W : World} (h : laidMet Tryd.prog Rows.isaKnownRow.laid W) : Names W :=
  laid_block (vs := namesL.map fun (l : List UInt8) => Value.string (ByteArray.mk l.toArray)) 5 0 h rfl (g := 0) (t := 47) (by kernel_rfl) (by kernel_rfl) (by kernel_rfl)
/-- A world for the witness: the settled one, the table's block holding what its initialiser lays. -/
noncomputable def laidWorld (os : Os) : World :=
  { World.holding Tryd.prog os ⟨#[], #[], []⟩ with heap := (World.holding Tryd.prog os ⟨#[], #[], []⟩).heap.modify 0 fun
      | .cells _ t frozen => .cells (namesL.map fun l => Value.string ⟨l.toArray⟩).toArray t frozen
      | o => o }
end Go.Proofs.YtabcakdnnnajiaaDoor
