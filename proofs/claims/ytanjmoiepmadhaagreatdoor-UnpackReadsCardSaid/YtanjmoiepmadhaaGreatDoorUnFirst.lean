/- What package unpack's first returns; no condition but those named. -/
import Derived.Test.YtanjmoiepmadhaaGreatDoorUnSing
import Derived.Test.YtanjmoiepmadhaaGreatDoorGEncB
import Derived.Test.YtanjmoiepmadhaaGreatDoorGDup
import Derived.Test.YtanjmoiepmadhaaGreatDoorGPack
namespace Go.Proofs.YtanjmoiepmadhaaGreatDoor
open Go.ChangeShapes Go.WideShapes Go.ChangeAt Go.RowKit Go.Sort BigFrame

theorem ws_cell {w : World} {ao : Option Addr} {cap : Nat} {zs : List Int} (h : Ws w ao cap zs) {t : Nat} (ht : t < zs.length) (z : Int) (hz : zs[t] = z) : ∃ b o, ao = some ⟨b, o, none⟩ ∧ w.cell? ⟨b, o + t, none⟩ = some (.int .u32 z) := by
  subst hz
  exact h.cell t ht
/-- The words behind the first n, wherever the walk says that they begin. -/
theorem ws_behind {w : World} {b o cap : Nat} {zs : List Int} (h : Ws w (some ⟨b, o, none⟩) cap zs) (n : Nat) : Ws w (some ⟨b, o + n, none⟩) (cap - n) (zs.drop n) := by
  have hr := h.room
  refine ⟨by rw [List.length_drop]; omega, Nat.le_trans (Nat.sub_le _ _) h.max, fun t ht => ?_⟩
  rw [List.length_drop] at ht
  obtain ⟨b', o', e, hc⟩ := h.cell (n + t) (by omega)
  simp only [Option.some.injEq, Addr.mk.injEq, and_true] at e
  obtain ⟨rfl, rfl⟩ := e
  refine ⟨b, o + n, rfl, ?_⟩
  rw [Nat.add_assoc, hc, List.getElem_drop]
theorem ws_nothing {w : World} {ao : Option Addr} {cap : Nat} {zs : List Int} (h : zs = []) (hc : cap ≤ maxLen) : Ws w ao cap zs := by
  subst h
  exact ⟨Nat.zero_le _, hc, fun t ht => absurd ht (Nat.not_lt_zero t)⟩
/-- The address that the walk takes behind the first n. -/
theorem ws_part {w : World} {b o cap n : Nat} {zs : List Int} (h : Ws w (some ⟨b, o, none⟩) cap zs) (hn : n ≤ zs.length) : Ws w (if cap = n then some ⟨b, o, none⟩ else some ⟨b, o + n, none⟩) (cap - n) (zs.drop n) := by
  by_cases hc : cap = n
  · rw [if_pos hc]
    have hr := h.room
    exact ws_nothing (List.drop_eq_nil_of_le (by omega)) (Nat.le_trans (Nat.sub_le _ _) h.max)
  · rw [if_neg hc]
    exact ws_behind h n
theorem first_plain {pc z : Int} (h : codeZ z ≠ 0) (r : List Int) : firstW pc (z :: r) = if instB z 0 false pc = true then some (instP z 0 false pc, r) else none := by
  cases r with
  | nil => rfl
  | cons v r =>
    show (if codeZ z = 0 then _ else _) = _
    rw [if_neg h]
theorem first_ext {pc z : Int} (h : codeZ z = 0) (v : Int) (r : List Int) : firstW pc (z :: v :: r) = if instB v (payZ z) true pc = true then some (instP v (payZ z) true pc, r) else none := by
  show (if codeZ z = 0 then _ else _) = _
  rw [if_pos h]
theorem first_alone {pc z : Int} (h : codeZ z = 0) : firstW pc [z] = none := by
  show (if instB z 0 false pc = true then _ else none) = none
  rw [if_neg (by rw [instB_none h]; simp)]
theorem own_took {W w : World} {B : Nat} {y : In} (h : Own W B y w) (hB : W.heap.size ≤ B) (x : In) : Own W B x (set11b w B (.int .u8 x.op) (.int .u8 x.d) (.int .u8 x.s) (.int .u8 x.t) (.int .u8 x.n) (.int .u8 x.pred) (.int .u8 x.mode) (.bool x.new) (.bool x.ext) (.int .u16 x.count) (.int .i64 x.imm)) :=
  let k := took_all x h.in_
  ⟨k.made W hB h.made, k.at_⟩
/-- What 'first' tells. -/
def FirstSays (W : World) (pc : Int) (zs : List Int) (w : World) (e : Ending) (w' : World) : Prop :=
  ∃ (x : In) (so : Option Addr) (n cap : Nat) (ok : Bool), e = .returned (.tuple #[x.val, .slice so n cap, .bool ok]) ∧ Made w w' ∧ (ok = false → firstW pc zs = none) ∧ (ok = true → x.small ∧ ∃ r, firstW pc zs = some (x, r) ∧ r.length = n ∧ Ws W so cap r)
section
attribute [local irreducible] World.cell?
set_option maxRecDepth 100000 in
set_option maxHeartbeats 8000000 in
theorem ufirst_any (W : World) (hN : Names W) (hP : Pieces W) (b o cap : Nat) (z : Int) (r : List Int) (hW : Ws W (some ⟨b, o, none⟩) cap (z :: r)) (hu : U32s (z :: r)) (hl : (z :: r).length ≤ 1000) (pc : Int) (n : Nat) (hn : n = (z :: r).length) :
    ∀ w, Made W w → Calls Tryz.prog 106 #[.slice (some ⟨b, o, none⟩) n cap, .int .u32 pc] w (FirstSays W pc (z :: r) w) := by
  intro w hm
  have hz := Nat.le_refl w.heap.size
  have hzu := hu z (List.mem_cons_self ..)
  have hroom := hW.room
  have hr1 : (z :: r).length = r.length + 1 := List.length_cons
  have hmax := hW.max
  unfold maxLen at hmax
  have HA := Lib.hid (show ∀ k, k ≤ (z :: r).length → Ws W (if cap = k then some ⟨b, o, none⟩ else some ⟨b, o + k, none⟩) (cap - k) ((z :: r).drop k) from fun k hk => ws_part hW hk)
  have c0 : w.cell? ⟨b, o, none⟩ = some (.int .u32 z) := by
    obtain ⟨b', o', e, h⟩ := ws_cell (hW.made hm) (t := 0) (by simp) z rfl
    simp only [Option.some.injEq, Addr.mk.injEq, and_true] at e
    obtain ⟨rfl, rfl⟩ := e
    rwa [Nat.add_zero] at h
  have lb := World.block_lt_of_cell? w _ c0
  have hparts := Lib.hid (fun v (hv : Made w v) => parts_made v (hP.made (Made.trans hm hv)) z hzu v (Made.refl v))
  have K0 := Lib.hid (show Own w w.heap.size inZero (w.alloc (.cells inZero.cells.toArray 40)) from ⟨(Made.refl w).alloc hz _, heap_alloc_new w _⟩)
  have HE := Lib.hid (fun v (hv : Made w v) (y u : Int) (has : Bool) (hy : isU32 y) (hu : isU32 u) => encInst_any v (hN.made (Made.trans hm hv)) (hP.made (Made.trans hm hv)) y u pc has hy hu v (Made.refl v))
  have hways : (codeZ z ≠ 0) ∨ (codeZ z = 0 ∧ r = []) ∨ (codeZ z = 0 ∧ ∃ v t, r = v :: t) := by
    by_cases h : codeZ z = 0
    · cases r with
      | nil => exact .inr (.inl ⟨h, rfl⟩)
      | cons v t => exact .inr (.inr ⟨h, v, t, rfl⟩)
    · exact .inl h
  rcases hways with hc | ⟨hc, rfl⟩ | ⟨hc, v, t, rfl⟩
  · have hc0 : (codeZ z != 0) = true := bne_iff_ne.2 hc
    have HF := Lib.hid (first_plain (pc := pc) hc r)
    have HA1 := Lib.hid (HA.out 1 (by omega))
    have HI := Lib.hid (fun v (hv : Made w v) => HE.out v hv z 0 false hzu zero_u32)
    have HS := Lib.hid (instP_small (w := z) (u := 0) (has := false) (pc := pc))
    clear hc hW hu HE HA hP hN
    generalize instP z 0 false pc = x at *
    generalize instB z 0 false pc = ok at *
    generalize codeZ z = cz at *
    generalize payZ z = pz at *
    generalize parseZ z = qz at *
    go_enter Tryz.func106, Tryz.ntmps106
    go_wp2_with (fail)
    refine (hparts.out _ K0.out.made).mono ?_
    rintro e w1 ⟨rfl, h1⟩
    have K1 := Lib.hid (K0.out.next h1)
    have d0 : w1.cell? ⟨b, o, none⟩ = some (.int .u32 z) := (World.cell?_of_block (K1.out.made.block b lb)).trans c0
    have lb1 := World.block_lt_of_cell? w1 _ d0
    clear h1 K0 hparts
    go_wp2_with (fail)
    refine (HI.out _ K1.out.made).mono ?_
    rintro e w2 ⟨rfl, h2⟩
    have K2 := Lib.hid (K1.out.next h2)
    clear h2 d0 K1 HI
    obtain ⟨a0, a1, a2, a3, a4, a5, a6, a7, a8, a9, a10⟩ := in_cells K2.out.in_
    have fz := free_of_lit K2.out.in_
    have hl2 := heap_lt K2.out.in_
    obtain ⟨so, hso⟩ : ∃ A : Addr, (if cap = 1 then (some ⟨b, o, none⟩ : Option Addr) else some ⟨b, o + 1, none⟩) = some A := by split <;> exact ⟨_, rfl⟩
    go_upto_region 4 with (fail)
    refine world_named (fun y => Own w w.heap.size x y) (own_took K2.out (Nat.le_refl _) x) ?_
    intro y hy
    have KY := Lib.hid hy
    clear hy a0 a1 a2 a3 a4 a5 a6 a7 a8 a9 a10 fz hl2 K2
    obtain ⟨a0, a1, a2, a3, a4, a5, a6, a7, a8, a9, a10⟩ := in_cells KY.out.in_
    have fz := free_of_lit KY.out.in_
    have hl2 := heap_lt KY.out.in_
    have g1 : (1 : Int) ≤ (n : Int) := by omega
    have g2 : 1 ≤ cap := by omega
    have g3 : 1 ≤ n := by omega
    go_region
    go_wp2
    refine bodyPost_ret (v := .tuple #[x.val, .slice (some so) r.length (cap - 1), .bool ok]) (by simp [results, Tryz.results106, go_sem, a0, a1, a2, a3, a4, a5, a6, a7, a8, a9, a10]) rfl ?_
    refine ⟨x, some so, r.length, cap - 1, ok, rfl, below_drew (made_set11b KY.out.made (Nat.le_refl _) _ _ _ _ _ _ _ _ _ _ _), fun h => by rw [HF.out, h]; rfl, fun h => ⟨HS.out, r, by rw [HF.out, if_pos h], rfl, ?_⟩⟩
    have h9 := HA1.out
    rw [hso] at h9
    exact h9
  · have hc0 : (codeZ z != 0) = false := by rw [hc]; rfl
    have HF := Lib.hid (first_alone (pc := pc) hc)
    have hn1 : n = 1 := hn
    clear hc hW hu HE HA hP hN hr1 hroom hl hn
    subst hn1
    generalize codeZ z = cz at *
    generalize payZ z = pz at *
    generalize parseZ z = qz at *
    go_enter Tryz.func106, Tryz.ntmps106
    go_wp2_with (fail)
    refine (hparts.out _ K0.out.made).mono ?_
    rintro e w1 ⟨rfl, h1⟩
    have K1 := Lib.hid (K0.out.next h1)
    clear h1 K0 hparts
    obtain ⟨a0, a1, a2, a3, a4, a5, a6, a7, a8, a9, a10⟩ := in_cells K1.out.in_
    have fz := free_of_lit K1.out.in_
    have hl2 := heap_lt K1.out.in_
    go_wp2
    refine bodyPost_ret (v := .tuple #[inZero.val, .slice none 0 0, .bool false]) (by simp [results, Tryz.results106, go_sem, a0, a1, a2, a3, a4, a5, a6, a7, a8, a9, a10, inZero]) rfl ?_
    exact ⟨inZero, none, 0, 0, false, rfl, made_set11b K1.out.made (Nat.le_refl _) _ _ _ _ _ _ _ _ _ _ _, fun _ => HF.out, fun h => by cases h⟩
  · have hc0 : (codeZ z != 0) = false := by rw [hc]; rfl
    have hvu := hu v (by simp)
    have HF := Lib.hid (first_ext (pc := pc) hc v t)
    have HA1 := Lib.hid (HA.out 2 (by simp))
    have HI := Lib.hid (fun y (hy : Made w y) => HE.out y hy v (payZ z) true hvu (pay_u32 z))
    have HS := Lib.hid (instP_small (w := v) (u := payZ z) (has := true) (pc := pc))
    have d0 : w.cell? ⟨b, o + 1, none⟩ = some (.int .u32 v) := by
      obtain ⟨b', o', e, h⟩ := ws_cell (hW.made hm) (t := 1) (by simp) v rfl
      simp only [Option.some.injEq, Addr.mk.injEq, and_true] at e
      obtain ⟨rfl, rfl⟩ := e
      exact h
    have hn2 : n = t.length + 1 + 1 := hn
    have hroom2 : t.length + 1 + 1 ≤ cap := hroom
    clear hc hW hu HE HA hP hN hr1 hroom hl hn
    have gn : ((n : Int) == 1) = false := beq_eq_false_iff_ne.2 (by omega)
    have g0 : (1 : Int) < (n : Int) := by omega
    generalize instP v (payZ z) true pc = x at *
    generalize instB v (payZ z) true pc = ok at *
    generalize codeZ z = cz at *
    generalize payZ z = pz at *
    generalize parseZ z = qz at *
    go_enter Tryz.func106, Tryz.ntmps106
    go_wp2_with (fail)
    refine (hparts.out _ K0.out.made).mono ?_
    rintro e w1 ⟨rfl, h1⟩
    have K1 := Lib.hid (K0.out.next h1)
    have d1 : w1.cell? ⟨b, o + 1, none⟩ = some (.int .u32 v) := (World.cell?_of_block (K1.out.made.block b lb)).trans d0
    have lb1 := World.block_lt_of_cell? w1 _ d1
    clear h1 K0 hparts
    go_wp2_with (fail)
    refine (HI.out _ K1.out.made).mono ?_
    rintro e w2 ⟨rfl, h2⟩
    have K2 := Lib.hid (K1.out.next h2)
    clear h2 d0 d1 K1 HI
    obtain ⟨a0, a1, a2, a3, a4, a5, a6, a7, a8, a9, a10⟩ := in_cells K2.out.in_
    have fz := free_of_lit K2.out.in_
    have hl2 := heap_lt K2.out.in_
    obtain ⟨so, hso⟩ : ∃ A : Addr, (if cap = 2 then (some ⟨b, o, none⟩ : Option Addr) else some ⟨b, o + 2, none⟩) = some A := by split <;> exact ⟨_, rfl⟩
    go_upto_region 8 with (fail)
    refine world_named (fun y => Own w w.heap.size x y) (own_took K2.out (Nat.le_refl _) x) ?_
    intro y hy
    have KY := Lib.hid hy
    clear hy a0 a1 a2 a3 a4 a5 a6 a7 a8 a9 a10 fz hl2 K2
    obtain ⟨a0, a1, a2, a3, a4, a5, a6, a7, a8, a9, a10⟩ := in_cells KY.out.in_
    have fz := free_of_lit KY.out.in_
    have hl2 := heap_lt KY.out.in_
    have g1 : (2 : Int) ≤ (n : Int) := by omega
    have g2 : 2 ≤ cap := by omega
    have g3 : 2 ≤ n := by omega
    go_region
    go_wp2
    refine bodyPost_ret (v := .tuple #[x.val, .slice (some so) t.length (cap - 2), .bool ok]) (by simp [results, Tryz.results106, go_sem, a0, a1, a2, a3, a4, a5, a6, a7, a8, a9, a10]) rfl ?_
    refine ⟨x, some so, t.length, cap - 2, ok, rfl, below_drew (made_set11b KY.out.made (Nat.le_refl _) _ _ _ _ _ _ _ _ _ _ _), fun h => by rw [HF.out, h]; rfl, fun h => ⟨HS.out, t, by rw [HF.out, if_pos h], rfl, ?_⟩⟩
    have h9 := HA1.out
    rw [hso] at h9
    exact h9
end
end Go.Proofs.YtanjmoiepmadhaaGreatDoor
