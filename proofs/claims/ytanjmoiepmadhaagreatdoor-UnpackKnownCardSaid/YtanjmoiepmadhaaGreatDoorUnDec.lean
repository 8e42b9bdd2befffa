/- What package unpack's decode and Length return, for any words in memory, in every world that holds the three tables. -/
import Derived.Test.YtanjmoiepmadhaaGreatDoorUnInsts
import Derived.Test.YtanjmoiepmadhaaGreatDoorLegalCode
namespace Go.Proofs.YtanjmoiepmadhaaGreatDoor
open Go.ChangeShapes Go.WideShapes Go.ChangeAt Go.RowKit Go.Sort BigFrame

abbrev put5 (u : World) (B : Nat) (v0 v1 v2 v3 v4 : Value) : World := ((((u.setCell ⟨B, 0, none⟩ v0).setCell ⟨B, 1, none⟩ v1).setCell ⟨B, 2, none⟩ v2).setCell ⟨B, 3, none⟩ v3).setCell ⟨B, 4, none⟩ v4
theorem made_put5 {W u : World} {B : Nat} (h : Made W u) (hB : W.heap.size ≤ B) (v0 v1 v2 v3 v4 : Value) : Made W (put5 u B v0 v1 v2 v3 v4) :=
  Below.setCell (Below.setCell (Below.setCell (Below.setCell (Below.setCell h (p := ⟨B, 0, none⟩) hB v0) (p := ⟨B, 1, none⟩) hB v1) (p := ⟨B, 2, none⟩) hB v2) (p := ⟨B, 3, none⟩) hB v3) (p := ⟨B, 4, none⟩) hB v4
/-- A row stands while the result's box is filled. -/
theorem insts_put5 {u : World} {B : Nat} {so : Option Addr} {c : Nat} {l : List In} (h : Insts u so c l) (hB : ∀ b o, so = some ⟨b, o, none⟩ → b ≠ B) (v0 v1 v2 v3 v4 : Value) : Insts (put5 u B v0 v1 v2 v3 v4) so c l := by
  refine insts_block h fun b o e => ?_
  have hne := hB b o e
  rw [heap_setCell_other _ ⟨B, 4, none⟩ b _ hne, heap_setCell_other _ ⟨B, 3, none⟩ b _ hne, heap_setCell_other _ ⟨B, 2, none⟩ b _ hne, heap_setCell_other _ ⟨B, 1, none⟩ b _ hne, heap_setCell_other _ ⟨B, 0, none⟩ b _ hne]
/-- What 'decode' tells. -/
def Decoded (pc : Int) (zs : List Int) (w : World) (e : Ending) (w' : World) : Prop :=
  ∃ so cap p ok, e = .returned (.tuple #[pkOf so cap p, .bool ok]) ∧ Insts w' so cap p.insts ∧ Made w w' ∧ (ok = false → unP pc zs = none) ∧ (ok = true → ∃ s, unP pc zs = some s ∧ p = unPk zs s) ∧ ∀ b o, so = some ⟨b, o, none⟩ → w.heap.size ≤ b
theorem decoded_none {pc : Int} {zs : List Int} {w w' : World} (h : unP pc zs = none) (hm : Made w w') : Decoded pc zs w (.returned (.tuple #[pkV none 0 0 false false false false, .bool false])) w' :=
  ⟨none, 0, pkZero, false, rfl, insts_zero' w', hm, fun _ => h, fun h0 => (by cases h0), fun b o h => by cases h⟩
theorem decoded_some {pc : Int} {zs : List Int} {w w' : World} {s : UnSt} {so : Option Addr} {c n : Nat} {e0 e1 raw dup : Bool} (h : unP pc zs = some s) (hn : s.insts.length = n) (k0 : markB zs 0 = e0) (k1 : markB zs 1 = e1) (kr : (!s.dup && decide (2 ≤ s.insts.length)) = raw) (kd : s.dup = dup)
    (hI : Insts w' so c s.insts) (hm : Made w w') (hb : ∀ b o, so = some ⟨b, o, none⟩ → w.heap.size ≤ b) : Decoded pc zs w (.returned (.tuple #[pkV so n c e0 e1 raw dup, .bool true])) w' := by
  subst hn k0 k1 kr kd
  exact ⟨so, c, unPk zs s, true, rfl, hI, hm, fun h0 => (by cases h0), fun _ => ⟨s, h, rfl⟩, hb⟩
section
attribute [local irreducible] World.cell?
set_option maxRecDepth 100000 in
set_option maxHeartbeats 16000000 in
theorem udecode_any (ao : Option Addr) (cap : Nat) (zs : List Int) (hlen : lenP zs = (zs.length, true)) (w : World) (hT : Tabs w) (hW : Ws w ao cap zs) (hu : U32s zs) (pc : Int) (n : Nat) (hn : n = zs.length) :
    Calls Tryz.prog 21 #[.slice ao n cap, .int .u32 pc] w (Decoded pc zs w) := by
  have HUN := Lib.hid (un_whole (pc := pc) hlen)
  obtain ⟨h4, a, z, rfl, -⟩ := lenN_ends zs 0 (by rw [Nat.zero_add]; exact hlen)
  rw [Nat.zero_add, List.length_append, List.length_singleton] at h4
  rw [List.length_append, List.length_singleton] at hn
  have hzl : (a ++ [z]).length = n := by rw [List.length_append, List.length_singleton]; exact hn.symm
  have K0 := Lib.hid (box_start (Made.refl w) (boxL none 0 0 false false false false))
  have HIN := Lib.hid (fun (u : World) (hm : Made w u) => uinsts_any ao cap a z u (hT.made hm) (hW.made hm) hu (by omega) pc n hn)
  have HE := Lib.hid (fun (u : World) (hm : Made w u) (i : Nat) (k : Int) (hi : i ≤ 1000) (hk : (i : Int) = k) (v : Bool) (hv : markB (a ++ [z]) i = v) => uends_any u (hT.made hm).pieces ao cap (a ++ [z]) (hW.made hm) hu (by omega) i hi n hzl k hk v hv u (Made.refl u))
  have HD := Lib.hid (fun (u : World) (hm : Made w u) => uhas_any u (hT.made hm).pieces ao cap a z (hW.made hm) (hu z (by simp)) (by omega) n hn u (Made.refl u))
  obtain ⟨m0, hm0⟩ : ∃ v, markB (a ++ [z]) 0 = v := ⟨_, rfl⟩
  obtain ⟨m1, hm1⟩ : ∃ v, markB (a ++ [z]) 1 = v := ⟨_, rfl⟩
  obtain ⟨m2, hm2⟩ : ∃ v, markB (a ++ [z]) 2 = v := ⟨_, rfl⟩
  have HE0 := Lib.hid (fun (u : World) (hm : Made w u) => HE.out u hm 0 0 (by omega) rfl m0 hm0)
  have HE1 := Lib.hid (fun (u : World) (hm : Made w u) => HE.out u hm 1 1 (by omega) rfl m1 hm1)
  have HE2 := Lib.hid (fun (u : World) (hm : Made w u) => HE.out u hm 2 2 (by omega) rfl m2 hm2)
  have HM0 := Lib.hid hm0
  have HM1 := Lib.hid hm1
  have HM2 := Lib.hid hm2
  clear hT hW hu hlen hm0 hm1 hm2 HE hn hzl
  go_enter Tryz.func21, Tryz.ntmps21
  go_wp2_with (fail)
  refine (HIN.out _ K0.out.made).mono ?_
  rintro e w1 ⟨v, l, ok, rfl, hg, hs, hll⟩
  have hgi := (got_under K0.out.made hg).insts
  obtain ⟨so, c, rfl, hI⟩ := hgi
  have HI := Lib.hid hI
  have HB := Lib.hid (show ∀ b o, so = some ⟨b, o, none⟩ → b ≠ w.heap.size ∧ w.heap.size ≤ b from fun b o e => by
    have h5 := (hg.row.lt b (by rw [e]; rfl)).1
    have h6 := heap_lt K0.out.at_
    omega)
  have K1 := Lib.hid (K0.out.next hg.made)
  have HS := Lib.hid hs
  clear hg hs hI K0 HIN
  cases ok with
  | false =>
    have HR := Lib.hid (show unP pc (a ++ [z]) = none by rw [HUN.out, HS.out]; split <;> rfl)
    obtain ⟨a0, a1, a2, a3, a4⟩ := box_cells K1.out
    have fa := free_of_lit K1.out.at_
    have la := heap_lt K1.out.at_
    go_wp2
    refine bodyPost_ret (v := .tuple #[pkV none 0 0 false false false false, .bool false]) (by simp [results, Tryz.results21, go_sem, a0, a1, a2, a3, a4]) rfl ?_
    exact decoded_none HR.out (made_put5 K1.out.made (Nat.le_refl _) _ _ _ _ _)
  | true =>
    go_wp2_with (fail)
    refine (HE2.out _ K1.out.made).mono ?_
    rintro e w2 ⟨rfl, h2⟩
    have K2 := Lib.hid (K1.out.next h2)
    have HI2 := Lib.hid (insts_made HI.out h2)
    clear h2 HI HE2 K1
    cases m2 with
    | true =>
      have HR := Lib.hid (show unP pc (a ++ [z]) = none by rw [HUN.out, if_pos HM2.out])
      obtain ⟨a0, a1, a2, a3, a4⟩ := box_cells K2.out
      have fa := free_of_lit K2.out.at_
      have la := heap_lt K2.out.at_
      go_wp2
      refine bodyPost_ret (v := .tuple #[pkV none 0 0 false false false false, .bool false]) (by simp [results, Tryz.results21, go_sem, a0, a1, a2, a3, a4]) rfl ?_
      exact decoded_none HR.out (made_put5 K2.out.made (Nat.le_refl _) _ _ _ _ _)
    | false =>
      have HR := Lib.hid (show unP pc (a ++ [z]) = some ⟨l, parseZ z == 0, 0, false⟩ by rw [HUN.out, if_neg (by rw [HM2.out]; simp), HS.out]; rfl)
      generalize (parseZ z == 0) = d at *
      clear HS HUN HM2
      go_wp2_with (fail)
      refine (HD.out _ K2.out.made).mono ?_
      rintro e w3 ⟨rfl, h3⟩
      have K3 := Lib.hid (K2.out.next h3)
      have HI3 := Lib.hid (insts_made HI2.out h3)
      clear h3 HI2 HD K2
      obtain ⟨rv, hrv⟩ : ∃ v, (!d && decide (2 ≤ l.length)) = v := ⟨_, rfl⟩
      have HRV := Lib.hid hrv
      have hways : (d = true ∧ rv = false) ∨ (d = false ∧ decide ((l.length : Int) > 1) = rv) := by
        cases d with
        | true => exact .inl ⟨rfl, hrv.symm⟩
        | false => exact .inr ⟨rfl, by rw [← hrv]; simp only [Bool.not_false, Bool.true_and]; exact decide_eq_decide.2 (by omega)⟩
      clear hrv
      rcases hways with ⟨rfl, rfl⟩ | ⟨rfl, hgd⟩
      all_goals
        go_wp2_with (fail)
        refine (HE0.out _ K3.out.made).mono ?_
        rintro e w4 ⟨rfl, h4'⟩
        have K4 := Lib.hid (K3.out.next h4')
        have HI4 := Lib.hid (insts_made HI3.out h4')
        clear h4'
        go_wp2_with (fail)
        refine (HE1.out _ K4.out.made).mono ?_
        rintro e w5 ⟨rfl, h5'⟩
        have K5 := Lib.hid (K4.out.next h5')
        have HI5 := Lib.hid (insts_made HI4.out h5')
        clear h5'
        obtain ⟨a0, a1, a2, a3, a4⟩ := box_cells K5.out
        have fa := free_of_lit K5.out.at_
        have la := heap_lt K5.out.at_
        go_wp2
      · refine bodyPost_ret (v := .tuple #[pkV so l.length c m0 m1 false true, .bool true]) (by simp [results, Tryz.results21, go_sem, a0, a1, a2, a3, a4]) rfl ?_
        exact decoded_some HR.out rfl HM0.out HM1.out HRV.out rfl (insts_put5 HI5.out (fun b o e => (HB.out b o e).1) _ _ _ _ _) (made_put5 K5.out.made (Nat.le_refl _) _ _ _ _ _) (fun b o e => (HB.out b o e).2)
      · refine bodyPost_ret (v := .tuple #[pkV so l.length c m0 m1 rv false, .bool true]) (by simp [results, Tryz.results21, go_sem, a0, a1, a2, a3, a4]) rfl ?_
        exact decoded_some HR.out rfl HM0.out HM1.out HRV.out rfl (insts_put5 HI5.out (fun b o e => (HB.out b o e).1) _ _ _ _ _) (made_put5 K5.out.made (Nat.le_refl _) _ _ _ _ _) (fun b o e => (HB.out b o e).2)
set_option maxRecDepth 100000 in
set_option maxHeartbeats 8000000 in
theorem ulen_any (ao : Option Addr) (cap : Nat) (zs : List Int) (w : World) (hT : Tabs w) (hW : Ws w ao cap zs) (hu : U32s zs) (hl : zs.length ≤ 1000) :
    Calls Tryz.prog 8 #[.slice ao zs.length cap] w (LenSays zs w) := by
  have H := Lib.hid hW
  have HU := Lib.hid hu
  have HP := Lib.hid (fun (u : World) (hm : Made w u) (v : Int) (hv : isU32 v) => uparse_any u (hT.made hm).pieces v hv u (Made.refl u))
  have hroom := hW.room
  obtain ⟨m, hm⟩ : ∃ m : Nat, m = min zs.length 4 := ⟨_, rfl⟩
  have hm4 : (m = zs.length ∧ (zs.length : Int) ≤ 4) ∨ (m = 4 ∧ (4 : Int) < (zs.length : Int)) := by omega
  have g1 : (0 : Int) ≤ (m : Int) := by omega
  have g2 : (m : Int) ≤ (cap : Int) := by omega
  have g3 : m ≤ cap := by omega
  have HM := Lib.hid hm
  clear hW hu hT hm
  rcases hm4 with ⟨rfl, h4⟩ | ⟨rfl, h4⟩
  · go_enter Tryz.func8, Tryz.ntmps8
    go_wp2_with (fail)
    go_loopw [13] (fun i wr => ∃ k : Nat, k ≤ zs.length ∧ i = .int .i64 k ∧ lenN k (zs.drop k) = lenP zs ∧ Made w wr) (fun i _ => zs.length - (intOf i).toNat)
    case atStart => exact ⟨0, by omega, rfl, rfl, Made.refl w⟩
    case round =>
      obtain ⟨k, hk, rfl, hat, hmw⟩ := hrel
      have M0 := Lib.hid hmw
      have HAT := Lib.hid hat
      clear hmw hat
      by_cases hlt : k < zs.length
      · have hlz : k < zs.length := by have := HM.out; omega
        obtain ⟨z, hz⟩ : ∃ z, zs[k] = z := ⟨_, rfl⟩
        obtain ⟨b, o, rfl, c0⟩ := ws_cell (H.out.made M0.out) hlz z hz
        have lb := World.block_lt_of_cell? wr _ c0
        have HST := Lib.hid (lenN_step hlz z hz)
        have HEN := Lib.hid (end_iff z)
        have HC := Lib.hid (HP.out wr M0.out z (HU.out z (hz ▸ List.getElem_mem hlz)))
        have k0 : (0 : Int) ≤ (k : Int) := by omega
        have k1 : (k : Int) < (zs.length : Int) := by omega
        have hk4 : ¬ 4 ≤ k := by have := HM.out; omega
        clear hz
        generalize parseZ z = q at *
        go_wp2_with (fail)
        refine HC.out.mono ?_
        rintro e w1 ⟨rfl, h1⟩
        have M1 := Lib.hid (Made.trans M0.out h1)
        clear h1 HC c0 lb
        have hq : (q = 3) ∨ (q = 0) ∨ ((q == 3) = false ∧ (q == 0) = false ∧ ¬ stopB z = true) := by
          by_cases h3 : q = 3
          · exact .inl h3
          · by_cases h0 : q = 0
            · exact .inr (.inl h0)
            · exact .inr (.inr ⟨beq_eq_false_iff_ne.2 h3, beq_eq_false_iff_ne.2 h0, fun h => (HEN.out.1 h).elim h0 h3⟩)
        rcases hq with rfl | rfl | ⟨q3, q0, hs⟩
        · have HR := Lib.hid (show lenP zs = (k + 1, true) by rw [← HAT.out, HST.out, if_neg hk4, if_pos (HEN.out.2 (.inr rfl))])
          go_wp2
          refine bodyPost_ret (v := .tuple #[.int .i64 ((k + 1 : Nat) : Int), .bool true]) (by simp [results, Tryz.results8, go_sem]) rfl ?_
          exact ⟨by rw [HR.out], M1.out⟩
        · have HR := Lib.hid (show lenP zs = (k + 1, true) by rw [← HAT.out, HST.out, if_neg hk4, if_pos (HEN.out.2 (.inl rfl))])
          go_wp2
          refine bodyPost_ret (v := .tuple #[.int .i64 ((k + 1 : Nat) : Int), .bool true]) (by simp [results, Tryz.results8, go_sem]) rfl ?_
          exact ⟨by rw [HR.out], M1.out⟩
        · have HR := Lib.hid (show lenN (k + 1) (zs.drop (k + 1)) = lenP zs by rw [← HAT.out, HST.out, if_neg hk4, if_neg hs])
          clear hs HST HEN HAT
          go_wp2
          go_roundw
          case rel => exact ⟨k + 1, by omega, by go_num, HR.out, M1.out⟩
          case measure => simp [intOf]; omega
      · have hkm : k = zs.length := by omega
        have HR := Lib.hid (show lenP zs = (0, false) by
          rw [← HAT.out, hkm]
          exact lenN_end zs)
        clear HAT
        go_wp2
        refine bodyPost_ret (v := .tuple #[.int .i64 0, .bool false]) (by simp [results, Tryz.results8, go_sem]) rfl ?_
        exact ⟨by rw [HR.out]; rfl, M0.out⟩
  · go_enter Tryz.func8, Tryz.ntmps8
    go_wp2_with (fail)
    go_loopw [13] (fun i wr => ∃ k : Nat, k ≤ 4 ∧ i = .int .i64 k ∧ lenN k (zs.drop k) = lenP zs ∧ Made w wr) (fun i _ => 4 - (intOf i).toNat)
    case atStart => exact ⟨0, by omega, rfl, rfl, Made.refl w⟩
    case round =>
      obtain ⟨k, hk, rfl, hat, hmw⟩ := hrel
      have M0 := Lib.hid hmw
      have HAT := Lib.hid hat
      clear hmw hat
      by_cases hlt : k < 4
      · have hlz : k < zs.length := by have := HM.out; omega
        obtain ⟨z, hz⟩ : ∃ z, zs[k] = z := ⟨_, rfl⟩
        obtain ⟨b, o, rfl, c0⟩ := ws_cell (H.out.made M0.out) hlz z hz
        have lb := World.block_lt_of_cell? wr _ c0
        have HST := Lib.hid (lenN_step hlz z hz)
        have HEN := Lib.hid (end_iff z)
        have HC := Lib.hid (HP.out wr M0.out z (HU.out z (hz ▸ List.getElem_mem hlz)))
        have k0 : (0 : Int) ≤ (k : Int) := by omega
        have k1 : (k : Int) < 4 := by omega
        have hk4 : ¬ 4 ≤ k := by have := HM.out; omega
        clear hz
        generalize parseZ z = q at *
        go_wp2_with (fail)
        refine HC.out.mono ?_
        rintro e w1 ⟨rfl, h1⟩
        have M1 := Lib.hid (Made.trans M0.out h1)
        clear h1 HC c0 lb
        have hq : (q = 3) ∨ (q = 0) ∨ ((q == 3) = false ∧ (q == 0) = false ∧ ¬ stopB z = true) := by
          by_cases h3 : q = 3
          · exact .inl h3
          · by_cases h0 : q = 0
            · exact .inr (.inl h0)
            · exact .inr (.inr ⟨beq_eq_false_iff_ne.2 h3, beq_eq_false_iff_ne.2 h0, fun h => (HEN.out.1 h).elim h0 h3⟩)
        rcases hq with rfl | rfl | ⟨q3, q0, hs⟩
        · have HR := Lib.hid (show lenP zs = (k + 1, true) by rw [← HAT.out, HST.out, if_neg hk4, if_pos (HEN.out.2 (.inr rfl))])
          go_wp2
          refine bodyPost_ret (v := .tuple #[.int .i64 ((k + 1 : Nat) : Int), .bool true]) (by simp [results, Tryz.results8, go_sem]) rfl ?_
          exact ⟨by rw [HR.out], M1.out⟩
        · have HR := Lib.hid (show lenP zs = (k + 1, true) by rw [← HAT.out, HST.out, if_neg hk4, if_pos (HEN.out.2 (.inl rfl))])
          go_wp2
          refine bodyPost_ret (v := .tuple #[.int .i64 ((k + 1 : Nat) : Int), .bool true]) (by simp [results, Tryz.results8, go_sem]) rfl ?_
          exact ⟨by rw [HR.out], M1.out⟩
        · have HR := Lib.hid (show lenN (k + 1) (zs.drop (k + 1)) = lenP zs by rw [← HAT.out, HST.out, if_neg hk4, if_neg hs])
          clear hs HST HEN HAT
          go_wp2
          go_roundw
          case rel => exact ⟨k + 1, by omega, by go_num, HR.out, M1.out⟩
          case measure => simp [intOf]; omega
      · have hkm : k = 4 := by omega
        have HR := Lib.hid (show lenP zs = (0, false) by
          rw [← HAT.out, hkm]
          exact lenN_four _)
        clear HAT
        go_wp2
        refine bodyPost_ret (v := .tuple #[.int .i64 0, .bool false]) (by simp [results, Tryz.results8, go_sem]) rfl ?_
        exact ⟨by rw [HR.out]; rfl, M0.out⟩
end
end Go.Proofs.YtanjmoiepmadhaaGreatDoor
