/- What Length and Packet of the document's answer for unpack return. -/
import Derived.Test.YtanjmoiepmadhaaGreatDoorGUn
import Derived.Test.YtanjmoiepmadhaaGreatDoorGPack
import Derived.Test.YtanjmoiepmadhaaGreatDoorDupRef2
import Derived.Test.YtanjmoiepmadhaaGreatDoorEncRefUT
import Derived.Test.YtanjmoiepmadhaaGreatDoorEncRefUF
namespace Go.Proofs.YtanjmoiepmadhaaGreatDoor
open Go.ChangeShapes Go.WideShapes Go.ChangeAt Go.RowKit Go.Sort BigFrame

theorem refInst13_any (W : World) (wd u pc : Int) (has : Bool) (hw : isU32 wd) (hu : isU32 u) (hp : isU32 pc) (hn : has = false → u = 0) : Makes Tryz.prog W 25 #[.int .u32 wd, .int .u32 u, .bool has, .int .u32 pc] (.tuple #[(instP wd u has pc).val, .bool (instB wd u has pc)]) := by
  cases h : has with
  | true => exact refInst6_true W wd u pc true rfl hw hu hp (fun h => by cases h)
  | false => exact refInst6_false W wd u pc false rfl hw hu hp (fun _ => hn h)
theorem get_parse13 (w : Int) : getZ w 14 2 = parseZ w := by
  unfold getZ parseZ
  rw [if_pos (by decide)]
  rfl
section
attribute [local irreducible] World.cell?
set_option maxRecDepth 100000 in
theorem parse13_any (z : Int) (hz : isU32 z) : Still Tryz.prog 20 #[.int .u32 z] (.int .u32 (parseZ z)) := by
  intro w
  have H := Lib.hid (refGet_any z 14 2 hz (by unfold isI; omega) (by unfold isI; omega) w)
  go_enter Tryz.func20, Tryz.ntmps20
  go_wp2_with (fail)
  refine H.out.mono ?_
  rintro e w' ⟨rfl, rfl⟩
  go_wp2
  go_ret
  exact ⟨by rw [get_parse13]; rfl, rfl⟩
set_option maxRecDepth 100000 in
set_option maxHeartbeats 8000000 in
theorem rlen13_any (ao : Option Addr) (cap : Nat) (zs : List Int) (w : World) (hW : Ws w ao cap zs) (hu : U32s zs) (hl : zs.length ≤ 1000) :
    Calls Tryz.prog 9 #[.slice ao zs.length cap] w (LenSays zs w) := by
  have H := Lib.hid hW
  have HU := Lib.hid hu
  clear hW hu
  go_enter Tryz.func9, Tryz.ntmps9
  go_wp2_with (fail)
  go_loopw [4] (fun i wr => ∃ k : Nat, k ≤ zs.length ∧ k ≤ 4 ∧ i = .int .i64 k ∧ lenN k (zs.drop k) = lenP zs ∧ w = wr) (fun i _ => zs.length - (intOf i).toNat)
  case atStart => exact ⟨0, by omega, by omega, rfl, rfl, rfl⟩
  case round =>
    obtain ⟨k, hk, hk4, rfl, hat, rfl⟩ := hrel
    by_cases hlt : k < zs.length
    · have hb1 : decide ((k : Int) < (zs.length : Int)) = true := decide_eq_true (by omega)
      obtain ⟨z, hz⟩ : ∃ z, zs[k] = z := ⟨_, rfl⟩
      have hst := lenN_step hlt z hz
      rewrite [hat] at hst
      by_cases h4 : k = 4
      · have hb2 : decide ((k : Int) < 4) = false := decide_eq_false (by omega)
        rewrite [if_pos (by omega)] at hst
        have HR := Lib.hid hst
        clear hst hat hz
        go_wp2
        refine bodyPost_ret (v := .tuple #[.int .i64 0, .bool false]) (by simp [results, Tryz.results9, go_sem]) rfl ?_
        exact ⟨by rw [HR.out]; rfl, Made.refl _⟩
      · have hb2 : decide ((k : Int) < 4) = true := decide_eq_true (by omega)
        rewrite [if_neg (by omega)] at hst
        obtain ⟨b, o, rfl, hc⟩ := H.out.cell k hlt
        rewrite [hz] at hc
        have HP := Lib.hid (parse13_any z (HU.out z (hz ▸ List.getElem_mem hlt)) w)
        have hend := end_iff z
        have HST := Lib.hid hst
        have HE := Lib.hid hend
        have lb := World.block_lt_of_cell? w _ hc
        clear hst hat hz hend
        generalize parseZ z = q at *
        have hq : q = 0 ∨ q = 3 ∨ ((q == 0) = false ∧ (q == 3) = false ∧ ¬ stopB z = true) := by
          by_cases h0 : q = 0
          · exact .inl h0
          · by_cases h3 : q = 3
            · exact .inr (.inl h3)
            · exact .inr (.inr ⟨beq_eq_false_iff_ne.2 h0, beq_eq_false_iff_ne.2 h3, fun h => (HE.out.1 h).elim h0 h3⟩)
        rcases hq with rfl | rfl | ⟨g0, g3, hs⟩
        · have HR := Lib.hid (show lenP zs = (k + 1, true) by rw [HST.out, if_pos (HE.out.2 (.inl rfl))])
          clear HST HE
          go_wp2_with (fail)
          refine HP.out.mono ?_
          rintro e w' ⟨rfl, rfl⟩
          go_wp2
          refine bodyPost_ret (v := .tuple #[.int .i64 ((k + 1 : Nat) : Int), .bool true]) (by simp [results, Tryz.results9, go_sem]) rfl ?_
          exact ⟨by rw [HR.out], Made.refl _⟩
        · have HR := Lib.hid (show lenP zs = (k + 1, true) by rw [HST.out, if_pos (HE.out.2 (.inr rfl))])
          clear HST HE
          go_wp2_with (fail)
          refine HP.out.mono ?_
          rintro e w' ⟨rfl, rfl⟩
          go_wp2_with (fail)
          refine HP.out.mono ?_
          rintro e w' ⟨rfl, rfl⟩
          go_wp2
          refine bodyPost_ret (v := .tuple #[.int .i64 ((k + 1 : Nat) : Int), .bool true]) (by simp [results, Tryz.results9, go_sem]) rfl ?_
          exact ⟨by rw [HR.out], Made.refl _⟩
        · have HR := Lib.hid (show lenN (k + 1) (zs.drop (k + 1)) = lenP zs by rw [HST.out, if_neg hs])
          clear HST HE hs
          go_wp2_with (fail)
          refine HP.out.mono ?_
          rintro e w' ⟨rfl, rfl⟩
          go_wp2_with (fail)
          refine HP.out.mono ?_
          rintro e w' ⟨rfl, rfl⟩
          go_wp2
          go_roundw
          case rel => exact ⟨k + 1, by omega, by omega, by go_num, HR.out, trivial⟩
          case measure => simp [intOf]; omega
    · obtain rfl : k = zs.length := by omega
      have hb1 : decide ((zs.length : Int) < (zs.length : Int)) = false := decide_eq_false (by omega)
      rewrite [lenN_end] at hat
      have HR := Lib.hid hat
      clear hat
      go_wp2
      refine bodyPost_ret (v := .tuple #[.int .i64 0, .bool false]) (by simp [results, Tryz.results9, go_sem]) rfl ?_
      exact ⟨by rw [← HR.out]; rfl, Made.refl _⟩
end
end Go.Proofs.YtanjmoiepmadhaaGreatDoor
