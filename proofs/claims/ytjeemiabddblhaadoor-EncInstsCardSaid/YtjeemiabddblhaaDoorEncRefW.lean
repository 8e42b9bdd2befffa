/- What Word of the document's answer returns, for every instruction and address. -/
import Derived.Test.YtjeemiabddblhaaDoorEncRefR
import Derived.Test.YtjeemiabddblhaaDoorBitsRef3
import Derived.Deep.CutRange
namespace Go.Proofs.YtjeemiabddblhaaDoor
open Go.ChangeShapes Go.WideShapes Go.ChangeAt Go.RowKit Go.Sort BigFrame

theorem up_eq {x : In} (h : x.small) {pc : Int} (hs : sayB x pc = true) : upP x pc = uppZ x pc := by
  have hs' := hs
  unfold sayB at hs'
  simp only [Bool.and_eq_true] at hs'
  have R := right_ok h hs'.1
  unfold upP
  rw [hs, if_pos rfl, upFrom_eq]
  cases he : x.ext with
  | true =>
    have hm := R.may he
    unfold mayZ at hm
    simp only [Bool.and_eq_true] at hm
    obtain ⟨m1, m2⟩ := vF_mem R.op hm.1
    rw [any_val m1 m2, if_pos rfl]
  | false =>
    have : uppZ x pc = 0 := by unfold uppZ; rw [he]; rfl
    rw [this]
    split <;> rfl
/-- What the value field of a word holds, as the document reckons it. -/
theorem val_held {x : In} {f : Fd} (pc : Int) (hf : f = vF x.op ∧ vB x.op = true) (hl : f = fI14 ∨ f = fI122 ∨ f = fI121 ∨ f = fI12 ∨ f = fU5 ∨ f = fR19 ∨ f = fR24 ∨ f = fR12) (hx : ValOk f x) (hs : x.ext = false → fitP x pc = true) :
    (x.ext = true → valueP x pc % 4294967296 % 256 = splitZ f x pc % 2 ^ f.bits.toNat) ∧
    (x.ext = false → (valueP x pc).tdiv (2 ^ f.shift.toNat) = valueP x pc / 2 ^ f.shift.toNat ∧ (valueP x pc / 2 ^ f.shift.toNat < 0 → valueP x pc / 2 ^ f.shift.toNat + 2 ^ f.bits.toNat = splitZ f x pc % 2 ^ f.bits.toNat) ∧
      (0 ≤ valueP x pc / 2 ^ f.shift.toNat → valueP x pc / 2 ^ f.shift.toNat = splitZ f x pc % 2 ^ f.bits.toNat) ∧ -16777216 ≤ valueP x pc / 2 ^ f.shift.toNat ∧ valueP x pc / 2 ^ f.shift.toNat ≤ 16777216) := by
  obtain ⟨hv, hfit⟩ := value_at hf pc
  have h3 := hx.may
  rw [hfit] at hs
  unfold splitZ
  rw [hv]
  refine ⟨fun he => ?_, fun he => ?_⟩
  · rw [he, if_pos rfl]
    have h3' := h3 he
    have k : 0 ≤ lowerZ (valZ f x pc) ∧ lowerZ (valZ f x pc) < 256 := by unfold lowerZ; omega
    have e : valZ f x pc % 4294967296 % 256 = lowerZ (valZ f x pc) := by unfold lowerZ; omega
    rw [e]
    rcases hl with rfl | rfl | rfl | rfl | rfl | rfl | rfl | rfl
    case inr.inr.inr.inr.inl => cases h3'
    all_goals
      generalize lowerZ _ = l at *
      exact (Int.emod_eq_of_lt k.1 (Int.lt_of_lt_of_le k.2 (by decide))).symm
  · rw [he, if_neg (by decide)]
    have hfit := hs he
    unfold fitZ at hfit
    generalize valZ f x pc = v at *
    have hl2 : f = ⟨9, 14, 0, true, true⟩ ∨ f = ⟨9, 12, 2, true, true⟩ ∨ f = ⟨9, 12, 1, true, true⟩ ∨ f = ⟨9, 12, 0, true, true⟩ ∨ f = ⟨9, 5, 0, false, false⟩ ∨ f = ⟨10, 19, 2, true, true⟩ ∨ f = ⟨10, 24, 2, true, true⟩ ∨ f = ⟨10, 12, 2, true, true⟩ := hl
    have key : ∀ m : Int, 0 < m → v % m = 0 → v.tdiv m = v / m := fun m hm h0 => by
      obtain ⟨q, rfl⟩ := Int.dvd_of_emod_eq_zero h0
      rw [Int.mul_tdiv_cancel_left _ (by omega), Int.mul_ediv_cancel_left _ (by omega)]
    rcases hl2 with rfl | rfl | rfl | rfl | rfl | rfl | rfl | rfl
    all_goals
      unfold fitsB at hfit
      dsimp only at hfit ⊢
      simp at hfit ⊢
      first
        | (refine ⟨key 4 (by decide) (by omega), ?_, ?_, ?_, ?_⟩ <;> omega)
        | (refine ⟨key 2 (by decide) (by omega), ?_, ?_, ?_, ?_⟩ <;> omega)
        | (refine ⟨?_, ?_, ?_, ?_⟩ <;> omega)
/-- A round's step of the payload. -/
theorem pay_step (p v : Int) (l b : Nat) (hl : l + b ≤ 24) (h0 : p % 2 ^ (b + l) = 0) (hu : p + 2 ^ (b + l) ≤ 16777216) :
    putZ p l b v = p + v % 2 ^ b * 2 ^ l ∧ (p + v % 2 ^ b * 2 ^ l) % 2 ^ l = 0 ∧ 0 ≤ v % 2 ^ b * 2 ^ l ∧ p + v % 2 ^ b * 2 ^ l + 2 ^ l ≤ 16777216 := by
  have e := put_zeros p v l b hl h0
  have hh0 := Int.emod_nonneg v (Int.ne_of_gt (ipow_pos b))
  have hh1 := Int.emod_lt_of_pos v (ipow_pos b)
  have hpp : p / 2 ^ (b + l) * 2 ^ (b + l) = p := by
    have := Int.mul_ediv_add_emod p (2 ^ (b + l))
    rw [h0, Int.add_zero, Int.mul_comm] at this
    exact this
  have e2 : putZ p l b v = p + v % 2 ^ b * 2 ^ l := by
    rw [e, Int.add_mul, Int.mul_assoc, ← Int.pow_add, hpp]
  have hmul : v % 2 ^ b * 2 ^ l + 2 ^ l ≤ 2 ^ (b + l) := by
    have := Int.mul_le_mul_of_nonneg_right (show v % 2 ^ b + 1 ≤ 2 ^ b by omega) (Int.le_of_lt (ipow_pos l))
    rw [Int.add_mul, Int.one_mul, ← Int.pow_add] at this
    exact this
  refine ⟨e2, ?_, Int.mul_nonneg hh0 (Int.le_of_lt (ipow_pos l)), by omega⟩
  rw [← e2, e, Int.mul_emod_left]
theorem pay_stepI (p v low n : Int) (hb : 1 ≤ n) (hl : n ≤ low) (h24 : low ≤ 24) (h0 : p % 2 ^ low.toNat = 0) (hu : p + 2 ^ low.toNat ≤ 16777216) :
    putZ p (low - n) n v = p + v % 2 ^ n.toNat * 2 ^ (low - n).toNat ∧ (p + v % 2 ^ n.toNat * 2 ^ (low - n).toNat) % 2 ^ (low - n).toNat = 0 ∧ 0 ≤ v % 2 ^ n.toNat * 2 ^ (low - n).toNat ∧ p + v % 2 ^ n.toNat * 2 ^ (low - n).toNat + 2 ^ (low - n).toNat ≤ 16777216 := by
  obtain ⟨b, rfl⟩ := Int.eq_ofNat_of_zero_le (show 0 ≤ n by omega)
  obtain ⟨c, rfl⟩ := Int.eq_ofNat_of_zero_le (show 0 ≤ low by omega)
  obtain ⟨l, rfl⟩ : ∃ l, c = b + l := ⟨c - b, by omega⟩
  have e : ((b + l : Nat) : Int) - (b : Int) = (l : Int) := by omega
  rw [e]
  simp only [Int.toNat_natCast] at h0 hu ⊢
  exact pay_step p v l b (by omega) h0 hu
theorem sum_drop (l : List Fd) (k : Nat) (h : k < l.length) : sumB (l.drop k) = l[k].bits.toNat + sumB (l.drop (k + 1)) := by
  rw [List.drop_eq_getElem_cons h]; rfl
section
attribute [local irreducible] World.cell?
set_option maxRecDepth 100000 in
set_option maxHeartbeats 8000000 in
theorem refWord6_any (W : World) (x : In) (hx : x.small) (pc : Int) (hp : isU32 pc) : Makes Tryd.prog W 9 #[x.val, .int .u32 pc] (.tuple #[.int .u32 (wordP x pc), .int .u32 (upP x pc), .bool (sayB x pc)]) := by
  intro w hm
  have hz := hm.size
  have K0 := Lib.hid (show Own W w.heap.size x (w.alloc (.cells x.cells.toArray 24)) from ⟨hm.alloc hz _, heap_alloc_new w _⟩)
  have hR := Lib.hid (fun u => refRight6_any u x hx)
  have hF := Lib.hid (fun u => refFits5_any u x hx pc hp)
  have hV := Lib.hid (fun u => refValue_any u x pc hp)
  have hLow := Lib.hid (refLow_any (valueP x pc))
  have hps := Lib.hid (fun u => pieces_any u x.op u (Made.refl u))
  have hOf := fun u => refOf_any u x.op
  rewrite [(vf_op x.op).2] at hOf
  have C1 := Lib.hid hOf
  have hget := Lib.hid (fun u k h0 h1 => refGet6_any u x hx k h0 h1)
  have hop0 := hx.op0
  have hop1 := hx.op1
  have HX := Lib.hid hx
  have hvi := value_i x pc hx
  obtain ⟨wd, hwd⟩ : ∃ v, v = wordP x pc := ⟨_, rfl⟩
  obtain ⟨up, hup⟩ : ∃ v, v = upP x pc := ⟨_, rfl⟩
  obtain ⟨sy, hsy⟩ : ∃ v, v = sayB x pc := ⟨_, rfl⟩
  rewrite [← hwd, ← hup, ← hsy]
  have HE := Lib.hid (show (sy = false → wd = 0 ∧ up = 0) ∧ (sy = true → wd = wordZ x.op (payFrom x pc (fieldsZ x.op) 0 24) 0 ∧ up = uppZ x pc) from
    ⟨fun h => by rw [hwd, hup]; unfold wordP upP; rw [← hsy, h]; exact ⟨rfl, rfl⟩, fun h => ⟨by rw [hwd]; unfold wordP; rw [← hsy, h]; rfl, by rw [hup]; exact up_eq hx (hsy ▸ h)⟩⟩)
  have hright : sy = true → RightOk x := fun h => by
    rw [hsy] at h
    unfold sayB at h
    simp only [Bool.and_eq_true] at h
    exact right_ok hx h.1
  have hsf : sy = true → x.ext = false → fitP x pc = true := fun h he => by
    rw [hsy] at h
    unfold sayB at h
    simp only [Bool.and_eq_true] at h
    have := h.2
    rw [he, Bool.false_or] at this
    exact this
  have HRO := Lib.hid (And.intro hright hsf)
  have hsay : (rightB x = false ∧ sy = false) ∨ (rightB x = true ∧ x.ext = false ∧ fitP x pc = false ∧ sy = false) ∨ (rightB x = true ∧ x.ext = true ∧ sy = true) ∨ (rightB x = true ∧ x.ext = false ∧ fitP x pc = true ∧ sy = true) := by
    rw [hsy]
    unfold sayB
    cases rightB x <;> cases x.ext <;> cases fitP x pc <;> simp
  clear hwd hup hsy hx hright hsf hm hOf hp
  generalize rightB x = rb at *
  obtain ⟨ft, hft⟩ : ∃ b, b = fitP x pc := ⟨_, rfl⟩
  rewrite [← hft] at hF hsay
  clear hft
  obtain ⟨xo, xd, xs, xt, xn, xp, xm, xw, xe, xc, xi⟩ := x
  go_enter Tryd.func9, Tryd.ntmps9
  go_upto_region 1 with (fail)
  go_cut [31] from 18 to 31 (fun g wc => g = .bool (!sy) ∧ Own W w.heap.size ⟨xo, xd, xs, xt, xn, xp, xm, xw, xe, xc, xi⟩ wc)
  case first =>
    go_wp2_with (fail)
    refine (hR.out _ _ (Made.refl _)).mono ?_
    rintro e w1 ⟨rfl, h1⟩
    have K1 := Lib.hid (K0.out.next h1)
    obtain ⟨a0, a1, a2, a3, a4, a5, a6, a7, a8, a9, a10⟩ := in_cells K1.out.in_
    have hl := heap_lt K1.out.in_
    clear h1
    rcases hsay with ⟨rfl, rfl⟩ | ⟨rfl, hxe, rfl, rfl⟩ | ⟨rfl, hxe, rfl⟩ | ⟨rfl, hxe, rfl, rfl⟩
    case inl =>
      go_wp2
      go_meet
      case rel => exact ⟨rfl, K1.out⟩
    case inr.inr.inl =>
      obtain rfl : xe = true := hxe
      go_wp2
      go_meet
      case rel => exact ⟨rfl, K1.out⟩
    all_goals
      obtain rfl : xe = false := hxe
      go_wp2_with (fail)
      refine (hF.out _ _ (Made.refl _)).mono ?_
      rintro e w2 ⟨rfl, h2⟩
      have K2 := Lib.hid (K1.out.next h2)
      clear h2
      go_wp2
      go_meet
      case rel => exact ⟨rfl, K2.out⟩
  case rest =>
    obtain ⟨rfl, hO⟩ := hcut
    generalize wc = w1 at *
    have K1 := Lib.hid hO
    obtain ⟨a0, a1, a2, a3, a4, a5, a6, a7, a8, a9, a10⟩ := in_cells K1.out.in_
    have hl := heap_lt K1.out.in_
    clear hO hsay
    cases sy with
    | false =>
      obtain ⟨rfl, rfl⟩ := HE.out.1 rfl
      go_wp2
      go_ret3
      exact ⟨rfl, K1.out.made⟩
    | true =>
      obtain ⟨E1, E2⟩ := HE.out.2 rfl
      have HW := Lib.hid E1
      have HU := Lib.hid E2
      obtain ⟨Q1, Q2⟩ := HRO.out
      have RO := Lib.hid (Q1 rfl)
      have FO := Lib.hid (Q2 rfl)
      have hisop : isOp xo = true := RO.out.op
      obtain ⟨hsum, -, hok⟩ := list_ok xo hisop
      clear E1 E2 Q1 Q2 HE HRO
      go_wp2_with (fail)
      refine (hps.out _).mono ?_
      intro e w2 h
      obtain ⟨p, cap, fs, hfs, rfl, h2, hh⟩ := isPs_any h
      rewrite [opN_of hisop] at hfs
      have hfs3 : fieldsZ (In.mk xo xd xs xt xn xp xm xw xe xc xi).op = fs := hfs.symm
      have hfs2 : fieldsZ xo = fs := hfs.symm
      rewrite [hfs3] at HW
      rewrite [hfs2] at hok hsum
      have hnums := RO.out.nums
      rewrite [hfs3] at hnums
      have HNU := Lib.hid hnums
      have HK := Lib.hid hok
      have HSU := Lib.hid hsum
      have K2 := Lib.hid (show RAt W w.heap.size ⟨xo, xd, xs, xt, xn, xp, xm, xw, xe, xc, xi⟩ p fs.length cap fs w2 from ⟨K1.out.next h2, hh⟩)
      clear h h2 hh hfs hfs2 hfs3 hok hnums hsum hisop a0 a1 a2 a3 a4 a5 a6 a7 a8 a9 a10 hl
      obtain ⟨a0, a1, a2, a3, a4, a5, a6, a7, a8, a9, a10⟩ := in_cells K2.out.own.in_
      have hl := heap_lt K2.out.own.in_
      go_wp2_with (fail)
      refine (C1.out _ _ (Made.refl _)).mono ?_
      rintro e w3 ⟨rfl, h3⟩
      have K3 := Lib.hid (K2.out.next h3)
      clear h3 a0 a1 a2 a3 a4 a5 a6 a7 a8 a9 a10 hl
      go_upto_region 5 with (fail)
      refine name_world (fun v => RAt W w.heap.size ⟨xo, xd, xs, xt, xn, xp, xm, xw, xe, xc, xi⟩ p fs.length cap fs v ∧ v.heap[w3.heap.size]? = some (.cells #[.int .i64 (vF xo).bits, .int .i64 (vF xo).shift, .bool (vF xo).sg, .bool (mayZ xo), .bool ((vF xo).kind == 10)] 56 (0, 0))) ⟨K3.out.next ((Made.refl _).alloc (Nat.le_refl _) _), heap_alloc_new w3 _⟩ ?_
      rintro w4 ⟨hk4, hf4⟩
      have K4 := Lib.hid hk4
      have F4 := Lib.hid hf4
      obtain ⟨a0, a1, a2, a3, a4, a5, a6, a7, a8, a9, a10⟩ := in_cells hk4.own.in_
      have hl := heap_lt hk4.own.in_
      clear hk4 hf4
      go_wp2_with (fail)
      refine (hV.out _ _ (Made.refl _)).mono ?_
      rintro e w5 ⟨rfl, h5⟩
      have K5 := Lib.hid (K4.out.next h5)
      have F5 := Lib.hid (h5.heap F4.out)
      clear h5 a0 a1 a2 a3 a4 a5 a6 a7 a8 a9 a10 hl
      go_wp2_with (fail)
      refine (hLow.out _).mono ?_
      rintro e w6 ⟨rfl, rfl⟩
      obtain ⟨-, hcell⟩ := K5.out.holds
      have HC := Lib.hid hcell
      clear hcell
      obtain ⟨V, hVV⟩ : ∃ v, v = valueP ⟨xo, xd, xs, xt, xn, xp, xm, xw, xe, xc, xi⟩ pc := ⟨_, rfl⟩
      have HVV := Lib.hid hVV
      rewrite [← hVV] at hvi ⊢
      clear hVV
      obtain ⟨V0, V1⟩ := hvi
      have hm0 : 0 ≤ V % 4294967296 ∧ V % 4294967296 < 4294967296 := by omega
      obtain ⟨hm1, hm2⟩ := hm0
      go_wp2_with (fail)
      go_loopw [13, 14, 15] (fun pz lz i wr => ∃ (k : Nat) (pay low : Int), k ≤ fs.length ∧ i = .int .i64 k ∧ pz = .int .i64 pay ∧ lz = .int .i64 low ∧ payFrom ⟨xo, xd, xs, xt, xn, xp, xm, xw, xe, xc, xi⟩ pc (fs.drop k) pay low = payFrom ⟨xo, xd, xs, xt, xn, xp, xm, xw, xe, xc, xi⟩ pc fs 0 24 ∧
          pay % 2 ^ low.toNat = 0 ∧ 0 ≤ pay ∧ pay + 2 ^ low.toNat ≤ 16777216 ∧ (sumB (fs.drop k) : Int) ≤ low ∧ low ≤ 24 ∧ Made w5 wr) (fun _ _ i _ => fs.length - (intOf i).toNat)
      case atStart => exact ⟨0, 0, 24, Nat.zero_le _, rfl, rfl, rfl, rfl, rfl, by decide, by decide, by have := HSU.out; rw [List.drop_zero]; omega, by decide, Made.refl w5⟩
      case round =>
        obtain ⟨k, pay, low, hk, rfl, rfl, rfl, hat, hp0, hp1, hp2, hlo, hhi, hwr⟩ := hrel
        have HWR := Lib.hid hwr
        by_cases hlt2 : k < fs.length
        · rcases HC.out with rfl | ⟨b, rfl, hb, hnc, hcm, hce⟩
          · simp at hlt2
          have hbr : b < wr.heap.size := Nat.lt_of_lt_of_le hb HWR.out.size
          have hd := pay_drop ⟨xo, xd, xs, xt, xn, xp, xm, xw, xe, xc, xi⟩ pc fs k hlt2 pay low
          have hsd := sum_drop fs k hlt2
          have hfk := HK.out fs[k] (List.getElem_mem _)
          have hnf := HNU.out fs[k] (List.getElem_mem _)
          have hfl := pieces_at fs k hlt2
          have hce2 := fun (u : World) (hu : Made w5 u) r (hr : r < 2) => (bcell hu).1 b (k * 2 + r) hb ▸ hce (k * 2 + r) (by omega)
          unfold maxLen at hcm
          generalize fs[k] = f at *
          rewrite [hat] at hd
          have hcc : ∀ u : World, Made w5 u → u.cell? ⟨b, k * 2, none⟩ = some (.int .u8 (letterZ f.kind)) ∧ u.cell? ⟨b, k * 2 + 1, none⟩ = some (.int .i64 f.bits) := fun u hu => ⟨(hce2 u hu 0 (by omega)).trans hfl.1, (hce2 u hu 1 (by omega)).trans hfl.2⟩
          have hb1 := hfk.b1
          have hb2 := hfk.b2
          have hs0 := hfk.s0
          have hs1 := hfk.s1
          have hlb : f.bits ≤ low := by omega
          have hst := pay_stepI pay (heldZ f ⟨xo, xd, xs, xt, xn, xp, xm, xw, xe, xc, xi⟩ pc) low f.bits hb1 hlb hhi hp0 hp2
          have hg := Lib.hid ((hget.out wr f.kind hfk.k1 hfk.k2).again)
          have hpb := Lib.hid (power_any f.bits (by omega) (by omega))
          have hpl := Lib.hid (power_any (low - f.bits) (by omega) (by omega))
          have hpc := Lib.hid (power_any f.shift (by omega) (by omega))
          have hvl := val_letter f hfk.k1 hfk.k2
          have hnu := numZ_u32 HX.out f.kind
          have hHN : isVal f = false → heldZ f ⟨xo, xd, xs, xt, xn, xp, xm, xw, xe, xc, xi⟩ pc % 2 ^ f.bits.toNat = numZ ⟨xo, xd, xs, xt, xn, xp, xm, xw, xe, xc, xi⟩ f.kind := fun h => by
            unfold heldZ
            rw [h, if_neg Bool.false_ne_true]
            exact Int.emod_eq_of_lt hnu.1 (hnf h)
          have hHV : isVal f = true → f = vF xo ∧ heldZ f ⟨xo, xd, xs, xt, xn, xp, xm, xw, xe, xc, xi⟩ pc % 2 ^ f.bits.toNat = splitZ f ⟨xo, xd, xs, xt, xn, xp, xm, xw, xe, xc, xi⟩ pc % 2 ^ f.bits.toNat ∧ (xe = true → V % 4294967296 % 256 = splitZ f ⟨xo, xd, xs, xt, xn, xp, xm, xw, xe, xc, xi⟩ pc % 2 ^ f.bits.toNat) ∧ (xe = false → V.tdiv (2 ^ f.shift.toNat) = V / 2 ^ f.shift.toNat ∧ (V / 2 ^ f.shift.toNat < 0 → V / 2 ^ f.shift.toNat + 2 ^ f.bits.toNat = splitZ f ⟨xo, xd, xs, xt, xn, xp, xm, xw, xe, xc, xi⟩ pc % 2 ^ f.bits.toNat) ∧
              (0 ≤ V / 2 ^ f.shift.toNat → V / 2 ^ f.shift.toNat = splitZ f ⟨xo, xd, xs, xt, xn, xp, xm, xw, xe, xc, xi⟩ pc % 2 ^ f.bits.toNat) ∧ -16777216 ≤ V / 2 ^ f.shift.toNat ∧ V / 2 ^ f.shift.toNat ≤ 16777216) := fun h => by
            have hvf := hfk.vf h
            have hval : ValOk f ⟨xo, xd, xs, xt, xn, xp, xm, xw, xe, xc, xi⟩ := by rw [hvf.1]; exact RO.out.val
            have := val_held pc hvf (hfk.lit h) hval FO.out
            rw [← HVV.out] at this
            exact ⟨hvf.1, by unfold heldZ; rw [h, if_pos rfl], this.1, this.2⟩
          have hp2 := pow_le_of f.bits.toNat (by omega)
          have hp3 := pow_le_of f.shift.toNat (by omega)
          have hp4 := pow_le_of (low - f.bits).toNat (by omega)
          have hh0 := Int.emod_nonneg (heldZ f ⟨xo, xd, xs, xt, xn, xp, xm, xw, xe, xc, xi⟩ pc) (show (2 : Int) ^ f.bits.toNat ≠ 0 by omega)
          have hh1 := Int.emod_lt_of_pos (heldZ f ⟨xo, xd, xs, xt, xn, xp, xm, xw, xe, xc, xi⟩ pc) (show (0 : Int) < 2 ^ f.bits.toNat by omega)
          rewrite [hst.1] at hd
          obtain ⟨-, hs3, hs4, hs5⟩ := hst
          have HCC := Lib.hid hcc
          have HD := Lib.hid hd
          have HS1 := Lib.hid hs3
          have HHN := Lib.hid hHN
          have HHV := Lib.hid hHV
          have hki : (k : Int) < fs.length := by omega
          clear hce hce2 hcc hfl hat hd hfk hnf hs3 hHN hHV hp0 hwr
          obtain ⟨hn0, hn1⟩ := hnu
          obtain ⟨hp5, hp6⟩ := hp2
          obtain ⟨hp7, hp8⟩ := hp3
          obtain ⟨hp9, hp10⟩ := hp4
          generalize splitZ f ⟨xo, xd, xs, xt, xn, xp, xm, xw, xe, xc, xi⟩ pc = sz at *
          generalize heldZ f ⟨xo, xd, xs, xt, xn, xp, xm, xw, xe, xc, xi⟩ pc = hz1 at *
          generalize numZ ⟨xo, xd, xs, xt, xn, xp, xm, xw, xe, xc, xi⟩ f.kind = nv at *
          generalize letterZ f.kind = lt at *
          generalize (2 : Int) ^ f.bits.toNat = pw at *
          generalize hmm : (2 : Int) ^ (low - f.bits).toNat = mm at *
          have HM := Lib.hid hmm
          clear hmm
          generalize hz1 % pw = hv at *
          obtain ⟨c0, c1⟩ := HCC.out wr HWR.out
          have hinx := HWR.out.heap K5.out.own.in_
          obtain ⟨a0, a1, a2, a3, a4, a5, a6, a7, a8, a9, a10⟩ := in_cells hinx
          clear hinx
          have g0 := fun d os => cell_regrown a0 d os
          have g1 := fun d os => cell_regrown a1 d os
          have g2 := fun d os => cell_regrown a2 d os
          have g3 := fun d os => cell_regrown a3 d os
          have g4 := fun d os => cell_regrown a4 d os
          have g5 := fun d os => cell_regrown a5 d os
          have g6 := fun d os => cell_regrown a6 d os
          have g7 := fun d os => cell_regrown a7 d os
          have g8 := fun d os => cell_regrown a8 d os
          have g9 := fun d os => cell_regrown a9 d os
          have g10 := fun d os => cell_regrown a10 d os
          have e0 := fun d os => cell_regrown c0 d os
          go_upto_region 12 with (fail)
          refine wp_region_quiet_below (by kernel_rfl) (by kernel_rfl) ?_
          repeat (go_big_quiet_step ((go_at_call 28; exact hg.out _ _)))
          refine wpQuiet_nil ?_
          intro u1 hw9
          have M1 := Lib.hid (Made.trans HWR.out (made_regrown hw9))
          clear hw9 g0 g1 g2 g3 g4 g5 g6 g7 g8 g9 g10 e0 a0 a1 a2 a3 a4 a5 a6 a7 a8 a9 a10 c0 c1
          obtain ⟨c0, c1⟩ := HCC.out u1 M1.out
          have hbu : b < u1.heap.size := Nat.lt_of_lt_of_le hb M1.out.size
          have hinx := M1.out.heap K5.out.own.in_
          have a8 := (in_cells hinx).2.2.2.2.2.2.2.2.1
          have hlx := heap_lt hinx
          obtain ⟨f0, f1, f2, f3, f4⟩ := row_cells (M1.out.heap F5.out)
          have hlf := heap_lt (M1.out.heap F5.out)
          clear hinx
          cases hvb : isVal f with
          | false =>
            rewrite [hvb] at hvl
            obtain rfl : hv = nv := HHN.out hvb
            clear hvb
            go_wp2_with (fail)
            refine (hpl.out _).mono ?_
            rintro e z9 ⟨rfl, rfl⟩
            go_wp2
            go_roundw
            case rel => exact ⟨k + 1, _, _, by omega, by go_num, rfl, rfl, HD.out.symm, by rw [HM.out]; exact HS1.out, by omega, by rw [HM.out]; omega, by omega, by omega, M1.out⟩
            case measure => simp [intOf]; omega
          | true =>
            rewrite [hvb] at hvl
            obtain ⟨hfv, hsz, hx1, hx2⟩ := HHV.out hvb
            rewrite [← hsz] at hx1 hx2
            clear hsz hvb
            cases xe with
            | true =>
              have hx3 := hx1 rfl
              clear hx1 hx2 hfv
              have ht : (V % 4294967296).tmod 256 = hv := (Int.tmod_eq_emod_of_nonneg hm1).trans hx3
              clear hx3
              go_wp2_with (fail)
              refine (hpl.out _).mono ?_
              rintro e z9 ⟨rfl, rfl⟩
              go_wp2
              go_roundw
              case rel => exact ⟨k + 1, _, _, by omega, by go_num, rfl, rfl, HD.out.symm, by rw [HM.out]; exact HS1.out, by omega, by rw [HM.out]; omega, by omega, by omega, M1.out⟩
              case measure => simp [intOf]; omega
            | false =>
              have hx3 := hx2 rfl
              clear hx1 hx2
              rewrite [← hfv] at f1
              clear hfv
              generalize (2 : Int) ^ f.shift.toNat = ps at *
              generalize V / ps = Q at *
              obtain ⟨ht, hq1, hq2, hq3, hq4⟩ := hx3
              by_cases hq : Q < 0
              · have hx4 := hq1 hq
                clear hq1 hq2
                obtain rfl : hv = Q + pw := hx4.symm
                go_wp2_with (fail)
                refine (hpc.out _).mono ?_
                rintro e z7 ⟨rfl, rfl⟩
                go_wp2_with (fail)
                refine (hpb.out _).mono ?_
                rintro e z8 ⟨rfl, rfl⟩
                go_wp2_with (fail)
                refine (hpl.out _).mono ?_
                rintro e z9 ⟨rfl, rfl⟩
                go_wp2
                go_roundw
                case rel => exact ⟨k + 1, _, _, by omega, by go_num, rfl, rfl, HD.out.symm, by rw [HM.out]; exact HS1.out, by omega, by rw [HM.out]; omega, by omega, by omega, M1.out⟩
                case measure => simp [intOf]; omega
              · have hx4 := hq2 (by omega)
                clear hq1 hq2
                obtain rfl : hv = Q := hx4.symm
                go_wp2_with (fail)
                refine (hpc.out _).mono ?_
                rintro e z7 ⟨rfl, rfl⟩
                go_wp2_with (fail)
                refine (hpl.out _).mono ?_
                rintro e z9 ⟨rfl, rfl⟩
                go_wp2
                go_roundw
                case rel => exact ⟨k + 1, _, _, by omega, by go_num, rfl, rfl, HD.out.symm, by rw [HM.out]; exact HS1.out, by omega, by rw [HM.out]; omega, by omega, by omega, M1.out⟩
                case measure => simp [intOf]; omega
        · obtain rfl : k = fs.length := by omega
          rewrite [List.drop_length] at hat
          have e1 : pay = payFrom ⟨xo, xd, xs, xt, xn, xp, xm, xw, xe, xc, xi⟩ pc fs 0 24 := hat
          have hpos := ipow_pos low.toNat
          have hpm : pay < 16777216 := by omega
          have hwz := Lib.hid (refWord_any xo pay 0 ⟨hop0, by have : xo ≤ 255 := hop1; omega⟩ ⟨hp1, by omega⟩ ⟨by decide, by decide⟩)
          have e2 : wd = wordZ xo pay 0 := by rw [HW.out, e1]
          have e3 : up = if xe then V % 4294967296 / 256 else 0 := by
            rw [HU.out]
            unfold uppZ upperZ
            rw [← HVV.out]
            cases xe with
            | false => rfl
            | true =>
              show V / 256 % 16777216 = V % 4294967296 / 256
              omega
          have E2 := Lib.hid e2
          have E3 := Lib.hid e3
          have hinx := HWR.out.heap K5.out.own.in_
          obtain ⟨a0, a1, a2, a3, a4, a5, a6, a7, a8, a9, a10⟩ := in_cells hinx
          have hlx := heap_lt hinx
          have hdv : (V % 4294967296).tdiv 256 = V % 4294967296 / 256 := Int.tdiv_eq_ediv_of_nonneg hm1
          have hq0 : 0 ≤ V % 4294967296 / 256 := by omega
          have hq1 : V % 4294967296 / 256 < 4294967296 := by omega
          clear hat e1 e2 e3 hinx hwr hp0 hp2 hpos
          cases xe with
          | false =>
            obtain rfl : up = 0 := E3.out
            go_wp2_with (fail)
            refine (hwz.out _).mono ?_
            rintro e z1 ⟨rfl, rfl⟩
            go_wp2
            go_ret3
            obtain rfl := E2.out
            exact ⟨rfl, Made.trans K5.out.own.made HWR.out⟩
          | true =>
            obtain rfl : up = V % 4294967296 / 256 := E3.out
            go_wp2_with (fail)
            refine (hwz.out _).mono ?_
            rintro e z1 ⟨rfl, rfl⟩
            go_wp2
            go_ret3
            obtain rfl := E2.out
            exact ⟨rfl, Made.trans K5.out.own.made HWR.out⟩
end
end Go.Proofs.YtjeemiabddblhaaDoor
