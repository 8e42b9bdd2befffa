/- What the walk through the document's Inst needs: a field's step, the variables ahead of the loop. -/
import Derived.Test.YtanjmoiepmadhaaGreatDoorGEncRefW
import Derived.Deep.CutRange
namespace Go.Proofs.YtanjmoiepmadhaaGreatDoor
open Go.ChangeShapes Go.WideShapes Go.ChangeAt Go.RowKit Go.Sort BigFrame

theorem lread_drop (p u : Int) (has : Bool) (pc : Int) (l : List Fd) (k : Nat) (h : k < l.length) (low : Int) (y : In) : lreadFrom p u has pc (l.drop k) low y =
    lreadFrom p u has pc (l.drop (k + 1)) (low - l[k].bits) (if isVal l[k] then { y with imm := lval l[k] (getZ p (low - l[k].bits) l[k].bits) u has pc } else setZ y l[k].kind (getZ p (low - l[k].bits) l[k].bits)) := by
  rw [List.drop_eq_getElem_cons h]; rfl
theorem get_parts (w : Int) : getZ w 26 6 = codeZ w ∧ getZ w 16 10 * 16384 + getZ w 0 14 = payZ w := by
  constructor
  · unfold getZ codeZ
    rw [if_pos (by decide)]
    show w / 67108864 % 64 = _
    rfl
  · unfold getZ payZ
    rw [if_pos (by decide), if_pos (by decide)]
    show w / 65536 % 1024 * 16384 + w / 1 % 16384 = _
    omega
theorem get_step (p low n : Int) (hp : 0 ≤ p) (hn : 0 ≤ n) (hl : 0 ≤ low - n) (h : low ≤ 24) : (p / 2 ^ (low - n).toNat).tmod (2 ^ n.toNat) = getZ p (low - n) n ∧ p / 2 ^ (low - n).toNat % 2 ^ n.toNat = getZ p (low - n) n ∧ 0 ≤ p / 2 ^ (low - n).toNat ∧ p / 2 ^ (low - n).toNat ≤ p := by
  obtain ⟨b, rfl⟩ := Int.eq_ofNat_of_zero_le hn
  obtain ⟨l, e⟩ := Int.eq_ofNat_of_zero_le hl
  have hq := Int.ediv_nonneg hp (Int.le_of_lt (ipow_pos l))
  rw [e, Int.toNat_natCast, Int.toNat_natCast, getZ_pos p l b (by omega)]
  exact ⟨Int.tmod_eq_emod_of_nonneg hq, rfl, hq, Int.ediv_le_self _ hp⟩
/-- The variables ahead of the loop. -/
structure IAt (W : World) (A : Nat) (p : Option Addr) (n cap : Nat) (fs : List Fd) (v : World) : Prop where
  own : Own W A inZero v
  holds : HoldsP v p n cap fs
theorem IAt.next {W v v' : World} {A : Nat} {p : Option Addr} {n cap : Nat} {fs : List Fd} (h : IAt W A p n cap fs v) (hm : Made v v') : IAt W A p n cap fs v' := ⟨h.own.next hm, h.holds.made hm⟩
theorem set11_far (w : World) (b i : Nat) (h : i ≠ b) (v0 v1 v2 v3 v4 v5 v6 v7 v8 v9 v10 : Value) : (set11 w b v0 v1 v2 v3 v4 v5 v6 v7 v8 v9 v10).heap[i]? = w.heap[i]? := by
  have k := fun (u : World) j v => Below.heap_setCell u ⟨b, j, none⟩ v i h
  exact (k _ 10 _).trans ((k _ 9 _).trans ((k _ 8 _).trans ((k _ 7 _).trans ((k _ 6 _).trans ((k _ 5 _).trans ((k _ 4 _).trans ((k _ 3 _).trans ((k _ 2 _).trans ((k _ 1 _).trans (k _ 0 _))))))))))
end Go.Proofs.YtanjmoiepmadhaaGreatDoor
