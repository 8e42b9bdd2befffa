/- The masks that are left of an instruction's slots; whether they can be assigned; lists too long for a duplex; no condition but those named. -/
import Derived.Test.YtaieiaopdbhjaaaGreatDoorLegalMath
namespace Go.Proofs.YtaieiaopdbhjaaaGreatDoor

theorem slotN_lt (x : In) : slotN x < 16 := by
  have h : ∀ k : Nat, (slotsL.getD k 0).toNat < 16 := fun k => by
    match k with
    | 0 | 1 | 2 | 3 | 4 | 5 | 6 => decide
    | k + 7 => simp [slotsL]
  unfold slotN slotsZ
  split
  · exact h _
  · decide
theorem slotsZ_nat (c : Int) : slotsZ c = ((slotsZ c).toNat : Int) := by
  have h : ∀ k : Nat, 0 ≤ slotsL.getD k 0 := fun k => by
    match k with
    | 0 | 1 | 2 | 3 | 4 | 5 | 6 => decide
    | k + 7 => simp [slotsL]
  have := h c.toNat
  unfold slotsZ
  omega
theorem lclass_tab : ((List.range 32).all fun n => decide (0 ≤ classZ (n : Nat)) && decide (classZ (n : Nat) ≤ 6)) = true := by decide +kernel
theorem lclass_le (x : In) : 0 ≤ classP x ∧ classP x ≤ 6 := by
  unfold classP
  have h : ∃ n : Nat, n < 32 ∧ (if isOp x.op then x.op else 0) = (n : Int) := by
    by_cases h : isOp x.op = true
    · have h1 : 1 ≤ x.op ∧ x.op ≤ 31 := by simpa [isOp] using h
      exact ⟨x.op.toNat, by omega, by rw [if_pos h]; omega⟩
    · exact ⟨0, by omega, by rw [if_neg h]; rfl⟩
  obtain ⟨n, hn, e⟩ := h
  rw [e]
  have := List.all_eq_true.1 lclass_tab n (List.mem_range.2 hn)
  simpa using this
/-- What is left of its slots. -/
def outN (o : Nat) (x : In) : Nat := slotN x &&& o
theorem out_code (o : Nat) (ho : o = 12 ∨ o = 15) (x : In) : bits .and .u8 (slotN x : Int) (o : Int) = (outN o x : Int) := by
  have h := slotN_lt x
  unfold outN
  have k : allBelow (fun n => (bits .and .u8 (n : Int) 12 == ((n &&& 12 : Nat) : Int)) && (bits .and .u8 (n : Int) 15 == ((n &&& 15 : Nat) : Int))) 16 = true := by decide +kernel
  have k1 := allBelow_at k _ h
  simp only [Bool.and_eq_true, beq_iff_eq] at k1
  rcases ho with rfl | rfl
  · exact k1.1
  · exact k1.2
theorem outN_lt (o : Nat) (x : In) : outN o x < 16 := Nat.lt_of_le_of_lt Nat.and_le_left (slotN_lt x)
theorem out_all (x : In) : outN 15 x = slotN x := by
  have k : allBelow (fun n => (n &&& 15) == n) 16 = true := by decide +kernel
  simpa [outN] using allBelow_at k _ (slotN_lt x)
theorem out_has (x : In) {s : Nat} (hs : s < 4) : hasN (outN 12 x) s = (hasN (slotN x) s && !hasN 3 s) := by
  have k : allBelow (fun n => allBelow (fun s => hasN (n &&& 12) s == (hasN n s && !hasN 3 s)) 4) 16 = true := by decide +kernel
  simpa [outN] using allBelow_at (allBelow_at k _ (slotN_lt x)) s hs
theorem good_out : ∀ (l : List In) (t : List Nat), good (l.map (outN 12)) t ↔ good (l.map slotN) t ∧ ∀ s ∈ t, hasN 3 s = false
  | [], [] => by simp [good]
  | [], _ :: _ => by simp [good]
  | _ :: _, [] => by simp [good]
  | x :: l, s :: t => by
    simp only [List.map_cons, good, good_out l t, List.forall_mem_cons]
    constructor
    · rintro ⟨h1, h2, h3, h4⟩
      rw [out_has x h2, Bool.and_eq_true, Bool.not_eq_true'] at h1
      exact ⟨⟨h1.1, h2, h3⟩, h1.2, h4⟩
    · rintro ⟨⟨h1, h2, h3⟩, h4, h5⟩
      exact ⟨by rw [out_has x h2, h1, h4]; rfl, h2, h3, h5⟩
theorem fits_all (l : List In) : fitsN (l.map (outN 15)) = placeB l 0 := by
  rw [fits_searchN]
  have e : l.map (outN 15) = l.map slotN := List.map_congr_left fun x _ => out_all x
  rw [e]
  rfl
theorem fits_beside (l : List In) : fitsN (l.map (outN 12)) = placeB l 3 := by
  refine bool_iff ?_
  unfold placeB
  rw [fits_iff, searchN_iff _ 3 (by omega)]
  exact ⟨fun ⟨t, h1, h2⟩ => ⟨t, ((good_out l t).1 h1).1, h2, ((good_out l t).1 h1).2⟩, fun ⟨t, h1, h2, h3⟩ => ⟨t, (good_out l t).2 ⟨h1, h3⟩, h2⟩⟩
theorem rest_length (l : List In) {i j : Nat} (hij : i < j) (hj : j < l.length) : (restOf l i j).length = l.length - 2 := by
  have h1 : (l.eraseIdx j).length = l.length - 1 := List.length_eraseIdx_of_lt hj
  have h2 : ((l.eraseIdx j).eraseIdx i).length = (l.eraseIdx j).length - 1 := List.length_eraseIdx_of_lt (by omega)
  unfold restOf
  omega
/-- Too many for a duplex. -/
theorem none_many (l : List In) (h : 4 < l.length) : IsChoice l 0 0 false := ⟨fun h => by simp at h, fun _ => ⟨rfl, rfl, fun a b hab hb => by
  have h1 := rest_length l hab hb
  unfold okAt
  cases hp : placeB (restOf l a b) 3 with
  | false => simp
  | true => exact absurd (place_two _ hp) (by omega)⟩⟩
theorem ext_next' (l : List In) {k : Nat} (h : k < l.length) : extN (l.take (k + 1)) = extN (l.take k) + if l[k].ext then 1 else 0 := by
  unfold extN
  rw [List.take_succ_eq_append_getElem h, List.countP_append]
  simp [List.countP_cons]
theorem ext_le' (l : List In) (k : Nat) : extN (l.take k) ≤ k := Nat.le_trans List.countP_le_length (by rw [List.length_take]; omega)
/-- A row of masks as far as it is filled. -/
def maskL (o : Nat) (l : List In) (k : Nat) : List Nat := (l.take k).map (outN o) ++ List.replicate (l.length - k) 0
theorem maskL_len (o : Nat) (l : List In) {k : Nat} (h : k ≤ l.length) : (maskL o l k).length = l.length := by
  unfold maskL
  simp
  omega
theorem maskL_start (o : Nat) (l : List In) : maskL o l 0 = List.replicate l.length 0 := by simp [maskL]
theorem maskL_end (o : Nat) (l : List In) : maskL o l l.length = l.map (outN o) := by simp [maskL]
theorem maskL_next (o : Nat) (l : List In) {k : Nat} (h : k < l.length) : (maskL o l k).set k (outN o l[k]) = maskL o l (k + 1) := by
  unfold maskL
  have h1 : ((l.take k).map (outN o)).length = k := by simp; omega
  rw [List.set_append_right _ _ (by omega), h1, Nat.sub_self, List.take_succ_eq_append_getElem h, List.map_append, List.append_assoc]
  have h2 : l.length - k = (l.length - (k + 1)) + 1 := by omega
  rw [h2, List.replicate_succ]
  rfl
end Go.Proofs.YtaieiaopdbhjaaaGreatDoor
