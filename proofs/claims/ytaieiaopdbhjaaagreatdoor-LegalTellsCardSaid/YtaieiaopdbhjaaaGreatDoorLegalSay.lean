/- What Choose hands back; the others of a pair, one by one; no condition but those named. -/
import Derived.Test.YtaieiaopdbhjaaaGreatDoorLegalMath
import Derived.Test.YtaieiaopdbhjaaaGreatDoorGRules
namespace Go.Proofs.YtaieiaopdbhjaaaGreatDoor
open Go.ChangeShapes Go.WideShapes Go.ChangeAt Go.RowKit Go.Sort BigFrame

/-- What Choose hands back. -/
def Chosen (l : List In) (w : World) (e : Ending) (w' : World) : Prop := ∃ (i j : Nat) (ok : Bool), e = .returned (.tuple #[.int .i64 i, .int .i64 j, .bool ok]) ∧ IsChoice l i j ok ∧ Made w w'
theorem rest_next (l : List In) {i j k : Nat} (hij : i < j) (hk : k < l.length) (x : In) (hx : l[k] = x) : restOf (l.take (k + 1)) i j = if k = i ∨ k = j then restOf (l.take k) i j else restOf (l.take k) i j ++ [x] := by
  have hl : (l.take k).length = k := by rw [List.length_take]; omega
  have e : l.take (k + 1) = l.take k ++ [x] := by rw [List.take_succ_eq_append_getElem hk, hx]
  unfold restOf
  rw [e]
  generalize l.take k = m at *
  have out : ∀ (L : List In) (t : Nat), L.length ≤ t → L.eraseIdx t = L := fun L t h => List.eraseIdx_of_length_le h
  have lt : ∀ (L : List In) (t : Nat), t < L.length → (L ++ [x]).eraseIdx t = L.eraseIdx t ++ [x] := fun L t h => List.eraseIdx_append_of_lt_length h [x]
  have eq : ∀ (L : List In) (t : Nat), t = L.length → (L ++ [x]).eraseIdx t = L := fun L t h => by
    rw [List.eraseIdx_append_of_length_le (by omega), h, Nat.sub_self]
    simp
  have hx1 : (m ++ [x]).length = m.length + 1 := by simp
  by_cases h1 : k < i
  · rw [out (m ++ [x]) j (by omega), out (m ++ [x]) i (by omega), out m j (by omega), out m i (by omega), if_neg (by omega)]
  · by_cases h2 : k = i
    · rw [out (m ++ [x]) j (by omega), eq m i (by omega), out m j (by omega), out m i (by omega), if_pos (.inl h2)]
    · by_cases h3 : k < j
      · rw [out (m ++ [x]) j (by omega), lt m i (by omega), out m j (by omega), if_neg (by omega)]
      · by_cases h4 : k = j
        · rw [eq m j (by omega), out m j (by omega), if_pos (.inr h4)]
        · have hml : (m.eraseIdx j).length = m.length - 1 := List.length_eraseIdx_of_lt (by omega)
          rw [lt m j (by omega), lt (m.eraseIdx j) i (by omega), if_neg (by omega)]
theorem rest_whole (l : List In) (i j : Nat) : restOf (l.take l.length) i j = restOf l i j := by rw [List.take_length]
theorem rest_none (l : List In) (i j : Nat) : restOf (l.take 0) i j = [] := by simp [restOf]
theorem rest_len (l : List In) (i j k : Nat) : (restOf (l.take k) i j).length ≤ k := by
  unfold restOf
  have h1 : (((l.take k).eraseIdx j).eraseIdx i).length ≤ ((l.take k).eraseIdx j).length := List.length_eraseIdx_le ..
  have h2 : ((l.take k).eraseIdx j).length ≤ (l.take k).length := List.length_eraseIdx_le ..
  have h3 : (l.take k).length ≤ k := by rw [List.length_take]; omega
  omega
theorem rest_small {l : List In} (h : ∀ x ∈ l, x.small) (i j k : Nat) : ∀ x ∈ restOf (l.take k) i j, x.small := fun x hx =>
  h x (List.mem_of_mem_take (List.mem_of_mem_eraseIdx (List.mem_of_mem_eraseIdx hx)))
/-- No pair ahead of one. -/
def NoneTo (l : List In) (i j : Nat) : Prop := ∀ a b, a < b → b < l.length → ahead a b i j → okAt l a b = false
theorem none_start (l : List In) : NoneTo l 0 0 := fun a b _ _ h => by unfold ahead at h; omega
theorem none_in {l : List In} {i : Nat} (h : NoneTo l i 0) : NoneTo l i (i + 1) := fun a b hab hb ha => by
  unfold ahead at ha
  rcases ha with ha | ⟨rfl, ha⟩
  · exact h a b hab hb (.inl ha)
  · omega
theorem nonep_next {l : List In} {i j : Nat} (h : NoneTo l i j) (ho : okAt l i j = false) : NoneTo l i (j + 1) := fun a b hab hb ha => by
  unfold ahead at ha
  rcases ha with ha | ⟨rfl, ha⟩
  · exact h a b hab hb (.inl ha)
  · by_cases hbj : b = j
    · subst hbj; exact ho
    · exact h a b hab hb (.inr ⟨rfl, by omega⟩)
theorem none_out {l : List In} {i j : Nat} (h : NoneTo l i j) (hj : l.length ≤ j) : NoneTo l (i + 1) 0 := fun a b hab hb ha => by
  unfold ahead at ha
  by_cases hai : a < i
  · exact h a b hab hb (.inl hai)
  · exact h a b hab hb (.inr ⟨by omega, by omega⟩)
theorem none_all {l : List In} {i : Nat} (h : NoneTo l i 0) (hi : l.length ≤ i + 1) : IsChoice l 0 0 false :=
  ⟨fun h => by simp at h, fun _ => ⟨rfl, rfl, fun a b hab hb => h a b hab hb (.inl (by omega))⟩⟩
theorem choice_at {l : List In} {i j : Nat} (h : NoneTo l i j) (hij : i < j) (hj : j < l.length) (ho : okAt l i j = true) : IsChoice l i j true :=
  ⟨fun _ => ⟨hij, hj, ho, h⟩, fun h => by simp at h⟩
end Go.Proofs.YtaieiaopdbhjaaaGreatDoor
