/- A scope whose run jumps to any of several labels: what holds at each, with a number that each pass lowers; no condition but those named. -/
import Derived.Test.YtebpimjbjjmpaaaGBase
import Derived.ScopeJumps
namespace Go.Proofs.Ytebpimjbjjmpaaa
open Go

/-- As Q; by a goto to label l: J l. -/
def toLabel (J : Nat → Act → World → Prop) (Q : Exit → Act → World → Prop) : Exit → Act → World → Prop
  | .goto l, a, w => J l a w
  | e, a, w => Q e a w
section
variable {J : Nat → Act → World → Prop} {Q : Exit → Act → World → Prop} {a : Act} {w : World}
theorem toLabel_goto (l : Nat) : toLabel J Q (.goto l) a w = J l a w := rfl
theorem toLabel_ret : toLabel J Q .ret a w = Q .ret a w := rfl
theorem toLabel_normal : toLabel J Q .normal a w = Q .normal a w := rfl
end
/-- J n l a w: at label l, with n to go. The scope's code begins with a label. -/
theorem wp_scope_by {P : Program} {a : Act} {w : World} {Q : Exit → Act → World → Prop} {c' : Code} (J : Nat → Nat → Act → World → Prop) (n0 l0 : Nat) (h0 : J n0 l0 a w)
    (begins : ∀ n a w, J n l0 a w → c'.wp P (toLabel (fun l' a' w' => ∃ m, m < n ∧ J m l' a' w') Q) a w)
    (others : ∀ n l a w, l ≠ l0 → J n l a w → ∃ r, findLabel (.seq (.label l0) c') l = some r ∧ r.wp P (toLabel (fun l' a' w' => ∃ m, m < n ∧ J m l' a' w') Q) a w) : (Code.scope (.seq (.label l0) c')).wp P Q a w := by
  have pass : ∀ n l a w, J n l a w → ∃ r, findLabel (.seq (.label l0) c') l = some r ∧ r.wp P (toLabel (fun l' a' w' => ∃ m, m < n ∧ J m l' a' w') Q) a w := by
    intro n l a w h
    by_cases hl : l = l0
    · subst hl
      exact ⟨.seq .skip c', by simp [findLabel], wp_seq (wp_skip (begins n a w h))⟩
    · exact others n l a w hl h
  have first : (Code.seq (.label l0) c').wp P (toLabel (fun l' a' w' => ∃ m, m < n0 ∧ J m l' a' w') Q) a w := wp_seq (wp_label (begins n0 a w h0))
  generalize Code.seq (.label l0) c' = c at *
  intro b k cs
  have hg : ∀ l r, findLabel c l = some r → gotoIn l (.inScope c :: k) = some (.code r :: .inScope c :: k) := fun l r h => by simp [gotoIn, h]
  have key : ∀ n l a w, J n l a w → ∀ r, findLabel c l = some r → ∃ e a' w', Q e a' w' ∧ Arrives P (lone (b.at a (.code r :: .inScope c :: k)) cs w) b k cs e a' w' := by
    intro n
    induction n using Nat.strongRecOn with
    | _ n ih =>
      intro l a w hJ r hr
      obtain ⟨r', hr', hwp⟩ := pass n l a w hJ
      obtain rfl := Option.some.inj (hr'.symm.trans hr)
      obtain ⟨e, a₁, w₁, hq, harr⟩ := hwp b (.inScope c :: k) cs
      cases e with
      | normal => exact ⟨.normal, a₁, w₁, hq, Steps.trans harr (.one step_inScope)⟩
      | exit id => exact ⟨.exit id, a₁, w₁, hq, fun k' hk => harr k' (by simp [exitTo, hk])⟩
      | goto l' =>
        obtain ⟨m, hlt, hJ'⟩ := hq
        obtain ⟨r2, hr2, -⟩ := pass m l' a₁ w₁ hJ'
        obtain ⟨e₂, a₂, w₂, hq₂, harr₂⟩ := ih m hlt l' a₁ w₁ hJ' r2 hr2
        exact ⟨e₂, a₂, w₂, hq₂, .of_steps (harr _ (hg l' r2 hr2)) harr₂⟩
      | ret => exact ⟨_, a₁, w₁, hq, harr⟩
      | panic ch => exact ⟨_, a₁, w₁, hq, harr⟩
      | outgrown => exact ⟨_, a₁, w₁, hq, harr⟩
  obtain ⟨e, a₁, w₁, hq, harr⟩ := first b (.inScope c :: k) cs
  cases e with
  | normal => exact ⟨.normal, a₁, w₁, hq, .head step_scope (Steps.trans harr (.one step_inScope))⟩
  | exit id => exact ⟨.exit id, a₁, w₁, hq, fun k' hk => .head step_scope (harr k' (by simp [exitTo, hk]))⟩
  | goto l' =>
    obtain ⟨m, -, hJ'⟩ := hq
    obtain ⟨r2, hr2, -⟩ := pass m l' a₁ w₁ hJ'
    obtain ⟨e₂, a₂, w₂, hq₂, harr₂⟩ := key m l' a₁ w₁ hJ' r2 hr2
    exact ⟨e₂, a₂, w₂, hq₂, .of_steps (.head step_scope (harr _ (hg l' r2 hr2))) harr₂⟩
  | ret => exact ⟨_, a₁, w₁, hq, .of_steps (.one step_scope) harr⟩
  | panic ch => exact ⟨_, a₁, w₁, hq, .of_steps (.one step_scope) harr⟩
  | outgrown => exact ⟨_, a₁, w₁, hq, .of_steps (.one step_scope) harr⟩
end Go.Proofs.Ytebpimjbjjmpaaa
