/- Terms in memory; what Parse of package expr, and the document's, tells; no condition. -/
import Derived.Test.YtebpimjbjjmpaaaExprRd
import Derived.Test.YtebpimjbjjmpaaaLexSay
import Derived.Test.YtebpimjbjjmpaaaRecs
namespace Go.Proofs.Ytebpimjbjjmpaaa
open Go.ChangeShapes Go.WideShapes Go.ChangeAt Go.RowKit Go.Sort BigFrame

/-- A term. -/
structure Tm where
  kind : Int
  v : Int
  name : List UInt8
  a : Int
  b : Int
  deriving DecidableEq
abbrev Tm.cells (t : Tm) : List Value := [.int .u8 t.kind, .int .i64 t.v, .string (strOf t.name), .int .i64 t.a, .int .i64 t.b]
abbrev Tm.val (t : Tm) : Value := .agg #[.int .u8 t.kind, .int .i64 t.v, .string (strOf t.name), .int .i64 t.a, .int .i64 t.b]
theorem tm_len (t : Tm) : t.cells.length = 5 := rfl
theorem tm_one (l : List Tm) : ∀ u ∈ l.flatMap Tm.cells, u.oneCell' = true := by
  intro u hu
  obtain ⟨x, _, h⟩ := List.mem_flatMap.1 hu
  simp only [List.mem_cons, List.not_mem_nil, or_false] at h
  rcases h with rfl | rfl | rfl | rfl | rfl <;> rfl
abbrev Tms (w : World) (ao : Option Addr) (cap : Nat) (l : List Tm) : Prop := Recs Tm.cells 5 w ao cap l
theorem tms_cells {w : World} {ao : Option Addr} {cap : Nat} {l : List Tm} (h : Tms w ao cap l) {t : Nat} (ht : t < l.length) (x : Tm) (hx : l[t] = x) : ∃ b o, ao = some ⟨b, o, none⟩ ∧
    w.cell? ⟨b, o + t * 5, none⟩ = some (.int .u8 x.kind) ∧ w.cell? ⟨b, o + t * 5 + 1, none⟩ = some (.int .i64 x.v) ∧ w.cell? ⟨b, o + t * 5 + 2, none⟩ = some (.string (strOf x.name)) ∧
    w.cell? ⟨b, o + t * 5 + 3, none⟩ = some (.int .i64 x.a) ∧ w.cell? ⟨b, o + t * 5 + 4, none⟩ = some (.int .i64 x.b) := by
  subst hx
  obtain ⟨b, o, e, hc⟩ := h.cell t ht
  exact ⟨b, o, e, hc 0 (by omega), hc 1 (by omega), hc 2 (by omega), hc 3 (by omega), hc 4 (by omega)⟩
/-! The terms of an expression. -/
def Ex.size : Ex → Nat
  | .num _ => 1
  | .nam _ => 1
  | .bin _ a b => a.size + b.size + 1
  | .neg a => a.size + 1
/-- Its terms, behind m others. -/
def Ex.post : Ex → Nat → List Tm
  | .num v, _ => [⟨1, v, [], 0, 0⟩]
  | .nam s, _ => [⟨2, 0, s, 0, 0⟩]
  | .bin k a b, m => a.post m ++ b.post (m + a.size) ++ [⟨k, 0, [], m + a.size - 1, m + a.size + b.size - 1⟩]
  | .neg a, m => a.post m ++ [⟨6, 0, [], m + a.size - 1, 0⟩]
theorem size_pos (t : Ex) : 0 < t.size := by cases t <;> simp [Ex.size]
theorem post_len : ∀ (t : Ex) (m : Nat), (t.post m).length = t.size
  | .num _, _ => rfl
  | .nam _, _ => rfl
  | .bin k a b, m => by
    have h1 := post_len a m
    have h2 := post_len b (m + a.size)
    simp only [Ex.post, Ex.size, List.length_append, List.length_singleton, h1, h2]
  | .neg a, m => by
    have h1 := post_len a m
    simp only [Ex.post, Ex.size, List.length_append, List.length_singleton, h1]
/-- The terms are at most as many as the tokens that are read. -/
theorem rd_few {m : Md} {d : Nat} {ts : List Tq} {res : Rs} (h : Rd m d ts res) : ∀ a r, res = .ok a r → a.size + r.length ≤ ts.length + (match m with | .pt x => x.size | .st x => x.size | _ => 0) := by
  induction h with
  | parOk h hd hs hc ih =>
    intro a r e; cases e
    have := ih _ _ rfl
    simp only [List.length_cons] at this ⊢
    omega
  | negOk h hd hs ih =>
    intro a r e; cases e
    have := ih _ _ rfl
    simp only [Ex.size, List.length_cons] at this ⊢
    omega
  | number hk h0 h1 =>
    intro a r e; cases e
    simp only [Ex.size, List.length_cons]
    omega
  | name hk h0 =>
    intro a r e; cases e
    simp only [Ex.size, List.length_cons]
    omega
  | prodOk hf hp ih1 ih2 =>
    intro a r e
    have h1 := ih1 _ _ rfl
    have h2 := ih2 a r e
    simp only at h1 h2 ⊢
    omega
  | starOk h hf hp ih1 ih2 =>
    intro a r e
    have h1 := ih1 _ _ rfl
    have h2 := ih2 a r e
    simp only [Ex.size, List.length_cons] at h1 h2 ⊢
    omega
  | starEnd h =>
    intro a r e; cases e
    simp only
    omega
  | sumOk hf hp ih1 ih2 =>
    intro a r e
    have h1 := ih1 _ _ rfl
    have h2 := ih2 a r e
    simp only at h1 h2 ⊢
    omega
  | plusOk h hf hp ih1 ih2 =>
    intro a r e
    have h1 := ih1 _ _ rfl
    have h2 := ih2 a r e
    simp only [Ex.size, List.length_cons] at h1 h2 ⊢
    omega
  | subOk h hf hp ih1 ih2 =>
    intro a r e
    have h1 := ih1 _ _ rfl
    have h2 := ih2 a r e
    simp only [Ex.size, List.length_cons] at h1 h2 ⊢
    omega
  | sumEnd h h2 =>
    intro a r e; cases e
    simp only
    omega
  | _ => intro a r e; cases e
theorem rd_why {m : Md} {d : Nat} {ts : List Tq} {res : Rs} (h : Rd m d ts res) : ∀ r w, res = .bad r w → w = 3 ∨ w = 8 := by
  induction h with
  | deepP => intro r w e; cases e; exact .inl rfl
  | deepN => intro r w e; cases e; exact .inl rfl
  | parOpen => intro r w e; cases e; exact .inr rfl
  | noneEnd => intro r w e; cases e; exact .inr rfl
  | noneTok => intro r w e; cases e; exact .inr rfl
  | parBad h hd hs ih => intro r w e; cases e; exact ih _ _ rfl
  | negBad h hd hs ih => intro r w e; cases e; exact ih _ _ rfl
  | prodBad hf ih => intro r w e; cases e; exact ih _ _ rfl
  | starBad h hf ih => intro r w e; cases e; exact ih _ _ rfl
  | sumBad hf ih => intro r w e; cases e; exact ih _ _ rfl
  | plusBad h hf ih => intro r w e; cases e; exact ih _ _ rfl
  | subBad h hf ih => intro r w e; cases e; exact ih _ _ rfl
  | prodOk hf hp ih1 ih2 => exact ih2
  | starOk h hf hp ih1 ih2 => exact ih2
  | sumOk hf hp ih1 ih2 => exact ih2
  | plusOk h hf hp ih1 ih2 => exact ih2
  | subOk h hf hp ih1 ih2 => exact ih2
  | _ => intro r w e; cases e
/-- What is left is the end of what there was. -/
theorem rd_tail {m : Md} {d : Nat} {ts : List Tq} {res : Rs} (h : Rd m d ts res) : ∃ c, ts = c ++ res.rest := by
  induction h with
  | deepP => exact ⟨[], rfl⟩
  | deepN => exact ⟨[], rfl⟩
  | @parOk d t r a t2 r2 h hd hs hc ih => obtain ⟨c, e⟩ := ih; exact ⟨t :: (c ++ [t2]), by rw [e]; simp [Rs.rest]⟩
  | @parOpen d t r a r1 h hd hs hc ih => obtain ⟨c, e⟩ := ih; exact ⟨t :: c, congrArg (t :: ·) e⟩
  | @parBad d t r r1 w h hd hs ih => obtain ⟨c, e⟩ := ih; exact ⟨t :: c, congrArg (t :: ·) e⟩
  | @negOk d t r a r1 h hd hs ih => obtain ⟨c, e⟩ := ih; exact ⟨t :: c, congrArg (t :: ·) e⟩
  | @negBad d t r r1 w h hd hs ih => obtain ⟨c, e⟩ := ih; exact ⟨t :: c, congrArg (t :: ·) e⟩
  | @number d t r hk h0 h1 => exact ⟨[t], rfl⟩
  | @name d t r hk h0 => exact ⟨[t], rfl⟩
  | noneEnd => exact ⟨[], rfl⟩
  | noneTok => exact ⟨[], rfl⟩
  | prodOk hf hp ih1 ih2 => obtain ⟨c1, e1⟩ := ih1; obtain ⟨c2, e2⟩ := ih2; exact ⟨c1 ++ c2, by rw [e1, List.append_assoc, ← e2]; rfl⟩
  | prodBad hf ih => obtain ⟨c, e⟩ := ih; exact ⟨c, e⟩
  | @starOk d t r a b r1 res h hf hp ih1 ih2 => obtain ⟨c1, e1⟩ := ih1; obtain ⟨c2, e2⟩ := ih2; exact ⟨t :: (c1 ++ c2), by rw [e1, List.cons_append, List.append_assoc, ← e2]; rfl⟩
  | @starBad d t r a r1 w h hf ih => obtain ⟨c, e⟩ := ih; exact ⟨t :: c, congrArg (t :: ·) e⟩
  | starEnd h => exact ⟨[], rfl⟩
  | sumOk hf hp ih1 ih2 => obtain ⟨c1, e1⟩ := ih1; obtain ⟨c2, e2⟩ := ih2; exact ⟨c1 ++ c2, by rw [e1, List.append_assoc, ← e2]; rfl⟩
  | sumBad hf ih => obtain ⟨c, e⟩ := ih; exact ⟨c, e⟩
  | @plusOk d t r a b r1 res h hf hp ih1 ih2 => obtain ⟨c1, e1⟩ := ih1; obtain ⟨c2, e2⟩ := ih2; exact ⟨t :: (c1 ++ c2), by rw [e1, List.cons_append, List.append_assoc, ← e2]; rfl⟩
  | @plusBad d t r a r1 w h hf ih => obtain ⟨c, e⟩ := ih; exact ⟨t :: c, congrArg (t :: ·) e⟩
  | @subOk d t r a b r1 res h hf hp ih1 ih2 => obtain ⟨c1, e1⟩ := ih1; obtain ⟨c2, e2⟩ := ih2; exact ⟨t :: (c1 ++ c2), by rw [e1, List.cons_append, List.append_assoc, ← e2]; rfl⟩
  | @subBad d t r a r1 w h hf ih => obtain ⟨c, e⟩ := ih; exact ⟨t :: c, congrArg (t :: ·) e⟩
  | sumEnd h h2 => exact ⟨[], rfl⟩
/-- The rest is what lies behind some first tokens. -/
theorem rest_drop {m : Md} {d : Nat} {L : List Tq} {k : Nat} {res : Rs} (h : Rd m d (L.drop k) res) (hk : k ≤ L.length) : ∃ k', k ≤ k' ∧ k' ≤ L.length ∧ res.rest = L.drop k' := by
  obtain ⟨c, e⟩ := rd_tail h
  refine ⟨k + c.length, by omega, ?_, ?_⟩
  · have := congrArg List.length e
    rw [List.length_drop, List.length_append] at this
    omega
  · rw [← List.drop_drop, e, List.drop_left]
/-- What Parse tells. -/
def PSays (ts : List Tq) (w : World) : Rs → Ending → World → Prop
  | .ok a r, e, w' => ∃ so c, e = .returned (.tuple #[.slice so a.size c, .int .i64 ((ts.length : Int) - r.length), .int .i64 0]) ∧ Tms w' so c (a.post 0) ∧ Made w w'
  | .bad r why, e, w' => e = .returned (.tuple #[.slice none 0 0, .int .i64 ((ts.length : Int) - r.length), .int .i64 why]) ∧ Made w w'
end Go.Proofs.Ytebpimjbjjmpaaa
