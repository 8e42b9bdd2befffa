/- Tokens and what is wrong in memory; what Split of package lex, and the document's, tells; no condition. -/
import Derived.Test.YtebpimjbjjmpaaaLexPlaceM
import Derived.Test.YtebpimjbjjmpaaaRecs
namespace Go.Proofs.Ytebpimjbjjmpaaa
open Go.ChangeShapes Go.WideShapes Go.ChangeAt Go.RowKit Go.Sort BigFrame

abbrev strOf (l : List UInt8) : ByteArray := ⟨l.toArray⟩
abbrev Tk.cells (t : Tk) : List Value := [.int .u8 t.kind, .string (strOf t.text), .int .i64 t.v, .int .i64 t.line, .int .i64 t.col]
abbrev Tk.val (t : Tk) : Value := .agg #[.int .u8 t.kind, .string (strOf t.text), .int .i64 t.v, .int .i64 t.line, .int .i64 t.col]
abbrev Wr.cells (t : Wr) : List Value := [.int .i64 t.line, .int .i64 t.col, .int .i64 t.code]
abbrev Wr.val (t : Wr) : Value := .agg #[.int .i64 t.line, .int .i64 t.col, .int .i64 t.code]
theorem tk_len (t : Tk) : t.cells.length = 5 := rfl
theorem wr_len (t : Wr) : t.cells.length = 3 := rfl
abbrev Toks (w : World) (ao : Option Addr) (cap : Nat) (l : List Tk) : Prop := Recs Tk.cells 5 w ao cap l
abbrev Wrs (w : World) (ao : Option Addr) (cap : Nat) (l : List Wr) : Prop := Recs Wr.cells 3 w ao cap l
theorem toks_made {w w' : World} {ao : Option Addr} {cap : Nat} {l : List Tk} (h : Toks w ao cap l) (hm : Made w w') : Toks w' ao cap l := h.made tk_len hm
theorem wrs_made {w w' : World} {ao : Option Addr} {cap : Nat} {l : List Wr} (h : Wrs w ao cap l) (hm : Made w w') : Wrs w' ao cap l := h.made wr_len hm
theorem toks_cells {w : World} {ao : Option Addr} {cap : Nat} {l : List Tk} (h : Toks w ao cap l) {t : Nat} (ht : t < l.length) (x : Tk) (hx : l[t] = x) : ∃ b o, ao = some ⟨b, o, none⟩ ∧
    w.cell? ⟨b, o + t * 5, none⟩ = some (.int .u8 x.kind) ∧ w.cell? ⟨b, o + t * 5 + 1, none⟩ = some (.string (strOf x.text)) ∧ w.cell? ⟨b, o + t * 5 + 2, none⟩ = some (.int .i64 x.v) ∧
    w.cell? ⟨b, o + t * 5 + 3, none⟩ = some (.int .i64 x.line) ∧ w.cell? ⟨b, o + t * 5 + 4, none⟩ = some (.int .i64 x.col) := by
  subst hx
  obtain ⟨b, o, e, hc⟩ := h.cell t ht
  exact ⟨b, o, e, hc 0 (by omega), hc 1 (by omega), hc 2 (by omega), hc 3 (by omega), hc 4 (by omega)⟩
theorem wrs_cells {w : World} {ao : Option Addr} {cap : Nat} {l : List Wr} (h : Wrs w ao cap l) {t : Nat} (ht : t < l.length) (x : Wr) (hx : l[t] = x) : ∃ b o, ao = some ⟨b, o, none⟩ ∧
    w.cell? ⟨b, o + t * 3, none⟩ = some (.int .i64 x.line) ∧ w.cell? ⟨b, o + t * 3 + 1, none⟩ = some (.int .i64 x.col) ∧ w.cell? ⟨b, o + t * 3 + 2, none⟩ = some (.int .i64 x.code) := by
  subst hx
  obtain ⟨b, o, e, hc⟩ := h.cell t ht
  exact ⟨b, o, e, hc 0 (by omega), hc 1 (by omega), hc 2 (by omega)⟩
/-- There are at most as many tokens as bytes, and one. -/
theorem run_few : ∀ (n : Nat) (l : List UInt8), l.length ≤ n → ∀ line col : Int, (lxRun line col l).1.length ≤ l.length + 1 ∧ (lxRun line col l).2.length ≤ l.length
  | _, [], _, line, col => ⟨Nat.le_refl _, Nat.le_refl _⟩
  | 0, b :: r, h, _, _ => by simp at h
  | n + 1, b :: r, h, line, col => by
    rw [List.length_cons] at h
    by_cases hb : b.toNat = 10
    · rw [lxRun_lf _ _ hb]
      obtain ⟨h1, h2⟩ := run_few n r (by omega) (line + 1) 1
      exact ⟨by simp only [List.length_cons]; omega, by simp only [List.length_cons]; omega⟩
    · rw [lxRun_cut _ _ hb]
      obtain ⟨h1, h2⟩ := run_few n (r.drop (lxCut b r).more) (by rw [List.length_drop]; omega) line (col + ((lxCut b r).more : Nat) + 1)
      rw [List.length_drop] at h1 h2
      have t1 : (lxTok b r line col).length ≤ 1 := by unfold lxTok; split <;> simp
      have t2 : (lxBad b r line col).length ≤ 1 := by unfold lxBad; split <;> simp
      exact ⟨by simp only [List.length_cons, List.length_append]; omega, by simp only [List.length_cons, List.length_append]; omega⟩
theorem lexT_few (s : List UInt8) : (lexT s).length ≤ s.length + 1 := (run_few s.length s (Nat.le_refl _) 1 1).1
theorem lexW_few (s : List UInt8) : (lexW s).length ≤ 100 := by
  unfold lexW
  rw [List.length_take]
  omega
/-- What Split tells. -/
def LexSays (s : List UInt8) (w : World) (e : Ending) (w' : World) : Prop :=
  ∃ so n c dg m d, e = .returned (.tuple #[.slice so n c, .slice dg m d]) ∧ (lexT s).length = n ∧ (lexW s).length = m ∧ Toks w' so c (lexT s) ∧ Wrs w' dg d (lexW s) ∧ Made w w'
end Go.Proofs.Ytebpimjbjjmpaaa
