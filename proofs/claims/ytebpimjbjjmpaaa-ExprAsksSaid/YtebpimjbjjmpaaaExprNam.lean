/- Rows of texts, and of names and their values, in memory; no condition. -/
import Derived.Test.YtebpimjbjjmpaaaExprSay
namespace Go.Proofs.Ytebpimjbjjmpaaa
open Go.ChangeShapes Go.WideShapes Go.ChangeAt Go.RowKit Go.Sort BigFrame

/-- A row of texts. -/
abbrev txC (s : List UInt8) : List Value := [.string (strOf s)]
theorem tx_len (s : List UInt8) : (txC s).length = 1 := rfl
abbrev Txs (w : World) (ao : Option Addr) (cap : Nat) (l : List (List UInt8)) : Prop := Recs txC 1 w ao cap l
theorem txs_cell {w : World} {ao : Option Addr} {cap : Nat} {l : List (List UInt8)} (h : Txs w ao cap l) {t : Nat} (ht : t < l.length) (x : List UInt8) (hx : l[t] = x) : ∃ b o, ao = some ⟨b, o, none⟩ ∧ w.cell? ⟨b, o + t, none⟩ = some (.string (strOf x)) := by
  subst hx
  obtain ⟨b, o, e, hc⟩ := h.cell t ht
  have h1 := hc 0 (by omega)
  rw [Nat.mul_one] at h1
  exact ⟨b, o, e, h1⟩
theorem tx_one (l : List (List UInt8)) : ∀ u ∈ l.flatMap txC, u.oneCell' = true := by
  intro u hu
  obtain ⟨x, _, h⟩ := List.mem_flatMap.1 hu
  simp only [List.mem_cons, List.not_mem_nil, or_false] at h
  rw [h]
  rfl
theorem tx_olds (w : World) (t : List UInt8) : ∀ ad, (some ⟨w.heap.size, 0, none⟩ : Option Addr) = some ad → ∀ j u, ([t].flatMap txC)[j]? = some u → (w.alloc (.cells ([t].flatMap txC).toArray 9)).cell? (ad.add j) = some u :=
  recs_olds tx_len (by decide) (recs_lit (l := [t]) (n := 1) tx_len (heap_alloc_new w _) rfl (by omega))
theorem str_row : (Try.prog.info? 9).map (fun i => (i.zero, i.size, i.bytes)) = some (some (Value.string ⟨#[]⟩), 1, 16) := by kernel_rfl
/-- What Names tells. -/
def NamesSays (W : World) (l : List (List UInt8)) (x : Ending) (w' : World) : Prop := ∃ so c, x = .returned (.slice so l.length c) ∧ Txs w' so c l ∧ Made W w'
/-- A name, its value, and what is answered with it. -/
structure Nm where
  name : List UInt8
  v : Int
  e : Int
abbrev Nm.cells (t : Nm) : List Value := [.string (strOf t.name), .int .i64 t.v, .int .i64 t.e]
theorem nm_len (t : Nm) : t.cells.length = 3 := rfl
abbrev Nms (w : World) (ao : Option Addr) (cap : Nat) (l : List Nm) : Prop := Recs Nm.cells 3 w ao cap l
theorem nms_cells {w : World} {ao : Option Addr} {cap : Nat} {l : List Nm} (h : Nms w ao cap l) {t : Nat} (ht : t < l.length) (x : Nm) (hx : l[t] = x) : ∃ b o, ao = some ⟨b, o, none⟩ ∧
    w.cell? ⟨b, o + t * 3, none⟩ = some (.string (strOf x.name)) ∧ w.cell? ⟨b, o + t * 3 + 1, none⟩ = some (.int .i64 x.v) ∧ w.cell? ⟨b, o + t * 3 + 2, none⟩ = some (.int .i64 x.e) := by
  subst hx
  obtain ⟨b, o, e, hc⟩ := h.cell t ht
  exact ⟨b, o, e, hc 0 (by omega), hc 1 (by omega), hc 2 (by omega)⟩
/-- What is answered for a name. -/
def askL : List Nm → List UInt8 → Int × Int
  | [], _ => (0, 4)
  | x :: r, s => if x.name = s then (x.v, x.e) else askL r s
end Go.Proofs.Ytebpimjbjjmpaaa
