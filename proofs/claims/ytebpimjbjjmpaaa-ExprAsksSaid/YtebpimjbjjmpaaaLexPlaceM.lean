/- Where a text's tokens and what is wrong stand, as plain data; no condition but those named. -/
import Derived.Test.YtebpimjbjjmpaaaLexBackM
namespace Go.Proofs.Ytebpimjbjjmpaaa

/-- Where lines begin, but for the first. -/
def fromsN : List UInt8 → Nat → List Nat
  | [], _ => []
  | b :: r, p => if b.toNat = 10 then (p + 1) :: fromsN r (p + 1) else fromsN r (p + 1)
def fromsL (s : List UInt8) : List Nat := 0 :: fromsN s 0
theorem froms_app : ∀ (a b : List UInt8) (p : Nat), fromsN (a ++ b) p = fromsN a p ++ fromsN b (p + a.length)
  | [], b, p => rfl
  | x :: a, b, p => by
    have e : fromsN (x :: (a ++ b)) p = (if x.toNat = 10 then (p + 1) :: fromsN (a ++ b) (p + 1) else fromsN (a ++ b) (p + 1)) := rfl
    have e2 : fromsN (x :: a) p = (if x.toNat = 10 then (p + 1) :: fromsN a (p + 1) else fromsN a (p + 1)) := rfl
    rw [List.cons_append, e, e2, froms_app a b (p + 1), List.length_cons, show p + 1 + a.length = p + (a.length + 1) by omega]
    split <;> rfl
theorem froms_len : ∀ (s : List UInt8) (p : Nat), (fromsN s p).length = lfs s
  | [], p => rfl
  | x :: a, p => by
    have e2 : fromsN (x :: a) p = (if x.toNat = 10 then (p + 1) :: fromsN a (p + 1) else fromsN a (p + 1)) := rfl
    have e3 : lfs (x :: a) = lfs a + if x.toNat = 10 then 1 else 0 := by
      unfold lfs
      rw [List.countP_cons]
      simp
    rw [e2, e3]
    split
    · rw [List.length_cons, froms_len a (p + 1)]
    · rw [froms_len a (p + 1)]; rfl
/-- The place of a byte, or of the text's end. -/
structure AtP (s : List UInt8) (p : Nat) (line col : Int) : Prop where
  line_ : line = (lfs (s.take p) : Nat) + 1
  col_ : ∃ f : Nat, (fromsL s)[lfs (s.take p)]? = some f ∧ (f : Int) + col - 1 = p
  one : 1 ≤ col
theorem at_begin (s : List UInt8) : AtP s 0 1 1 := ⟨rfl, ⟨0, rfl, rfl⟩, Int.le_refl _⟩
theorem lfs_app (a b : List UInt8) : lfs (a ++ b) = lfs a + lfs b := List.countP_append
theorem at_cut {s : List UInt8} {p n : Nat} {line col : Int} (h : AtP s p line col) (hn : lfs (s.take (p + n)) = lfs (s.take p)) : AtP s (p + n) line (col + (n : Nat)) := by
  obtain ⟨f, h1, h2⟩ := h.col_
  have h3 := h.one
  exact ⟨by rw [hn]; exact h.line_, ⟨f, by rw [hn]; exact h1, by omega⟩, by omega⟩
theorem at_lf {s : List UInt8} {p : Nat} {line col : Int} (h : AtP s p line col) (hp : p < s.length) (hb : s[p].toNat = 10) : AtP s (p + 1) (line + 1) 1 := by
  have e : s.take (p + 1) = s.take p ++ [s[p]] := List.take_succ_eq_append_getElem hp
  have el : lfs (s.take (p + 1)) = lfs (s.take p) + 1 := by
    rw [e, lfs_app]
    unfold lfs
    rw [List.countP_cons, decide_eq_true hb]
    rfl
  refine ⟨by rw [el, h.line_]; omega, ⟨p + 1, ?_, by omega⟩, Int.le_refl _⟩
  rw [el]
  show (fromsN s 0)[lfs (s.take p)]? = some (p + 1)
  have e2 : s = s.take p ++ (s[p] :: s.drop (p + 1)) := by rw [← List.drop_eq_getElem_cons hp, List.take_append_drop]
  have e3 : fromsN s 0 = fromsN (s.take p) 0 ++ (p + 1) :: fromsN (s.drop (p + 1)) (p + 1) := by
    have h4 : fromsN s 0 = fromsN (s.take p ++ (s[p] :: s.drop (p + 1))) 0 := by rw [← e2]
    rw [h4, froms_app, List.length_take, Nat.zero_add, show min p s.length = p by omega]
    congr 1
    show (if s[p].toNat = 10 then (p + 1) :: fromsN (s.drop (p + 1)) (p + 1) else fromsN (s.drop (p + 1)) (p + 1)) = _
    rw [if_pos hb]
  rw [e3, List.getElem?_append_right (by rw [froms_len]; exact Nat.le_refl _), froms_len, Nat.sub_self]
  rfl
theorem at_line {s : List UInt8} {p : Nat} {line col : Int} (h : AtP s p line col) : 1 ≤ line ∧ line ≤ ((fromsL s).length : Nat) := by
  have h1 := h.line_
  obtain ⟨f, h2, -⟩ := h.col_
  have h3 : lfs (s.take p) < (fromsL s).length := by
    by_cases hc : lfs (s.take p) < (fromsL s).length
    · exact hc
    · rw [List.getElem?_eq_none (by omega)] at h2
      cases h2
  omega
/-- Tokens one behind the other, from p on. -/
def PlacedT (s : List UInt8) : Nat → List Tk → Prop
  | _, [] => True
  | p, t :: r => ∃ q : Nat, p ≤ q ∧ AtP s q t.line t.col ∧ q + t.text.length ≤ s.length ∧ (s.drop q).take t.text.length = t.text ∧ (t.text = [] ↔ t.kind = 4) ∧ (t.kind = 4 → ∀ h : q < s.length, s[q].toNat = 10) ∧ PlacedT s (q + t.text.length) r
theorem placedT_mono {s : List UInt8} : ∀ {p q : Nat} {l : List Tk}, p ≤ q → PlacedT s q l → PlacedT s p l
  | _, _, [], _, _ => trivial
  | _, _, _ :: _, h, ⟨q, h1, h2⟩ => ⟨q, Nat.le_trans h h1, h2⟩
/-- What is wrong, one behind the other. -/
def PlacedW (s : List UInt8) : Nat → List Wr → Prop
  | _, [] => True
  | p, t :: r => ∃ q : Nat, p ≤ q ∧ AtP s q t.line t.col ∧ q < s.length ∧ (t.code = 3 ∨ t.code = 6 ∨ t.code = 8) ∧ PlacedW s (q + 1) r
theorem placedW_mono {s : List UInt8} : ∀ {p q : Nat} {l : List Wr}, p ≤ q → PlacedW s q l → PlacedW s p l
  | _, _, [], _, _ => trivial
  | _, _, _ :: _, h, ⟨q, h1, h2⟩ => ⟨q, Nat.le_trans h h1, h2⟩
theorem placedW_take {s : List UInt8} : ∀ {p : Nat} {l : List Wr} (n : Nat), PlacedW s p l → PlacedW s p (l.take n)
  | _, [], n, _ => by rw [List.take_nil]; trivial
  | _, t :: r, 0, _ => trivial
  | _, t :: r, n + 1, ⟨q, h1, h2, h3, h4, h5⟩ => ⟨q, h1, h2, h3, h4, placedW_take n h5⟩
theorem cut_code (b : UInt8) (r : List UInt8) : (lxCut b r).e = 0 ∨ (lxCut b r).e = 3 ∨ (lxCut b r).e = 6 ∨ (lxCut b r).e = 8 := by
  unfold lxCut
  repeat' split
  all_goals simp
theorem run_placed {s : List UInt8} : ∀ (n : Nat) (l : List UInt8) (p : Nat) (line col : Int), l.length ≤ n → s.drop p = l → p ≤ s.length → AtP s p line col → PlacedT s p (lxRun line col l).1 ∧ PlacedW s p (lxRun line col l).2
  | _, [], p, line, col, _, hd, hp, ha => by
    rw [lxRun_nil]
    have hps : p = s.length := by
      have := List.drop_eq_nil_iff.1 hd
      omega
    exact ⟨⟨p, Nat.le_refl _, ha, by rw [hps]; exact Nat.le_refl _, rfl, ⟨fun _ => rfl, fun _ => rfl⟩, fun _ h => absurd h (by omega), trivial⟩, trivial⟩
  | 0, b :: r, _, _, _, h, _, _, _ => by simp at h
  | n + 1, b :: r, p, line, col, h, hd, hp, ha => by
    rw [List.length_cons] at h
    have hlen : (s.drop p).length = r.length + 1 := by rw [hd, List.length_cons]
    rw [List.length_drop] at hlen
    have hps : p < s.length := by omega
    have hsp : s[p] = b ∧ s.drop (p + 1) = r := by
      rw [List.drop_eq_getElem_cons hps] at hd
      exact List.cons.inj hd
    by_cases hb : b.toNat = 10
    · rw [lxRun_lf _ _ hb]
      obtain ⟨i1, i2⟩ := run_placed n r (p + 1) (line + 1) 1 (by omega) hsp.2 (by omega) (at_lf ha hps (by rw [hsp.1]; exact hb))
      exact ⟨⟨p, Nat.le_refl _, ha, by show p + 0 ≤ _; omega, rfl, ⟨fun _ => rfl, fun _ => rfl⟩, fun _ _ => by rw [hsp.1]; exact hb, placedT_mono (by show p + 0 ≤ p + 1; omega) i1⟩, placedW_mono (by omega) i2⟩
    · rw [lxRun_cut _ _ hb]
      have hle := cut_le b r
      have hdr : s.drop (p + ((lxCut b r).more + 1)) = r.drop (lxCut b r).more := by
        obtain ⟨m, hm⟩ : ∃ m, m = (lxCut b r).more := ⟨_, rfl⟩
        rw [← hm, ← hsp.2, List.drop_drop, show p + 1 + m = p + (m + 1) by omega]
      have hlf : lfs (s.take (p + ((lxCut b r).more + 1))) = lfs (s.take p) := by
        have e1 : lfs s = lfs (s.take (p + ((lxCut b r).more + 1))) + lfs (r.drop (lxCut b r).more) := by rw [← hdr, ← lfs_app, List.take_append_drop]
        have e2 : lfs s = lfs (s.take p) + lfs (b :: r) := by rw [← hd, ← lfs_app, List.take_append_drop]
        have e3 := drop_nolf (r := r) hb
        omega
      have ha2 := at_cut ha hlf
      rw [show col + (((lxCut b r).more + 1 : Nat) : Int) = col + ((lxCut b r).more : Nat) + 1 by omega] at ha2
      obtain ⟨i1, i2⟩ := run_placed n (r.drop (lxCut b r).more) (p + ((lxCut b r).more + 1)) line _ (by rw [List.length_drop]; omega) hdr (by omega) ha2
      constructor
      · unfold lxTok
        by_cases hk : (lxCut b r).e = 0 ∧ (lxCut b r).kind ≠ 0
        · rw [if_pos hk, List.singleton_append]
          have htl : ((b :: r).take ((lxCut b r).more + 1)).length = (lxCut b r).more + 1 := by rw [List.length_take, List.length_cons]; omega
          have hk3 := cut_kind b r
          refine ⟨p, Nat.le_refl _, ha, ?_, ?_, ⟨fun h0 => ?_, fun h0 => ?_⟩, fun h0 => ?_, ?_⟩
          · show p + ((b :: r).take ((lxCut b r).more + 1)).length ≤ _
            rw [htl]; omega
          · show (s.drop p).take ((b :: r).take ((lxCut b r).more + 1)).length = (b :: r).take ((lxCut b r).more + 1)
            rw [htl, hd]
          · have h0' : (b :: r).take ((lxCut b r).more + 1) = [] := h0
            rw [h0'] at htl
            cases htl
          · have h0' : (lxCut b r).kind = 4 := h0
            omega
          · have h0' : (lxCut b r).kind = 4 := h0
            omega
          · show PlacedT s (p + ((b :: r).take ((lxCut b r).more + 1)).length) _
            rw [htl]
            exact i1
        · rw [if_neg hk, List.nil_append]
          exact placedT_mono (by omega) i1
      · unfold lxBad
        by_cases he : (lxCut b r).e = 0
        · rw [if_pos he, List.nil_append]
          exact placedW_mono (by omega) i2
        · rw [if_neg he, List.singleton_append]
          exact ⟨p, Nat.le_refl _, ha, hps, (cut_code b r).resolve_left he, placedW_mono (by omega) i2⟩
/-- Of a whole text. -/
def lexT (s : List UInt8) : List Tk := (lxRun 1 1 s).1
def lexW (s : List UInt8) : List Wr := (lxRun 1 1 s).2.take 100
theorem lex_placed (s : List UInt8) : PlacedT s 0 (lexT s) ∧ PlacedW s 0 (lexW s) := by
  obtain ⟨h1, h2⟩ := run_placed s.length s 0 1 1 (Nat.le_refl _) rfl (Nat.zero_le _) (at_begin s)
  exact ⟨h1, placedW_take 100 h2⟩
theorem lex_ends (s : List UInt8) : (lexT s).countP (fun t => decide (t.kind = 4)) = (fromsL s).length := by
  show (lxRun 1 1 s).1.countP _ = _
  rw [run_ends s.length s (Nat.le_refl _)]
  show _ = (fromsN s 0).length + 1
  rw [froms_len]
end Go.Proofs.Ytebpimjbjjmpaaa
