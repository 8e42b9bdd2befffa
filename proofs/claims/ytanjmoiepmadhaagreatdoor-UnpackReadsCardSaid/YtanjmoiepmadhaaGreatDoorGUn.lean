/- What words say, as plain data: how many words a packet has, the packet that words encode, and that a packet's words say it again; no condition but those named. · The words of a packet that is legal and fits say the packet again; what words say has as many words as they are; no condition but those named. · What words say has as many words as they are, and lies in its Go types; no condition but those named. · What Length, Packet and Canonical of package unpack, and the document's, tell; words read one by one; no condition but those named. · A packet's variable that words are read into, beside the result's: its row grows, its marks are set; no condition. -/
import Derived.Test.YtanjmoiepmadhaaGreatDoorGPack
import Derived.Test.YtanjmoiepmadhaaGreatDoorGLegal
import Derived.Test.YtanjmoiepmadhaaGreatDoorGRules
namespace Go.Proofs.YtanjmoiepmadhaaGreatDoor
section
set_option maxRecDepth 100000

def stopB (w : Int) : Bool := parseZ w == 0 || parseZ w == 3
/-- How many words a packet has: from the word numbered k on. -/
def lenN : Nat → List Int → Nat × Bool
  | _, [] => (0, false)
  | k, w :: r => if 4 ≤ k then (0, false) else if stopB w then (k + 1, true) else lenN (k + 1) r
def lenP (zs : List Int) : Nat × Bool := lenN 0 zs
/-- What stands while words are read. -/
structure UnSt where
  insts : List In
  dup : Bool
  up : Int
  has : Bool
def unStart : UnSt := ⟨[], false, 0, false⟩
/-- What the word numbered i of n does. -/
def unStep (pc : Int) (n i : Nat) (w : Int) (s : UnSt) : Option UnSt :=
  if parseZ w = 2 ∧ 1 < i then none
  else if i + 1 = n ∧ parseZ w = 0 then (if (splitP w).2.2 = true ∧ s.has = false then some ⟨s.insts ++ [(splitP w).1, (splitP w).2.1], true, s.up, s.has⟩ else none)
  else if codeZ w = 0 then (if s.has = true ∨ i + 1 = n then none else some ⟨s.insts, s.dup, payZ w, true⟩)
  else if instB w s.up s.has pc = true then some ⟨s.insts ++ [instP w s.up s.has pc], s.dup, 0, false⟩ else none
def unRun (pc : Int) (n : Nat) : Nat → List Int → UnSt → Option UnSt
  | _, [], s => some s
  | i, w :: r, s => (unStep pc n i w s).bind (unRun pc n (i + 1) r)
def unP (pc : Int) (zs : List Int) : Option UnSt := unRun pc zs.length 0 zs unStart
def markB (zs : List Int) (t : Nat) : Bool := match zs[t]? with
  | some w => parseZ w == 2
  | none => false
def unPk (zs : List Int) (s : UnSt) : Pk := ⟨s.insts, markB zs 0, markB zs 1, !s.dup && decide (2 ≤ s.insts.length), s.dup⟩
def pkZero : Pk := ⟨[], false, false, false, false⟩
/-- What Packet tells: the error, and the packet. -/
def unTell (pc : Int) (zs : List Int) : Int × Pk :=
  if lenP zs = (zs.length, true) then (match unP pc zs with
    | none => (8, pkZero)
    | some s => if legalP (unPk zs s) = 0 then (0, unPk zs s) else (legalP (unPk zs s), pkZero))
  else (1, pkZero)
/-- What Canonical tells. -/
structure IsCan (pc : Int) (zs : List Int) (ok : Bool) (p : Pk) : Prop where
  yes : ok = true → (unTell pc zs).1 = 0 ∧ sayAll pc (unTell pc zs).2.insts = true ∧ IsWords pc (unTell pc zs).2 zs ∧ p = (unTell pc zs).2
  no : ok = false → ¬ ((unTell pc zs).1 = 0 ∧ sayAll pc (unTell pc zs).2.insts = true ∧ IsWords pc (unTell pc zs).2 zs) ∧ p = pkZero
/-! Parse bits do not matter to what a word says. -/
theorem code_put (w v : Int) : codeZ (putZ w 14 2 v) = codeZ w := by
  rw [put_parse]
  unfold codeZ
  omega
theorem pay_put (w v : Int) : payZ (putZ w 14 2 v) = payZ w := by
  rw [put_parse]
  unfold payZ
  omega
theorem instB_put (w v u : Int) (has : Bool) (pc : Int) : instB (putZ w 14 2 v) u has pc = instB w u has pc := by
  unfold instB readP
  rw [code_put, pay_put]
theorem instP_put (w v u : Int) (has : Bool) (pc : Int) : instP (putZ w 14 2 v) u has pc = instP w u has pc := by
  unfold instP readP
  rw [instB_put, code_put, pay_put]
/-- Words with parse bits that hang on their place. -/
def putF (F : Nat → Int) : Nat → List Int → List Int
  | _, [] => []
  | i, w :: r => putZ w 14 2 (F i) :: putF F (i + 1) r
theorem putF_app (F : Nat → Int) : ∀ (i : Nat) (a b : List Int), putF F i (a ++ b) = putF F i a ++ putF F (i + a.length) b
  | _, [], _ => rfl
  | i, w :: a, b => by
    show putZ w 14 2 (F i) :: putF F (i + 1) (a ++ b) = putZ w 14 2 (F i) :: (putF F (i + 1) a ++ putF F (i + (a.length + 1)) b)
    rw [putF_app F (i + 1) a b, show i + 1 + a.length = i + (a.length + 1) by omega]
theorem putF_len (F : Nat → Int) : ∀ (i : Nat) (a : List Int), (putF F i a).length = a.length
  | _, [] => rfl
  | i, w :: a => by
    show (putF F (i + 1) a).length + 1 = a.length + 1
    rw [putF_len F (i + 1) a]
theorem putF_at (F : Nat → Int) : ∀ (i : Nat) (a : List Int) (k : Nat) (h : k < a.length), (putF F i a)[k]'(by rw [putF_len]; exact h) = putZ a[k] 14 2 (F (i + k))
  | i, w :: a, 0, _ => rfl
  | i, w :: a, k + 1, h => by
    have h' : k < a.length := by simpa using h
    show (putF F (i + 1) a)[k]'(by rw [putF_len]; exact h') = putZ a[k] 14 2 (F (i + (k + 1)))
    rw [putF_at F (i + 1) a k h', show i + 1 + k = i + (k + 1) by omega]
theorem ends_putF (e0 e1 dup : Bool) (ws : List Int) : endsL e0 e1 dup ws = putF (fun k => parseAt e0 e1 dup ws.length k) 0 ws := by
  refine List.ext_getElem (by rw [endsL_len, putF_len]) fun k h1 h2 => ?_
  rw [putF_len] at h2
  rw [endsL_at e0 e1 dup ws h2, putF_at _ 0 ws k h2, Nat.zero_add]
theorem right_of_say {x : In} {pc : Int} (h : sayB x pc = true) : rightB x = true := by
  unfold sayB at h
  rw [Bool.and_eq_true] at h
  exact h.1
/-- Instructions that are no duplex are read again. -/
theorem run_bare {pc : Int} {n : Nat} {F : Nat → Int} (h2 : ∀ j, 1 < j → F j % 4 ≠ 2) (tail : List Int) : ∀ (l : List In) (i : Nat) (d : Bool), Said pc l → (∀ j, i ≤ j → j < i + (bareW pc l).length → j + 1 = n → F j % 4 ≠ 0) → (∀ j, i ≤ j → j + 1 < i + (bareW pc l).length → j + 1 < n) → ∀ ys : List In,
    unRun pc n i (putF F i (bareW pc l) ++ tail) ⟨ys, d, 0, false⟩ = unRun pc n (i + (bareW pc l).length) tail ⟨ys ++ l, d, 0, false⟩
  | [], i, d, _, _, _, ys => by
    rw [List.append_nil]
    rfl
  | x :: l, i, d, hs, hl, hn, ys => by
    obtain ⟨hsx, hsay⟩ := hs x (List.mem_cons_self ..)
    have hs' : Said pc l := fun y hy => hs y (List.mem_cons_of_mem _ hy)
    obtain ⟨ib, ip, hc, -, -, -⟩ := inst_of_word hsx hsay
    have hc0 : codeZ (wordP x pc) ≠ 0 := oneW_op hsx hsay
    have e : bareW pc (x :: l) = oneW pc x ++ bareW pc l := rfl
    cases hx : x.ext with
    | true =>
      have eo : oneW pc x = [wordZ 0 (upP x pc) 0, wordP x pc] := by unfold oneW; rw [hx]; rfl
      rw [e, eo] at hl hn ⊢
      have hlen : ([wordZ 0 (upP x pc) 0, wordP x pc] ++ bareW pc l).length = (bareW pc l).length + 2 := by simp
      rw [hlen] at hl hn ⊢
      obtain ⟨x1, x2, x3, -⟩ := ext_word x pc
      have hi1 : i + 1 < n := hn i (Nat.le_refl _) (by omega)
      have s1 : unStep pc n i (putZ (wordZ 0 (upP x pc) 0) 14 2 (F i)) ⟨ys, d, 0, false⟩ = some ⟨ys, d, upP x pc, true⟩ := by
        unfold unStep
        rw [parse_put, code_put, pay_put, x1, x2]
        rw [if_neg (fun h => h2 i h.2 h.1), if_neg (fun h => by omega), if_pos rfl, if_neg (by simp; omega)]
      have s2 : unStep pc n (i + 1) (putZ (wordP x pc) 14 2 (F (i + 1))) ⟨ys, d, upP x pc, true⟩ = some ⟨ys ++ [x], d, 0, false⟩ := by
        unfold unStep
        rw [parse_put, code_put, instB_put, instP_put]
        rw [hx] at ib ip
        rw [if_neg (fun h => h2 (i + 1) h.2 h.1), if_neg (fun h => hl (i + 1) (by omega) (by omega) h.1 h.2), if_neg hc0, if_pos ib, ip]
      have ih := run_bare h2 tail l (i + 1 + 1) d hs' (fun j hj hj2 => hl j (by omega) (by omega)) (fun j hj hj2 => hn j (by omega) (by omega)) (ys ++ [x])
      show (unStep pc n i (putZ (wordZ 0 (upP x pc) 0) 14 2 (F i)) ⟨ys, d, 0, false⟩).bind (unRun pc n (i + 1) (putZ (wordP x pc) 14 2 (F (i + 1)) :: (putF F (i + 1 + 1) (bareW pc l) ++ tail))) = _
      rw [s1]
      show (unStep pc n (i + 1) (putZ (wordP x pc) 14 2 (F (i + 1))) ⟨ys, d, upP x pc, true⟩).bind (unRun pc n (i + 1 + 1) (putF F (i + 1 + 1) (bareW pc l) ++ tail)) = _
      rw [s2]
      show unRun pc n (i + 1 + 1) (putF F (i + 1 + 1) (bareW pc l) ++ tail) ⟨ys ++ [x], d, 0, false⟩ = _
      rw [ih, List.append_assoc, show i + 1 + 1 + (bareW pc l).length = i + ((bareW pc l).length + 2) by omega]
      rfl
    | false =>
      have eo : oneW pc x = [wordP x pc] := by unfold oneW; rw [hx]; rfl
      rw [e, eo] at hl hn ⊢
      have hlen : ([wordP x pc] ++ bareW pc l).length = (bareW pc l).length + 1 := by simp
      rw [hlen] at hl hn ⊢
      have s2 : unStep pc n i (putZ (wordP x pc) 14 2 (F i)) ⟨ys, d, 0, false⟩ = some ⟨ys ++ [x], d, 0, false⟩ := by
        unfold unStep
        rw [parse_put, code_put, instB_put, instP_put]
        rw [hx, upP_plain hx] at ib ip
        rw [if_neg (fun h => h2 i h.2 h.1), if_neg (fun h => hl i (by omega) (by omega) h.1 h.2), if_neg hc0, if_pos ib, ip]
      have ih := run_bare h2 tail l (i + 1) d hs' (fun j hj hj2 => hl j (by omega) (by omega)) (fun j hj hj2 => hn j (by omega) (by omega)) (ys ++ [x])
      show (unStep pc n i (putZ (wordP x pc) 14 2 (F i)) ⟨ys, d, 0, false⟩).bind (unRun pc n (i + 1) (putF F (i + 1) (bareW pc l) ++ tail)) = _
      rw [s2]
      show unRun pc n (i + 1) (putF F (i + 1) (bareW pc l) ++ tail) ⟨ys ++ [x], d, 0, false⟩ = _
      rw [ih, List.append_assoc, show i + 1 + (bareW pc l).length = i + ((bareW pc l).length + 1) by omega]
      rfl
/-- The last word ends a packet, and no other one does. -/
theorem lenN_last : ∀ (zs : List Int) (k : Nat), zs ≠ [] → k + zs.length ≤ 4 → (∀ t (h : t < zs.length), stopB zs[t] = true ↔ t + 1 = zs.length) → lenN k zs = (k + zs.length, true)
  | [], _, h, _, _ => absurd rfl h
  | w :: r, k, _, hl, he => by
    rw [List.length_cons] at hl
    show (if 4 ≤ k then (0, false) else if stopB w then (k + 1, true) else lenN (k + 1) r) = _
    rw [if_neg (by omega)]
    by_cases hr : r = []
    · subst hr
      rw [if_pos (show stopB w = true from (he 0 (by simp)).2 rfl)]
      rfl
    · have hr1 : 0 < r.length := List.length_pos_iff.2 hr
      have h0 : ¬ stopB w = true := fun h => by
        have := (he 0 (by simp)).1 h
        rw [List.length_cons] at this
        omega
      rw [if_neg h0, lenN_last r (k + 1) hr (by omega) (fun t ht => by
        have h7 : stopB r[t] = true ↔ t + 1 + 1 = (w :: r).length := he (t + 1) (by rw [List.length_cons]; omega)
        exact h7.trans (by rw [List.length_cons]; omega)), List.length_cons]
      rw [show k + 1 + r.length = k + (r.length + 1) by omega]
theorem end_iff (w : Int) : stopB w = true ↔ parseZ w = 0 ∨ parseZ w = 3 := by
  unfold stopB
  rw [Bool.or_eq_true, beq_iff_eq, beq_iff_eq]
theorem pair_of_choice {l : List In} {i j : Nat} (h : IsChoice l i j true) : ∃ pv, Paired (l.getD i inZero) (l.getD j inZero) pv ∧ (pairP (l.getD i inZero) (l.getD j inZero)).1 = pv := by
  obtain ⟨-, -, hoab, -⟩ := h.some rfl
  unfold okAt at hoab
  rw [Bool.and_eq_true] at hoab
  exact ⟨_, paired _ _ _ (Prod.ext rfl hoab.1), rfl⟩
theorem split_put {w v : Int} (h : parseZ w = 0) (hv : v % 4 = 0) : splitP (putZ w 14 2 v) = splitP w := by
  have e : putZ w 14 2 v = w := by
    rw [put_parse]
    unfold parseZ at h
    omega
  rw [e]
end
section
set_option maxRecDepth 100000

theorem legal_un {p : Pk} (h : Legal p) (raw : Bool) (hr : (raw && p.dup) = false) : Legal { p with raw := raw } := ⟨ok_raw h.rules raw p.dup hr, h.placed, h.few, h.long⟩
theorem parse_mod (e0 e1 dup : Bool) (n k : Nat) : parseAt e0 e1 dup n k % 4 = parseAt e0 e1 dup n k := by
  have := parseAt_code e0 e1 dup n k
  omega
theorem parse_past (e0 e1 dup : Bool) (n k : Nat) (h : 1 < k) : parseAt e0 e1 dup n k % 4 ≠ 2 := by
  rw [parse_mod]
  unfold parseAt
  split
  · cases dup <;> simp
  · rw [if_neg (by simp; omega)]
    omega
theorem mark_put (F : Nat → Int) (ws : List Int) (t : Nat) : markB (putF F 0 ws) t = (decide (t < ws.length) && (F t % 4 == 2)) := by
  unfold markB
  by_cases h : t < ws.length
  · rw [List.getElem?_eq_getElem (by rw [putF_len]; exact h), putF_at F 0 ws t h, decide_eq_true h]
    simp only [Bool.true_and]
    rw [parse_put, Nat.zero_add]
  · rw [List.getElem?_eq_none (by rw [putF_len]; omega), decide_eq_false h]
    rfl
theorem mark0 (e0 e1 dup : Bool) (n : Nat) (h : e0 = true → 2 ≤ n) : (decide (0 < n) && (parseAt e0 e1 dup n 0 % 4 == 2)) = e0 := by
  rw [parse_mod]
  by_cases hn : 2 ≤ n
  · have e : parseAt e0 e1 dup n 0 = if e0 then 2 else 1 := by
      unfold parseAt
      rw [if_neg (by omega)]
      simp
    rw [e, decide_eq_true (by omega)]
    cases e0 <;> rfl
  · cases he : e0 with
    | true => exact absurd (h he) hn
    | false =>
      by_cases h1 : n = 1
      · subst h1
        cases dup <;> rfl
      · obtain rfl : n = 0 := by omega
        rfl
theorem mark1 (e0 e1 dup : Bool) (n : Nat) (h : e1 = true → 3 ≤ n) : (decide (1 < n) && (parseAt e0 e1 dup n 1 % 4 == 2)) = e1 := by
  rw [parse_mod]
  by_cases hn : 3 ≤ n
  · have e : parseAt e0 e1 dup n 1 = if e1 then 2 else 1 := by
      unfold parseAt
      rw [if_neg (by omega)]
      simp
    rw [e, decide_eq_true (by omega)]
    cases e1 <;> rfl
  · cases he : e1 with
    | true => exact absurd (h he) hn
    | false =>
      by_cases h1 : n = 2
      · subst h1
        cases dup <;> rfl
      · rw [decide_eq_false (by omega)]
        rfl
/-- What is read of a packet's words. -/
theorem un_read {pc : Int} {p : Pk} {i j : Nat} (hs : Said pc p.insts) (k1 : p.dup = true → IsChoice (rowP pc p.insts) i j true) :
    ∃ l, unP pc (endsL p.e0 p.e1 p.dup (bareP pc p i j)) = some ⟨l, p.dup, 0, false⟩ ∧ l.Perm p.insts := by
  have sr : Said pc (rowP pc p.insts) := fun x hx => hs x ((row_perm pc p.insts).mem_iff.1 hx)
  rw [ends_putF]
  have h2 := fun k (h : 1 < k) => parse_past p.e0 p.e1 p.dup (bareP pc p i j).length k h
  unfold unP
  rw [putF_len]
  cases hd : p.dup with
  | false =>
    rw [hd] at h2
    have e : bareP pc p i j = bareW pc (rowP pc p.insts) := by unfold bareP; rw [hd]; rfl
    rw [e] at h2 ⊢
    have h := run_bare (n := (bareW pc (rowP pc p.insts)).length) h2 [] (rowP pc p.insts) 0 false sr (fun k _ _ hk => by
      rw [parse_mod]
      unfold parseAt
      rw [if_pos hk]
      simp) (fun k _ hk => by omega) []
    rw [List.append_nil] at h
    exact ⟨rowP pc p.insts, h, row_perm pc p.insts⟩
  | true =>
    have hc := k1 hd
    obtain ⟨hij, hj, -, -⟩ := hc.some rfl
    obtain ⟨pv, hp, hpe⟩ := pair_of_choice hc
    rw [hd] at h2
    have e : bareP pc p i j = bareW pc (restOf (rowP pc p.insts) i j) ++ [pv] := by unfold bareP dupW; rw [hd, hpe]; rfl
    rw [e] at h2 ⊢
    have sq : Said pc (restOf (rowP pc p.insts) i j) := fun x hx => sr x (List.mem_of_mem_eraseIdx (List.mem_of_mem_eraseIdx hx))
    have hp1 := rest_perm hij hj
    generalize restOf (rowP pc p.insts) i j = rest at *
    have hlen : (bareW pc rest ++ [pv]).length = (bareW pc rest).length + 1 := by simp
    rw [hlen] at h2 ⊢
    rw [putF_app, Nat.zero_add]
    have hF : parseAt p.e0 p.e1 true ((bareW pc rest).length + 1) (bareW pc rest).length = 0 := by
      unfold parseAt
      rw [if_pos rfl]
      rfl
    have h := run_bare (n := (bareW pc rest).length + 1) h2 [putZ pv 14 2 (parseAt p.e0 p.e1 true ((bareW pc rest).length + 1) (bareW pc rest).length)] rest 0 false sq (fun k _ hk hk2 => by omega) (fun k _ hk => by omega) []
    rw [Nat.zero_add] at h
    have hsp : splitP (putZ pv 14 2 (parseAt p.e0 p.e1 true ((bareW pc rest).length + 1) (bareW pc rest).length)) = splitP pv := split_put hp.parse (by rw [hF]; rfl)
    have hps : parseZ (putZ pv 14 2 (parseAt p.e0 p.e1 true ((bareW pc rest).length + 1) (bareW pc rest).length)) = 0 := by rw [parse_put, hF]; rfl
    have hstep : unStep pc ((bareW pc rest).length + 1) (bareW pc rest).length (putZ pv 14 2 (parseAt p.e0 p.e1 true ((bareW pc rest).length + 1) (bareW pc rest).length)) ⟨[] ++ rest, false, 0, false⟩ = some ⟨rest ++ [(splitP pv).1, (splitP pv).2.1], true, 0, false⟩ := by
      unfold unStep
      rw [hps, hsp]
      have hok : (splitP pv).2.2 = true := by
        rcases hp.two with h | h <;> rw [h]
      rw [if_neg (by simp), if_pos ⟨rfl, rfl⟩, if_pos ⟨hok, rfl⟩]
      rfl
    refine ⟨rest ++ [(splitP pv).1, (splitP pv).2.1], ?_, ?_⟩
    · refine Eq.trans h ?_
      show (unStep pc ((bareW pc rest).length + 1) (bareW pc rest).length (putZ pv 14 2 (parseAt p.e0 p.e1 true ((bareW pc rest).length + 1) (bareW pc rest).length)) ⟨[] ++ rest, false, 0, false⟩).bind (unRun pc ((bareW pc rest).length + 1) ((bareW pc rest).length + 1) []) = _
      rw [hstep]
      rfl
    · refine List.Perm.trans ?_ ((hp1.symm).trans (row_perm pc p.insts))
      rcases hp.two with h | h
      · rw [h]
        exact List.perm_append_comm
      · rw [h]
        exact List.perm_append_comm.trans (List.Perm.swap _ _ _)
/-- The words of a packet say it again. -/
theorem un_back {pc : Int} {p : Pk} {zs : List Int} (hl : Legal p) (hs : Said pc p.insts) (hw : IsWords pc p zs) :
    lenP zs = (zs.length, true) ∧ ∃ q, unTell pc zs = (0, q) ∧ q.insts.Perm p.insts ∧ q.e0 = p.e0 ∧ q.e1 = p.e1 ∧ q.dup = p.dup ∧ q.raw = (!q.dup && decide (2 ≤ q.insts.length)) ∧ IsWords pc q zs ∧ legalP q = 0 := by
  have hn := words_len hw
  obtain ⟨l1, l4, le0, le1⟩ := legal_words hl
  obtain ⟨i, j, k1, k2, e⟩ := id hw
  have hlen : zs.length = (bareP pc p i j).length := by rw [e, endsL_len]
  have hne : bareP pc p i j ≠ [] := fun h => by
    rw [h] at hlen
    rw [hlen] at hn
    simp at hn
    omega
  obtain ⟨l, hun, hperm⟩ := un_read hs k1
  rw [← e] at hun
  have hlp : lenP zs = (zs.length, true) := by
    unfold lenP
    rw [lenN_last zs 0 (fun h => by rw [h] at hlen; exact hne (List.length_eq_zero_iff.1 hlen.symm)) (by omega) (fun t ht => by
      subst e
      rw [endsL_len] at ht ⊢
      rw [end_iff, endsL_at _ _ _ _ ht, parse_put, parse_mod]
      exact parse_end _ _ _ _ _), Nat.zero_add]
  have hm0 : markB zs 0 = p.e0 := by
    rw [e, ends_putF, mark_put]
    exact mark0 p.e0 p.e1 p.dup _ (fun h => by have := le0 h; omega)
  have hm1 : markB zs 1 = p.e1 := by
    rw [e, ends_putF, mark_put]
    exact mark1 p.e0 p.e1 p.dup _ (fun h => by have := le1 h; omega)
  have hq : unPk zs ⟨l, p.dup, 0, false⟩ = ⟨l, p.e0, p.e1, !p.dup && decide (2 ≤ l.length), p.dup⟩ := by
    unfold unPk
    rw [hm0, hm1]
  have hlq : legalP ⟨l, p.e0, p.e1, !p.dup && decide (2 ≤ l.length), p.dup⟩ = 0 := by
    have h1 := legal_un hl (!p.dup && decide (2 ≤ l.length)) (by cases p.dup <;> simp)
    exact (legal_perm (p := ⟨l, p.e0, p.e1, !p.dup && decide (2 ≤ l.length), p.dup⟩) (q := { p with raw := !p.dup && decide (2 ≤ l.length) }) hperm rfl rfl rfl rfl).trans ((legal_iff _).2 h1)
  refine ⟨hlp, ⟨l, p.e0, p.e1, !p.dup && decide (2 ≤ l.length), p.dup⟩, ?_, hperm, rfl, rfl, rfl, rfl, words_perm' (q := ⟨l, p.e0, p.e1, !p.dup && decide (2 ≤ l.length), p.dup⟩) hs hperm rfl rfl rfl hw, hlq⟩
  unfold unTell
  rw [if_pos hlp, hun]
  simp only []
  rw [hq, if_pos hlq]
end
section
set_option maxRecDepth 100000

/-- What is so while words are read. -/
structure UnInv (s : UnSt) : Prop where
  small : ∀ x ∈ s.insts, x.small
  zero : s.has = false → s.up = 0
  up : isU32 s.up
theorem zero_u32 : isU32 0 := by unfold isU32; decide
theorem inv_start : UnInv unStart := ⟨fun x hx => by simp [unStart] at hx, fun _ => rfl, by unfold unStart isU32; decide⟩
theorem pay_u32 (w : Int) : isU32 (payZ w) := by
  unfold payZ isU32
  omega
def sizeZ (s : UnSt) : Int := (s.insts.length : Int) + extN s.insts + (if s.has then 1 else 0) - (if s.dup then 1 else 0)
theorem ext_app (a b : List In) : extN (a ++ b) = extN a + extN b := List.countP_append
theorem ext_one (x : In) : extN [x] = if x.ext then 1 else 0 := by
  unfold extN
  rw [List.countP_cons, List.countP_nil]
  cases h : x.ext <;> simp
theorem split_says {w : Int} (hw : isU32 w) (h : (splitP w).2.2 = true) : (splitP w).1.small ∧ (splitP w).2.1.small ∧ (splitP w).1.ext = false ∧ (splitP w).2.1.ext = false := by
  have s := splits w hw (splitP w).1 (splitP w).2.1 (Prod.ext rfl (Prod.ext rfl h))
  exact ⟨s.saysx.small, s.saysy.small, s.saysx.ext, s.saysy.ext⟩
/-- What one word leaves. -/
theorem step_told {pc : Int} {n i : Nat} {w : Int} (hw : isU32 w) {s t : UnSt} (hs : UnInv s) (hd : s.dup = false) (h : unStep pc n i w s = some t) : UnInv t ∧ sizeZ t = sizeZ s + 1 ∧ (t.dup = true → i + 1 = n) ∧ (i + 1 = n → t.has = false) := by
  unfold unStep at h
  by_cases h1 : parseZ w = 2 ∧ 1 < i
  · rw [if_pos h1] at h; cases h
  rw [if_neg h1] at h
  by_cases h2 : i + 1 = n ∧ parseZ w = 0
  · rw [if_pos h2] at h
    by_cases h3 : (splitP w).2.2 = true ∧ s.has = false
    · rw [if_pos h3] at h
      obtain rfl := Option.some.inj h
      obtain ⟨a, b, c, d⟩ := split_says hw h3.1
      refine ⟨⟨fun x hx => ?_, hs.zero, hs.up⟩, ?_, fun _ => h2.1, fun _ => h3.2⟩
      · rcases List.mem_append.1 hx with hx | hx
        · exact hs.small x hx
        · simp only [List.mem_cons, List.not_mem_nil, or_false] at hx
          rcases hx with rfl | rfl
          · exact a
          · exact b
      · unfold sizeZ
        rw [hd, h3.2, show s.insts ++ [(splitP w).1, (splitP w).2.1] = (s.insts ++ [(splitP w).1]) ++ [(splitP w).2.1] by simp, ext_app, ext_app, ext_one, ext_one, c, d]
        simp
        omega
    · rw [if_neg h3] at h; cases h
  rw [if_neg h2] at h
  by_cases h3 : codeZ w = 0
  · rw [if_pos h3] at h
    by_cases h4 : s.has = true ∨ i + 1 = n
    · rw [if_pos h4] at h; cases h
    · rw [if_neg h4] at h
      obtain rfl := Option.some.inj h
      have h5 : s.has = false := by
        cases hh : s.has with
        | false => rfl
        | true => exact absurd (.inl hh) h4
      refine ⟨⟨hs.small, fun hx => (by cases hx), pay_u32 w⟩, ?_, fun hx => ?_, fun hx => absurd (.inr hx) h4⟩
      · unfold sizeZ
        rw [h5]
        simp
        omega
      · have : s.dup = true := hx
        rw [hd] at this
        cases this
  rw [if_neg h3] at h
  by_cases h4 : instB w s.up s.has pc = true
  · rw [if_pos h4] at h
    obtain rfl := Option.some.inj h
    have he := (word_of_inst h4 hs.up.1 hs.zero).2.2.2.1
    refine ⟨⟨fun x hx => ?_, fun _ => rfl, zero_u32⟩, ?_, fun hx => ?_, fun _ => rfl⟩
    · rcases List.mem_append.1 hx with hx | hx
      · exact hs.small x hx
      · obtain rfl := List.mem_singleton.1 hx
        exact instP_small w s.up s.has pc
    · unfold sizeZ
      rw [ext_app, ext_one, he]
      cases s.has <;> simp <;> omega
    · have : s.dup = true := hx
      rw [hd] at this
      cases this
  · rw [if_neg h4] at h; cases h
theorem run_told {pc : Int} {n : Nat} : ∀ (zs : List Int) (i : Nat) (s t : UnSt), (∀ z ∈ zs, isU32 z) → i + zs.length = n → UnInv s → s.dup = false → unRun pc n i zs s = some t → UnInv t ∧ sizeZ t = sizeZ s + zs.length ∧ (zs ≠ [] → t.has = false)
  | [], i, s, t, _, _, hs, _, h => by
    obtain rfl := Option.some.inj h
    exact ⟨hs, by simp, fun h => absurd rfl h⟩
  | w :: r, i, s, t, hz, hn, hs, hd, h => by
    rw [List.length_cons] at hn
    obtain ⟨u, hu, hr⟩ := Option.bind_eq_some_iff.1 h
    obtain ⟨a, b, c, d⟩ := step_told (hz w (List.mem_cons_self ..)) hs hd hu
    cases r with
    | nil =>
      have e : unRun pc n (i + 1) [] u = some u := rfl
      rw [e] at hr
      obtain rfl := Option.some.inj hr
      refine ⟨a, by rw [b]; simp, fun _ => d (by simpa using hn)⟩
    | cons w2 r2 =>
      have hdu : u.dup = false := by
        cases hh : u.dup with
        | false => rfl
        | true =>
          have := c hh
          rw [List.length_cons] at hn
          omega
      obtain ⟨e1, e2, e3⟩ := run_told (w2 :: r2) (i + 1) u t (fun z hz' => hz z (List.mem_cons_of_mem _ hz')) (by omega) a hdu hr
      refine ⟨e1, ?_, fun _ => e3 (by simp)⟩
      rw [e2, b, List.length_cons, List.length_cons, List.length_cons]
      omega
theorem lenP_nil : lenP [] ≠ (([] : List Int).length, true) := by decide
/-- What is so of what words say. -/
structure UnOk (zs : List Int) (r : Int × Pk) : Prop where
  small : ∀ x ∈ r.2.insts, x.small
  ok : r.1 = 0 → legalP r.2 = 0 ∧ wordsP r.2 = zs.length
  bad : r.1 ≠ 0 → r.2 = pkZero
theorem un_bad (zs : List Int) {e : Int} (he : e ≠ 0) : UnOk zs (e, pkZero) := ⟨fun x hx => by simp [pkZero] at hx, fun h => absurd h he, fun _ => rfl⟩
theorem un_told {pc : Int} {zs : List Int} (hz : ∀ z ∈ zs, isU32 z) : UnOk zs (unTell pc zs) := by
  unfold unTell
  by_cases h1 : lenP zs = (zs.length, true)
  · rw [if_pos h1]
    cases h2 : unP pc zs with
    | none => exact un_bad zs (by decide)
    | some s =>
      show UnOk zs (if legalP (unPk zs s) = 0 then (0, unPk zs s) else (legalP (unPk zs s), pkZero))
      by_cases h3 : legalP (unPk zs s) = 0
      · rw [if_pos h3]
        obtain ⟨a, b, c⟩ := run_told zs 0 unStart s hz (by omega) inv_start rfl h2
        have hne : zs ≠ [] := fun h => by
          rw [h] at h1
          exact lenP_nil h1
        refine ⟨a.small, fun _ => ⟨h3, ?_⟩, fun h => absurd rfl h⟩
        have hc := c hne
        have e0 : sizeZ unStart = 0 := rfl
        rw [e0] at b
        unfold sizeZ at b
        rw [hc] at b
        show ((s.insts.length : Int) + (extN s.insts : Int) - (if s.dup then 1 else 0)) = zs.length
        simp only [Bool.false_eq_true, if_false] at b
        omega
      · rw [if_neg h3]
        exact un_bad zs h3
  · rw [if_neg h1]
    exact un_bad zs (by decide)
end
section
set_option maxRecDepth 100000
open Go.ChangeShapes Go.WideShapes Go.ChangeAt Go.RowKit Go.Sort BigFrame

/-! Words one by one. -/
theorem run_app {pc : Int} {n : Nat} : ∀ (a b : List Int) (i : Nat) (s : UnSt), unRun pc n i (a ++ b) s = (unRun pc n i a s).bind (unRun pc n (i + a.length) b)
  | [], b, i, s => rfl
  | w :: a, b, i, s => by
    show (unStep pc n i w s).bind (unRun pc n (i + 1) (a ++ b)) = ((unStep pc n i w s).bind (unRun pc n (i + 1) a)).bind (unRun pc n (i + (a.length + 1)) b)
    cases unStep pc n i w s with
    | none => rfl
    | some t =>
      show unRun pc n (i + 1) (a ++ b) t = (unRun pc n (i + 1) a t).bind (unRun pc n (i + (a.length + 1)) b)
      rw [run_app a b (i + 1) t, show i + 1 + a.length = i + (a.length + 1) by omega]
theorem run_next {pc : Int} {n : Nat} {zs : List Int} {k : Nat} (hk : k < zs.length) (w : Int) (hw : zs[k] = w) {s : UnSt} (h : unRun pc n 0 (zs.take k) unStart = some s) : unRun pc n 0 (zs.take (k + 1)) unStart = unStep pc n k w s := by
  rw [List.take_succ_eq_append_getElem hk, run_app, h, List.length_take, hw, Nat.zero_add, show min k zs.length = k by omega]
  show (unStep pc n k w s).bind (unRun pc n (k + 1) []) = _
  cases unStep pc n k w s <;> rfl
theorem run_fails {pc : Int} {n : Nat} {zs : List Int} {k : Nat} (h : unRun pc n 0 (zs.take k) unStart = none) : unRun pc n 0 zs unStart = none := by
  have e : zs = zs.take k ++ zs.drop k := (List.take_append_drop k zs).symm
  rw [e, run_app, h]
  rfl
theorem run_all {pc : Int} {zs : List Int} {s : UnSt} (h : unRun pc zs.length 0 (zs.take zs.length) unStart = some s) : unP pc zs = some s := by
  rw [List.take_length] at h
  exact h
/-- The marks of the first k words. -/
def markTo (zs : List Int) (k t : Nat) : Bool := decide (t < k) && markB zs t
theorem markTo_none (zs : List Int) (t : Nat) : markTo zs 0 t = false := by unfold markTo; simp
theorem markTo_all (zs : List Int) (t : Nat) : markTo zs zs.length t = markB zs t := by
  unfold markTo markB
  by_cases h : t < zs.length
  · rw [decide_eq_true h, Bool.true_and]
  · rw [decide_eq_false h, List.getElem?_eq_none (by omega)]
    rfl
theorem markTo_next {zs : List Int} {k : Nat} (hk : k < zs.length) (w : Int) (hw : zs[k] = w) (t : Nat) : markTo zs (k + 1) t = (markTo zs k t || (decide (k = t) && (parseZ w == 2))) := by
  unfold markTo markB
  by_cases h : k = t
  · subst h
    rw [decide_eq_true (by omega), decide_eq_false (by omega), decide_eq_true rfl, List.getElem?_eq_getElem hk, hw]
    rfl
  · rw [decide_eq_false h, Bool.false_and, Bool.or_false]
    congr 1
    exact decide_eq_decide.2 (by omega)
theorem lenN_step {zs : List Int} {k : Nat} (hk : k < zs.length) (w : Int) (hw : zs[k] = w) : lenN k (zs.drop k) = if 4 ≤ k then (0, false) else if stopB w then (k + 1, true) else lenN (k + 1) (zs.drop (k + 1)) := by
  rw [List.drop_eq_getElem_cons hk, hw]
  rfl
theorem lenN_end (zs : List Int) : lenN zs.length (zs.drop zs.length) = (0, false) := by
  rw [List.drop_length]
  rfl
theorem lenN_four (r : List Int) : lenN 4 r = (0, false) := by
  cases r <;> rfl
theorem lenN_le : ∀ (zs : List Int) (k : Nat), (lenN k zs).1 ≤ 4
  | [], _ => Nat.zero_le _
  | w :: r, k => by
    show (if 4 ≤ k then ((0 : Nat), false) else if stopB w then (k + 1, true) else lenN (k + 1) r).1 ≤ 4
    by_cases h : 4 ≤ k
    · rw [if_pos h]
      exact Nat.zero_le _
    · rw [if_neg h]
      by_cases h2 : stopB w = true
      · rw [if_pos h2]
        show k + 1 ≤ 4
        omega
      · rw [if_neg h2]
        exact lenN_le r (k + 1)
/-- No more instructions are said than twice as many as words. -/
theorem un_few {pc : Int} {zs : List Int} (hz : ∀ z ∈ zs, isU32 z) {s : UnSt} (h : unP pc zs = some s) : ((unPk zs s).insts.length : Int) ≤ zs.length + 1 := by
  obtain ⟨-, b, -⟩ := run_told zs 0 unStart s hz (by omega) inv_start rfl h
  have e0 : sizeZ unStart = 0 := rfl
  rw [e0] at b
  unfold sizeZ at b
  show (s.insts.length : Int) ≤ _
  have h1 : (if s.has = true then (1 : Int) else 0) ≥ 0 := by split <;> omega
  have h2 : (if s.dup = true then (1 : Int) else 0) ≤ 1 := by split <;> omega
  omega
/-! What the calls tell. -/
def U32s (zs : List Int) : Prop := ∀ z ∈ zs, isU32 z
def LenSays (zs : List Int) (w : World) (e : Ending) (w' : World) : Prop := e = .returned (.tuple #[.int .i64 ((lenP zs).1 : Nat), .bool (lenP zs).2]) ∧ Made w w'
abbrev pkOf (so : Option Addr) (cap : Nat) (p : Pk) : Value := pkV so p.insts.length cap p.e0 p.e1 p.raw p.dup
def Unpacked (pc : Int) (zs : List Int) (w : World) (e : Ending) (w' : World) : Prop :=
  ∃ so cap, e = .returned (.tuple #[pkOf so cap (unTell pc zs).2, .int .i64 (unTell pc zs).1]) ∧ Insts w' so cap (unTell pc zs).2.insts ∧ Made w w'
def Canoned (pc : Int) (zs : List Int) (w : World) (e : Ending) (w' : World) : Prop :=
  ∃ so cap p ok, e = .returned (.tuple #[pkOf so cap p, .bool ok]) ∧ Insts w' so cap p.insts ∧ Made w w' ∧ IsCan pc zs ok p
/-- What the document's Packet tells. -/
def UnpackedR (pc : Int) (zs : List Int) (w : World) (e : Ending) (w' : World) : Prop :=
  ∃ so cap p ok, e = .returned (.tuple #[pkOf so cap p, .bool ok]) ∧ Insts w' so cap p.insts ∧ Made w w' ∧ (unP pc zs = none → ok = false ∧ p = pkZero) ∧ ∀ s, unP pc zs = some s → ok = true ∧ p = unPk zs s
theorem can_one {pc : Int} {zs : List Int} {ok is : Bool} {p q : Pk} (h : IsCan pc zs ok p) (k : IsCan pc zs is q) : ok = is ∧ p = q := by
  cases ok with
  | true =>
    obtain ⟨a, b, c, d⟩ := h.yes rfl
    cases is with
    | true => exact ⟨rfl, by rw [d, (k.yes rfl).2.2.2]⟩
    | false => exact absurd ⟨a, b, c⟩ (k.no rfl).1
  | false =>
    obtain ⟨a, b⟩ := h.no rfl
    cases is with
    | true => exact absurd ⟨(k.yes rfl).1, (k.yes rfl).2.1, (k.yes rfl).2.2.1⟩ a
    | false => exact ⟨rfl, by rw [b, (k.no rfl).2]⟩
/-- The words of a packet are canonical. -/
theorem can_back {pc : Int} {p : Pk} {zs : List Int} (hl : Legal p) (hs : Said pc p.insts) (hy : sayAll pc p.insts = true) (hw : IsWords pc p zs) {ok : Bool} {q : Pk} (h : IsCan pc zs ok q) : ok = true ∧ q = (unTell pc zs).2 := by
  obtain ⟨-, r, h1, hp, -, -, -, -, hr, -⟩ := un_back hl hs hw
  cases ok with
  | true => exact ⟨rfl, (h.yes rfl).2.2.2⟩
  | false =>
    refine absurd ?_ (h.no rfl).1
    rw [h1]
    exact ⟨rfl, (sayAll_perm hp).trans hy, hr⟩
end
section
set_option maxRecDepth 100000
open Go.ChangeShapes Go.WideShapes Go.ChangeAt Go.RowKit Go.Sort BigFrame

abbrev zeroPkL : List Value := boxL none 0 0 false false false false
section
variable {W u z : World} {B Q : Nat} {cs : List Value} {so : Option Addr} {n cq : Nat} {e0 e1 raw dup : Bool} {l : List In}
theorem row_begin (W : World) : RowAt W W.heap.size (W.heap.size + 1) zeroPkL none 0 0 false false false false [] ((W.alloc (.cells zeroPkL.toArray 29)).alloc (.cells zeroPkL.toArray 29)) := by
  have m1 := made_alloc (Made.refl W) (.cells zeroPkL.toArray 29)
  have b1 : (W.alloc (.cells zeroPkL.toArray 29)).heap[W.heap.size]? = some (.cells zeroPkL.toArray 29 (0, 0)) := heap_alloc_new W _
  exact ⟨made_alloc m1 _, Nat.le_refl _, Nat.lt_succ_self _, (Below.heap_alloc _ _ _ (heap_lt b1)).trans b1, heap_at (by simp), ⟨by simp, .inl ⟨rfl, rfl⟩⟩, fun x hx => by simp at hx⟩
theorem row_far (h : RowAt W B Q cs so n cq e0 e1 raw dup l u) (gr : u.grownBy z (Value.slice so n cq).ownBlock) : z.heap[Q]? = some (.cells (boxL so n cq e0 e1 raw dup).toArray 29 (0, 0)) :=
  (gr.block Q (heap_lt h.qk) (fun e => by
    have := (h.row.lt Q e.symm).1
    omega)).trans h.qk
theorem row_grows (h : RowAt W B Q cs so n cq e0 e1 raw dup l u) {l2 : List In} (h2 : ∀ x ∈ l2, x.small) {s1 : Option Addr} {n1 c1 : Nat}
    (own : z.ownsRow (Q + 1) 40 11 (.slice s1 n1 c1) n1 (flatI l ++ flatI l2)) (gr : u.grownBy z (Value.slice so n cq).ownBlock) : RowAt W B Q cs s1 n1 c1 e0 e1 raw dup (l ++ l2) (z.setCell ⟨Q, 0, none⟩ (.slice s1 n1 c1)) := by
  have hlow := h.low
  have hlt := h.lt
  have hb := heap_lt h.pk
  have farB : z.heap[B]? = u.heap[B]? := gr.block B hb (fun e => by
    have := (h.row.lt B e.symm).1
    omega)
  refine ⟨Below.setCell (p := ⟨Q, 0, none⟩) (Below.grown h.made gr h.made.size (fun t ht => by have := (h.row.lt t ht).1; omega)) (show W.heap.size ≤ Q by omega) _, hlow, hlt, ?_, heap_setCell_same z Q 0 _ _ _ (row_far h gr), ?_, ?_⟩
  · exact (heap_setCell_other z ⟨Q, 0, none⟩ B _ (show B ≠ Q by omega)).trans (farB.trans h.pk)
  · rw [flatI_app]
    exact ownsRow_setCell_below own (show Q < Q + 1 by omega) (a := ⟨Q, 0, none⟩) _
  · intro y hy
    rcases List.mem_append.1 hy with h1 | h1
    · exact h.small y h1
    · exact h2 y h1
theorem row_mark0 (h : RowAt W B Q cs so n cq e0 e1 raw dup l u) (r : Bool) : RowAt W B Q cs so n cq r e1 raw dup l (u.setCell ⟨Q, 1, none⟩ (.bool r)) := by
  have hlow := h.low
  have hlt := h.lt
  exact ⟨Below.setCell (p := ⟨Q, 1, none⟩) h.made (show W.heap.size ≤ Q by omega) _, hlow, hlt, (heap_setCell_other u ⟨Q, 1, none⟩ B _ (show B ≠ Q by omega)).trans h.pk, heap_setCell_same u Q 1 _ _ _ h.qk,
    ownsRow_setCell_below h.row (show Q < Q + 1 by omega) (a := ⟨Q, 1, none⟩) _, h.small⟩
theorem row_mark1 (h : RowAt W B Q cs so n cq e0 e1 raw dup l u) (r : Bool) : RowAt W B Q cs so n cq e0 r raw dup l (u.setCell ⟨Q, 2, none⟩ (.bool r)) := by
  have hlow := h.low
  have hlt := h.lt
  exact ⟨Below.setCell (p := ⟨Q, 2, none⟩) h.made (show W.heap.size ≤ Q by omega) _, hlow, hlt, (heap_setCell_other u ⟨Q, 2, none⟩ B _ (show B ≠ Q by omega)).trans h.pk, heap_setCell_same u Q 2 _ _ _ h.qk,
    ownsRow_setCell_below h.row (show Q < Q + 1 by omega) (a := ⟨Q, 2, none⟩) _, h.small⟩
theorem row_raw (h : RowAt W B Q cs so n cq e0 e1 raw dup l u) (r : Bool) : RowAt W B Q cs so n cq e0 e1 r dup l (u.setCell ⟨Q, 3, none⟩ (.bool r)) := by
  have hlow := h.low
  have hlt := h.lt
  exact ⟨Below.setCell (p := ⟨Q, 3, none⟩) h.made (show W.heap.size ≤ Q by omega) _, hlow, hlt, (heap_setCell_other u ⟨Q, 3, none⟩ B _ (show B ≠ Q by omega)).trans h.pk, heap_setCell_same u Q 3 _ _ _ h.qk,
    ownsRow_setCell_below h.row (show Q < Q + 1 by omega) (a := ⟨Q, 3, none⟩) _, h.small⟩
theorem row_dup (h : RowAt W B Q cs so n cq e0 e1 raw dup l u) (r : Bool) : RowAt W B Q cs so n cq e0 e1 raw r l (u.setCell ⟨Q, 4, none⟩ (.bool r)) := by
  have hlow := h.low
  have hlt := h.lt
  exact ⟨Below.setCell (p := ⟨Q, 4, none⟩) h.made (show W.heap.size ≤ Q by omega) _, hlow, hlt, (heap_setCell_other u ⟨Q, 4, none⟩ B _ (show B ≠ Q by omega)).trans h.pk, heap_setCell_same u Q 4 _ _ _ h.qk,
    ownsRow_setCell_below h.row (show Q < Q + 1 by omega) (a := ⟨Q, 4, none⟩) _, h.small⟩
theorem own_slice {B : Nat} {v : Value} {n : Nat} {xs : List Value} (h : u.ownsRow B 40 11 v n xs) : ∃ s c, v = .slice s n c := by
  rcases h.2 with ⟨h1, h2⟩ | ⟨g, c, cur, h1, -⟩
  · exact ⟨none, 0, by rw [h1, h2]⟩
  · exact ⟨_, c, h1⟩
theorem row_insts (h : RowAt W B Q cs so n cq e0 e1 raw dup l u) : l.length = n ∧ Insts u so cq l := by
  obtain ⟨h1, s, c, hv, hi⟩ := owns_insts h.row h.small
  simp only [Value.slice.injEq] at hv
  obtain ⟨rfl, -, rfl⟩ := hv
  exact ⟨h1, hi⟩
end
theorem insts_zero' (w : World) : Insts w none 0 [] := ⟨Nat.le_refl _, Nat.zero_le _, fun x hx => by simp at hx, fun _ => ⟨rfl, rfl⟩, fun t ht => absurd ht (Nat.not_lt_zero t)⟩
theorem unpackedR_none {pc : Int} {zs : List Int} {w w' : World} (h : unP pc zs = none) (hm : Made w w') : UnpackedR pc zs w (.returned (.tuple #[pkV none 0 0 false false false false, .bool false])) w' :=
  ⟨none, 0, pkZero, false, rfl, insts_zero' w', hm, fun _ => ⟨rfl, rfl⟩, fun s hs => by rw [h] at hs; cases hs⟩
/-! The ways of one word. -/
theorem step_ways {pc : Int} {n k : Nat} {z : Int} {s : UnSt} {o : Option UnSt} (h : o = unStep pc n k z s) :
    (parseZ z = 2 ∧ 1 < k ∧ o = none) ∨
    (¬ (parseZ z = 2 ∧ 1 < k) ∧ k + 1 = n ∧ parseZ z = 0 ∧ (((splitP z).2.2 = true ∧ s.has = false ∧ o = some ⟨s.insts ++ [(splitP z).1, (splitP z).2.1], true, s.up, s.has⟩) ∨ ((splitP z).2.2 = true ∧ s.has = true ∧ o = none) ∨ ((splitP z).2.2 = false ∧ o = none))) ∨
    (¬ (parseZ z = 2 ∧ 1 < k) ∧ ¬ (k + 1 = n ∧ parseZ z = 0) ∧ codeZ z = 0 ∧ ((s.has = true ∧ o = none) ∨ (s.has = false ∧ k + 1 = n ∧ o = none) ∨ (s.has = false ∧ k + 1 ≠ n ∧ o = some ⟨s.insts, s.dup, payZ z, true⟩))) ∨
    (¬ (parseZ z = 2 ∧ 1 < k) ∧ ¬ (k + 1 = n ∧ parseZ z = 0) ∧ codeZ z ≠ 0 ∧ ((instB z s.up s.has pc = true ∧ o = some ⟨s.insts ++ [instP z s.up s.has pc], s.dup, 0, false⟩) ∨ (instB z s.up s.has pc = false ∧ o = none))) := by
  unfold unStep at h
  by_cases h1 : parseZ z = 2 ∧ 1 < k
  · rw [if_pos h1] at h
    exact .inl ⟨h1.1, h1.2, h⟩
  rw [if_neg h1] at h
  by_cases h2 : k + 1 = n ∧ parseZ z = 0
  · rw [if_pos h2] at h
    refine .inr (.inl ⟨h1, h2.1, h2.2, ?_⟩)
    cases hs : (splitP z).2.2 with
    | false =>
      rw [if_neg (by rw [hs]; simp)] at h
      exact .inr (.inr ⟨rfl, h⟩)
    | true =>
      cases hh : s.has with
      | false =>
        rw [if_pos ⟨hs, hh⟩, hh] at h
        exact .inl ⟨rfl, rfl, h⟩
      | true =>
        rw [if_neg (by rw [hh]; simp)] at h
        exact .inr (.inl ⟨rfl, rfl, h⟩)
  rw [if_neg h2] at h
  by_cases h3 : codeZ z = 0
  · rw [if_pos h3] at h
    refine .inr (.inr (.inl ⟨h1, h2, h3, ?_⟩))
    cases hh : s.has with
    | true =>
      rw [if_pos (.inl hh)] at h
      exact .inl ⟨rfl, h⟩
    | false =>
      by_cases h4 : k + 1 = n
      · rw [if_pos (.inr h4)] at h
        exact .inr (.inl ⟨rfl, h4, h⟩)
      · rw [if_neg (by rw [hh]; simp [h4])] at h
        exact .inr (.inr ⟨rfl, h4, h⟩)
  rw [if_neg h3] at h
  refine .inr (.inr (.inr ⟨h1, h2, h3, ?_⟩))
  cases hi : instB z s.up s.has pc with
  | true =>
    rw [if_pos hi] at h
    exact .inl ⟨rfl, h⟩
  | false =>
    rw [if_neg (by rw [hi]; simp)] at h
    exact .inr ⟨rfl, h⟩
end
end Go.Proofs.YtanjmoiepmadhaaGreatDoor
