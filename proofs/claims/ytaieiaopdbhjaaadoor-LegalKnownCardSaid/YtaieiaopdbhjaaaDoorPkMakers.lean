/- The operations that make packets of instructions written out, by whatever functions: what each leaves, in a region that draws its order. -/
import Derived.Test.YtaieiaopdbhjaaaDoorMakers
import Derived.Test.YtaieiaopdbhjaaaDoorPkRows
import Derived.Great.Walk
namespace Go.Proofs.YtaieiaopdbhjaaaDoor
open Go.ChangeShapes Go.WideShapes Go.ChangeAt Go.RowKit Go.Sort BigFrame

/-- A packet and what it comes to. -/
structure PRow where
  insts : List In
  e0 : Bool
  e1 : Bool
  raw : Bool
  dup : Bool
  told : Int
def ptr (l : List In) (b : Nat) : Option Addr := match l with
  | [] => none
  | _ :: _ => some ⟨b, 0, none⟩
def prV (b : Nat) (r : PRow) : List Value := [.slice (ptr r.insts b) r.insts.length r.insts.length, .bool r.e0, .bool r.e1, .bool r.raw, .bool r.dup]
def flatP : List Nat → List PRow → List Value
  | b :: bs, r :: rs => prV b r ++ flatP bs rs
  | _, _ => []
theorem flatP_at : ∀ (bs : List Nat) (rs : List PRow) (k : Nat) (hb : k < bs.length) (hr : k < rs.length) (j : Nat), j < 5 → (flatP bs rs)[k * 5 + j]? = (prV bs[k] rs[k])[j]?
  | b :: bs, r :: rs, 0, _, _, j, hj => by
    have hl : (prV b r).length = 5 := rfl
    show (prV b r ++ flatP bs rs)[0 * 5 + j]? = _
    rw [Nat.zero_mul, Nat.zero_add, List.getElem?_append_left (by omega)]
    rfl
  | b :: bs, r :: rs, k + 1, hb, hr, j, hj => by
    have hl : (prV b r).length = 5 := rfl
    show (prV b r ++ flatP bs rs)[(k + 1) * 5 + j]? = _
    rw [List.getElem?_append_right (by omega), show (k + 1) * 5 + j - (prV b r).length = k * 5 + j by omega]
    exact flatP_at bs rs k (by simpa using hb) (by simpa using hr) j hj
/-- The block of a packet's instructions. -/
def BlockOf (w : World) (b : Nat) (l : List In) : Prop := w.heap[b]? = some (.cells (l.flatMap In.cells).toArray 24 (0, 0))
def Blocks (w : World) : List Nat → List PRow → Prop
  | b :: bs, r :: rs => (r.insts ≠ [] → BlockOf w b r.insts) ∧ Blocks w bs rs
  | _, _ => True
theorem blocks_at {w : World} : ∀ (bs : List Nat) (rs : List PRow), Blocks w bs rs → ∀ (k : Nat) (hb : k < bs.length) (hr : k < rs.length), rs[k].insts ≠ [] → BlockOf w bs[k] rs[k].insts
  | _ :: _, _ :: _, h, 0, _, _ => h.1
  | _ :: bs, _ :: rs, h, k + 1, hb, hr => blocks_at bs rs h.2 k (by simpa using hb) (by simpa using hr)
theorem blocks_made {w w' : World} (hm : Made w w') : ∀ (bs : List Nat) (rs : List PRow), Blocks w bs rs → Blocks w' bs rs
  | _ :: bs, _ :: rs, h => ⟨fun hn => hm.heap (h.1 hn), blocks_made hm bs rs h.2⟩
  | [], _, _ => by simp [Blocks]
  | _ :: _, [], _ => by simp [Blocks]
theorem insts_ptr {w : World} {b : Nat} {l : List In} (h : l ≠ [] → BlockOf w b l) (hl : l.length ≤ 5) (hs : l.all smallB = true) : Insts w (ptr l b) l.length l := by
  match l, h, hl, hs with
  | [], _, _, _ => exact ⟨Nat.le_refl _, Nat.zero_le _, fun x hx => by simp at hx, fun _ => ⟨rfl, rfl⟩, fun t ht => absurd ht (Nat.not_lt_zero t)⟩
  | x :: r, h, hl, hs => exact insts_lit (h (by simp)) rfl (by omega) fun y hy => small_of (List.all_eq_true.1 hs y hy)

/-- What a temporary holds. -/
inductive Kd
  | none
  | inst (x : In)
  | insts (l : List In)
  | pk (r : PRow)
  | pks (rs : List PRow)
  | fn (K : FuncId)
  | val (v : Value)
def Leaves : Kd → Value → World → Prop
  | .none, _, _ => True
  | .fn K, v, _ => v = .func (.func K) #[] #[]
  | .val u, v, _ => v = u
  | .inst x, v, _ => v = In.val x
  | .insts l, v, w => ∃ b, v = .slice (some ⟨b, 0, none⟩) l.length l.length ∧ BlockOf w b l
  | .pk r, v, w => ∃ b, v = .agg (prV b r).toArray ∧ (r.insts ≠ [] → BlockOf w b r.insts)
  | .pks rs, v, w => ∃ g bs, v = .slice (some ⟨g, 0, Option.none⟩) rs.length rs.length ∧ bs.length = rs.length ∧ w.heap[g]? = some (.cells (flatP bs rs).toArray 28 (0, 0)) ∧ Blocks w bs rs
theorem leaves_mono (k : Kd) (v : Value) (w w' : World) (h : Leaves k v w) (hm : Made w w') : Leaves k v w' := by
  cases k with
  | none => trivial
  | fn K => exact h
  | val u => exact h
  | inst x => exact h
  | insts l => obtain ⟨b, e, hb⟩ := h; exact ⟨b, e, hm.heap hb⟩
  | pk r => obtain ⟨b, e, hb⟩ := h; exact ⟨b, e, fun hn => hm.heap (hb hn)⟩
  | pks rs => obtain ⟨g, bs, e, hl, hg, hb⟩ := h; exact ⟨g, bs, e, hl, hm.heap hg, blocks_made hm bs rs hb⟩
section
set_option maxRecDepth 100000
variable {W : World} {a0 : Act} {own : Tmp → Bool} {S : Tmp → Kd} {Q : Exit → Act → World → Prop} {d t : Tmp} {ty : TypeId} {pos : String} {after : Array Edge}
abbrev MakesP (W : World) (a0 : Act) (own : Tmp → Bool) (S : Tmp → Kd) (Q : Exit → Act → World → Prop) (o : Oper) : Prop := Maker Tryd.prog W a0 own (fun t => Leaves (S t)) Q o
theorem make_load {B : Nat} (x : In) (ho : own t = false) (ha : a0.eval (.tmp t) = .pointer (some ⟨B, 0, none⟩)) (hb : InAt W B x) (hS : S d = .inst x) :
    MakesP W a0 own S Q { dst := some d, op := .load 24 (.tmp t), type := ty, pos, after, guard := none } := by
  intro a w h
  have he := (h.still t ho).trans ha
  obtain ⟨c0, c1, c2, c3, c4, c5, c6, c7, c8, c9, c10⟩ := in_cells (h.made.heap hb)
  have hr : (execOp a.eval { dst := some d, op := Op.load 24 (.tmp t), type := ty, pos, after, guard := none }).run Tryd.prog w = .ok (.value (In.val x)) w := by
    simp only [execOp, he]
    simp [go_sem, c0, c1, c2, c3, c4, c5, c6, c7, c8, c9, c10]
  unfold Oper.wp
  rw [hr]
  exact ⟨_, rfl, fun d' hd => by cases hd; rw [hS]; rfl, Made.refl w⟩
/-- A call that returns one instruction. -/
theorem make_inst {o : Oper} (x : In) (f : FuncId) (argv : Array Value) (ho : o.dst = some d) (hr : ∀ (a : Act) (w : World), (execOp a.eval o).run Tryd.prog w = .ok (.enter f argv) w)
    (hc : ∀ w : World, Calls Tryd.prog f argv w fun e w' => e = .returned (In.val x) ∧ Made w w') (hS : S d = .inst x) : MakesP W a0 own S Q o := by
  intro a w h
  unfold Oper.wp
  rw [hr]
  refine (hc w).mono ?_
  rintro e w' ⟨rfl, hm⟩
  exact ⟨_, rfl, fun d' hd => by rw [ho] at hd; cases hd; rw [hS]; rfl, hm⟩
/-- A call of a function value that returns one instruction. -/
theorem make_inst_fn (x : In) (K : FuncId) (args : Array Operand) (argv : Array Value) (ho : own t = true) (ht : S t = .fn K) (hK : Enters K) (hargs : ∀ a : Act, args.map a.eval = argv)
    (hc : ∀ w : World, Calls Tryd.prog K argv w fun e w' => e = .returned (In.val x) ∧ Made w w') (hS : S d = .inst x) {ats : Array TypeId} :
    MakesP W a0 own S Q { dst := some d, op := .call { callee := .value (.tmp t), args := args, argTypes := ats }, type := ty, pos, after, guard := none } := by
  intro a w h
  have h1 := h.told t ho (by simp [readsT, Op.operands, Call.operands])
  simp only [ht] at h1
  have he : a.eval (.tmp t) = .func (.func K) #[] #[] := h1
  have hr : (execOp a.eval { dst := some d, op := Op.call { callee := .value (.tmp t), args := args, argTypes := ats }, type := ty, pos, after, guard := none }).run Tryd.prog w = .ok (.enter K argv) w := by
    have e1 : a.tmps[t]?.getD undef = .func (.func K) #[] #[] := by simpa [Act.eval] using he
    have e2 := hargs a
    simp only [execOp]
    simp [go_sem, e1, e2, hK argv w]
  unfold Oper.wp
  rw [hr]
  refine (hc w).mono ?_
  rintro e w' ⟨rfl, hm⟩
  exact ⟨_, rfl, fun d' hd => by cases hd; rw [hS]; rfl, hm⟩
/-- A function value taken out of a variable. -/
theorem make_fn (K : FuncId) (ho : own t = false) (ha : a0.eval (.tmp t) = .func (.func K) #[] #[]) (hS : S d = .fn K) : MakesP W a0 own S Q { dst := some d, op := .move (.tmp t), type := ty, pos, after, guard := none } := by
  intro a w h
  have he := (h.still t ho).trans ha
  have hr : (execOp a.eval { dst := some d, op := Op.move (.tmp t), type := ty, pos, after, guard := none }).run Tryd.prog w = .ok (.value (a.eval (.tmp t))) w := by
    simp only [execOp]
    simp [go_sem]
  unfold Oper.wp
  rw [hr]
  exact ⟨_, rfl, fun d' hd => by cases hd; rw [hS]; exact he, Made.refl w⟩
/-- An instruction written out. -/
theorem make_lit {o : Oper} (x : In) (ho : o.dst = some d) (hr : ∀ (a : Act) (w : World), (execOp a.eval o).run Tryd.prog w = .ok (.value (In.val x)) w) (hS : S d = .inst x) : MakesP W a0 own S Q o := by
  intro a w h
  unfold Oper.wp
  rw [hr]
  exact ⟨_, rfl, fun d' hd => by rw [ho] at hd; cases hd; rw [hS]; rfl, Made.refl w⟩
/-- A packet's variable loaded. -/
theorem make_load_pk {B b : Nat} (r : PRow) (ho : own t = false) (ha : a0.eval (.tmp t) = .pointer (some ⟨B, 0, none⟩)) (hb : W.heap[B]? = some (.cells (prV b r).toArray 28 (0, 0))) (hk : r.insts ≠ [] → BlockOf W b r.insts) (hS : S d = .pk r) :
    MakesP W a0 own S Q { dst := some d, op := .load 28 (.tmp t), type := ty, pos, after, guard := none } := by
  intro a w h
  have he := (h.still t ho).trans ha
  have hb2 := h.made.heap hb
  have c0 : w.cell? ⟨B, 0, none⟩ = some (.slice (ptr r.insts b) r.insts.length r.insts.length) := cell_of_lit hb2 0
  have c1 : w.cell? ⟨B, 1, none⟩ = some (.bool r.e0) := cell_of_lit hb2 1
  have c2 : w.cell? ⟨B, 2, none⟩ = some (.bool r.e1) := cell_of_lit hb2 2
  have c3 : w.cell? ⟨B, 3, none⟩ = some (.bool r.raw) := cell_of_lit hb2 3
  have c4 : w.cell? ⟨B, 4, none⟩ = some (.bool r.dup) := cell_of_lit hb2 4
  have hr : (execOp a.eval { dst := some d, op := Op.load 28 (.tmp t), type := ty, pos, after, guard := none }).run Tryd.prog w = .ok (.value (.agg (prV b r).toArray)) w := by
    simp only [execOp, he]
    simp [go_sem, c0, c1, c2, c3, c4, prV]
  unfold Oper.wp
  rw [hr]
  exact ⟨_, rfl, fun d' hd => by cases hd; rw [hS]; exact ⟨b, rfl, fun hn => h.made.heap (hk hn)⟩, Made.refl w⟩
/-- A call that makes a packet of a slice. -/
theorem make_call_pk (r : PRow) (l : List In) (f : FuncId) (ho : own t = true) (ht : S t = .insts l) (hp : ∀ b, ptr l b = some ⟨b, 0, none⟩) (hri : r.insts = l)
    (hr : ∀ (w : World) (v : Value), (callFunc f #[v]).run Tryd.prog w = .ok (.enter f #[v]) w)
    (hc : ∀ (w : World) (ao : Option Addr) (n cap : Nat), Calls Tryd.prog f #[.slice ao n cap] w fun e w' => e = .returned (pkV ao n cap r.e0 r.e1 r.raw r.dup) ∧ Made w w') (hS : S d = .pk r) {ats : Array TypeId} :
    MakesP W a0 own S Q { dst := some d, op := .call { callee := .value (.func f), args := #[.tmp t], argTypes := ats }, type := ty, pos, after, guard := none } := by
  intro a w h
  have h1 := h.told t ho (by simp [readsT, Op.operands, Call.operands])
  simp only [ht] at h1
  obtain ⟨b, he, hb⟩ := h1
  have hr1 : (execOp a.eval { dst := some d, op := Op.call { callee := .value (.func f), args := #[.tmp t], argTypes := ats }, type := ty, pos, after, guard := none }).run Tryd.prog w = .ok (.enter f #[.slice (some ⟨b, 0, none⟩) l.length l.length]) w := by
    have e1 : a.tmps[t]?.getD undef = .slice (some ⟨b, 0, none⟩) l.length l.length := by simpa [Act.eval] using he
    simp only [execOp]
    simp [go_sem, e1, hr]
  unfold Oper.wp
  rw [hr1]
  refine (hc w _ _ _).mono ?_
  rintro e w' ⟨rfl, hm⟩
  refine ⟨_, rfl, fun d' hd => ?_, hm⟩
  cases hd
  simp only [hS]
  refine ⟨b, ?_, fun _ => ?_⟩
  · unfold prV
    rw [hri, hp]
  · rw [hri]
    exact hm.heap hb
/-- A call that makes a packet of nothing. -/
theorem make_call_none {o : Oper} (r : PRow) (f : FuncId) (ho : o.dst = some d) (hri : r.insts = []) (hr : ∀ (a : Act) (w : World), (execOp a.eval o).run Tryd.prog w = .ok (.enter f #[.slice none 0 0]) w)
    (hc : ∀ (w : World) (ao : Option Addr) (n cap : Nat), Calls Tryd.prog f #[.slice ao n cap] w fun e w' => e = .returned (pkV ao n cap r.e0 r.e1 r.raw r.dup) ∧ Made w w') (hS : S d = .pk r) : MakesP W a0 own S Q o := by
  intro a w h
  unfold Oper.wp
  rw [hr]
  refine (hc w _ _ _).mono ?_
  rintro e w' ⟨rfl, hm⟩
  refine ⟨_, rfl, fun d' hd => ?_, hm⟩
  rw [ho] at hd
  cases hd
  simp only [hS]
  refine ⟨0, ?_, fun hn => absurd hri hn⟩
  unfold prV
  rw [hri]
  rfl
/-- A value moved on. -/
theorem make_move (v : Value) (ho : own t = true) (ht : S t = .val v) (hS : S d = .val v) : MakesP W a0 own S Q { dst := some d, op := .move (.tmp t), type := ty, pos, after, guard := none } := by
  intro a w h
  have h1 := h.told t ho (by simp [readsT, Op.operands])
  simp only [ht] at h1
  have hr : (execOp a.eval { dst := some d, op := Op.move (.tmp t), type := ty, pos, after, guard := none }).run Tryd.prog w = .ok (.value (a.eval (.tmp t))) w := by
    simp only [execOp]
    simp [go_sem]
  unfold Oper.wp
  rw [hr]
  exact ⟨_, rfl, fun d' hd => by cases hd; rw [hS]; exact h1, Made.refl w⟩
/-- A part of a tuple. -/
theorem make_extract (vs : Array Value) (k : Nat) (v : Value) (ho : own t = true) (ht : S t = .val (.tuple vs)) (hr : ∀ w : World, (Instr.extract (.tuple vs) k).run Tryd.prog w = .ok v w) (hS : S d = .val v) :
    MakesP W a0 own S Q { dst := some d, op := .extract (.tmp t) k, type := ty, pos, after, guard := none } := by
  intro a w h
  have h1 := h.told t ho (by simp [readsT, Op.operands])
  simp only [ht] at h1
  have he : a.eval (.tmp t) = .tuple vs := h1
  have hr1 : (execOp a.eval { dst := some d, op := Op.extract (.tmp t) k, type := ty, pos, after, guard := none }).run Tryd.prog w = .ok (.value v) w := by
    simp only [execOp, he, Sem.run_bind, hr]
    simp [go_sem]
  unfold Oper.wp
  rw [hr1]
  exact ⟨_, rfl, fun d' hd => by cases hd; rw [hS]; rfl, Made.refl w⟩
/-- A call that returns one value of a slice. -/
theorem make_call_val (v : Value) (l : List In) (f : FuncId) (ho : own t = true) (ht : S t = .insts l)
    (hr : ∀ (w : World) (v : Value), (callFunc f #[v]).run Tryd.prog w = .ok (.enter f #[v]) w)
    (hc : ∀ (w : World) (b : Nat), Made W w → BlockOf w b l → Calls Tryd.prog f #[.slice (some ⟨b, 0, none⟩) l.length l.length] w fun e w' => e = .returned v ∧ Made w w') (hS : S d = .val v) {ats : Array TypeId} :
    MakesP W a0 own S Q { dst := some d, op := .call { callee := .value (.func f), args := #[.tmp t], argTypes := ats }, type := ty, pos, after, guard := none } := by
  intro a w h
  have h1 := h.told t ho (by simp [readsT, Op.operands, Call.operands])
  simp only [ht] at h1
  obtain ⟨b, he, hb⟩ := h1
  have hr1 : (execOp a.eval { dst := some d, op := Op.call { callee := .value (.func f), args := #[.tmp t], argTypes := ats }, type := ty, pos, after, guard := none }).run Tryd.prog w = .ok (.enter f #[.slice (some ⟨b, 0, none⟩) l.length l.length]) w := by
    have e1 : a.tmps[t]?.getD undef = .slice (some ⟨b, 0, none⟩) l.length l.length := by simpa [Act.eval] using he
    simp only [execOp]
    simp [go_sem, e1, hr]
  unfold Oper.wp
  rw [hr1]
  refine (hc w b h.made hb).mono ?_
  rintro e w' ⟨rfl, hm⟩
  exact ⟨_, rfl, fun d' hd => by cases hd; rw [hS]; rfl, hm⟩
theorem make_assign (ho : own t = true) (hS : S d = S t) : MakesP W a0 own S Q { dst := some d, op := .assign (.tmp t), type := ty, pos, after, guard := none } := by
  intro a w h
  have h1 := h.told t ho (by simp [readsT, Op.operands])
  have hr : (execOp a.eval { dst := some d, op := Op.assign (.tmp t), type := ty, pos, after, guard := none }).run Tryd.prog w = .ok (.value (a.eval (.tmp t))) w := by
    simp only [execOp]
    simp [go_sem]
  unfold Oper.wp
  rw [hr]
  refine ⟨_, rfl, fun d' hd => ?_, Made.refl w⟩
  cases hd
  show Leaves (S d) _ _
  rw [hS]
  exact h1
theorem make_none (r : PRow) (hr : r = ⟨[], false, false, false, false, r.told⟩) (hS : S d = .pk r) : MakesP W a0 own S Q { dst := some d, op := .build 28 #[], type := ty, pos, after, guard := none } := by
  intro a w h
  have hr1 : (execOp a.eval { dst := some d, op := Op.build 28 #[], type := ty, pos, after, guard := none }).run Tryd.prog w = .ok (.value (.agg #[.slice none 0 0, .bool false, .bool false, .bool false, .bool false])) w := by
    simp only [execOp]
    simp [go_sem]
  unfold Oper.wp
  rw [hr1]
  refine ⟨_, rfl, fun d' hd => ?_, Made.refl w⟩
  cases hd
  simp only [hS]
  rw [hr]
  exact ⟨0, rfl, fun hn => absurd rfl hn⟩
theorem make_pk (r : PRow) (l : List In) (ps : List (Nat × Bool)) (ho : own t = true) (ht : S t = .insts l) (hp : ∀ b, ptr l b = some ⟨b, 0, none⟩) (hr : r.insts = l) (hS : S d = .pk r)
    (hrun : ∀ (b n : Nat) (w : World), (Instr.build 28 ((0, Value.slice (some ⟨b, 0, none⟩) n n) :: ps.map fun p => (p.1, Value.bool p.2)).toArray).run Tryd.prog w = .ok (.agg #[.slice (some ⟨b, 0, none⟩) n n, .bool r.e0, .bool r.e1, .bool r.raw, .bool r.dup]) w) :
    MakesP W a0 own S Q { dst := some d, op := .build 28 ((0, .tmp t) :: ps.map fun p => (p.1, Operand.const (.bool p.2))).toArray, type := ty, pos, after, guard := none } := by
  intro a w h
  have h1 := h.told t ho (by simp [readsT, Op.operands])
  simp only [ht] at h1
  obtain ⟨b, he, hb⟩ := h1
  have e1 : (((0, Operand.tmp t) :: ps.map fun p => (p.1, Operand.const (.bool p.2))).toArray.map fun (i, x) => (i, a.eval x)) = ((0, Value.slice (some ⟨b, 0, none⟩) l.length l.length) :: ps.map fun p => (p.1, Value.bool p.2)).toArray := by
    have e2 : a.tmps[t]?.getD undef = .slice (some ⟨b, 0, none⟩) l.length l.length := by simpa [Act.eval] using he
    simp [e2, Act.eval]
  have hr1 : (execOp a.eval { dst := some d, op := Op.build 28 ((0, .tmp t) :: ps.map fun p => (p.1, Operand.const (.bool p.2))).toArray, type := ty, pos, after, guard := none }).run Tryd.prog w = .ok (.value (.agg #[.slice (some ⟨b, 0, none⟩) l.length l.length, .bool r.e0, .bool r.e1, .bool r.raw, .bool r.dup])) w := by
    simp only [execOp, e1]
    simp only [Sem.run_bind, hrun]
    simp [go_sem]
  unfold Oper.wp
  rw [hr1]
  refine ⟨_, rfl, fun d' hd => ?_, Made.refl w⟩
  cases hd
  simp only [hS]
  refine ⟨b, ?_, fun _ => ?_⟩
  · unfold prV
    rw [hr, hp]
  · rw [hr]
    exact hb
/-! Slice literals. -/
theorem parts_of (a : Act) (ts : List Tmp) (parts : Array (Nat × Operand)) (hp : parts.toList = ts.zipIdx.map fun p => (p.2, Operand.tmp p.1)) (vs : List Value) (hv : ts.map (fun t => a.eval (.tmp t)) = vs) :
    (parts.map fun (i, x) => (i, a.eval x)).toList = vs.zipIdx.map fun p => (p.2, p.1) := by
  subst hv
  rw [Array.toList_map, hp, List.zipIdx_map, List.map_map, List.map_map]
  rfl
theorem wp_builtSlice {o : Oper} {a : Act} {w : World} {K : Act → World → Prop} (T e : TypeId) (len : Nat) (parts : Array (Nat × Operand)) (ho : o.op = .buildSlice T len parts) (hu : Tryd.prog.underlying T = some (.slice e)) (cells : Array Value)
    (hf : Tryd.prog.builtSlice e len (parts.map fun (i, x) => (i, a.eval x)).toList = some cells)
    (h : K (a.put o.dst (.slice (some ⟨w.heap.size, 0, none⟩) len len)) (w.alloc (.cells cells e))) : o.wp Tryd.prog a w K Q := by
  unfold Program.builtSlice at hf
  cases hie : Tryd.prog.info? e with
  | none => simp [hie] at hf
  | some ie =>
    simp only [hie] at hf
    cases hz : ie.zero with
    | none => simp [hz] at hf
    | some z =>
      simp only [hz] at hf
      by_cases hc : len * ie.size > 2 ^ 24 ∨ len * ie.size = 0
      · simp [hc] at hf
      · rw [if_neg hc] at hf
        exact wp_buildSlice T e len parts ho cells ie z hu hie hz (fun h' => hc (Or.inl h')) (fun h' => hc (Or.inr h')) hf h
theorem evals_inst {a : Act} {w : World} : ∀ (ts : List Tmp) (l : List In), ts.map S = l.map Kd.inst → (∀ t ∈ ts, Leaves (S t) (a.eval (.tmp t)) w) → ts.map (fun t => a.eval (.tmp t)) = l.map In.val
  | [], [], _, _ => rfl
  | [], _ :: _, h, _ => by simp at h
  | _ :: _, [], h, _ => by simp at h
  | t :: ts, x :: l, h, hl => by
    simp only [List.map_cons, List.cons.injEq] at h ⊢
    have h1 := hl t (by simp)
    rw [h.1] at h1
    exact ⟨h1, evals_inst ts l h.2 fun u hu => hl u (by simp [hu])⟩
theorem reads_part {o : Oper} {T : TypeId} {len : Nat} {parts : Array (Nat × Operand)} {ts : List Tmp} (hp : parts.toList = ts.zipIdx.map fun p => (p.2, Operand.tmp p.1)) {t : Tmp} (ht : t ∈ ts) (ho : o.op = .buildSlice T len parts) : readsT o t = true := by
  unfold readsT
  rw [List.any_eq_true, ho]
  refine ⟨.tmp t, ?_, by simp⟩
  obtain ⟨k, hk, rfl⟩ := List.mem_iff_getElem.1 ht
  simp only [Op.operands, hp, List.map_map]
  exact List.mem_map.2 ⟨(ts[k], k), List.mem_zipIdx_iff_getElem?.2 (by simp [hk]), rfl⟩
theorem make_slice (len : Nat) (parts : Array (Nat × Operand)) (ts : List Tmp) (l : List In) (hp : parts.toList = ts.zipIdx.map fun p => (p.2, Operand.tmp p.1)) (ho : ts.all own = true) (ht : ts.map S = l.map Kd.inst) (hlen : len = l.length)
    (hf : Tryd.prog.builtSlice 24 len ((l.map In.val).zipIdx.map fun p => (p.2, p.1)) = some (l.flatMap In.cells).toArray) (hS : S d = .insts l) :
    MakesP W a0 own S Q { dst := some d, op := .buildSlice 26 len parts, type := ty, pos, after, guard := none } := by
  intro a w h
  have hall : ∀ t ∈ ts, Leaves (S t) (a.eval (.tmp t)) w := fun t htt => h.told t (List.all_eq_true.1 ho t htt) (reads_part hp htt rfl)
  refine wp_builtSlice 26 24 len parts rfl Tryd.underlying26 (l.flatMap In.cells).toArray ?_ ⟨_, rfl, fun d' hd => ?_, (Made.refl w).alloc (Nat.le_refl _) _⟩
  · rw [parts_of a ts parts hp _ (evals_inst ts l ht hall)]
    exact hf
  · cases hd
    simp only [hS]
    refine ⟨w.heap.size, by rw [hlen], ?_⟩
    exact heap_alloc_new w _
theorem evals_pk {a : Act} {w : World} : ∀ (ts : List Tmp) (rs : List PRow), ts.map S = rs.map Kd.pk → (∀ t ∈ ts, Leaves (S t) (a.eval (.tmp t)) w) → ∃ bs : List Nat, bs.length = rs.length ∧ Blocks w bs rs ∧ ts.map (fun t => a.eval (.tmp t)) = (bs.zip rs).map fun p => Value.agg (prV p.1 p.2).toArray
  | [], [], _, _ => ⟨[], rfl, trivial, rfl⟩
  | [], _ :: _, h, _ => by simp at h
  | _ :: _, [], h, _ => by simp at h
  | t :: ts, r :: rs, h, hl => by
    simp only [List.map_cons, List.cons.injEq] at h
    have h1 := hl t (by simp)
    rw [h.1] at h1
    obtain ⟨b, hb, hk⟩ := h1
    obtain ⟨bs, h2, h3, h4⟩ := evals_pk ts rs h.2 fun u hu => hl u (by simp [hu])
    refine ⟨b :: bs, by simp [h2], ⟨hk, h3⟩, ?_⟩
    simp only [List.map_cons, List.zip_cons_cons, h4, hb]
theorem make_rows (len : Nat) (parts : Array (Nat × Operand)) (ts : List Tmp) (rs : List PRow) (hp : parts.toList = ts.zipIdx.map fun p => (p.2, Operand.tmp p.1)) (ho : ts.all own = true) (ht : ts.map S = rs.map Kd.pk) (hlen : len = rs.length)
    (hf : ∀ bs : List Nat, bs.length = rs.length → Tryd.prog.builtSlice 28 len (((bs.zip rs).map fun p => Value.agg (prV p.1 p.2).toArray).zipIdx.map fun p => (p.2, p.1)) = some (flatP bs rs).toArray) (hS : S d = .pks rs) :
    MakesP W a0 own S Q { dst := some d, op := .buildSlice 30 len parts, type := ty, pos, after, guard := none } := by
  intro a w h
  have hall : ∀ t ∈ ts, Leaves (S t) (a.eval (.tmp t)) w := fun t htt => h.told t (List.all_eq_true.1 ho t htt) (reads_part hp htt rfl)
  obtain ⟨bs, hb1, hb2, hb3⟩ := evals_pk ts rs ht hall
  refine wp_builtSlice 30 28 len parts rfl Tryd.underlying30 (flatP bs rs).toArray ?_ ⟨_, rfl, fun d' hd => ?_, (Made.refl w).alloc (Nat.le_refl _) _⟩
  · rw [parts_of a ts parts hp _ hb3]
    exact hf bs hb1
  · cases hd
    simp only [hS]
    have m := (Made.refl w).alloc (Nat.le_refl _) (.cells (flatP bs rs).toArray 28)
    exact ⟨w.heap.size, bs, by rw [hlen], hb1, heap_alloc_new w _, blocks_made m bs rs hb2⟩
end
end Go.Proofs.YtaieiaopdbhjaaaDoor
