/-
  NARROWER THAN 'FOR EVERY INPUT', by the rows' own cells (each row's printed sentence says how): DuplexKnown: laid · DuplexTells: laid · DuplexBack: laid · DuplexForms: laid.
  DERIVED. THE GIVEN ROWS OF THIS SEAT. 4 by the template 'for every input the law returns true; each argument reads behind the call as it read before'; 0 by the template 'total and deterministic' (their statements: YtckekkedjlkljaaDoorTotals.lean).
  GIVEN WITH THE SEED: the statements are not yours to turn. If you find one false, say at which input.
  Laid BY PROGRAM, IN A SANDBOX (cutbox-rows.mjs): the forced cells as the released guide's own fill.sh prints them over the translation f9fe2484b7308c89… (all of the seat's roots in one cut). By AI agents, Wed Nov 11 2026. No macro, syntax, notation, axiom, sorry.
-/
import Derived.Test.YtckekkedjlkljaaDoorChecked
import GoSem.Claim
import GoSem.ClaimJoined
import GoSem.ClaimMapViews
import Derived.JoinedTies
import Derived.KernelRfl
namespace Go.Proofs.YtckekkedjlkljaaDoor
/- THE CELL 'sum', in the pinned program and in every row, IS THE sha256 OF THE DUMP (.gsa) THAT YtckekkedjlkljaaDoorProg.lean LOADS. Nothing in Lean hashes anything: it is a label: what it is worth is what the hold of that sum in a sandbox is worth. -/
noncomputable def Tryd.pinned : Pinned := { name := "ytckekkedjlkljaadoor", sum := "f9fe2484b7308c89d312e493c6b26fdc99dca633e9d64052ed347897b67335cf", checked := Tryd.checked }
namespace Rows
def none {H : Type} : Left H := { results := [], args := [] }

/- WHAT THE LISTED PACKAGE-LEVEL VARIABLES READ AS WHEN THE CALL BEGINS. Each datum BY PROGRAM (the guide's laid-datum.mjs) off the statement by which the dump's own 'gosem.cut.vars' lays the variable. In a bare row this is a premise. The card (YtckekkedjlkljaaDoorCards.lean) ties it to the program's text. -/
def laid_coxless_bits_pieces {H : Type} : DataW H := .agg [.agg [.lit (.int .u8 1), .lit (.int .i64 26), .lit (.int .i64 6), .lit (.int .i64 0)], .agg [.lit (.int .u8 2), .lit (.int .i64 16), .lit (.int .i64 10), .lit (.int .i64 14)], .agg [.lit (.int .u8 2), .lit (.int .i64 0), .lit (.int .i64 14), .lit (.int .i64 0)], .agg [.lit (.int .u8 3), .lit (.int .i64 14), .lit (.int .i64 2), .lit (.int .i64 0)], .agg [.lit (.int .u8 4), .lit (.int .i64 16), .lit (.int .i64 16), .lit (.int .i64 14)], .agg [.lit (.int .u8 4), .lit (.int .i64 0), .lit (.int .i64 14), .lit (.int .i64 0)]]
def laid_coxless_isa_names {H : Type} : DataW H := .agg [.lit (.string []), .lit (.string [110, 111, 112]), .lit (.string [97, 100, 100]), .lit (.string [115, 117, 98]), .lit (.string [97, 110, 100]), .lit (.string [111, 114]), .lit (.string [120, 111, 114]), .lit (.string [97, 100, 100, 105]), .lit (.string [109, 111, 118, 105]), .lit (.string [109, 111, 118]), .lit (.string [99, 109, 112, 101, 113]), .lit (.string [99, 109, 112, 103, 116]), .lit (.string [99, 109, 112, 103, 116, 117]), .lit (.string [99, 109, 112, 101, 113, 105]), .lit (.string [109, 117, 120]), .lit (.string [97, 115, 108]), .lit (.string [108, 115, 114]), .lit (.string [97, 115, 114]), .lit (.string [109, 112, 121]), .lit (.string [99, 109, 112, 121]), .lit (.string [99, 109, 112, 121, 99]), .lit (.string [108, 100, 119]), .lit (.string [108, 100, 104]), .lit (.string [108, 100, 98]), .lit (.string [115, 116, 119]), .lit (.string [115, 116, 104]), .lit (.string [115, 116, 98]), .lit (.string [106, 117, 109, 112]), .lit (.string [106, 117, 109, 112, 114]), .lit (.string [99, 97, 108, 108]), .lit (.string [108, 111, 111, 112, 105]), .lit (.string [108, 111, 111, 112, 114])]
def laid_coxless_sub_rows {H : Type} : DataW H := .agg [.agg [.lit (.int .u8 1), .lit (.int .u8 8), .agg [.lit (.int .u8 1), .lit (.int .u8 0)], .lit (.int .i64 7), .lit (.int .i64 0), .lit (.bool false)], .agg [.lit (.int .u8 2), .lit (.int .u8 7), .agg [.lit (.int .u8 4), .lit (.int .u8 0)], .lit (.int .i64 7), .lit (.int .i64 0), .lit (.bool true)], .agg [.lit (.int .u8 3), .lit (.int .u8 9), .agg [.lit (.int .u8 1), .lit (.int .u8 2)], .lit (.int .i64 0), .lit (.int .i64 0), .lit (.bool false)], .agg [.lit (.int .u8 4), .lit (.int .u8 2), .agg [.lit (.int .u8 4), .lit (.int .u8 3)], .lit (.int .i64 0), .lit (.int .i64 0), .lit (.bool false)], .agg [.lit (.int .u8 5), .lit (.int .u8 21), .agg [.lit (.int .u8 1), .lit (.int .u8 2)], .lit (.int .i64 3), .lit (.int .i64 2), .lit (.bool false)], .agg [.lit (.int .u8 6), .lit (.int .u8 24), .agg [.lit (.int .u8 2), .lit (.int .u8 3)], .lit (.int .i64 3), .lit (.int .i64 2), .lit (.bool false)], .agg [.lit (.int .u8 7), .lit (.int .u8 23), .agg [.lit (.int .u8 1), .lit (.int .u8 2)], .lit (.int .i64 3), .lit (.int .i64 0), .lit (.bool false)], .agg [.lit (.int .u8 8), .lit (.int .u8 26), .agg [.lit (.int .u8 2), .lit (.int .u8 3)], .lit (.int .i64 3), .lit (.int .i64 0), .lit (.bool false)], .agg [.lit (.int .u8 9), .lit (.int .u8 13), .agg [.lit (.int .u8 2), .lit (.int .u8 0)], .lit (.int .i64 7), .lit (.int .i64 0), .lit (.bool false)]]

/-- 'coxlesslaw08.DuplexKnown': WHATEVER THE INPUT: true; the input reads as it did. -/
def duplexKnownSpec : ChangeSpec := { name := "duplexKnown", fn := fun _ => fun
  | [] => { results := [.lit (.bool true)], args := [] }
  | _ => none }
def duplexKnownRow : OpenClaim := { program := "ytckekkedjlkljaadoor", sum := "f9fe2484b7308c89d312e493c6b26fdc99dca633e9d64052ed347897b67335cf", func := "coxless/coxlesslaw08.DuplexKnown", spec := "duplexKnown", named := ["coxless/sub.rows", "coxless/isa.names", "coxless/bits.pieces"], apart := false, laid := [("coxless/bits.pieces", laid_coxless_bits_pieces), ("coxless/isa.names", laid_coxless_isa_names), ("coxless/sub.rows", laid_coxless_sub_rows)] }
def DuplexKnownSaid : Prop := duplexKnownRow.holds Tryd.pinned (OpenSpec.ofChange duplexKnownSpec)

/-- ITS FALSE NEIGHBOUR: 'it returns false'. Refute it at one input. -/
def duplexKnownWrong : ChangeSpec := { name := "duplexKnown", fn := fun _ => fun
  | [] => { results := [.lit (.bool false)], args := [] }
  | _ => none }
def DuplexKnownWrongFalsely : Prop := duplexKnownRow.holds Tryd.pinned (OpenSpec.ofChange duplexKnownWrong)

/-- 'coxlesslaw08.DuplexTells': WHATEVER THE INPUT: true; the input reads as it did. -/
def duplexTellsSpec : ChangeSpec := { name := "duplexTells", fn := fun _ => fun
  | [d1, d2, d3] => { results := [.lit (.bool true)], args := [d1, d2, d3] }
  | _ => none }
def duplexTellsRow : OpenClaim := { program := "ytckekkedjlkljaadoor", sum := "f9fe2484b7308c89d312e493c6b26fdc99dca633e9d64052ed347897b67335cf", func := "coxless/coxlesslaw08.DuplexTells", spec := "duplexTells", named := ["coxless/bits.pieces", "coxless/sub.rows", "coxless/isa.names"], apart := false, laid := [("coxless/bits.pieces", laid_coxless_bits_pieces), ("coxless/isa.names", laid_coxless_isa_names), ("coxless/sub.rows", laid_coxless_sub_rows)] }
def DuplexTellsSaid : Prop := duplexTellsRow.holds Tryd.pinned (OpenSpec.ofChange duplexTellsSpec)

/-- ITS FALSE NEIGHBOUR: 'it returns false'. Refute it at one input. -/
def duplexTellsWrong : ChangeSpec := { name := "duplexTells", fn := fun _ => fun
  | [d1, d2, d3] => { results := [.lit (.bool false)], args := [d1, d2, d3] }
  | _ => none }
def DuplexTellsWrongFalsely : Prop := duplexTellsRow.holds Tryd.pinned (OpenSpec.ofChange duplexTellsWrong)

/-- 'coxlesslaw08.DuplexBack': WHATEVER THE INPUT: true; the input reads as it did. -/
def duplexBackSpec : ChangeSpec := { name := "duplexBack", fn := fun _ => fun
  | [d1, d2] => { results := [.lit (.bool true)], args := [d1, d2] }
  | _ => none }
def duplexBackRow : OpenClaim := { program := "ytckekkedjlkljaadoor", sum := "f9fe2484b7308c89d312e493c6b26fdc99dca633e9d64052ed347897b67335cf", func := "coxless/coxlesslaw08.DuplexBack", spec := "duplexBack", named := ["coxless/sub.rows", "coxless/isa.names", "coxless/bits.pieces"], apart := false, laid := [("coxless/bits.pieces", laid_coxless_bits_pieces), ("coxless/isa.names", laid_coxless_isa_names), ("coxless/sub.rows", laid_coxless_sub_rows)] }
def DuplexBackSaid : Prop := duplexBackRow.holds Tryd.pinned (OpenSpec.ofChange duplexBackSpec)

/-- ITS FALSE NEIGHBOUR: 'it returns false'. Refute it at one input. -/
def duplexBackWrong : ChangeSpec := { name := "duplexBack", fn := fun _ => fun
  | [d1, d2] => { results := [.lit (.bool false)], args := [d1, d2] }
  | _ => none }
def DuplexBackWrongFalsely : Prop := duplexBackRow.holds Tryd.pinned (OpenSpec.ofChange duplexBackWrong)

/-- 'coxlesslaw08.DuplexForms': WHATEVER THE INPUT: true; the input reads as it did. -/
def duplexFormsSpec : ChangeSpec := { name := "duplexForms", fn := fun _ => fun
  | [d] => { results := [.lit (.bool true)], args := [d] }
  | _ => none }
def duplexFormsRow : OpenClaim := { program := "ytckekkedjlkljaadoor", sum := "f9fe2484b7308c89d312e493c6b26fdc99dca633e9d64052ed347897b67335cf", func := "coxless/coxlesslaw08.DuplexForms", spec := "duplexForms", named := ["coxless/bits.pieces", "coxless/sub.rows", "coxless/isa.names"], apart := false, laid := [("coxless/bits.pieces", laid_coxless_bits_pieces), ("coxless/isa.names", laid_coxless_isa_names), ("coxless/sub.rows", laid_coxless_sub_rows)] }
def DuplexFormsSaid : Prop := duplexFormsRow.holds Tryd.pinned (OpenSpec.ofChange duplexFormsSpec)

/-- ITS FALSE NEIGHBOUR: 'it returns false'. Refute it at one input. -/
def duplexFormsWrong : ChangeSpec := { name := "duplexForms", fn := fun _ => fun
  | [d] => { results := [.lit (.bool false)], args := [d] }
  | _ => none }
def DuplexFormsWrongFalsely : Prop := duplexFormsRow.holds Tryd.pinned (OpenSpec.ofChange duplexFormsWrong)

/- THE SECOND FORM. 'bulk': how many values and letters a reading holds, each counted each time it is reached (what is shared counts as often as it is met; a slice's spare places count too). A statement '..UptoSaid' is the law's where the arguments, and the package variables that the reading takes, are together of bulk at most 1048576: NARROWER than '..Said'. Prove '..Said' where nothing that the law and all that it calls make is longer than what came in: it says more and counts as full. Else prove '..UptoSaid'. A law counts once. -/
mutual
def uptoBulk {H : Type} : DataW H → Nat
  | .lit (.string bytes) => bytes.length + 1
  | .lit _ => 1
  | .nil => 1
  | .ptr d => uptoBulk d + 1
  | .slice elems spare => uptoBulkAll elems + uptoBulkAll spare + 1
  | .agg parts => uptoBulkAll parts + 1
  | .iface _ d => uptoBulk d + 1
  | .map entries => uptoBulkEntries entries + 1
  | .held _ => 1
def uptoBulkAll {H : Type} : List (DataW H) → Nat
  | [] => 0
  | d :: r => uptoBulk d + uptoBulkAll r
def uptoBulkEntries {H : Type} : List (Lit × DataW H) → Nat
  | [] => 0
  | x :: r => uptoBulkEntry x + uptoBulkEntries r
def uptoBulkEntry {H : Type} : Lit × DataW H → Nat
  | (.string bytes, d) => bytes.length + uptoBulk d + 1
  | (_, d) => uptoBulk d + 1
 end
def uptoSmall : (H : Type) → List (DataW H) → Bool := fun _ ds => decide (uptoBulkAll ds ≤ 1048576)
def OpenSpec.upto (s : _root_.Go.ChangeSpec) : _root_.Go.OpenSpec := { _root_.Go.OpenSpec.ofChange s with cond := some uptoSmall }

/-- 'coxlesslaw08.DuplexKnown', WHERE WHAT IT READS IS OF BULK AT MOST 1048576: true; the input reads as it did. -/
def duplexKnownUptoRow : OpenClaim := { program := "ytckekkedjlkljaadoor", sum := "f9fe2484b7308c89d312e493c6b26fdc99dca633e9d64052ed347897b67335cf", func := "coxless/coxlesslaw08.DuplexKnown", spec := "duplexKnown", named := ["coxless/sub.rows", "coxless/isa.names", "coxless/bits.pieces"], apart := false, laid := [("coxless/bits.pieces", laid_coxless_bits_pieces), ("coxless/isa.names", laid_coxless_isa_names), ("coxless/sub.rows", laid_coxless_sub_rows)], narrowed := true }
def DuplexKnownUptoSaid : Prop := duplexKnownUptoRow.holds Tryd.pinned (OpenSpec.upto duplexKnownSpec)

/-- 'coxlesslaw08.DuplexTells', WHERE WHAT IT READS IS OF BULK AT MOST 1048576: true; the input reads as it did. -/
def duplexTellsUptoRow : OpenClaim := { program := "ytckekkedjlkljaadoor", sum := "f9fe2484b7308c89d312e493c6b26fdc99dca633e9d64052ed347897b67335cf", func := "coxless/coxlesslaw08.DuplexTells", spec := "duplexTells", named := ["coxless/bits.pieces", "coxless/sub.rows", "coxless/isa.names"], apart := false, laid := [("coxless/bits.pieces", laid_coxless_bits_pieces), ("coxless/isa.names", laid_coxless_isa_names), ("coxless/sub.rows", laid_coxless_sub_rows)], narrowed := true }
def DuplexTellsUptoSaid : Prop := duplexTellsUptoRow.holds Tryd.pinned (OpenSpec.upto duplexTellsSpec)

/-- 'coxlesslaw08.DuplexBack', WHERE WHAT IT READS IS OF BULK AT MOST 1048576: true; the input reads as it did. -/
def duplexBackUptoRow : OpenClaim := { program := "ytckekkedjlkljaadoor", sum := "f9fe2484b7308c89d312e493c6b26fdc99dca633e9d64052ed347897b67335cf", func := "coxless/coxlesslaw08.DuplexBack", spec := "duplexBack", named := ["coxless/sub.rows", "coxless/isa.names", "coxless/bits.pieces"], apart := false, laid := [("coxless/bits.pieces", laid_coxless_bits_pieces), ("coxless/isa.names", laid_coxless_isa_names), ("coxless/sub.rows", laid_coxless_sub_rows)], narrowed := true }
def DuplexBackUptoSaid : Prop := duplexBackUptoRow.holds Tryd.pinned (OpenSpec.upto duplexBackSpec)

/-- 'coxlesslaw08.DuplexForms', WHERE WHAT IT READS IS OF BULK AT MOST 1048576: true; the input reads as it did. -/
def duplexFormsUptoRow : OpenClaim := { program := "ytckekkedjlkljaadoor", sum := "f9fe2484b7308c89d312e493c6b26fdc99dca633e9d64052ed347897b67335cf", func := "coxless/coxlesslaw08.DuplexForms", spec := "duplexForms", named := ["coxless/bits.pieces", "coxless/sub.rows", "coxless/isa.names"], apart := false, laid := [("coxless/bits.pieces", laid_coxless_bits_pieces), ("coxless/isa.names", laid_coxless_isa_names), ("coxless/sub.rows", laid_coxless_sub_rows)], narrowed := true }
def DuplexFormsUptoSaid : Prop := duplexFormsUptoRow.holds Tryd.pinned (OpenSpec.upto duplexFormsSpec)

end Rows
end Go.Proofs.YtckekkedjlkljaaDoor
