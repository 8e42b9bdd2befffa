/-
  DERIVED. GIVEN WITH THE SEED: THE CARDS: each row of YtdaildmoodfocaaDoorRows.lean that lists a variable, with what it lists TIED to the program's text (the seventh form; the later family's looks); each row that meets fmt, with fmt's text TOLD by the authors' own Lean function (tested against real Go, not proved from fmt's source: count such statements apart). THE CARD IS WHAT COUNTS. Prove the row's statement (the work); the ties are given (YtdaildmoodfocaaDoorTie.lean); close each card by the builder's one call (the guide's Derived/Test/ToyasCard.lean, 'card_holds'). Laid BY PROGRAM, IN A SANDBOX (cutbox-door.mjs). By AI agents, Wed Nov 11 2026. No macro, syntax, notation, axiom, sorry.
-/
import Derived.Test.YtdaildmoodfocaaDoorRows
import GoSem.ClaimSeven
namespace Go.Proofs.YtdaildmoodfocaaDoor
namespace Rows

/-- THE TIED CARD OF 'coxlesslaw10.RulesKnown'. -/
def rulesKnownCard : Claim7 := { stood := { row := rulesKnownRow, standIns := [], harness := (true, "60803f5f0b546aafa6f19c5529cb8c1612b667d216b44fc7e4884d751fad52fb"), looks := false }, kinds := [], alts := [], laidByText := true, laidKinds := [.data], laidTests := true, laidLooks := .later }
def RulesKnownCardSaid : Prop := Claim7.holds Tryd.pinned (.plain (OpenSpec.ofChange rulesKnownSpec)) rulesKnownCard

/-- THE TIED CARD OF 'coxlesslaw10.RulesTells'. -/
def rulesTellsCard : Claim7 := { stood := { row := rulesTellsRow, standIns := [], harness := (true, "60803f5f0b546aafa6f19c5529cb8c1612b667d216b44fc7e4884d751fad52fb"), looks := false }, kinds := [], alts := [], laidByText := true, laidKinds := [.data], laidTests := true, laidLooks := .later }
def RulesTellsCardSaid : Prop := Claim7.holds Tryd.pinned (.plain (OpenSpec.ofChange rulesTellsSpec)) rulesTellsCard

/-- THE TIED CARD OF 'coxlesslaw10.RulesDue'. -/
def rulesDueCard : Claim7 := { stood := { row := rulesDueRow, standIns := [], harness := (true, "60803f5f0b546aafa6f19c5529cb8c1612b667d216b44fc7e4884d751fad52fb"), looks := false }, kinds := [], alts := [], laidByText := true, laidKinds := [.data], laidTests := true, laidLooks := .later }
def RulesDueCardSaid : Prop := Claim7.holds Tryd.pinned (.plain (OpenSpec.ofChange rulesDueSpec)) rulesDueCard

/-- THE TIED CARD OF 'coxlesslaw10.RulesRow'. -/
def rulesRowCard : Claim7 := { stood := { row := rulesRowRow, standIns := [], harness := (true, "60803f5f0b546aafa6f19c5529cb8c1612b667d216b44fc7e4884d751fad52fb"), looks := false }, kinds := [], alts := [], laidByText := true, laidKinds := [.data], laidTests := true, laidLooks := .later }
def RulesRowCardSaid : Prop := Claim7.holds Tryd.pinned (.plain (OpenSpec.ofChange rulesRowSpec)) rulesRowCard

/-- THE TIED CARD OF 'coxlesslaw10.RulesLess'. -/
def rulesLessCard : Claim7 := { stood := { row := rulesLessRow, standIns := [], harness := (true, "60803f5f0b546aafa6f19c5529cb8c1612b667d216b44fc7e4884d751fad52fb"), looks := false }, kinds := [], alts := [], laidByText := true, laidKinds := [.data], laidTests := true, laidLooks := .later }
def RulesLessCardSaid : Prop := Claim7.holds Tryd.pinned (.plain (OpenSpec.ofChange rulesLessSpec)) rulesLessCard

/-- THE SECOND FORM's CARD OF 'coxlesslaw10.RulesKnown'. -/
def rulesKnownUptoCard : Claim7 := { stood := { row := rulesKnownUptoRow, standIns := [], harness := (true, "60803f5f0b546aafa6f19c5529cb8c1612b667d216b44fc7e4884d751fad52fb"), looks := false }, kinds := [], alts := [], laidByText := true, laidKinds := [.data], laidTests := true, laidLooks := .later }
def RulesKnownUptoCardSaid : Prop := Claim7.holds Tryd.pinned (.plain (OpenSpec.upto rulesKnownSpec)) rulesKnownUptoCard

/-- THE SECOND FORM's CARD OF 'coxlesslaw10.RulesTells'. -/
def rulesTellsUptoCard : Claim7 := { stood := { row := rulesTellsUptoRow, standIns := [], harness := (true, "60803f5f0b546aafa6f19c5529cb8c1612b667d216b44fc7e4884d751fad52fb"), looks := false }, kinds := [], alts := [], laidByText := true, laidKinds := [.data], laidTests := true, laidLooks := .later }
def RulesTellsUptoCardSaid : Prop := Claim7.holds Tryd.pinned (.plain (OpenSpec.upto rulesTellsSpec)) rulesTellsUptoCard

/-- THE SECOND FORM's CARD OF 'coxlesslaw10.RulesDue'. -/
def rulesDueUptoCard : Claim7 := { stood := { row := rulesDueUptoRow, standIns := [], harness := (true, "60803f5f0b546aafa6f19c5529cb8c1612b667d216b44fc7e4884d751fad52fb"), looks := false }, kinds := [], alts := [], laidByText := true, laidKinds := [.data], laidTests := true, laidLooks := .later }
def RulesDueUptoCardSaid : Prop := Claim7.holds Tryd.pinned (.plain (OpenSpec.upto rulesDueSpec)) rulesDueUptoCard

/-- THE SECOND FORM's CARD OF 'coxlesslaw10.RulesRow'. -/
def rulesRowUptoCard : Claim7 := { stood := { row := rulesRowUptoRow, standIns := [], harness := (true, "60803f5f0b546aafa6f19c5529cb8c1612b667d216b44fc7e4884d751fad52fb"), looks := false }, kinds := [], alts := [], laidByText := true, laidKinds := [.data], laidTests := true, laidLooks := .later }
def RulesRowUptoCardSaid : Prop := Claim7.holds Tryd.pinned (.plain (OpenSpec.upto rulesRowSpec)) rulesRowUptoCard

/-- THE SECOND FORM's CARD OF 'coxlesslaw10.RulesLess'. -/
def rulesLessUptoCard : Claim7 := { stood := { row := rulesLessUptoRow, standIns := [], harness := (true, "60803f5f0b546aafa6f19c5529cb8c1612b667d216b44fc7e4884d751fad52fb"), looks := false }, kinds := [], alts := [], laidByText := true, laidKinds := [.data], laidTests := true, laidLooks := .later }
def RulesLessUptoCardSaid : Prop := Claim7.holds Tryd.pinned (.plain (OpenSpec.upto rulesLessSpec)) rulesLessUptoCard
end Rows
end Go.Proofs.YtdaildmoodfocaaDoor
