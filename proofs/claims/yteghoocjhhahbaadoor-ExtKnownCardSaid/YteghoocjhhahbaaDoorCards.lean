/-
  DERIVED. GIVEN WITH THE SEED: THE CARDS: each row of YteghoocjhhahbaaDoorRows.lean that lists a variable, with what it lists TIED to the program's text (the seventh form; the later family's looks); each row that meets fmt, with fmt's text TOLD by the authors' own Lean function (tested against real Go, not proved from fmt's source: count such statements apart). THE CARD IS WHAT COUNTS. Prove the row's statement (the work); the ties are given (YteghoocjhhahbaaDoorTie.lean); close each card by the builder's one call (the guide's Derived/Test/ToyasCard.lean, 'card_holds'). Laid BY PROGRAM, IN A SANDBOX (cutbox-door.mjs). By AI agents, Wed Nov 11 2026. No macro, syntax, notation, axiom, sorry.
-/
import Derived.Test.YteghoocjhhahbaaDoorRows
import GoSem.ClaimSeven
namespace Go.Proofs.YteghoocjhhahbaaDoor
namespace Rows

/-- THE TIED CARD OF 'coxlesslaw05.ExtTells'. -/
def extTellsCard : Claim7 := { stood := { row := extTellsRow, standIns := [], harness := (true, "32c6a71a14e641d28fad4877a974410cf0375b78b7e13fcab07178019b37ec61"), looks := false }, kinds := [], alts := [], laidByText := true, laidKinds := [.data], laidTests := true, laidLooks := .later }
def ExtTellsCardSaid : Prop := Claim7.holds Tryd.pinned (.plain (OpenSpec.ofChange extTellsSpec)) extTellsCard

/-- THE TIED CARD OF 'coxlesslaw05.ExtParts'. -/
def extPartsCard : Claim7 := { stood := { row := extPartsRow, standIns := [], harness := (true, "32c6a71a14e641d28fad4877a974410cf0375b78b7e13fcab07178019b37ec61"), looks := false }, kinds := [], alts := [], laidByText := true, laidKinds := [.data], laidTests := true, laidLooks := .later }
def ExtPartsCardSaid : Prop := Claim7.holds Tryd.pinned (.plain (OpenSpec.ofChange extPartsSpec)) extPartsCard

/-- THE TIED CARD OF 'coxlesslaw05.ExtKnown'. -/
def extKnownCard : Claim7 := { stood := { row := extKnownRow, standIns := [], harness := (true, "32c6a71a14e641d28fad4877a974410cf0375b78b7e13fcab07178019b37ec61"), looks := false }, kinds := [], alts := [], laidByText := true, laidKinds := [.data], laidTests := true, laidLooks := .later }
def ExtKnownCardSaid : Prop := Claim7.holds Tryd.pinned (.plain (OpenSpec.ofChange extKnownSpec)) extKnownCard

/-- THE TIED CARD OF 'coxlesslaw05.ExtBack'. -/
def extBackCard : Claim7 := { stood := { row := extBackRow, standIns := [], harness := (true, "32c6a71a14e641d28fad4877a974410cf0375b78b7e13fcab07178019b37ec61"), looks := false }, kinds := [], alts := [], laidByText := true, laidKinds := [.data], laidTests := true, laidLooks := .later }
def ExtBackCardSaid : Prop := Claim7.holds Tryd.pinned (.plain (OpenSpec.ofChange extBackSpec)) extBackCard

/-- THE TIED CARD OF 'coxlesslaw05.ExtMoves'. -/
def extMovesCard : Claim7 := { stood := { row := extMovesRow, standIns := [], harness := (true, "32c6a71a14e641d28fad4877a974410cf0375b78b7e13fcab07178019b37ec61"), looks := false }, kinds := [], alts := [], laidByText := true, laidKinds := [.data], laidTests := true, laidLooks := .later }
def ExtMovesCardSaid : Prop := Claim7.holds Tryd.pinned (.plain (OpenSpec.ofChange extMovesSpec)) extMovesCard

/-- THE SECOND FORM's CARD OF 'coxlesslaw05.ExtTells'. -/
def extTellsUptoCard : Claim7 := { stood := { row := extTellsUptoRow, standIns := [], harness := (true, "32c6a71a14e641d28fad4877a974410cf0375b78b7e13fcab07178019b37ec61"), looks := false }, kinds := [], alts := [], laidByText := true, laidKinds := [.data], laidTests := true, laidLooks := .later }
def ExtTellsUptoCardSaid : Prop := Claim7.holds Tryd.pinned (.plain (OpenSpec.upto extTellsSpec)) extTellsUptoCard

/-- THE SECOND FORM's CARD OF 'coxlesslaw05.ExtParts'. -/
def extPartsUptoCard : Claim7 := { stood := { row := extPartsUptoRow, standIns := [], harness := (true, "32c6a71a14e641d28fad4877a974410cf0375b78b7e13fcab07178019b37ec61"), looks := false }, kinds := [], alts := [], laidByText := true, laidKinds := [.data], laidTests := true, laidLooks := .later }
def ExtPartsUptoCardSaid : Prop := Claim7.holds Tryd.pinned (.plain (OpenSpec.upto extPartsSpec)) extPartsUptoCard

/-- THE SECOND FORM's CARD OF 'coxlesslaw05.ExtKnown'. -/
def extKnownUptoCard : Claim7 := { stood := { row := extKnownUptoRow, standIns := [], harness := (true, "32c6a71a14e641d28fad4877a974410cf0375b78b7e13fcab07178019b37ec61"), looks := false }, kinds := [], alts := [], laidByText := true, laidKinds := [.data], laidTests := true, laidLooks := .later }
def ExtKnownUptoCardSaid : Prop := Claim7.holds Tryd.pinned (.plain (OpenSpec.upto extKnownSpec)) extKnownUptoCard

/-- THE SECOND FORM's CARD OF 'coxlesslaw05.ExtBack'. -/
def extBackUptoCard : Claim7 := { stood := { row := extBackUptoRow, standIns := [], harness := (true, "32c6a71a14e641d28fad4877a974410cf0375b78b7e13fcab07178019b37ec61"), looks := false }, kinds := [], alts := [], laidByText := true, laidKinds := [.data], laidTests := true, laidLooks := .later }
def ExtBackUptoCardSaid : Prop := Claim7.holds Tryd.pinned (.plain (OpenSpec.upto extBackSpec)) extBackUptoCard

/-- THE SECOND FORM's CARD OF 'coxlesslaw05.ExtMoves'. -/
def extMovesUptoCard : Claim7 := { stood := { row := extMovesUptoRow, standIns := [], harness := (true, "32c6a71a14e641d28fad4877a974410cf0375b78b7e13fcab07178019b37ec61"), looks := false }, kinds := [], alts := [], laidByText := true, laidKinds := [.data], laidTests := true, laidLooks := .later }
def ExtMovesUptoCardSaid : Prop := Claim7.holds Tryd.pinned (.plain (OpenSpec.upto extMovesSpec)) extMovesUptoCard
end Rows
end Go.Proofs.YteghoocjhhahbaaDoor
