/-
  DERIVED. GIVEN WITH THE SEED: THE CARDS: each row of YtckekkedjlkljaaDoorRows.lean that lists a variable, with what it lists TIED to the program's text (the seventh form; the later family's looks); each row that meets fmt, with fmt's text TOLD by the authors' own Lean function (tested against real Go, not proved from fmt's source: count such statements apart). THE CARD IS WHAT COUNTS. Prove the row's statement (the work); the ties are given (YtckekkedjlkljaaDoorTie.lean); close each card by the builder's one call (the guide's Derived/Test/ToyasCard.lean, 'card_holds'). Laid BY PROGRAM, IN A SANDBOX (cutbox-door.mjs). By AI agents, Wed Nov 11 2026. No macro, syntax, notation, axiom, sorry.
-/
import Derived.Test.YtckekkedjlkljaaDoorRows
import GoSem.ClaimSeven
namespace Go.Proofs.YtckekkedjlkljaaDoor
namespace Rows

/-- THE TIED CARD OF 'coxlesslaw08.DuplexKnown'. -/
def duplexKnownCard : Claim7 := { stood := { row := duplexKnownRow, standIns := [], harness := (true, "57454c8b06575e6614b57693379f7c55308fc6bacc22b0815093c20f12a9673d"), looks := false }, kinds := [], alts := [], laidByText := true, laidKinds := [.data, .data, .data], laidTests := true, laidLooks := .later }
def DuplexKnownCardSaid : Prop := Claim7.holds Tryd.pinned (.plain (OpenSpec.ofChange duplexKnownSpec)) duplexKnownCard

/-- THE TIED CARD OF 'coxlesslaw08.DuplexTells'. -/
def duplexTellsCard : Claim7 := { stood := { row := duplexTellsRow, standIns := [], harness := (true, "57454c8b06575e6614b57693379f7c55308fc6bacc22b0815093c20f12a9673d"), looks := false }, kinds := [], alts := [], laidByText := true, laidKinds := [.data, .data, .data], laidTests := true, laidLooks := .later }
def DuplexTellsCardSaid : Prop := Claim7.holds Tryd.pinned (.plain (OpenSpec.ofChange duplexTellsSpec)) duplexTellsCard

/-- THE TIED CARD OF 'coxlesslaw08.DuplexBack'. -/
def duplexBackCard : Claim7 := { stood := { row := duplexBackRow, standIns := [], harness := (true, "57454c8b06575e6614b57693379f7c55308fc6bacc22b0815093c20f12a9673d"), looks := false }, kinds := [], alts := [], laidByText := true, laidKinds := [.data, .data, .data], laidTests := true, laidLooks := .later }
def DuplexBackCardSaid : Prop := Claim7.holds Tryd.pinned (.plain (OpenSpec.ofChange duplexBackSpec)) duplexBackCard

/-- THE TIED CARD OF 'coxlesslaw08.DuplexForms'. -/
def duplexFormsCard : Claim7 := { stood := { row := duplexFormsRow, standIns := [], harness := (true, "57454c8b06575e6614b57693379f7c55308fc6bacc22b0815093c20f12a9673d"), looks := false }, kinds := [], alts := [], laidByText := true, laidKinds := [.data, .data, .data], laidTests := true, laidLooks := .later }
def DuplexFormsCardSaid : Prop := Claim7.holds Tryd.pinned (.plain (OpenSpec.ofChange duplexFormsSpec)) duplexFormsCard

/-- THE SECOND FORM's CARD OF 'coxlesslaw08.DuplexKnown'. -/
def duplexKnownUptoCard : Claim7 := { stood := { row := duplexKnownUptoRow, standIns := [], harness := (true, "57454c8b06575e6614b57693379f7c55308fc6bacc22b0815093c20f12a9673d"), looks := false }, kinds := [], alts := [], laidByText := true, laidKinds := [.data, .data, .data], laidTests := true, laidLooks := .later }
def DuplexKnownUptoCardSaid : Prop := Claim7.holds Tryd.pinned (.plain (OpenSpec.upto duplexKnownSpec)) duplexKnownUptoCard

/-- THE SECOND FORM's CARD OF 'coxlesslaw08.DuplexTells'. -/
def duplexTellsUptoCard : Claim7 := { stood := { row := duplexTellsUptoRow, standIns := [], harness := (true, "57454c8b06575e6614b57693379f7c55308fc6bacc22b0815093c20f12a9673d"), looks := false }, kinds := [], alts := [], laidByText := true, laidKinds := [.data, .data, .data], laidTests := true, laidLooks := .later }
def DuplexTellsUptoCardSaid : Prop := Claim7.holds Tryd.pinned (.plain (OpenSpec.upto duplexTellsSpec)) duplexTellsUptoCard

/-- THE SECOND FORM's CARD OF 'coxlesslaw08.DuplexBack'. -/
def duplexBackUptoCard : Claim7 := { stood := { row := duplexBackUptoRow, standIns := [], harness := (true, "57454c8b06575e6614b57693379f7c55308fc6bacc22b0815093c20f12a9673d"), looks := false }, kinds := [], alts := [], laidByText := true, laidKinds := [.data, .data, .data], laidTests := true, laidLooks := .later }
def DuplexBackUptoCardSaid : Prop := Claim7.holds Tryd.pinned (.plain (OpenSpec.upto duplexBackSpec)) duplexBackUptoCard

/-- THE SECOND FORM's CARD OF 'coxlesslaw08.DuplexForms'. -/
def duplexFormsUptoCard : Claim7 := { stood := { row := duplexFormsUptoRow, standIns := [], harness := (true, "57454c8b06575e6614b57693379f7c55308fc6bacc22b0815093c20f12a9673d"), looks := false }, kinds := [], alts := [], laidByText := true, laidKinds := [.data, .data, .data], laidTests := true, laidLooks := .later }
def DuplexFormsUptoCardSaid : Prop := Claim7.holds Tryd.pinned (.plain (OpenSpec.upto duplexFormsSpec)) duplexFormsUptoCard
end Rows
end Go.Proofs.YtckekkedjlkljaaDoor
