/-
  DERIVED. GIVEN WITH THE SEED: THE CARDS: each row of YtlegoaecmkflhaaDoorRows.lean that lists a variable, with what it lists TIED to the program's text (the seventh form; the later family's looks); each row that meets fmt, with fmt's text TOLD by the authors' own Lean function (tested against real Go, not proved from fmt's source: count such statements apart). THE CARD IS WHAT COUNTS. Prove the row's statement (the work); the ties are given (YtlegoaecmkflhaaDoorTie.lean); close each card by the builder's one call (the guide's Derived/Test/ToyasCard.lean, 'card_holds'). Laid BY PROGRAM, IN A SANDBOX (cutbox-door.mjs). By AI agents, Wed Nov 11 2026. No macro, syntax, notation, axiom, sorry.
-/
import Derived.Test.YtlegoaecmkflhaaDoorRows
import GoSem.ClaimSeven
namespace Go.Proofs.YtlegoaecmkflhaaDoor
namespace Rows

/-- THE TIED CARD OF 'coxlesslaw07.SubKnown'. -/
def subKnownCard : Claim7 := { stood := { row := subKnownRow, standIns := [], harness := (true, "fc8f357295b961d0fc667d973fab0b79e29c50e28b50a914bf98481545869009"), looks := false }, kinds := [], alts := [], laidByText := true, laidKinds := [.data], laidTests := true, laidLooks := .later }
def SubKnownCardSaid : Prop := Claim7.holds Tryd.pinned (.plain (OpenSpec.ofChange subKnownSpec)) subKnownCard

/-- THE TIED CARD OF 'coxlesslaw07.SubTells'. -/
def subTellsCard : Claim7 := { stood := { row := subTellsRow, standIns := [], harness := (true, "fc8f357295b961d0fc667d973fab0b79e29c50e28b50a914bf98481545869009"), looks := false }, kinds := [], alts := [], laidByText := true, laidKinds := [.data], laidTests := true, laidLooks := .later }
def SubTellsCardSaid : Prop := Claim7.holds Tryd.pinned (.plain (OpenSpec.ofChange subTellsSpec)) subTellsCard

/-- THE TIED CARD OF 'coxlesslaw07.SubBack'. -/
def subBackCard : Claim7 := { stood := { row := subBackRow, standIns := [], harness := (true, "fc8f357295b961d0fc667d973fab0b79e29c50e28b50a914bf98481545869009"), looks := false }, kinds := [], alts := [], laidByText := true, laidKinds := [.data, .data], laidTests := true, laidLooks := .later }
def SubBackCardSaid : Prop := Claim7.holds Tryd.pinned (.plain (OpenSpec.ofChange subBackSpec)) subBackCard

/-- THE TIED CARD OF 'coxlesslaw07.SubAll'. -/
def subAllCard : Claim7 := { stood := { row := subAllRow, standIns := [], harness := (true, "fc8f357295b961d0fc667d973fab0b79e29c50e28b50a914bf98481545869009"), looks := false }, kinds := [], alts := [], laidByText := true, laidKinds := [.data], laidTests := true, laidLooks := .later }
def SubAllCardSaid : Prop := Claim7.holds Tryd.pinned (.plain (OpenSpec.ofChange subAllSpec)) subAllCard

/-- THE SECOND FORM's CARD OF 'coxlesslaw07.SubKnown'. -/
def subKnownUptoCard : Claim7 := { stood := { row := subKnownUptoRow, standIns := [], harness := (true, "fc8f357295b961d0fc667d973fab0b79e29c50e28b50a914bf98481545869009"), looks := false }, kinds := [], alts := [], laidByText := true, laidKinds := [.data], laidTests := true, laidLooks := .later }
def SubKnownUptoCardSaid : Prop := Claim7.holds Tryd.pinned (.plain (OpenSpec.upto subKnownSpec)) subKnownUptoCard

/-- THE SECOND FORM's CARD OF 'coxlesslaw07.SubTells'. -/
def subTellsUptoCard : Claim7 := { stood := { row := subTellsUptoRow, standIns := [], harness := (true, "fc8f357295b961d0fc667d973fab0b79e29c50e28b50a914bf98481545869009"), looks := false }, kinds := [], alts := [], laidByText := true, laidKinds := [.data], laidTests := true, laidLooks := .later }
def SubTellsUptoCardSaid : Prop := Claim7.holds Tryd.pinned (.plain (OpenSpec.upto subTellsSpec)) subTellsUptoCard

/-- THE SECOND FORM's CARD OF 'coxlesslaw07.SubBack'. -/
def subBackUptoCard : Claim7 := { stood := { row := subBackUptoRow, standIns := [], harness := (true, "fc8f357295b961d0fc667d973fab0b79e29c50e28b50a914bf98481545869009"), looks := false }, kinds := [], alts := [], laidByText := true, laidKinds := [.data, .data], laidTests := true, laidLooks := .later }
def SubBackUptoCardSaid : Prop := Claim7.holds Tryd.pinned (.plain (OpenSpec.upto subBackSpec)) subBackUptoCard

/-- THE SECOND FORM's CARD OF 'coxlesslaw07.SubAll'. -/
def subAllUptoCard : Claim7 := { stood := { row := subAllUptoRow, standIns := [], harness := (true, "fc8f357295b961d0fc667d973fab0b79e29c50e28b50a914bf98481545869009"), looks := false }, kinds := [], alts := [], laidByText := true, laidKinds := [.data], laidTests := true, laidLooks := .later }
def SubAllUptoCardSaid : Prop := Claim7.holds Tryd.pinned (.plain (OpenSpec.upto subAllSpec)) subAllUptoCard
end Rows
end Go.Proofs.YtlegoaecmkflhaaDoor
