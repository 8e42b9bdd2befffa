/-
  DERIVED. GIVEN WITH THE SEED: THE CARDS: each row of YtaieiaopdbhjaaaGreatDoorRows.lean that lists a variable, with what it lists TIED to the program's text (the seventh form; the later family's looks); each row that meets fmt, with fmt's text TOLD by the authors' own Lean function (tested against real Go, not proved from fmt's source: count such statements apart). THE CARD IS WHAT COUNTS. Prove the row's statement (the work); the ties are given (YtaieiaopdbhjaaaGreatDoorTie.lean); close each card by the builder's one call (the guide's Derived/Test/ToyasCard.lean, 'card_holds'). Laid BY PROGRAM, IN A SANDBOX (cutbox-door.mjs). By AI agents, Wed Nov 11 2026. No macro, syntax, notation, axiom, sorry.
-/
import Derived.Test.YtaieiaopdbhjaaaGreatDoorRows
import GoSem.ClaimSeven
namespace Go.Proofs.YtaieiaopdbhjaaaGreatDoor
namespace Rows

/-- THE TIED CARD OF 'coxlesslaw11.LegalTells'. -/
def legalTellsCard : Claim7 := { stood := { row := legalTellsRow, standIns := [], harness := (true, "fc1162d24c0eda2b2d3281d90db4e610551df7d944eaed26baa83425a83de968"), looks := false }, kinds := [], alts := [], laidByText := true, laidKinds := [.data, .data, .data], laidTests := true, laidLooks := .later }
def LegalTellsCardSaid : Prop := Claim7.holds Tryz.pinned (.plain (OpenSpec.ofChange legalTellsSpec)) legalTellsCard

/-- THE SECOND FORM's CARD OF 'coxlesslaw11.LegalTells'. -/
def legalTellsUptoCard : Claim7 := { stood := { row := legalTellsUptoRow, standIns := [], harness := (true, "fc1162d24c0eda2b2d3281d90db4e610551df7d944eaed26baa83425a83de968"), looks := false }, kinds := [], alts := [], laidByText := true, laidKinds := [.data, .data, .data], laidTests := true, laidLooks := .later }
def LegalTellsUptoCardSaid : Prop := Claim7.holds Tryz.pinned (.plain (OpenSpec.upto legalTellsSpec)) legalTellsUptoCard
end Rows
end Go.Proofs.YtaieiaopdbhjaaaGreatDoor
