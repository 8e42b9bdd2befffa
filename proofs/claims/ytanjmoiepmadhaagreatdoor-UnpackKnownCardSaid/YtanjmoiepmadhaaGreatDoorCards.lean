/-
  DERIVED. GIVEN WITH THE SEED: THE CARDS: each row of YtanjmoiepmadhaaGreatDoorRows.lean that lists a variable, with what it lists TIED to the program's text (the seventh form; the later family's looks); each row that meets fmt, with fmt's text TOLD by the authors' own Lean function (tested against real Go, not proved from fmt's source: count such statements apart). THE CARD IS WHAT COUNTS. Prove the row's statement (the work); the ties are given (YtanjmoiepmadhaaGreatDoorTie.lean); close each card by the builder's one call (the guide's Derived/Test/ToyasCard.lean, 'card_holds'). Laid BY PROGRAM, IN A SANDBOX (cutbox-door.mjs). By AI agents, Wed Nov 11 2026. No macro, syntax, notation, axiom, sorry.
-/
import Derived.Test.YtanjmoiepmadhaaGreatDoorRows
import GoSem.ClaimSeven
namespace Go.Proofs.YtanjmoiepmadhaaGreatDoor
namespace Rows

/-- THE TIED CARD OF 'coxlesslaw13.UnpackReads'. -/
def unpackReadsCard : Claim7 := { stood := { row := unpackReadsRow, standIns := [], harness := (true, "9a1f6627376b3e8716fabbb764e893196e448389fc27c26e1845d50001bddc33"), looks := false }, kinds := [], alts := [], laidByText := true, laidKinds := [.data, .data, .data], laidTests := true, laidLooks := .later }
def UnpackReadsCardSaid : Prop := Claim7.holds Tryz.pinned (.plain (OpenSpec.ofChange unpackReadsSpec)) unpackReadsCard

/-- THE TIED CARD OF 'coxlesslaw13.UnpackKnown'. -/
def unpackKnownCard : Claim7 := { stood := { row := unpackKnownRow, standIns := [], harness := (true, "9a1f6627376b3e8716fabbb764e893196e448389fc27c26e1845d50001bddc33"), looks := false }, kinds := [], alts := [], laidByText := true, laidKinds := [.data, .data, .data], laidTests := true, laidLooks := .later }
def UnpackKnownCardSaid : Prop := Claim7.holds Tryz.pinned (.plain (OpenSpec.ofChange unpackKnownSpec)) unpackKnownCard

/-- THE TIED CARD OF 'coxlesslaw13.UnpackBack'. -/
def unpackBackCard : Claim7 := { stood := { row := unpackBackRow, standIns := [], harness := (true, "9a1f6627376b3e8716fabbb764e893196e448389fc27c26e1845d50001bddc33"), looks := false }, kinds := [], alts := [], laidByText := true, laidKinds := [.data, .data, .data], laidTests := true, laidLooks := .later }
def UnpackBackCardSaid : Prop := Claim7.holds Tryz.pinned (.plain (OpenSpec.ofChange unpackBackSpec)) unpackBackCard

/-- THE TIED CARD OF 'coxlesslaw13.UnpackLegal'. -/
def unpackLegalCard : Claim7 := { stood := { row := unpackLegalRow, standIns := [], harness := (true, "9a1f6627376b3e8716fabbb764e893196e448389fc27c26e1845d50001bddc33"), looks := false }, kinds := [], alts := [], laidByText := true, laidKinds := [.data, .data, .data], laidTests := true, laidLooks := .later }
def UnpackLegalCardSaid : Prop := Claim7.holds Tryz.pinned (.plain (OpenSpec.ofChange unpackLegalSpec)) unpackLegalCard

/-- THE SECOND FORM's CARD OF 'coxlesslaw13.UnpackReads'. -/
def unpackReadsUptoCard : Claim7 := { stood := { row := unpackReadsUptoRow, standIns := [], harness := (true, "9a1f6627376b3e8716fabbb764e893196e448389fc27c26e1845d50001bddc33"), looks := false }, kinds := [], alts := [], laidByText := true, laidKinds := [.data, .data, .data], laidTests := true, laidLooks := .later }
def UnpackReadsUptoCardSaid : Prop := Claim7.holds Tryz.pinned (.plain (OpenSpec.upto unpackReadsSpec)) unpackReadsUptoCard

/-- THE SECOND FORM's CARD OF 'coxlesslaw13.UnpackKnown'. -/
def unpackKnownUptoCard : Claim7 := { stood := { row := unpackKnownUptoRow, standIns := [], harness := (true, "9a1f6627376b3e8716fabbb764e893196e448389fc27c26e1845d50001bddc33"), looks := false }, kinds := [], alts := [], laidByText := true, laidKinds := [.data, .data, .data], laidTests := true, laidLooks := .later }
def UnpackKnownUptoCardSaid : Prop := Claim7.holds Tryz.pinned (.plain (OpenSpec.upto unpackKnownSpec)) unpackKnownUptoCard

/-- THE SECOND FORM's CARD OF 'coxlesslaw13.UnpackBack'. -/
def unpackBackUptoCard : Claim7 := { stood := { row := unpackBackUptoRow, standIns := [], harness := (true, "9a1f6627376b3e8716fabbb764e893196e448389fc27c26e1845d50001bddc33"), looks := false }, kinds := [], alts := [], laidByText := true, laidKinds := [.data, .data, .data], laidTests := true, laidLooks := .later }
def UnpackBackUptoCardSaid : Prop := Claim7.holds Tryz.pinned (.plain (OpenSpec.upto unpackBackSpec)) unpackBackUptoCard

/-- THE SECOND FORM's CARD OF 'coxlesslaw13.UnpackLegal'. -/
def unpackLegalUptoCard : Claim7 := { stood := { row := unpackLegalUptoRow, standIns := [], harness := (true, "9a1f6627376b3e8716fabbb764e893196e448389fc27c26e1845d50001bddc33"), looks := false }, kinds := [], alts := [], laidByText := true, laidKinds := [.data, .data, .data], laidTests := true, laidLooks := .later }
def UnpackLegalUptoCardSaid : Prop := Claim7.holds Tryz.pinned (.plain (OpenSpec.upto unpackLegalSpec)) unpackLegalUptoCard
end Rows
end Go.Proofs.YtanjmoiepmadhaaGreatDoor
