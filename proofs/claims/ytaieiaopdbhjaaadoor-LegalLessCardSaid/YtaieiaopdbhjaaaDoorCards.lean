/-
  DERIVED. GIVEN WITH THE SEED: THE CARDS: each row of YtaieiaopdbhjaaaDoorRows.lean that lists a variable, with what it lists TIED to the program's text (the seventh form; the later family's looks); each row that meets fmt, with fmt's text TOLD by the authors' own Lean function (tested against real Go, not proved from fmt's source: count such statements apart). THE CARD IS WHAT COUNTS. Prove the row's statement (the work); the ties are given (YtaieiaopdbhjaaaDoorTie.lean); close each card by the builder's one call (the guide's Derived/Test/ToyasCard.lean, 'card_holds'). Laid BY PROGRAM, IN A SANDBOX (cutbox-door.mjs). By AI agents, Wed Nov 11 2026. No macro, syntax, notation, axiom, sorry.
-/
import Derived.Test.YtaieiaopdbhjaaaDoorRows
import GoSem.ClaimSeven
namespace Go.Proofs.YtaieiaopdbhjaaaDoor
namespace Rows

/-- THE TIED CARD OF 'coxlesslaw11.LegalKnown'. -/
def legalKnownCard : Claim7 := { stood := { row := legalKnownRow, standIns := [], harness := (true, "3aeff42ee0be361fbcd1ec735b36f0e9b801468586d79400e93c831e0870a1a4"), looks := false }, kinds := [], alts := [], laidByText := true, laidKinds := [.data, .data, .data], laidTests := true, laidLooks := .later }
def LegalKnownCardSaid : Prop := Claim7.holds Tryd.pinned (.plain (OpenSpec.ofChange legalKnownSpec)) legalKnownCard

/-- THE TIED CARD OF 'coxlesslaw11.LegalRow'. -/
def legalRowCard : Claim7 := { stood := { row := legalRowRow, standIns := [], harness := (true, "3aeff42ee0be361fbcd1ec735b36f0e9b801468586d79400e93c831e0870a1a4"), looks := false }, kinds := [], alts := [], laidByText := true, laidKinds := [.data, .data, .data], laidTests := true, laidLooks := .later }
def LegalRowCardSaid : Prop := Claim7.holds Tryd.pinned (.plain (OpenSpec.ofChange legalRowSpec)) legalRowCard

/-- THE TIED CARD OF 'coxlesslaw11.LegalDup'. -/
def legalDupCard : Claim7 := { stood := { row := legalDupRow, standIns := [], harness := (true, "3aeff42ee0be361fbcd1ec735b36f0e9b801468586d79400e93c831e0870a1a4"), looks := false }, kinds := [], alts := [], laidByText := true, laidKinds := [.data, .data, .data], laidTests := true, laidLooks := .later }
def LegalDupCardSaid : Prop := Claim7.holds Tryd.pinned (.plain (OpenSpec.ofChange legalDupSpec)) legalDupCard

/-- THE TIED CARD OF 'coxlesslaw11.LegalLess'. -/
def legalLessCard : Claim7 := { stood := { row := legalLessRow, standIns := [], harness := (true, "3aeff42ee0be361fbcd1ec735b36f0e9b801468586d79400e93c831e0870a1a4"), looks := false }, kinds := [], alts := [], laidByText := true, laidKinds := [.data, .data, .data], laidTests := true, laidLooks := .later }
def LegalLessCardSaid : Prop := Claim7.holds Tryd.pinned (.plain (OpenSpec.ofChange legalLessSpec)) legalLessCard

/-- THE SECOND FORM's CARD OF 'coxlesslaw11.LegalKnown'. -/
def legalKnownUptoCard : Claim7 := { stood := { row := legalKnownUptoRow, standIns := [], harness := (true, "3aeff42ee0be361fbcd1ec735b36f0e9b801468586d79400e93c831e0870a1a4"), looks := false }, kinds := [], alts := [], laidByText := true, laidKinds := [.data, .data, .data], laidTests := true, laidLooks := .later }
def LegalKnownUptoCardSaid : Prop := Claim7.holds Tryd.pinned (.plain (OpenSpec.upto legalKnownSpec)) legalKnownUptoCard

/-- THE SECOND FORM's CARD OF 'coxlesslaw11.LegalRow'. -/
def legalRowUptoCard : Claim7 := { stood := { row := legalRowUptoRow, standIns := [], harness := (true, "3aeff42ee0be361fbcd1ec735b36f0e9b801468586d79400e93c831e0870a1a4"), looks := false }, kinds := [], alts := [], laidByText := true, laidKinds := [.data, .data, .data], laidTests := true, laidLooks := .later }
def LegalRowUptoCardSaid : Prop := Claim7.holds Tryd.pinned (.plain (OpenSpec.upto legalRowSpec)) legalRowUptoCard

/-- THE SECOND FORM's CARD OF 'coxlesslaw11.LegalDup'. -/
def legalDupUptoCard : Claim7 := { stood := { row := legalDupUptoRow, standIns := [], harness := (true, "3aeff42ee0be361fbcd1ec735b36f0e9b801468586d79400e93c831e0870a1a4"), looks := false }, kinds := [], alts := [], laidByText := true, laidKinds := [.data, .data, .data], laidTests := true, laidLooks := .later }
def LegalDupUptoCardSaid : Prop := Claim7.holds Tryd.pinned (.plain (OpenSpec.upto legalDupSpec)) legalDupUptoCard

/-- THE SECOND FORM's CARD OF 'coxlesslaw11.LegalLess'. -/
def legalLessUptoCard : Claim7 := { stood := { row := legalLessUptoRow, standIns := [], harness := (true, "3aeff42ee0be361fbcd1ec735b36f0e9b801468586d79400e93c831e0870a1a4"), looks := false }, kinds := [], alts := [], laidByText := true, laidKinds := [.data, .data, .data], laidTests := true, laidLooks := .later }
def LegalLessUptoCardSaid : Prop := Claim7.holds Tryd.pinned (.plain (OpenSpec.upto legalLessSpec)) legalLessUptoCard
end Rows
end Go.Proofs.YtaieiaopdbhjaaaDoor
