/-
  DERIVED. GIVEN WITH THE SEED: THE CARDS: each row of YtdghnlbfmaehoaaGreatDoorRows.lean that lists a variable, with what it lists TIED to the program's text (the seventh form; the later family's looks); each row that meets fmt, with fmt's text TOLD by the authors' own Lean function (tested against real Go, not proved from fmt's source: count such statements apart). THE CARD IS WHAT COUNTS. Prove the row's statement (the work); the ties are given (YtdghnlbfmaehoaaGreatDoorTie.lean); close each card by the builder's one call (the guide's Derived/Test/ToyasCard.lean, 'card_holds'). Laid BY PROGRAM, IN A SANDBOX (cutbox-door.mjs). By AI agents, Wed Nov 11 2026. No macro, syntax, notation, axiom, sorry.
-/
import Derived.Test.YtdghnlbfmaehoaaGreatDoorRows
import GoSem.ClaimSeven
namespace Go.Proofs.YtdghnlbfmaehoaaGreatDoor
namespace Rows

/-- THE TIED CARD OF 'coxlesslaw12.PackOrder'. -/
def packOrderCard : Claim7 := { stood := { row := packOrderRow, standIns := [], harness := (true, "37b7fcb95d1d31f62e3c40552ddc30ca083c22eb495ff7f2b885a39642144dc8"), looks := false }, kinds := [], alts := [], laidByText := true, laidKinds := [.data, .data, .data], laidTests := true, laidLooks := .later }
def PackOrderCardSaid : Prop := Claim7.holds Tryz.pinned (.plain (OpenSpec.ofChange packOrderSpec)) packOrderCard

/-- THE TIED CARD OF 'coxlesslaw12.PackWords'. -/
def packWordsCard : Claim7 := { stood := { row := packWordsRow, standIns := [], harness := (true, "37b7fcb95d1d31f62e3c40552ddc30ca083c22eb495ff7f2b885a39642144dc8"), looks := false }, kinds := [], alts := [], laidByText := true, laidKinds := [.data, .data, .data], laidTests := true, laidLooks := .later }
def PackWordsCardSaid : Prop := Claim7.holds Tryz.pinned (.plain (OpenSpec.ofChange packWordsSpec)) packWordsCard

/-- THE TIED CARD OF 'coxlesslaw12.PackKnown'. -/
def packKnownCard : Claim7 := { stood := { row := packKnownRow, standIns := [], harness := (true, "37b7fcb95d1d31f62e3c40552ddc30ca083c22eb495ff7f2b885a39642144dc8"), looks := false }, kinds := [], alts := [], laidByText := true, laidKinds := [.data, .data, .data], laidTests := true, laidLooks := .later }
def PackKnownCardSaid : Prop := Claim7.holds Tryz.pinned (.plain (OpenSpec.ofChange packKnownSpec)) packKnownCard

/-- THE TIED CARD OF 'coxlesslaw12.PackRow'. -/
def packRowCard : Claim7 := { stood := { row := packRowRow, standIns := [], harness := (true, "37b7fcb95d1d31f62e3c40552ddc30ca083c22eb495ff7f2b885a39642144dc8"), looks := false }, kinds := [], alts := [], laidByText := true, laidKinds := [.data, .data, .data], laidTests := true, laidLooks := .later }
def PackRowCardSaid : Prop := Claim7.holds Tryz.pinned (.plain (OpenSpec.ofChange packRowSpec)) packRowCard

/-- THE TIED CARD OF 'coxlesslaw12.PackApart'. -/
def packApartCard : Claim7 := { stood := { row := packApartRow, standIns := [], harness := (true, "37b7fcb95d1d31f62e3c40552ddc30ca083c22eb495ff7f2b885a39642144dc8"), looks := false }, kinds := [], alts := [], laidByText := true, laidKinds := [.data, .data, .data], laidTests := true, laidLooks := .later }
def PackApartCardSaid : Prop := Claim7.holds Tryz.pinned (.plain (OpenSpec.ofChange packApartSpec)) packApartCard

/-- THE SECOND FORM's CARD OF 'coxlesslaw12.PackOrder'. -/
def packOrderUptoCard : Claim7 := { stood := { row := packOrderUptoRow, standIns := [], harness := (true, "37b7fcb95d1d31f62e3c40552ddc30ca083c22eb495ff7f2b885a39642144dc8"), looks := false }, kinds := [], alts := [], laidByText := true, laidKinds := [.data, .data, .data], laidTests := true, laidLooks := .later }
def PackOrderUptoCardSaid : Prop := Claim7.holds Tryz.pinned (.plain (OpenSpec.upto packOrderSpec)) packOrderUptoCard

/-- THE SECOND FORM's CARD OF 'coxlesslaw12.PackWords'. -/
def packWordsUptoCard : Claim7 := { stood := { row := packWordsUptoRow, standIns := [], harness := (true, "37b7fcb95d1d31f62e3c40552ddc30ca083c22eb495ff7f2b885a39642144dc8"), looks := false }, kinds := [], alts := [], laidByText := true, laidKinds := [.data, .data, .data], laidTests := true, laidLooks := .later }
def PackWordsUptoCardSaid : Prop := Claim7.holds Tryz.pinned (.plain (OpenSpec.upto packWordsSpec)) packWordsUptoCard

/-- THE SECOND FORM's CARD OF 'coxlesslaw12.PackKnown'. -/
def packKnownUptoCard : Claim7 := { stood := { row := packKnownUptoRow, standIns := [], harness := (true, "37b7fcb95d1d31f62e3c40552ddc30ca083c22eb495ff7f2b885a39642144dc8"), looks := false }, kinds := [], alts := [], laidByText := true, laidKinds := [.data, .data, .data], laidTests := true, laidLooks := .later }
def PackKnownUptoCardSaid : Prop := Claim7.holds Tryz.pinned (.plain (OpenSpec.upto packKnownSpec)) packKnownUptoCard

/-- THE SECOND FORM's CARD OF 'coxlesslaw12.PackRow'. -/
def packRowUptoCard : Claim7 := { stood := { row := packRowUptoRow, standIns := [], harness := (true, "37b7fcb95d1d31f62e3c40552ddc30ca083c22eb495ff7f2b885a39642144dc8"), looks := false }, kinds := [], alts := [], laidByText := true, laidKinds := [.data, .data, .data], laidTests := true, laidLooks := .later }
def PackRowUptoCardSaid : Prop := Claim7.holds Tryz.pinned (.plain (OpenSpec.upto packRowSpec)) packRowUptoCard

/-- THE SECOND FORM's CARD OF 'coxlesslaw12.PackApart'. -/
def packApartUptoCard : Claim7 := { stood := { row := packApartUptoRow, standIns := [], harness := (true, "37b7fcb95d1d31f62e3c40552ddc30ca083c22eb495ff7f2b885a39642144dc8"), looks := false }, kinds := [], alts := [], laidByText := true, laidKinds := [.data, .data, .data], laidTests := true, laidLooks := .later }
def PackApartUptoCardSaid : Prop := Claim7.holds Tryz.pinned (.plain (OpenSpec.upto packApartSpec)) packApartUptoCard
end Rows
end Go.Proofs.YtdghnlbfmaehoaaGreatDoor
