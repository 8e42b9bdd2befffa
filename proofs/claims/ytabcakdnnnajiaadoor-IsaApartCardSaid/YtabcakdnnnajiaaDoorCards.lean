/-
  DERIVED. GIVEN WITH THE SEED: THE CARDS: each row of YtabcakdnnnajiaaDoorRows.lean that lists a variable, with what it lists TIED to the program's text (the seventh form; the later family's looks); each row that meets fmt, with fmt's text TOLD by the authors' own Lean function (tested against real Go, not proved from fmt's source: count such statements apart). THE CARD IS WHAT COUNTS. Prove the row's statement (the work); the ties are given (YtabcakdnnnajiaaDoorTie.lean); close each card by the builder's one call (the guide's Derived/Test/ToyasCard.lean, 'card_holds'). Laid BY PROGRAM, IN A SANDBOX (cutbox-door.mjs). By AI agents, Wed Nov 11 2026. No macro, syntax, notation, axiom, sorry.
-/
import Derived.Test.YtabcakdnnnajiaaDoorRows
import GoSem.ClaimSeven
namespace Go.Proofs.YtabcakdnnnajiaaDoor
namespace Rows

/-- THE TIED CARD OF 'coxlesslaw03.IsaKnown'. -/
def isaKnownCard : Claim7 := { stood := { row := isaKnownRow, standIns := [], harness := (true, "00fb1e6670bb696966b83305dac260417f9f54fcec5abc8fceffccb9629ed7f6"), looks := false }, kinds := [], alts := [], laidByText := true, laidKinds := [.data], laidTests := true, laidLooks := .later }
def IsaKnownCardSaid : Prop := Claim7.holds Tryd.pinned (.plain (OpenSpec.ofChange isaKnownSpec)) isaKnownCard

/-- THE TIED CARD OF 'coxlesslaw03.IsaTells'. -/
def isaTellsCard : Claim7 := { stood := { row := isaTellsRow, standIns := [], harness := (true, "00fb1e6670bb696966b83305dac260417f9f54fcec5abc8fceffccb9629ed7f6"), looks := false }, kinds := [], alts := [], laidByText := true, laidKinds := [.data], laidTests := true, laidLooks := .later }
def IsaTellsCardSaid : Prop := Claim7.holds Tryd.pinned (.plain (OpenSpec.ofChange isaTellsSpec)) isaTellsCard

/-- THE TIED CARD OF 'coxlesslaw03.IsaApart'. -/
def isaApartCard : Claim7 := { stood := { row := isaApartRow, standIns := [], harness := (true, "00fb1e6670bb696966b83305dac260417f9f54fcec5abc8fceffccb9629ed7f6"), looks := false }, kinds := [], alts := [], laidByText := true, laidKinds := [.data], laidTests := true, laidLooks := .later }
def IsaApartCardSaid : Prop := Claim7.holds Tryd.pinned (.plain (OpenSpec.ofChange isaApartSpec)) isaApartCard

/-- THE TIED CARD OF 'coxlesslaw03.IsaOwn'. -/
def isaOwnCard : Claim7 := { stood := { row := isaOwnRow, standIns := [], harness := (true, "00fb1e6670bb696966b83305dac260417f9f54fcec5abc8fceffccb9629ed7f6"), looks := false }, kinds := [], alts := [], laidByText := true, laidKinds := [.data], laidTests := true, laidLooks := .later }
def IsaOwnCardSaid : Prop := Claim7.holds Tryd.pinned (.plain (OpenSpec.ofChange isaOwnSpec)) isaOwnCard

/-- THE SECOND FORM's CARD OF 'coxlesslaw03.IsaKnown'. -/
def isaKnownUptoCard : Claim7 := { stood := { row := isaKnownUptoRow, standIns := [], harness := (true, "00fb1e6670bb696966b83305dac260417f9f54fcec5abc8fceffccb9629ed7f6"), looks := false }, kinds := [], alts := [], laidByText := true, laidKinds := [.data], laidTests := true, laidLooks := .later }
def IsaKnownUptoCardSaid : Prop := Claim7.holds Tryd.pinned (.plain (OpenSpec.upto isaKnownSpec)) isaKnownUptoCard

/-- THE SECOND FORM's CARD OF 'coxlesslaw03.IsaTells'. -/
def isaTellsUptoCard : Claim7 := { stood := { row := isaTellsUptoRow, standIns := [], harness := (true, "00fb1e6670bb696966b83305dac260417f9f54fcec5abc8fceffccb9629ed7f6"), looks := false }, kinds := [], alts := [], laidByText := true, laidKinds := [.data], laidTests := true, laidLooks := .later }
def IsaTellsUptoCardSaid : Prop := Claim7.holds Tryd.pinned (.plain (OpenSpec.upto isaTellsSpec)) isaTellsUptoCard

/-- THE SECOND FORM's CARD OF 'coxlesslaw03.IsaApart'. -/
def isaApartUptoCard : Claim7 := { stood := { row := isaApartUptoRow, standIns := [], harness := (true, "00fb1e6670bb696966b83305dac260417f9f54fcec5abc8fceffccb9629ed7f6"), looks := false }, kinds := [], alts := [], laidByText := true, laidKinds := [.data], laidTests := true, laidLooks := .later }
def IsaApartUptoCardSaid : Prop := Claim7.holds Tryd.pinned (.plain (OpenSpec.upto isaApartSpec)) isaApartUptoCard

/-- THE SECOND FORM's CARD OF 'coxlesslaw03.IsaOwn'. -/
def isaOwnUptoCard : Claim7 := { stood := { row := isaOwnUptoRow, standIns := [], harness := (true, "00fb1e6670bb696966b83305dac260417f9f54fcec5abc8fceffccb9629ed7f6"), looks := false }, kinds := [], alts := [], laidByText := true, laidKinds := [.data], laidTests := true, laidLooks := .later }
def IsaOwnUptoCardSaid : Prop := Claim7.holds Tryd.pinned (.plain (OpenSpec.upto isaOwnSpec)) isaOwnUptoCard
end Rows
end Go.Proofs.YtabcakdnnnajiaaDoor
