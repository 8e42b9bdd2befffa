/-
  DERIVED. GIVEN WITH THE SEED: THE CARDS: each row of YtkmnndiciihefaaDoorRows.lean that lists a variable, with what it lists TIED to the program's text (the seventh form; the later family's looks); each row that meets fmt, with fmt's text TOLD by the authors' own Lean function (tested against real Go, not proved from fmt's source: count such statements apart). THE CARD IS WHAT COUNTS. Prove the row's statement (the work); the ties are given (YtkmnndiciihefaaDoorTie.lean); close each card by the builder's one call (the guide's Derived/Test/ToyasCard.lean, 'card_holds'). Laid BY PROGRAM, IN A SANDBOX (cutbox-door.mjs). By AI agents, Wed Nov 11 2026. No macro, syntax, notation, axiom, sorry.
-/
import Derived.Test.YtkmnndiciihefaaDoorRows
import GoSem.ClaimSeven
namespace Go.Proofs.YtkmnndiciihefaaDoor
namespace Rows

/-- THE TIED CARD OF 'coxlesslaw04.InstKnown'. -/
def instKnownCard : Claim7 := { stood := { row := instKnownRow, standIns := [], harness := (true, "791e05cb2d2e6718c78258b53f0cbe33a8ebe16118264777a0c961a6750888b4"), looks := false }, kinds := [], alts := [], laidByText := true, laidKinds := [.data], laidTests := true, laidLooks := .later }
def InstKnownCardSaid : Prop := Claim7.holds Tryd.pinned (.plain (OpenSpec.ofChange instKnownSpec)) instKnownCard

/-- THE TIED CARD OF 'coxlesslaw04.InstTells'. -/
def instTellsCard : Claim7 := { stood := { row := instTellsRow, standIns := [], harness := (true, "791e05cb2d2e6718c78258b53f0cbe33a8ebe16118264777a0c961a6750888b4"), looks := false }, kinds := [], alts := [], laidByText := true, laidKinds := [.data], laidTests := true, laidLooks := .later }
def InstTellsCardSaid : Prop := Claim7.holds Tryd.pinned (.plain (OpenSpec.ofChange instTellsSpec)) instTellsCard

/-- THE TIED CARD OF 'coxlesslaw04.InstOne'. -/
def instOneCard : Claim7 := { stood := { row := instOneRow, standIns := [], harness := (true, "791e05cb2d2e6718c78258b53f0cbe33a8ebe16118264777a0c961a6750888b4"), looks := false }, kinds := [], alts := [], laidByText := true, laidKinds := [.data], laidTests := true, laidLooks := .later }
def InstOneCardSaid : Prop := Claim7.holds Tryd.pinned (.plain (OpenSpec.ofChange instOneSpec)) instOneCard

/-- THE TIED CARD OF 'coxlesslaw04.InstTurned'. -/
def instTurnedCard : Claim7 := { stood := { row := instTurnedRow, standIns := [], harness := (true, "791e05cb2d2e6718c78258b53f0cbe33a8ebe16118264777a0c961a6750888b4"), looks := false }, kinds := [], alts := [], laidByText := true, laidKinds := [.data], laidTests := true, laidLooks := .later }
def InstTurnedCardSaid : Prop := Claim7.holds Tryd.pinned (.plain (OpenSpec.ofChange instTurnedSpec)) instTurnedCard

/-- THE SECOND FORM's CARD OF 'coxlesslaw04.InstKnown'. -/
def instKnownUptoCard : Claim7 := { stood := { row := instKnownUptoRow, standIns := [], harness := (true, "791e05cb2d2e6718c78258b53f0cbe33a8ebe16118264777a0c961a6750888b4"), looks := false }, kinds := [], alts := [], laidByText := true, laidKinds := [.data], laidTests := true, laidLooks := .later }
def InstKnownUptoCardSaid : Prop := Claim7.holds Tryd.pinned (.plain (OpenSpec.upto instKnownSpec)) instKnownUptoCard

/-- THE SECOND FORM's CARD OF 'coxlesslaw04.InstTells'. -/
def instTellsUptoCard : Claim7 := { stood := { row := instTellsUptoRow, standIns := [], harness := (true, "791e05cb2d2e6718c78258b53f0cbe33a8ebe16118264777a0c961a6750888b4"), looks := false }, kinds := [], alts := [], laidByText := true, laidKinds := [.data], laidTests := true, laidLooks := .later }
def InstTellsUptoCardSaid : Prop := Claim7.holds Tryd.pinned (.plain (OpenSpec.upto instTellsSpec)) instTellsUptoCard

/-- THE SECOND FORM's CARD OF 'coxlesslaw04.InstOne'. -/
def instOneUptoCard : Claim7 := { stood := { row := instOneUptoRow, standIns := [], harness := (true, "791e05cb2d2e6718c78258b53f0cbe33a8ebe16118264777a0c961a6750888b4"), looks := false }, kinds := [], alts := [], laidByText := true, laidKinds := [.data], laidTests := true, laidLooks := .later }
def InstOneUptoCardSaid : Prop := Claim7.holds Tryd.pinned (.plain (OpenSpec.upto instOneSpec)) instOneUptoCard

/-- THE SECOND FORM's CARD OF 'coxlesslaw04.InstTurned'. -/
def instTurnedUptoCard : Claim7 := { stood := { row := instTurnedUptoRow, standIns := [], harness := (true, "791e05cb2d2e6718c78258b53f0cbe33a8ebe16118264777a0c961a6750888b4"), looks := false }, kinds := [], alts := [], laidByText := true, laidKinds := [.data], laidTests := true, laidLooks := .later }
def InstTurnedUptoCardSaid : Prop := Claim7.holds Tryd.pinned (.plain (OpenSpec.upto instTurnedSpec)) instTurnedUptoCard
end Rows
end Go.Proofs.YtkmnndiciihefaaDoor
