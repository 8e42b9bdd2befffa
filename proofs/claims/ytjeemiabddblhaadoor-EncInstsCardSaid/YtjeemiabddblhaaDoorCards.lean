/-
  DERIVED. GIVEN WITH THE SEED: THE CARDS: each row of YtjeemiabddblhaaDoorRows.lean that lists a variable, with what it lists TIED to the program's text (the seventh form; the later family's looks); each row that meets fmt, with fmt's text TOLD by the authors' own Lean function (tested against real Go, not proved from fmt's source: count such statements apart). THE CARD IS WHAT COUNTS. Prove the row's statement (the work); the ties are given (YtjeemiabddblhaaDoorTie.lean); close each card by the builder's one call (the guide's Derived/Test/ToyasCard.lean, 'card_holds'). Laid BY PROGRAM, IN A SANDBOX (cutbox-door.mjs). By AI agents, Wed Nov 11 2026. No macro, syntax, notation, axiom, sorry.
-/
import Derived.Test.YtjeemiabddblhaaDoorRows
import GoSem.ClaimSeven
namespace Go.Proofs.YtjeemiabddblhaaDoor
namespace Rows

/-- THE TIED CARD OF 'coxlesslaw06.EncWords'. -/
def encWordsCard : Claim7 := { stood := { row := encWordsRow, standIns := [], harness := (true, "16ea56249757cef3b8a96aa96a5b01589cb2fdefadeb768424c1ebd2dc2abd2f"), looks := false }, kinds := [], alts := [], laidByText := true, laidKinds := [.data, .data], laidTests := true, laidLooks := .later }
def EncWordsCardSaid : Prop := Claim7.holds Tryd.pinned (.plain (OpenSpec.ofChange encWordsSpec)) encWordsCard

/-- THE TIED CARD OF 'coxlesslaw06.EncInsts'. -/
def encInstsCard : Claim7 := { stood := { row := encInstsRow, standIns := [], harness := (true, "16ea56249757cef3b8a96aa96a5b01589cb2fdefadeb768424c1ebd2dc2abd2f"), looks := false }, kinds := [], alts := [], laidByText := true, laidKinds := [.data, .data], laidTests := true, laidLooks := .later }
def EncInstsCardSaid : Prop := Claim7.holds Tryd.pinned (.plain (OpenSpec.ofChange encInstsSpec)) encInstsCard

/-- THE TIED CARD OF 'coxlesslaw06.EncKnown'. -/
def encKnownCard : Claim7 := { stood := { row := encKnownRow, standIns := [], harness := (true, "16ea56249757cef3b8a96aa96a5b01589cb2fdefadeb768424c1ebd2dc2abd2f"), looks := false }, kinds := [], alts := [], laidByText := true, laidKinds := [.data, .data], laidTests := true, laidLooks := .later }
def EncKnownCardSaid : Prop := Claim7.holds Tryd.pinned (.plain (OpenSpec.ofChange encKnownSpec)) encKnownCard

/-- THE TIED CARD OF 'coxlesslaw06.EncBack'. -/
def encBackCard : Claim7 := { stood := { row := encBackRow, standIns := [], harness := (true, "16ea56249757cef3b8a96aa96a5b01589cb2fdefadeb768424c1ebd2dc2abd2f"), looks := false }, kinds := [], alts := [], laidByText := true, laidKinds := [.data, .data], laidTests := true, laidLooks := .later }
def EncBackCardSaid : Prop := Claim7.holds Tryd.pinned (.plain (OpenSpec.ofChange encBackSpec)) encBackCard

/-- THE TIED CARD OF 'coxlesslaw06.EncMoves'. -/
def encMovesCard : Claim7 := { stood := { row := encMovesRow, standIns := [], harness := (true, "16ea56249757cef3b8a96aa96a5b01589cb2fdefadeb768424c1ebd2dc2abd2f"), looks := false }, kinds := [], alts := [], laidByText := true, laidKinds := [.data, .data], laidTests := true, laidLooks := .later }
def EncMovesCardSaid : Prop := Claim7.holds Tryd.pinned (.plain (OpenSpec.ofChange encMovesSpec)) encMovesCard

/-- THE SECOND FORM's CARD OF 'coxlesslaw06.EncWords'. -/
def encWordsUptoCard : Claim7 := { stood := { row := encWordsUptoRow, standIns := [], harness := (true, "16ea56249757cef3b8a96aa96a5b01589cb2fdefadeb768424c1ebd2dc2abd2f"), looks := false }, kinds := [], alts := [], laidByText := true, laidKinds := [.data, .data], laidTests := true, laidLooks := .later }
def EncWordsUptoCardSaid : Prop := Claim7.holds Tryd.pinned (.plain (OpenSpec.upto encWordsSpec)) encWordsUptoCard

/-- THE SECOND FORM's CARD OF 'coxlesslaw06.EncInsts'. -/
def encInstsUptoCard : Claim7 := { stood := { row := encInstsUptoRow, standIns := [], harness := (true, "16ea56249757cef3b8a96aa96a5b01589cb2fdefadeb768424c1ebd2dc2abd2f"), looks := false }, kinds := [], alts := [], laidByText := true, laidKinds := [.data, .data], laidTests := true, laidLooks := .later }
def EncInstsUptoCardSaid : Prop := Claim7.holds Tryd.pinned (.plain (OpenSpec.upto encInstsSpec)) encInstsUptoCard

/-- THE SECOND FORM's CARD OF 'coxlesslaw06.EncKnown'. -/
def encKnownUptoCard : Claim7 := { stood := { row := encKnownUptoRow, standIns := [], harness := (true, "16ea56249757cef3b8a96aa96a5b01589cb2fdefadeb768424c1ebd2dc2abd2f"), looks := false }, kinds := [], alts := [], laidByText := true, laidKinds := [.data, .data], laidTests := true, laidLooks := .later }
def EncKnownUptoCardSaid : Prop := Claim7.holds Tryd.pinned (.plain (OpenSpec.upto encKnownSpec)) encKnownUptoCard

/-- THE SECOND FORM's CARD OF 'coxlesslaw06.EncBack'. -/
def encBackUptoCard : Claim7 := { stood := { row := encBackUptoRow, standIns := [], harness := (true, "16ea56249757cef3b8a96aa96a5b01589cb2fdefadeb768424c1ebd2dc2abd2f"), looks := false }, kinds := [], alts := [], laidByText := true, laidKinds := [.data, .data], laidTests := true, laidLooks := .later }
def EncBackUptoCardSaid : Prop := Claim7.holds Tryd.pinned (.plain (OpenSpec.upto encBackSpec)) encBackUptoCard

/-- THE SECOND FORM's CARD OF 'coxlesslaw06.EncMoves'. -/
def encMovesUptoCard : Claim7 := { stood := { row := encMovesUptoRow, standIns := [], harness := (true, "16ea56249757cef3b8a96aa96a5b01589cb2fdefadeb768424c1ebd2dc2abd2f"), looks := false }, kinds := [], alts := [], laidByText := true, laidKinds := [.data, .data], laidTests := true, laidLooks := .later }
def EncMovesUptoCardSaid : Prop := Claim7.holds Tryd.pinned (.plain (OpenSpec.upto encMovesSpec)) encMovesUptoCard
end Rows
end Go.Proofs.YtjeemiabddblhaaDoor
