/-
  DERIVED. GIVEN WITH THE SEED: THE CARDS: each row of YtmagchclmmphaaaDoorRows.lean that lists a variable, with what it lists TIED to the program's text (the seventh form; the later family's looks); each row that meets fmt, with fmt's text TOLD by the authors' own Lean function (tested against real Go, not proved from fmt's source: count such statements apart). THE CARD IS WHAT COUNTS. Prove the row's statement (the work); the ties are given (YtmagchclmmphaaaDoorTie.lean); close each card by the builder's one call (the guide's Derived/Test/ToyasCard.lean, 'card_holds'). Laid BY PROGRAM, IN A SANDBOX (cutbox-door.mjs). By AI agents, Wed Nov 11 2026. No macro, syntax, notation, axiom, sorry.
-/
import Derived.Test.YtmagchclmmphaaaDoorRows
import GoSem.ClaimSeven
namespace Go.Proofs.YtmagchclmmphaaaDoor
namespace Rows

/-- THE TIED CARD OF 'wordsetlaw04.FormatStays'. -/
def formatStaysCard : Claim7 := { stood := { row := formatStaysRow, standIns := [], harness := (true, "7018bb696f7d69fa311d61764d65751969f9d61e32124e4f66a7ac6eb67aa1a8"), looks := false }, kinds := [], alts := [], laidByText := true, laidKinds := [.data, .data, .data, .data, .data], laidTests := true, laidLooks := .later }
def FormatStaysCardSaid : Prop := Claim7.holds Tryd.pinned (.plain (OpenSpec.ofChange formatStaysSpec)) formatStaysCard

/-- THE TIED CARD OF 'wordsetlaw04.FormatLaid'. -/
def formatLaidCard : Claim7 := { stood := { row := formatLaidRow, standIns := [], harness := (true, "7018bb696f7d69fa311d61764d65751969f9d61e32124e4f66a7ac6eb67aa1a8"), looks := false }, kinds := [], alts := [], laidByText := true, laidKinds := [.data, .data, .data, .data, .data], laidTests := true, laidLooks := .later }
def FormatLaidCardSaid : Prop := Claim7.holds Tryd.pinned (.plain (OpenSpec.ofChange formatLaidSpec)) formatLaidCard

/-- THE SECOND FORM's CARD OF 'wordsetlaw04.FormatStays'. -/
def formatStaysUptoCard : Claim7 := { stood := { row := formatStaysUptoRow, standIns := [], harness := (true, "7018bb696f7d69fa311d61764d65751969f9d61e32124e4f66a7ac6eb67aa1a8"), looks := false }, kinds := [], alts := [], laidByText := true, laidKinds := [.data, .data, .data, .data, .data], laidTests := true, laidLooks := .later }
def FormatStaysUptoCardSaid : Prop := Claim7.holds Tryd.pinned (.plain (OpenSpec.upto formatStaysSpec)) formatStaysUptoCard

/-- THE SECOND FORM's CARD OF 'wordsetlaw04.FormatLaid'. -/
def formatLaidUptoCard : Claim7 := { stood := { row := formatLaidUptoRow, standIns := [], harness := (true, "7018bb696f7d69fa311d61764d65751969f9d61e32124e4f66a7ac6eb67aa1a8"), looks := false }, kinds := [], alts := [], laidByText := true, laidKinds := [.data, .data, .data, .data, .data], laidTests := true, laidLooks := .later }
def FormatLaidUptoCardSaid : Prop := Claim7.holds Tryd.pinned (.plain (OpenSpec.upto formatLaidSpec)) formatLaidUptoCard
end Rows
end Go.Proofs.YtmagchclmmphaaaDoor
