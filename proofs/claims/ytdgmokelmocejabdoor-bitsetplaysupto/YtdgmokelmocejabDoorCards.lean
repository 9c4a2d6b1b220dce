/-
  DERIVED. GIVEN WITH THE SEED: THE CARDS: each row of YtdgmokelmocejabDoorRows.lean that lists a variable, with what it lists TIED to the program's text (the seventh form; the later family's looks); each row that meets fmt, with fmt's text TOLD by the authors' own Lean function (tested against real Go, not proved from fmt's source: count such statements apart). THE CARD IS WHAT COUNTS. Prove the row's statement (the work); the ties are given (YtdgmokelmocejabDoorTie.lean); close each card by the builder's one call (the guide's Derived/Test/ToyasCard.lean, 'card_holds'). Laid BY PROGRAM, IN A SANDBOX (cutbox-door.mjs). By AI agents, Wed Nov 11 2026. No macro, syntax, notation, axiom, sorry.
-/
import Derived.Test.YtdgmokelmocejabDoorRows
import GoSem.ClaimSeven
namespace Go.Proofs.YtdgmokelmocejabDoor
namespace Rows

/-- THE TIED CARD OF 'wordsetlaw01.BitsetInPlace'. -/
def bitsetInPlaceCard : Claim7 := { stood := { row := bitsetInPlaceRow, standIns := [], harness := (true, "1b8ca038066c445ba9e92544bdf4eecbf98f8361c8b16f030f087c23e6e923c5"), looks := false }, kinds := [], alts := [], laidByText := true, laidKinds := [.data], laidTests := true, laidLooks := .later }
def BitsetInPlaceCardSaid : Prop := Claim7.holds Tryd.pinned (.plain (OpenSpec.ofChange bitsetInPlaceSpec)) bitsetInPlaceCard

/-- THE TIED CARD OF 'wordsetlaw01.BitsetPlays'. -/
def bitsetPlaysCard : Claim7 := { stood := { row := bitsetPlaysRow, standIns := [], harness := (true, "1b8ca038066c445ba9e92544bdf4eecbf98f8361c8b16f030f087c23e6e923c5"), looks := false }, kinds := [], alts := [], laidByText := true, laidKinds := [.data], laidTests := true, laidLooks := .later }
def BitsetPlaysCardSaid : Prop := Claim7.holds Tryd.pinned (.plain (OpenSpec.ofChange bitsetPlaysSpec)) bitsetPlaysCard

/-- THE SECOND FORM's CARD OF 'wordsetlaw01.BitsetInPlace'. -/
def bitsetInPlaceUptoCard : Claim7 := { stood := { row := bitsetInPlaceUptoRow, standIns := [], harness := (true, "1b8ca038066c445ba9e92544bdf4eecbf98f8361c8b16f030f087c23e6e923c5"), looks := false }, kinds := [], alts := [], laidByText := true, laidKinds := [.data], laidTests := true, laidLooks := .later }
def BitsetInPlaceUptoCardSaid : Prop := Claim7.holds Tryd.pinned (.plain (OpenSpec.upto bitsetInPlaceSpec)) bitsetInPlaceUptoCard

/-- THE SECOND FORM's CARD OF 'wordsetlaw01.BitsetPlays'. -/
def bitsetPlaysUptoCard : Claim7 := { stood := { row := bitsetPlaysUptoRow, standIns := [], harness := (true, "1b8ca038066c445ba9e92544bdf4eecbf98f8361c8b16f030f087c23e6e923c5"), looks := false }, kinds := [], alts := [], laidByText := true, laidKinds := [.data], laidTests := true, laidLooks := .later }
def BitsetPlaysUptoCardSaid : Prop := Claim7.holds Tryd.pinned (.plain (OpenSpec.upto bitsetPlaysSpec)) bitsetPlaysUptoCard
end Rows
end Go.Proofs.YtdgmokelmocejabDoor
