/-
  DERIVED. GIVEN WITH THE SEED: THE CARDS: each row of YtmagchclmmphaabGreatDoorRows.lean that lists a variable, with what it lists TIED to the program's text (the seventh form; the later family's looks); each row that meets fmt, with fmt's text TOLD by the authors' own Lean function (tested against real Go, not proved from fmt's source: count such statements apart). THE CARD IS WHAT COUNTS. Prove the row's statement (the work); the ties are given (YtmagchclmmphaabGreatDoorTie.lean); close each card by the builder's one call (the guide's Derived/Test/ToyasCard.lean, 'card_holds'). Laid BY PROGRAM, IN A SANDBOX (cutbox-door.mjs). By AI agents, Wed Nov 11 2026. No macro, syntax, notation, axiom, sorry.
-/
import Derived.Test.YtmagchclmmphaabGreatDoorRows
import GoSem.ClaimSeven
namespace Go.Proofs.YtmagchclmmphaabGreatDoor
namespace Rows

/-- THE TIED CARD OF 'wordsetlaw04.FormatBack'. -/
def formatBackCard : Claim7 := { stood := { row := formatBackRow, standIns := [], harness := (true, "09fa6a6e18b70a259cd32402ca90e6410fc5303c8ab95d253e77fced4851ec73"), looks := false }, kinds := [], alts := [], laidByText := true, laidKinds := [.data, .data, .data, .data, .data], laidTests := true, laidLooks := .later }
def FormatBackCardSaid : Prop := Claim7.holds Tryz.pinned (.plain (OpenSpec.ofChange formatBackSpec)) formatBackCard

/-- THE TIED CARD OF 'wordsetlaw04.FormatAutos'. -/
def formatAutosCard : Claim7 := { stood := { row := formatAutosRow, standIns := [], harness := (true, "09fa6a6e18b70a259cd32402ca90e6410fc5303c8ab95d253e77fced4851ec73"), looks := false }, kinds := [], alts := [], laidByText := true, laidKinds := [.data, .data, .data, .data, .data], laidTests := true, laidLooks := .later }
def FormatAutosCardSaid : Prop := Claim7.holds Tryz.pinned (.plain (OpenSpec.ofChange formatAutosSpec)) formatAutosCard

/-- THE TIED CARD OF 'wordsetlaw04.FormatFroms'. -/
def formatFromsCard : Claim7 := { stood := { row := formatFromsRow, standIns := [], harness := (true, "09fa6a6e18b70a259cd32402ca90e6410fc5303c8ab95d253e77fced4851ec73"), looks := false }, kinds := [], alts := [], laidByText := true, laidKinds := [.data, .data, .data, .data, .data], laidTests := true, laidLooks := .later }
def FormatFromsCardSaid : Prop := Claim7.holds Tryz.pinned (.plain (OpenSpec.ofChange formatFromsSpec)) formatFromsCard

/-- THE TIED CARD OF 'wordsetlaw04.FormatFresh'. -/
def formatFreshCard : Claim7 := { stood := { row := formatFreshRow, standIns := [], harness := (true, "09fa6a6e18b70a259cd32402ca90e6410fc5303c8ab95d253e77fced4851ec73"), looks := false }, kinds := [], alts := [], laidByText := true, laidKinds := [.data, .data, .data, .data, .data], laidTests := true, laidLooks := .later }
def FormatFreshCardSaid : Prop := Claim7.holds Tryz.pinned (.plain (OpenSpec.ofChange formatFreshSpec)) formatFreshCard

/-- THE SECOND FORM's CARD OF 'wordsetlaw04.FormatBack'. -/
def formatBackUptoCard : Claim7 := { stood := { row := formatBackUptoRow, standIns := [], harness := (true, "09fa6a6e18b70a259cd32402ca90e6410fc5303c8ab95d253e77fced4851ec73"), looks := false }, kinds := [], alts := [], laidByText := true, laidKinds := [.data, .data, .data, .data, .data], laidTests := true, laidLooks := .later }
def FormatBackUptoCardSaid : Prop := Claim7.holds Tryz.pinned (.plain (OpenSpec.upto formatBackSpec)) formatBackUptoCard

/-- THE SECOND FORM's CARD OF 'wordsetlaw04.FormatAutos'. -/
def formatAutosUptoCard : Claim7 := { stood := { row := formatAutosUptoRow, standIns := [], harness := (true, "09fa6a6e18b70a259cd32402ca90e6410fc5303c8ab95d253e77fced4851ec73"), looks := false }, kinds := [], alts := [], laidByText := true, laidKinds := [.data, .data, .data, .data, .data], laidTests := true, laidLooks := .later }
def FormatAutosUptoCardSaid : Prop := Claim7.holds Tryz.pinned (.plain (OpenSpec.upto formatAutosSpec)) formatAutosUptoCard

/-- THE SECOND FORM's CARD OF 'wordsetlaw04.FormatFroms'. -/
def formatFromsUptoCard : Claim7 := { stood := { row := formatFromsUptoRow, standIns := [], harness := (true, "09fa6a6e18b70a259cd32402ca90e6410fc5303c8ab95d253e77fced4851ec73"), looks := false }, kinds := [], alts := [], laidByText := true, laidKinds := [.data, .data, .data, .data, .data], laidTests := true, laidLooks := .later }
def FormatFromsUptoCardSaid : Prop := Claim7.holds Tryz.pinned (.plain (OpenSpec.upto formatFromsSpec)) formatFromsUptoCard

/-- THE SECOND FORM's CARD OF 'wordsetlaw04.FormatFresh'. -/
def formatFreshUptoCard : Claim7 := { stood := { row := formatFreshUptoRow, standIns := [], harness := (true, "09fa6a6e18b70a259cd32402ca90e6410fc5303c8ab95d253e77fced4851ec73"), looks := false }, kinds := [], alts := [], laidByText := true, laidKinds := [.data, .data, .data, .data, .data], laidTests := true, laidLooks := .later }
def FormatFreshUptoCardSaid : Prop := Claim7.holds Tryz.pinned (.plain (OpenSpec.upto formatFreshSpec)) formatFreshUptoCard
end Rows
end Go.Proofs.YtmagchclmmphaabGreatDoor
