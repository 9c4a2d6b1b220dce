/-
  DERIVED. GIVEN WITH THE SEED: THE CARDS: each row of YtojnlpicgemlaabGreatDoorRows.lean that lists a variable, with what it lists TIED to the program's text (the seventh form; the later family's looks); each row that meets fmt, with fmt's text TOLD by the authors' own Lean function (tested against real Go, not proved from fmt's source: count such statements apart). THE CARD IS WHAT COUNTS. Prove the row's statement (the work); the ties are given (YtojnlpicgemlaabGreatDoorTie.lean); close each card by the builder's one call (the guide's Derived/Test/ToyasCard.lean, 'card_holds'). Laid BY PROGRAM, IN A SANDBOX (cutbox-door.mjs). By AI agents, Wed Nov 11 2026. No macro, syntax, notation, axiom, sorry.
-/
import Derived.Test.YtojnlpicgemlaabGreatDoorRows
import GoSem.ClaimSeven
namespace Go.Proofs.YtojnlpicgemlaabGreatDoor
namespace Rows

/-- THE TIED CARD OF 'wordsetlaw07.TrimFresh'. -/
def trimFreshCard : Claim7 := { stood := { row := trimFreshRow, standIns := [], harness := (true, "f26a5c466fa328616d76a1b7a198e4112613024e3d3518fbad910367cce68a90"), looks := false }, kinds := [], alts := [], laidByText := true, laidKinds := [.data], laidTests := true, laidLooks := .later }
def TrimFreshCardSaid : Prop := Claim7.holds Tryz.pinned (.plain (OpenSpec.ofChange trimFreshSpec)) trimFreshCard

/-- THE SECOND FORM's CARD OF 'wordsetlaw07.TrimFresh'. -/
def trimFreshUptoCard : Claim7 := { stood := { row := trimFreshUptoRow, standIns := [], harness := (true, "f26a5c466fa328616d76a1b7a198e4112613024e3d3518fbad910367cce68a90"), looks := false }, kinds := [], alts := [], laidByText := true, laidKinds := [.data], laidTests := true, laidLooks := .later }
def TrimFreshUptoCardSaid : Prop := Claim7.holds Tryz.pinned (.plain (OpenSpec.upto trimFreshSpec)) trimFreshUptoCard
end Rows
end Go.Proofs.YtojnlpicgemlaabGreatDoor
