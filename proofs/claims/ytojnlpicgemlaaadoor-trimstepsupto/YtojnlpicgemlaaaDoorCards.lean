/-
  DERIVED. GIVEN WITH THE SEED: THE CARDS: each row of YtojnlpicgemlaaaDoorRows.lean that lists a variable, with what it lists TIED to the program's text (the seventh form; the later family's looks); each row that meets fmt, with fmt's text TOLD by the authors' own Lean function (tested against real Go, not proved from fmt's source: count such statements apart). THE CARD IS WHAT COUNTS. Prove the row's statement (the work); the ties are given (YtojnlpicgemlaaaDoorTie.lean); close each card by the builder's one call (the guide's Derived/Test/ToyasCard.lean, 'card_holds'). Laid BY PROGRAM, IN A SANDBOX (cutbox-door.mjs). By AI agents, Wed Nov 11 2026. No macro, syntax, notation, axiom, sorry.
-/
import Derived.Test.YtojnlpicgemlaaaDoorRows
import GoSem.ClaimSeven
namespace Go.Proofs.YtojnlpicgemlaaaDoor
namespace Rows

/-- THE TIED CARD OF 'wordsetlaw07.TrimSteps'. -/
def trimStepsCard : Claim7 := { stood := { row := trimStepsRow, standIns := [], harness := (true, "7e3b6096c2bca7c0db80e558302d57b946c221bbe633585a317b9895b32a04aa"), looks := false }, kinds := [], alts := [], laidByText := true, laidKinds := [.data], laidTests := true, laidLooks := .later }
def TrimStepsCardSaid : Prop := Claim7.holds Tryd.pinned (.plain (OpenSpec.ofChange trimStepsSpec)) trimStepsCard

/-- THE TIED CARD OF 'wordsetlaw07.TrimLeast'. -/
def trimLeastCard : Claim7 := { stood := { row := trimLeastRow, standIns := [], harness := (true, "7e3b6096c2bca7c0db80e558302d57b946c221bbe633585a317b9895b32a04aa"), looks := false }, kinds := [], alts := [], laidByText := true, laidKinds := [.data], laidTests := true, laidLooks := .later }
def TrimLeastCardSaid : Prop := Claim7.holds Tryd.pinned (.plain (OpenSpec.ofChange trimLeastSpec)) trimLeastCard

/-- THE SECOND FORM's CARD OF 'wordsetlaw07.TrimSteps'. -/
def trimStepsUptoCard : Claim7 := { stood := { row := trimStepsUptoRow, standIns := [], harness := (true, "7e3b6096c2bca7c0db80e558302d57b946c221bbe633585a317b9895b32a04aa"), looks := false }, kinds := [], alts := [], laidByText := true, laidKinds := [.data], laidTests := true, laidLooks := .later }
def TrimStepsUptoCardSaid : Prop := Claim7.holds Tryd.pinned (.plain (OpenSpec.upto trimStepsSpec)) trimStepsUptoCard

/-- THE SECOND FORM's CARD OF 'wordsetlaw07.TrimLeast'. -/
def trimLeastUptoCard : Claim7 := { stood := { row := trimLeastUptoRow, standIns := [], harness := (true, "7e3b6096c2bca7c0db80e558302d57b946c221bbe633585a317b9895b32a04aa"), looks := false }, kinds := [], alts := [], laidByText := true, laidKinds := [.data], laidTests := true, laidLooks := .later }
def TrimLeastUptoCardSaid : Prop := Claim7.holds Tryd.pinned (.plain (OpenSpec.upto trimLeastSpec)) trimLeastUptoCard
end Rows
end Go.Proofs.YtojnlpicgemlaaaDoor
