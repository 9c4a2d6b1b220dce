/-
  DERIVED. GIVEN WITH THE SEED: THE CARDS: each row of YtojnlpicgemlaaaGreatDoorRows.lean that lists a variable, with what it lists TIED to the program's text (the seventh form; the later family's looks); each row that meets fmt, with fmt's text TOLD by the authors' own Lean function (tested against real Go, not proved from fmt's source: count such statements apart). THE CARD IS WHAT COUNTS. Prove the row's statement (the work); the ties are given (YtojnlpicgemlaaaGreatDoorTie.lean); close each card by the builder's one call (the guide's Derived/Test/ToyasCard.lean, 'card_holds'). Laid BY PROGRAM, IN A SANDBOX (cutbox-door.mjs). By AI agents, Wed Nov 11 2026. No macro, syntax, notation, axiom, sorry.
-/
import Derived.Test.YtojnlpicgemlaaaGreatDoorRows
import GoSem.ClaimSeven
namespace Go.Proofs.YtojnlpicgemlaaaGreatDoor
namespace Rows

/-- THE TIED CARD OF 'wordsetlaw07.TrimEmpties'. -/
def trimEmptiesCard : Claim7 := { stood := { row := trimEmptiesRow, standIns := [], harness := (true, "82d06e310edbea313307fe4c58da9b505bc4b86f926332d02f3c154531cb521c"), looks := false }, kinds := [], alts := [], laidByText := true, laidKinds := [.data], laidTests := true, laidLooks := .later }
def TrimEmptiesCardSaid : Prop := Claim7.holds Tryz.pinned (.plain (OpenSpec.ofChange trimEmptiesSpec)) trimEmptiesCard

/-- THE TIED CARD OF 'wordsetlaw07.TrimKeeps'. -/
def trimKeepsCard : Claim7 := { stood := { row := trimKeepsRow, standIns := [], harness := (true, "82d06e310edbea313307fe4c58da9b505bc4b86f926332d02f3c154531cb521c"), looks := false }, kinds := [], alts := [], laidByText := true, laidKinds := [.data], laidTests := true, laidLooks := .later }
def TrimKeepsCardSaid : Prop := Claim7.holds Tryz.pinned (.plain (OpenSpec.ofChange trimKeepsSpec)) trimKeepsCard

/-- THE TIED CARD OF 'wordsetlaw07.TrimTrims'. -/
def trimTrimsCard : Claim7 := { stood := { row := trimTrimsRow, standIns := [], harness := (true, "82d06e310edbea313307fe4c58da9b505bc4b86f926332d02f3c154531cb521c"), looks := false }, kinds := [], alts := [], laidByText := true, laidKinds := [.data], laidTests := true, laidLooks := .later }
def TrimTrimsCardSaid : Prop := Claim7.holds Tryz.pinned (.plain (OpenSpec.ofChange trimTrimsSpec)) trimTrimsCard

/-- THE TIED CARD OF 'wordsetlaw07.TrimReaches'. -/
def trimReachesCard : Claim7 := { stood := { row := trimReachesRow, standIns := [], harness := (true, "82d06e310edbea313307fe4c58da9b505bc4b86f926332d02f3c154531cb521c"), looks := false }, kinds := [], alts := [], laidByText := true, laidKinds := [.data], laidTests := true, laidLooks := .later }
def TrimReachesCardSaid : Prop := Claim7.holds Tryz.pinned (.plain (OpenSpec.ofChange trimReachesSpec)) trimReachesCard

/-- THE SECOND FORM's CARD OF 'wordsetlaw07.TrimEmpties'. -/
def trimEmptiesUptoCard : Claim7 := { stood := { row := trimEmptiesUptoRow, standIns := [], harness := (true, "82d06e310edbea313307fe4c58da9b505bc4b86f926332d02f3c154531cb521c"), looks := false }, kinds := [], alts := [], laidByText := true, laidKinds := [.data], laidTests := true, laidLooks := .later }
def TrimEmptiesUptoCardSaid : Prop := Claim7.holds Tryz.pinned (.plain (OpenSpec.upto trimEmptiesSpec)) trimEmptiesUptoCard

/-- THE SECOND FORM's CARD OF 'wordsetlaw07.TrimKeeps'. -/
def trimKeepsUptoCard : Claim7 := { stood := { row := trimKeepsUptoRow, standIns := [], harness := (true, "82d06e310edbea313307fe4c58da9b505bc4b86f926332d02f3c154531cb521c"), looks := false }, kinds := [], alts := [], laidByText := true, laidKinds := [.data], laidTests := true, laidLooks := .later }
def TrimKeepsUptoCardSaid : Prop := Claim7.holds Tryz.pinned (.plain (OpenSpec.upto trimKeepsSpec)) trimKeepsUptoCard

/-- THE SECOND FORM's CARD OF 'wordsetlaw07.TrimTrims'. -/
def trimTrimsUptoCard : Claim7 := { stood := { row := trimTrimsUptoRow, standIns := [], harness := (true, "82d06e310edbea313307fe4c58da9b505bc4b86f926332d02f3c154531cb521c"), looks := false }, kinds := [], alts := [], laidByText := true, laidKinds := [.data], laidTests := true, laidLooks := .later }
def TrimTrimsUptoCardSaid : Prop := Claim7.holds Tryz.pinned (.plain (OpenSpec.upto trimTrimsSpec)) trimTrimsUptoCard

/-- THE SECOND FORM's CARD OF 'wordsetlaw07.TrimReaches'. -/
def trimReachesUptoCard : Claim7 := { stood := { row := trimReachesUptoRow, standIns := [], harness := (true, "82d06e310edbea313307fe4c58da9b505bc4b86f926332d02f3c154531cb521c"), looks := false }, kinds := [], alts := [], laidByText := true, laidKinds := [.data], laidTests := true, laidLooks := .later }
def TrimReachesUptoCardSaid : Prop := Claim7.holds Tryz.pinned (.plain (OpenSpec.upto trimReachesSpec)) trimReachesUptoCard
end Rows
end Go.Proofs.YtojnlpicgemlaaaGreatDoor
