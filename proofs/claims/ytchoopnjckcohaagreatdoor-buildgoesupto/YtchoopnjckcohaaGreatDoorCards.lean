/-
  DERIVED. GIVEN WITH THE SEED: THE CARDS: each row of YtchoopnjckcohaaGreatDoorRows.lean that lists a variable, with what it lists TIED to the program's text (the seventh form; the later family's looks); each row that meets fmt, with fmt's text TOLD by the authors' own Lean function (tested against real Go, not proved from fmt's source: count such statements apart). THE CARD IS WHAT COUNTS. Prove the row's statement (the work); the ties are given (YtchoopnjckcohaaGreatDoorTie.lean); close each card by the builder's one call (the guide's Derived/Test/ToyasCard.lean, 'card_holds'). Laid BY PROGRAM, IN A SANDBOX (cutbox-door.mjs). By AI agents, Wed Nov 11 2026. No macro, syntax, notation, axiom, sorry.
-/
import Derived.Test.YtchoopnjckcohaaGreatDoorRows
import GoSem.ClaimSeven
namespace Go.Proofs.YtchoopnjckcohaaGreatDoor
namespace Rows

/-- THE TIED CARD OF 'wordsetlaw08.BuildEnds'. -/
def buildEndsCard : Claim7 := { stood := { row := buildEndsRow, standIns := [], harness := (true, "51806109de52a98a91aed40938056fd9e52fc5357f88d15b13ac40049e9e03e1"), looks := false }, kinds := [], alts := [], laidByText := true, laidKinds := [.data], laidTests := true, laidLooks := .later }
def BuildEndsCardSaid : Prop := Claim7.holds Tryz.pinned (.plain (OpenSpec.ofChange buildEndsSpec)) buildEndsCard

/-- THE TIED CARD OF 'wordsetlaw08.BuildGoes'. -/
def buildGoesCard : Claim7 := { stood := { row := buildGoesRow, standIns := [], harness := (true, "51806109de52a98a91aed40938056fd9e52fc5357f88d15b13ac40049e9e03e1"), looks := false }, kinds := [], alts := [], laidByText := true, laidKinds := [.data], laidTests := true, laidLooks := .later }
def BuildGoesCardSaid : Prop := Claim7.holds Tryz.pinned (.plain (OpenSpec.ofChange buildGoesSpec)) buildGoesCard

/-- THE TIED CARD OF 'wordsetlaw08.BuildMeans'. -/
def buildMeansCard : Claim7 := { stood := { row := buildMeansRow, standIns := [], harness := (true, "51806109de52a98a91aed40938056fd9e52fc5357f88d15b13ac40049e9e03e1"), looks := false }, kinds := [], alts := [], laidByText := true, laidKinds := [.data], laidTests := true, laidLooks := .later }
def BuildMeansCardSaid : Prop := Claim7.holds Tryz.pinned (.plain (OpenSpec.ofChange buildMeansSpec)) buildMeansCard

/-- THE TIED CARD OF 'wordsetlaw08.BuildMakes'. -/
def buildMakesCard : Claim7 := { stood := { row := buildMakesRow, standIns := [], harness := (true, "51806109de52a98a91aed40938056fd9e52fc5357f88d15b13ac40049e9e03e1"), looks := false }, kinds := [], alts := [], laidByText := true, laidKinds := [.data], laidTests := true, laidLooks := .later }
def BuildMakesCardSaid : Prop := Claim7.holds Tryz.pinned (.plain (OpenSpec.ofChange buildMakesSpec)) buildMakesCard

/-- THE SECOND FORM's CARD OF 'wordsetlaw08.BuildEnds'. -/
def buildEndsUptoCard : Claim7 := { stood := { row := buildEndsUptoRow, standIns := [], harness := (true, "51806109de52a98a91aed40938056fd9e52fc5357f88d15b13ac40049e9e03e1"), looks := false }, kinds := [], alts := [], laidByText := true, laidKinds := [.data], laidTests := true, laidLooks := .later }
def BuildEndsUptoCardSaid : Prop := Claim7.holds Tryz.pinned (.plain (OpenSpec.upto buildEndsSpec)) buildEndsUptoCard

/-- THE SECOND FORM's CARD OF 'wordsetlaw08.BuildGoes'. -/
def buildGoesUptoCard : Claim7 := { stood := { row := buildGoesUptoRow, standIns := [], harness := (true, "51806109de52a98a91aed40938056fd9e52fc5357f88d15b13ac40049e9e03e1"), looks := false }, kinds := [], alts := [], laidByText := true, laidKinds := [.data], laidTests := true, laidLooks := .later }
def BuildGoesUptoCardSaid : Prop := Claim7.holds Tryz.pinned (.plain (OpenSpec.upto buildGoesSpec)) buildGoesUptoCard

/-- THE SECOND FORM's CARD OF 'wordsetlaw08.BuildMeans'. -/
def buildMeansUptoCard : Claim7 := { stood := { row := buildMeansUptoRow, standIns := [], harness := (true, "51806109de52a98a91aed40938056fd9e52fc5357f88d15b13ac40049e9e03e1"), looks := false }, kinds := [], alts := [], laidByText := true, laidKinds := [.data], laidTests := true, laidLooks := .later }
def BuildMeansUptoCardSaid : Prop := Claim7.holds Tryz.pinned (.plain (OpenSpec.upto buildMeansSpec)) buildMeansUptoCard

/-- THE SECOND FORM's CARD OF 'wordsetlaw08.BuildMakes'. -/
def buildMakesUptoCard : Claim7 := { stood := { row := buildMakesUptoRow, standIns := [], harness := (true, "51806109de52a98a91aed40938056fd9e52fc5357f88d15b13ac40049e9e03e1"), looks := false }, kinds := [], alts := [], laidByText := true, laidKinds := [.data], laidTests := true, laidLooks := .later }
def BuildMakesUptoCardSaid : Prop := Claim7.holds Tryz.pinned (.plain (OpenSpec.upto buildMakesSpec)) buildMakesUptoCard
end Rows
end Go.Proofs.YtchoopnjckcohaaGreatDoor
