/-
  DERIVED. GIVEN WITH THE SEED: THE CARDS: each row of YtgnpdhgphkocoaaGreatDoorRows.lean that lists a variable, with what it lists TIED to the program's text (the seventh form; the later family's looks); each row that meets fmt, with fmt's text TOLD by the authors' own Lean function (tested against real Go, not proved from fmt's source: count such statements apart). THE CARD IS WHAT COUNTS. Prove the row's statement (the work); the ties are given (YtgnpdhgphkocoaaGreatDoorTie.lean); close each card by the builder's one call (the guide's Derived/Test/ToyasCard.lean, 'card_holds'). Laid BY PROGRAM, IN A SANDBOX (cutbox-door.mjs). By AI agents, Wed Nov 11 2026. No macro, syntax, notation, axiom, sorry.
-/
import Derived.Test.YtgnpdhgphkocoaaGreatDoorRows
import GoSem.ClaimSeven
namespace Go.Proofs.YtgnpdhgphkocoaaGreatDoor
namespace Rows

/-- THE TIED CARD OF 'wordsetlaw11.SubsetMeans'. -/
def subsetMeansCard : Claim7 := { stood := { row := subsetMeansRow, standIns := [], harness := (true, "746f41c29c3a7e122b3ea81da5bdae8360cd137ff08986cb7da2943044faacd0"), looks := false }, kinds := [], alts := [], laidByText := true, laidKinds := [.data], laidTests := true, laidLooks := .later }
def SubsetMeansCardSaid : Prop := Claim7.holds Tryz.pinned (.plain (OpenSpec.ofChange subsetMeansSpec)) subsetMeansCard

/-- THE TIED CARD OF 'wordsetlaw11.SubsetJoined'. -/
def subsetJoinedCard : Claim7 := { stood := { row := subsetJoinedRow, standIns := [], harness := (true, "746f41c29c3a7e122b3ea81da5bdae8360cd137ff08986cb7da2943044faacd0"), looks := false }, kinds := [], alts := [], laidByText := true, laidKinds := [.data], laidTests := true, laidLooks := .later }
def SubsetJoinedCardSaid : Prop := Claim7.holds Tryz.pinned (.plain (OpenSpec.ofChange subsetJoinedSpec)) subsetJoinedCard

/-- THE TIED CARD OF 'wordsetlaw11.SubsetMakes'. -/
def subsetMakesCard : Claim7 := { stood := { row := subsetMakesRow, standIns := [], harness := (true, "746f41c29c3a7e122b3ea81da5bdae8360cd137ff08986cb7da2943044faacd0"), looks := false }, kinds := [], alts := [], laidByText := true, laidKinds := [.data], laidTests := true, laidLooks := .later }
def SubsetMakesCardSaid : Prop := Claim7.holds Tryz.pinned (.plain (OpenSpec.ofChange subsetMakesSpec)) subsetMakesCard

/-- THE TIED CARD OF 'wordsetlaw11.SubsetJoins'. -/
def subsetJoinsCard : Claim7 := { stood := { row := subsetJoinsRow, standIns := [], harness := (true, "746f41c29c3a7e122b3ea81da5bdae8360cd137ff08986cb7da2943044faacd0"), looks := false }, kinds := [], alts := [], laidByText := true, laidKinds := [.data], laidTests := true, laidLooks := .later }
def SubsetJoinsCardSaid : Prop := Claim7.holds Tryz.pinned (.plain (OpenSpec.ofChange subsetJoinsSpec)) subsetJoinsCard

/-- THE SECOND FORM's CARD OF 'wordsetlaw11.SubsetMeans'. -/
def subsetMeansUptoCard : Claim7 := { stood := { row := subsetMeansUptoRow, standIns := [], harness := (true, "746f41c29c3a7e122b3ea81da5bdae8360cd137ff08986cb7da2943044faacd0"), looks := false }, kinds := [], alts := [], laidByText := true, laidKinds := [.data], laidTests := true, laidLooks := .later }
def SubsetMeansUptoCardSaid : Prop := Claim7.holds Tryz.pinned (.plain (OpenSpec.upto subsetMeansSpec)) subsetMeansUptoCard

/-- THE SECOND FORM's CARD OF 'wordsetlaw11.SubsetJoined'. -/
def subsetJoinedUptoCard : Claim7 := { stood := { row := subsetJoinedUptoRow, standIns := [], harness := (true, "746f41c29c3a7e122b3ea81da5bdae8360cd137ff08986cb7da2943044faacd0"), looks := false }, kinds := [], alts := [], laidByText := true, laidKinds := [.data], laidTests := true, laidLooks := .later }
def SubsetJoinedUptoCardSaid : Prop := Claim7.holds Tryz.pinned (.plain (OpenSpec.upto subsetJoinedSpec)) subsetJoinedUptoCard

/-- THE SECOND FORM's CARD OF 'wordsetlaw11.SubsetMakes'. -/
def subsetMakesUptoCard : Claim7 := { stood := { row := subsetMakesUptoRow, standIns := [], harness := (true, "746f41c29c3a7e122b3ea81da5bdae8360cd137ff08986cb7da2943044faacd0"), looks := false }, kinds := [], alts := [], laidByText := true, laidKinds := [.data], laidTests := true, laidLooks := .later }
def SubsetMakesUptoCardSaid : Prop := Claim7.holds Tryz.pinned (.plain (OpenSpec.upto subsetMakesSpec)) subsetMakesUptoCard

/-- THE SECOND FORM's CARD OF 'wordsetlaw11.SubsetJoins'. -/
def subsetJoinsUptoCard : Claim7 := { stood := { row := subsetJoinsUptoRow, standIns := [], harness := (true, "746f41c29c3a7e122b3ea81da5bdae8360cd137ff08986cb7da2943044faacd0"), looks := false }, kinds := [], alts := [], laidByText := true, laidKinds := [.data], laidTests := true, laidLooks := .later }
def SubsetJoinsUptoCardSaid : Prop := Claim7.holds Tryz.pinned (.plain (OpenSpec.upto subsetJoinsSpec)) subsetJoinsUptoCard
end Rows
end Go.Proofs.YtgnpdhgphkocoaaGreatDoor
