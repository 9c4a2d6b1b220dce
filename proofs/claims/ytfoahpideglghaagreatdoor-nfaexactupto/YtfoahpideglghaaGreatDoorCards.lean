/-
  DERIVED. GIVEN WITH THE SEED: THE CARDS: each row of YtfoahpideglghaaGreatDoorRows.lean that lists a variable, with what it lists TIED to the program's text (the seventh form; the later family's looks); each row that meets fmt, with fmt's text TOLD by the authors' own Lean function (tested against real Go, not proved from fmt's source: count such statements apart). THE CARD IS WHAT COUNTS. Prove the row's statement (the work); the ties are given (YtfoahpideglghaaGreatDoorTie.lean); close each card by the builder's one call (the guide's Derived/Test/ToyasCard.lean, 'card_holds'). Laid BY PROGRAM, IN A SANDBOX (cutbox-door.mjs). By AI agents, Wed Nov 11 2026. No macro, syntax, notation, axiom, sorry.
-/
import Derived.Test.YtfoahpideglghaaGreatDoorRows
import GoSem.ClaimSeven
namespace Go.Proofs.YtfoahpideglghaaGreatDoor
namespace Rows

/-- THE TIED CARD OF 'wordsetlaw06.NfaPaths'. -/
def nfaPathsCard : Claim7 := { stood := { row := nfaPathsRow, standIns := [], harness := (true, "f7c40367d481bca9761ab6ce14a14d8d882d3128c3299780c247c9b490bf6983"), looks := false }, kinds := [], alts := [], laidByText := true, laidKinds := [.data], laidTests := true, laidLooks := .later }
def NfaPathsCardSaid : Prop := Claim7.holds Tryz.pinned (.plain (OpenSpec.ofChange nfaPathsSpec)) nfaPathsCard

/-- THE TIED CARD OF 'wordsetlaw06.NfaImages'. -/
def nfaImagesCard : Claim7 := { stood := { row := nfaImagesRow, standIns := [], harness := (true, "f7c40367d481bca9761ab6ce14a14d8d882d3128c3299780c247c9b490bf6983"), looks := false }, kinds := [], alts := [], laidByText := true, laidKinds := [.data], laidTests := true, laidLooks := .later }
def NfaImagesCardSaid : Prop := Claim7.holds Tryz.pinned (.plain (OpenSpec.ofChange nfaImagesSpec)) nfaImagesCard

/-- THE TIED CARD OF 'wordsetlaw06.NfaMakesWords'. -/
def nfaMakesWordsCard : Claim7 := { stood := { row := nfaMakesWordsRow, standIns := [], harness := (true, "f7c40367d481bca9761ab6ce14a14d8d882d3128c3299780c247c9b490bf6983"), looks := false }, kinds := [], alts := [], laidByText := true, laidKinds := [.data], laidTests := true, laidLooks := .later }
def NfaMakesWordsCardSaid : Prop := Claim7.holds Tryz.pinned (.plain (OpenSpec.ofChange nfaMakesWordsSpec)) nfaMakesWordsCard

/-- THE TIED CARD OF 'wordsetlaw06.NfaMakes'. -/
def nfaMakesCard : Claim7 := { stood := { row := nfaMakesRow, standIns := [], harness := (true, "f7c40367d481bca9761ab6ce14a14d8d882d3128c3299780c247c9b490bf6983"), looks := false }, kinds := [], alts := [], laidByText := true, laidKinds := [.data], laidTests := true, laidLooks := .later }
def NfaMakesCardSaid : Prop := Claim7.holds Tryz.pinned (.plain (OpenSpec.ofChange nfaMakesSpec)) nfaMakesCard

/-- THE TIED CARD OF 'wordsetlaw06.NfaExact'. -/
def nfaExactCard : Claim7 := { stood := { row := nfaExactRow, standIns := [], harness := (true, "f7c40367d481bca9761ab6ce14a14d8d882d3128c3299780c247c9b490bf6983"), looks := false }, kinds := [], alts := [], laidByText := true, laidKinds := [.data], laidTests := true, laidLooks := .later }
def NfaExactCardSaid : Prop := Claim7.holds Tryz.pinned (.plain (OpenSpec.ofChange nfaExactSpec)) nfaExactCard

/-- THE SECOND FORM's CARD OF 'wordsetlaw06.NfaPaths'. -/
def nfaPathsUptoCard : Claim7 := { stood := { row := nfaPathsUptoRow, standIns := [], harness := (true, "f7c40367d481bca9761ab6ce14a14d8d882d3128c3299780c247c9b490bf6983"), looks := false }, kinds := [], alts := [], laidByText := true, laidKinds := [.data], laidTests := true, laidLooks := .later }
def NfaPathsUptoCardSaid : Prop := Claim7.holds Tryz.pinned (.plain (OpenSpec.upto nfaPathsSpec)) nfaPathsUptoCard

/-- THE SECOND FORM's CARD OF 'wordsetlaw06.NfaImages'. -/
def nfaImagesUptoCard : Claim7 := { stood := { row := nfaImagesUptoRow, standIns := [], harness := (true, "f7c40367d481bca9761ab6ce14a14d8d882d3128c3299780c247c9b490bf6983"), looks := false }, kinds := [], alts := [], laidByText := true, laidKinds := [.data], laidTests := true, laidLooks := .later }
def NfaImagesUptoCardSaid : Prop := Claim7.holds Tryz.pinned (.plain (OpenSpec.upto nfaImagesSpec)) nfaImagesUptoCard

/-- THE SECOND FORM's CARD OF 'wordsetlaw06.NfaMakesWords'. -/
def nfaMakesWordsUptoCard : Claim7 := { stood := { row := nfaMakesWordsUptoRow, standIns := [], harness := (true, "f7c40367d481bca9761ab6ce14a14d8d882d3128c3299780c247c9b490bf6983"), looks := false }, kinds := [], alts := [], laidByText := true, laidKinds := [.data], laidTests := true, laidLooks := .later }
def NfaMakesWordsUptoCardSaid : Prop := Claim7.holds Tryz.pinned (.plain (OpenSpec.upto nfaMakesWordsSpec)) nfaMakesWordsUptoCard

/-- THE SECOND FORM's CARD OF 'wordsetlaw06.NfaMakes'. -/
def nfaMakesUptoCard : Claim7 := { stood := { row := nfaMakesUptoRow, standIns := [], harness := (true, "f7c40367d481bca9761ab6ce14a14d8d882d3128c3299780c247c9b490bf6983"), looks := false }, kinds := [], alts := [], laidByText := true, laidKinds := [.data], laidTests := true, laidLooks := .later }
def NfaMakesUptoCardSaid : Prop := Claim7.holds Tryz.pinned (.plain (OpenSpec.upto nfaMakesSpec)) nfaMakesUptoCard

/-- THE SECOND FORM's CARD OF 'wordsetlaw06.NfaExact'. -/
def nfaExactUptoCard : Claim7 := { stood := { row := nfaExactUptoRow, standIns := [], harness := (true, "f7c40367d481bca9761ab6ce14a14d8d882d3128c3299780c247c9b490bf6983"), looks := false }, kinds := [], alts := [], laidByText := true, laidKinds := [.data], laidTests := true, laidLooks := .later }
def NfaExactUptoCardSaid : Prop := Claim7.holds Tryz.pinned (.plain (OpenSpec.upto nfaExactSpec)) nfaExactUptoCard
end Rows
end Go.Proofs.YtfoahpideglghaaGreatDoor
