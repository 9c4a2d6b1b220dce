/-
  DERIVED. GIVEN WITH THE SEED: THE CARDS: each row of YtnfdifkcchciaaaDoorRows.lean that lists a variable, with what it lists TIED to the program's text (the seventh form; the later family's looks); each row that meets fmt, with fmt's text TOLD by the authors' own Lean function (tested against real Go, not proved from fmt's source: count such statements apart). THE CARD IS WHAT COUNTS. Prove the row's statement (the work); the ties are given (YtnfdifkcchciaaaDoorTie.lean); close each card by the builder's one call (the guide's Derived/Test/ToyasCard.lean, 'card_holds'). Laid BY PROGRAM, IN A SANDBOX (cutbox-door.mjs). By AI agents, Wed Nov 11 2026. No macro, syntax, notation, axiom, sorry.
-/
import Derived.Test.YtnfdifkcchciaaaDoorRows
import GoSem.ClaimSeven
namespace Go.Proofs.YtnfdifkcchciaaaDoor
namespace Rows

/-- THE TIED CARD OF 'wordsetlaw02.NamesStay'. -/
def namesStayCard : Claim7 := { stood := { row := namesStayRow, standIns := [], harness := (true, "a89015bc40775bbe58408e34387b6560128bb0890083a22e2dd29c583e838055"), looks := true }, kinds := [], alts := [], laidByText := true, laidKinds := [.data], laidTests := true, laidLooks := .later }
def NamesStayCardSaid : Prop := Claim7.holds Tryd.pinned (.plain (OpenSpec.ofChange namesStaySpec)) namesStayCard

/-- THE TIED CARD OF 'wordsetlaw02.NamesMerge'. -/
def namesMergeCard : Claim7 := { stood := { row := namesMergeRow, standIns := [], harness := (true, "a89015bc40775bbe58408e34387b6560128bb0890083a22e2dd29c583e838055"), looks := true }, kinds := [], alts := [], laidByText := true, laidKinds := [.data], laidTests := true, laidLooks := .later }
def NamesMergeCardSaid : Prop := Claim7.holds Tryd.pinned (.plain (OpenSpec.ofChange namesMergeSpec)) namesMergeCard

/-- THE TIED CARD OF 'wordsetlaw02.NamesTables'. -/
def namesTablesCard : Claim7 := { stood := { row := namesTablesRow, standIns := [], harness := (true, "a89015bc40775bbe58408e34387b6560128bb0890083a22e2dd29c583e838055"), looks := true }, kinds := [], alts := [], laidByText := true, laidKinds := [.data], laidTests := true, laidLooks := .later }
def NamesTablesCardSaid : Prop := Claim7.holds Tryd.pinned (.plain (OpenSpec.ofChange namesTablesSpec)) namesTablesCard

/-- THE TIED CARD OF 'wordsetlaw02.NamesLists'. -/
def namesListsCard : Claim7 := { stood := { row := namesListsRow, standIns := [], harness := (true, "a89015bc40775bbe58408e34387b6560128bb0890083a22e2dd29c583e838055"), looks := true }, kinds := [], alts := [], laidByText := true, laidKinds := [.data, .data, .data, .data], laidTests := true, laidLooks := .later }
def NamesListsCardSaid : Prop := Claim7.holds Tryd.pinned (.plain (OpenSpec.ofChange namesListsSpec)) namesListsCard

/-- THE SECOND FORM's CARD OF 'wordsetlaw02.NamesStay'. -/
def namesStayUptoCard : Claim7 := { stood := { row := namesStayUptoRow, standIns := [], harness := (true, "a89015bc40775bbe58408e34387b6560128bb0890083a22e2dd29c583e838055"), looks := true }, kinds := [], alts := [], laidByText := true, laidKinds := [.data], laidTests := true, laidLooks := .later }
def NamesStayUptoCardSaid : Prop := Claim7.holds Tryd.pinned (.plain (OpenSpec.upto namesStaySpec)) namesStayUptoCard

/-- THE SECOND FORM's CARD OF 'wordsetlaw02.NamesMerge'. -/
def namesMergeUptoCard : Claim7 := { stood := { row := namesMergeUptoRow, standIns := [], harness := (true, "a89015bc40775bbe58408e34387b6560128bb0890083a22e2dd29c583e838055"), looks := true }, kinds := [], alts := [], laidByText := true, laidKinds := [.data], laidTests := true, laidLooks := .later }
def NamesMergeUptoCardSaid : Prop := Claim7.holds Tryd.pinned (.plain (OpenSpec.upto namesMergeSpec)) namesMergeUptoCard

/-- THE SECOND FORM's CARD OF 'wordsetlaw02.NamesTables'. -/
def namesTablesUptoCard : Claim7 := { stood := { row := namesTablesUptoRow, standIns := [], harness := (true, "a89015bc40775bbe58408e34387b6560128bb0890083a22e2dd29c583e838055"), looks := true }, kinds := [], alts := [], laidByText := true, laidKinds := [.data], laidTests := true, laidLooks := .later }
def NamesTablesUptoCardSaid : Prop := Claim7.holds Tryd.pinned (.plain (OpenSpec.upto namesTablesSpec)) namesTablesUptoCard

/-- THE SECOND FORM's CARD OF 'wordsetlaw02.NamesLists'. -/
def namesListsUptoCard : Claim7 := { stood := { row := namesListsUptoRow, standIns := [], harness := (true, "a89015bc40775bbe58408e34387b6560128bb0890083a22e2dd29c583e838055"), looks := true }, kinds := [], alts := [], laidByText := true, laidKinds := [.data, .data, .data, .data], laidTests := true, laidLooks := .later }
def NamesListsUptoCardSaid : Prop := Claim7.holds Tryd.pinned (.plain (OpenSpec.upto namesListsSpec)) namesListsUptoCard
end Rows
end Go.Proofs.YtnfdifkcchciaaaDoor
