/-
  DERIVED. GIVEN WITH THE SEED: THE CARDS: each row of YtmagchclmmphaaaGreatDoorRows.lean that lists a variable, with what it lists TIED to the program's text (the seventh form; the later family's looks); each row that meets fmt, with fmt's text TOLD by the authors' own Lean function (tested against real Go, not proved from fmt's source: count such statements apart). THE CARD IS WHAT COUNTS. Prove the row's statement (the work); the ties are given (YtmagchclmmphaaaGreatDoorTie.lean); close each card by the builder's one call (the guide's Derived/Test/ToyasCard.lean, 'card_holds'). Laid BY PROGRAM, IN A SANDBOX (cutbox-door.mjs). By AI agents, Wed Nov 11 2026. No macro, syntax, notation, axiom, sorry.
-/
import Derived.Test.YtmagchclmmphaaaGreatDoorRows
import GoSem.ClaimSeven
namespace Go.Proofs.YtmagchclmmphaaaGreatDoor
namespace Rows

/-- THE TIED CARD OF 'wordsetlaw04.FormatCanon'. -/
def formatCanonCard : Claim7 := { stood := { row := formatCanonRow, standIns := [], harness := (true, "bbd6abbeb587a863f8e13a95e4eccf19e8c9012840f7214f5ba11400799c9f4e"), looks := false }, kinds := [], alts := [], laidByText := true, laidKinds := [.data, .data, .data, .data, .data], laidTests := true, laidLooks := .later }
def FormatCanonCardSaid : Prop := Claim7.holds Tryz.pinned (.plain (OpenSpec.ofChange formatCanonSpec)) formatCanonCard

/-- THE TIED CARD OF 'wordsetlaw04.FormatPrints'. -/
def formatPrintsCard : Claim7 := { stood := { row := formatPrintsRow, standIns := [], harness := (true, "bbd6abbeb587a863f8e13a95e4eccf19e8c9012840f7214f5ba11400799c9f4e"), looks := false }, kinds := [], alts := [], laidByText := true, laidKinds := [.data, .data, .data, .data, .data], laidTests := true, laidLooks := .later }
def FormatPrintsCardSaid : Prop := Claim7.holds Tryz.pinned (.plain (OpenSpec.ofChange formatPrintsSpec)) formatPrintsCard

/-- THE TIED CARD OF 'wordsetlaw04.FormatRound'. -/
def formatRoundCard : Claim7 := { stood := { row := formatRoundRow, standIns := [], harness := (true, "bbd6abbeb587a863f8e13a95e4eccf19e8c9012840f7214f5ba11400799c9f4e"), looks := false }, kinds := [], alts := [], laidByText := true, laidKinds := [.data, .data, .data, .data, .data], laidTests := true, laidLooks := .later }
def FormatRoundCardSaid : Prop := Claim7.holds Tryz.pinned (.plain (OpenSpec.ofChange formatRoundSpec)) formatRoundCard

/-- THE TIED CARD OF 'wordsetlaw04.FormatParses'. -/
def formatParsesCard : Claim7 := { stood := { row := formatParsesRow, standIns := [], harness := (true, "bbd6abbeb587a863f8e13a95e4eccf19e8c9012840f7214f5ba11400799c9f4e"), looks := false }, kinds := [], alts := [], laidByText := true, laidKinds := [.data, .data, .data, .data, .data], laidTests := true, laidLooks := .later }
def FormatParsesCardSaid : Prop := Claim7.holds Tryz.pinned (.plain (OpenSpec.ofChange formatParsesSpec)) formatParsesCard

/-- THE SECOND FORM's CARD OF 'wordsetlaw04.FormatCanon'. -/
def formatCanonUptoCard : Claim7 := { stood := { row := formatCanonUptoRow, standIns := [], harness := (true, "bbd6abbeb587a863f8e13a95e4eccf19e8c9012840f7214f5ba11400799c9f4e"), looks := false }, kinds := [], alts := [], laidByText := true, laidKinds := [.data, .data, .data, .data, .data], laidTests := true, laidLooks := .later }
def FormatCanonUptoCardSaid : Prop := Claim7.holds Tryz.pinned (.plain (OpenSpec.upto formatCanonSpec)) formatCanonUptoCard

/-- THE SECOND FORM's CARD OF 'wordsetlaw04.FormatPrints'. -/
def formatPrintsUptoCard : Claim7 := { stood := { row := formatPrintsUptoRow, standIns := [], harness := (true, "bbd6abbeb587a863f8e13a95e4eccf19e8c9012840f7214f5ba11400799c9f4e"), looks := false }, kinds := [], alts := [], laidByText := true, laidKinds := [.data, .data, .data, .data, .data], laidTests := true, laidLooks := .later }
def FormatPrintsUptoCardSaid : Prop := Claim7.holds Tryz.pinned (.plain (OpenSpec.upto formatPrintsSpec)) formatPrintsUptoCard

/-- THE SECOND FORM's CARD OF 'wordsetlaw04.FormatRound'. -/
def formatRoundUptoCard : Claim7 := { stood := { row := formatRoundUptoRow, standIns := [], harness := (true, "bbd6abbeb587a863f8e13a95e4eccf19e8c9012840f7214f5ba11400799c9f4e"), looks := false }, kinds := [], alts := [], laidByText := true, laidKinds := [.data, .data, .data, .data, .data], laidTests := true, laidLooks := .later }
def FormatRoundUptoCardSaid : Prop := Claim7.holds Tryz.pinned (.plain (OpenSpec.upto formatRoundSpec)) formatRoundUptoCard

/-- THE SECOND FORM's CARD OF 'wordsetlaw04.FormatParses'. -/
def formatParsesUptoCard : Claim7 := { stood := { row := formatParsesUptoRow, standIns := [], harness := (true, "bbd6abbeb587a863f8e13a95e4eccf19e8c9012840f7214f5ba11400799c9f4e"), looks := false }, kinds := [], alts := [], laidByText := true, laidKinds := [.data, .data, .data, .data, .data], laidTests := true, laidLooks := .later }
def FormatParsesUptoCardSaid : Prop := Claim7.holds Tryz.pinned (.plain (OpenSpec.upto formatParsesSpec)) formatParsesUptoCard
end Rows
end Go.Proofs.YtmagchclmmphaaaGreatDoor
