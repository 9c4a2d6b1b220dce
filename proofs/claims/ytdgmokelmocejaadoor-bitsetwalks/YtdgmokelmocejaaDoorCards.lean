/-
  DERIVED. GIVEN WITH THE SEED: THE CARDS: each row of YtdgmokelmocejaaDoorRows.lean that lists a variable, with what it lists TIED to the program's text (the seventh form; the later family's looks); each row that meets fmt, with fmt's text TOLD by the authors' own Lean function (tested against real Go, not proved from fmt's source: count such statements apart). THE CARD IS WHAT COUNTS. Prove the row's statement (the work); the ties are given (YtdgmokelmocejaaDoorTie.lean); close each card by the builder's one call (the guide's Derived/Test/ToyasCard.lean, 'card_holds'). Laid BY PROGRAM, IN A SANDBOX (cutbox-door.mjs). By AI agents, Wed Nov 11 2026. No macro, syntax, notation, axiom, sorry.
-/
import Derived.Test.YtdgmokelmocejaaDoorRows
import GoSem.ClaimSeven
namespace Go.Proofs.YtdgmokelmocejaaDoor
namespace Rows

/-- THE TIED CARD OF 'wordsetlaw01.BitsetWalks'. -/
def bitsetWalksCard : Claim7 := { stood := { row := bitsetWalksRow, standIns := [], harness := (true, "ec8d7dc435100dbfaf7eeb92e70f3cff367d6729ebec8f81b272601513e62450"), looks := false }, kinds := [], alts := [], laidByText := true, laidKinds := [.data], laidTests := true, laidLooks := .later }
def BitsetWalksCardSaid : Prop := Claim7.holds Tryd.pinned (.plain (OpenSpec.ofChange bitsetWalksSpec)) bitsetWalksCard

/-- THE TIED CARD OF 'wordsetlaw01.BitsetKeys'. -/
def bitsetKeysCard : Claim7 := { stood := { row := bitsetKeysRow, standIns := [], harness := (true, "ec8d7dc435100dbfaf7eeb92e70f3cff367d6729ebec8f81b272601513e62450"), looks := false }, kinds := [], alts := [], laidByText := true, laidKinds := [.data], laidTests := true, laidLooks := .later }
def BitsetKeysCardSaid : Prop := Claim7.holds Tryd.pinned (.plain (OpenSpec.ofChange bitsetKeysSpec)) bitsetKeysCard

/-- THE TIED CARD OF 'wordsetlaw01.BitsetTold'. -/
def bitsetToldCard : Claim7 := { stood := { row := bitsetToldRow, standIns := [], harness := (true, "ec8d7dc435100dbfaf7eeb92e70f3cff367d6729ebec8f81b272601513e62450"), looks := false }, kinds := [], alts := [], laidByText := true, laidKinds := [.data], laidTests := true, laidLooks := .later }
def BitsetToldCardSaid : Prop := Claim7.holds Tryd.pinned (.plain (OpenSpec.ofChange bitsetToldSpec)) bitsetToldCard

/-- THE TIED CARD OF 'wordsetlaw01.BitsetApart'. -/
def bitsetApartCard : Claim7 := { stood := { row := bitsetApartRow, standIns := [], harness := (true, "ec8d7dc435100dbfaf7eeb92e70f3cff367d6729ebec8f81b272601513e62450"), looks := false }, kinds := [], alts := [], laidByText := true, laidKinds := [.data], laidTests := true, laidLooks := .later }
def BitsetApartCardSaid : Prop := Claim7.holds Tryd.pinned (.plain (OpenSpec.ofChange bitsetApartSpec)) bitsetApartCard

/-- THE TIED CARD OF 'wordsetlaw01.BitsetOrder'. -/
def bitsetOrderCard : Claim7 := { stood := { row := bitsetOrderRow, standIns := [], harness := (true, "ec8d7dc435100dbfaf7eeb92e70f3cff367d6729ebec8f81b272601513e62450"), looks := false }, kinds := [], alts := [], laidByText := true, laidKinds := [.data], laidTests := true, laidLooks := .later }
def BitsetOrderCardSaid : Prop := Claim7.holds Tryd.pinned (.plain (OpenSpec.ofChange bitsetOrderSpec)) bitsetOrderCard

/-- THE TIED CARD OF 'wordsetlaw01.BitsetAlgebra'. -/
def bitsetAlgebraCard : Claim7 := { stood := { row := bitsetAlgebraRow, standIns := [], harness := (true, "ec8d7dc435100dbfaf7eeb92e70f3cff367d6729ebec8f81b272601513e62450"), looks := false }, kinds := [], alts := [], laidByText := true, laidKinds := [.data], laidTests := true, laidLooks := .later }
def BitsetAlgebraCardSaid : Prop := Claim7.holds Tryd.pinned (.plain (OpenSpec.ofChange bitsetAlgebraSpec)) bitsetAlgebraCard

/-- THE SECOND FORM's CARD OF 'wordsetlaw01.BitsetWalks'. -/
def bitsetWalksUptoCard : Claim7 := { stood := { row := bitsetWalksUptoRow, standIns := [], harness := (true, "ec8d7dc435100dbfaf7eeb92e70f3cff367d6729ebec8f81b272601513e62450"), looks := false }, kinds := [], alts := [], laidByText := true, laidKinds := [.data], laidTests := true, laidLooks := .later }
def BitsetWalksUptoCardSaid : Prop := Claim7.holds Tryd.pinned (.plain (OpenSpec.upto bitsetWalksSpec)) bitsetWalksUptoCard

/-- THE SECOND FORM's CARD OF 'wordsetlaw01.BitsetKeys'. -/
def bitsetKeysUptoCard : Claim7 := { stood := { row := bitsetKeysUptoRow, standIns := [], harness := (true, "ec8d7dc435100dbfaf7eeb92e70f3cff367d6729ebec8f81b272601513e62450"), looks := false }, kinds := [], alts := [], laidByText := true, laidKinds := [.data], laidTests := true, laidLooks := .later }
def BitsetKeysUptoCardSaid : Prop := Claim7.holds Tryd.pinned (.plain (OpenSpec.upto bitsetKeysSpec)) bitsetKeysUptoCard

/-- THE SECOND FORM's CARD OF 'wordsetlaw01.BitsetTold'. -/
def bitsetToldUptoCard : Claim7 := { stood := { row := bitsetToldUptoRow, standIns := [], harness := (true, "ec8d7dc435100dbfaf7eeb92e70f3cff367d6729ebec8f81b272601513e62450"), looks := false }, kinds := [], alts := [], laidByText := true, laidKinds := [.data], laidTests := true, laidLooks := .later }
def BitsetToldUptoCardSaid : Prop := Claim7.holds Tryd.pinned (.plain (OpenSpec.upto bitsetToldSpec)) bitsetToldUptoCard

/-- THE SECOND FORM's CARD OF 'wordsetlaw01.BitsetApart'. -/
def bitsetApartUptoCard : Claim7 := { stood := { row := bitsetApartUptoRow, standIns := [], harness := (true, "ec8d7dc435100dbfaf7eeb92e70f3cff367d6729ebec8f81b272601513e62450"), looks := false }, kinds := [], alts := [], laidByText := true, laidKinds := [.data], laidTests := true, laidLooks := .later }
def BitsetApartUptoCardSaid : Prop := Claim7.holds Tryd.pinned (.plain (OpenSpec.upto bitsetApartSpec)) bitsetApartUptoCard

/-- THE SECOND FORM's CARD OF 'wordsetlaw01.BitsetOrder'. -/
def bitsetOrderUptoCard : Claim7 := { stood := { row := bitsetOrderUptoRow, standIns := [], harness := (true, "ec8d7dc435100dbfaf7eeb92e70f3cff367d6729ebec8f81b272601513e62450"), looks := false }, kinds := [], alts := [], laidByText := true, laidKinds := [.data], laidTests := true, laidLooks := .later }
def BitsetOrderUptoCardSaid : Prop := Claim7.holds Tryd.pinned (.plain (OpenSpec.upto bitsetOrderSpec)) bitsetOrderUptoCard

/-- THE SECOND FORM's CARD OF 'wordsetlaw01.BitsetAlgebra'. -/
def bitsetAlgebraUptoCard : Claim7 := { stood := { row := bitsetAlgebraUptoRow, standIns := [], harness := (true, "ec8d7dc435100dbfaf7eeb92e70f3cff367d6729ebec8f81b272601513e62450"), looks := false }, kinds := [], alts := [], laidByText := true, laidKinds := [.data], laidTests := true, laidLooks := .later }
def BitsetAlgebraUptoCardSaid : Prop := Claim7.holds Tryd.pinned (.plain (OpenSpec.upto bitsetAlgebraSpec)) bitsetAlgebraUptoCard
end Rows
end Go.Proofs.YtdgmokelmocejaaDoor
