/-
  DERIVED. GIVEN WITH THE SEED: THE CARDS: each row of YtgifamdoolcemaaDoorRows.lean that lists a variable, with what it lists TIED to the program's text (the seventh form; the later family's looks); each row that meets fmt, with fmt's text TOLD by the authors' own Lean function (tested against real Go, not proved from fmt's source: count such statements apart). THE CARD IS WHAT COUNTS. Prove the row's statement (the work); the ties are given (YtgifamdoolcemaaDoorTie.lean); close each card by the builder's one call (the guide's Derived/Test/ToyasCard.lean, 'card_holds'). Laid BY PROGRAM, IN A SANDBOX (cutbox-door.mjs). By AI agents, Wed Nov 11 2026. No macro, syntax, notation, axiom, sorry.
-/
import Derived.Test.YtgifamdoolcemaaDoorRows
import GoSem.ClaimSeven
namespace Go.Proofs.YtgifamdoolcemaaDoor
namespace Rows

/-- THE TIED CARD OF 'wordsetlaw03.GrammarEnds'. -/
def grammarEndsCard : Claim7 := { stood := { row := grammarEndsRow, standIns := [], harness := (true, "880dea63d7c762595c65472fe4ccb0a3cb3e5f7a2cfe59edff787420e838cdb5"), looks := false }, kinds := [], alts := [], laidByText := true, laidKinds := [.data], laidTests := true, laidLooks := .later }
def GrammarEndsCardSaid : Prop := Claim7.holds Tryd.pinned (.plain (OpenSpec.ofChange grammarEndsSpec)) grammarEndsCard

/-- THE TIED CARD OF 'wordsetlaw03.GrammarLines'. -/
def grammarLinesCard : Claim7 := { stood := { row := grammarLinesRow, standIns := [], harness := (true, "880dea63d7c762595c65472fe4ccb0a3cb3e5f7a2cfe59edff787420e838cdb5"), looks := false }, kinds := [], alts := [], laidByText := true, laidKinds := [.data], laidTests := true, laidLooks := .later }
def GrammarLinesCardSaid : Prop := Claim7.holds Tryd.pinned (.plain (OpenSpec.ofChange grammarLinesSpec)) grammarLinesCard

/-- THE TIED CARD OF 'wordsetlaw03.GrammarFollows'. -/
def grammarFollowsCard : Claim7 := { stood := { row := grammarFollowsRow, standIns := [], harness := (true, "880dea63d7c762595c65472fe4ccb0a3cb3e5f7a2cfe59edff787420e838cdb5"), looks := false }, kinds := [], alts := [], laidByText := true, laidKinds := [.data], laidTests := true, laidLooks := .later }
def GrammarFollowsCardSaid : Prop := Claim7.holds Tryd.pinned (.plain (OpenSpec.ofChange grammarFollowsSpec)) grammarFollowsCard

/-- THE TIED CARD OF 'wordsetlaw03.GrammarExact'. -/
def grammarExactCard : Claim7 := { stood := { row := grammarExactRow, standIns := [], harness := (true, "880dea63d7c762595c65472fe4ccb0a3cb3e5f7a2cfe59edff787420e838cdb5"), looks := false }, kinds := [], alts := [], laidByText := true, laidKinds := [.data], laidTests := true, laidLooks := .later }
def GrammarExactCardSaid : Prop := Claim7.holds Tryd.pinned (.plain (OpenSpec.ofChange grammarExactSpec)) grammarExactCard

/-- THE SECOND FORM's CARD OF 'wordsetlaw03.GrammarEnds'. -/
def grammarEndsUptoCard : Claim7 := { stood := { row := grammarEndsUptoRow, standIns := [], harness := (true, "880dea63d7c762595c65472fe4ccb0a3cb3e5f7a2cfe59edff787420e838cdb5"), looks := false }, kinds := [], alts := [], laidByText := true, laidKinds := [.data], laidTests := true, laidLooks := .later }
def GrammarEndsUptoCardSaid : Prop := Claim7.holds Tryd.pinned (.plain (OpenSpec.upto grammarEndsSpec)) grammarEndsUptoCard

/-- THE SECOND FORM's CARD OF 'wordsetlaw03.GrammarLines'. -/
def grammarLinesUptoCard : Claim7 := { stood := { row := grammarLinesUptoRow, standIns := [], harness := (true, "880dea63d7c762595c65472fe4ccb0a3cb3e5f7a2cfe59edff787420e838cdb5"), looks := false }, kinds := [], alts := [], laidByText := true, laidKinds := [.data], laidTests := true, laidLooks := .later }
def GrammarLinesUptoCardSaid : Prop := Claim7.holds Tryd.pinned (.plain (OpenSpec.upto grammarLinesSpec)) grammarLinesUptoCard

/-- THE SECOND FORM's CARD OF 'wordsetlaw03.GrammarFollows'. -/
def grammarFollowsUptoCard : Claim7 := { stood := { row := grammarFollowsUptoRow, standIns := [], harness := (true, "880dea63d7c762595c65472fe4ccb0a3cb3e5f7a2cfe59edff787420e838cdb5"), looks := false }, kinds := [], alts := [], laidByText := true, laidKinds := [.data], laidTests := true, laidLooks := .later }
def GrammarFollowsUptoCardSaid : Prop := Claim7.holds Tryd.pinned (.plain (OpenSpec.upto grammarFollowsSpec)) grammarFollowsUptoCard

/-- THE SECOND FORM's CARD OF 'wordsetlaw03.GrammarExact'. -/
def grammarExactUptoCard : Claim7 := { stood := { row := grammarExactUptoRow, standIns := [], harness := (true, "880dea63d7c762595c65472fe4ccb0a3cb3e5f7a2cfe59edff787420e838cdb5"), looks := false }, kinds := [], alts := [], laidByText := true, laidKinds := [.data], laidTests := true, laidLooks := .later }
def GrammarExactUptoCardSaid : Prop := Claim7.holds Tryd.pinned (.plain (OpenSpec.upto grammarExactSpec)) grammarExactUptoCard
end Rows
end Go.Proofs.YtgifamdoolcemaaDoor
