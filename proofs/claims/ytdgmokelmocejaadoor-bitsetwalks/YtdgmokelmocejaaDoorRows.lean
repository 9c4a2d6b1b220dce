/-
  NARROWER THAN 'FOR EVERY INPUT', by the rows' own cells (each row's printed sentence says how): BitsetWalks: laid · BitsetKeys: laid · BitsetTold: laid · BitsetApart: laid · BitsetOrder: laid · BitsetAlgebra: laid.
  DERIVED. THE GIVEN ROWS OF THIS SEAT. 6 by the template 'for every input the law returns true; each argument reads behind the call as it read before'; 0 by the template 'total and deterministic' (their statements: YtdgmokelmocejaaDoorTotals.lean).
  GIVEN WITH THE SEED: the statements are not yours to turn. If you find one false, say at which input.
  Laid BY PROGRAM, IN A SANDBOX (cutbox-rows.mjs): the forced cells as the released guide's own fill.sh prints them over the translation 26003c9247fef620… (all of the seat's roots in one cut). By AI agents, Wed Nov 11 2026. No macro, syntax, notation, axiom, sorry.
-/
import Derived.Test.YtdgmokelmocejaaDoorChecked
import GoSem.Claim
import GoSem.ClaimJoined
import GoSem.ClaimMapViews
import Derived.JoinedTies
import Derived.KernelRfl
namespace Go.Proofs.YtdgmokelmocejaaDoor
/- THE CELL 'sum', in the pinned program and in every row, IS THE sha256 OF THE DUMP (.gsa) THAT YtdgmokelmocejaaDoorProg.lean LOADS. Nothing in Lean hashes anything: it is a label: what it is worth is what the hold of that sum in a sandbox is worth. -/
noncomputable def Tryd.pinned : Pinned := { name := "ytdgmokelmocejaadoor", sum := "26003c9247fef620bdb64156eb8bdb30fb43cdeb7d921384a03ee892dadf6157", checked := Tryd.checked }
namespace Rows
def none {H : Type} : Left H := { results := [], args := [] }

/- WHAT THE LISTED PACKAGE-LEVEL VARIABLES READ AS WHEN THE CALL BEGINS. Each datum BY PROGRAM (the guide's laid-datum.mjs) off the statement by which the dump's own 'gosem.cut.vars' lays the variable. In a bare row this is a premise. The card (YtdgmokelmocejaaDoorCards.lean) ties it to the program's text. -/
def laid_math_bits_deBruijn64tab {H : Type} : DataW H := .agg [.lit (.int .u8 0), .lit (.int .u8 1), .lit (.int .u8 56), .lit (.int .u8 2), .lit (.int .u8 57), .lit (.int .u8 49), .lit (.int .u8 28), .lit (.int .u8 3), .lit (.int .u8 61), .lit (.int .u8 58), .lit (.int .u8 42), .lit (.int .u8 50), .lit (.int .u8 38), .lit (.int .u8 29), .lit (.int .u8 17), .lit (.int .u8 4), .lit (.int .u8 62), .lit (.int .u8 47), .lit (.int .u8 59), .lit (.int .u8 36), .lit (.int .u8 45), .lit (.int .u8 43), .lit (.int .u8 51), .lit (.int .u8 22), .lit (.int .u8 53), .lit (.int .u8 39), .lit (.int .u8 33), .lit (.int .u8 30), .lit (.int .u8 24), .lit (.int .u8 18), .lit (.int .u8 12), .lit (.int .u8 5), .lit (.int .u8 63), .lit (.int .u8 55), .lit (.int .u8 48), .lit (.int .u8 27), .lit (.int .u8 60), .lit (.int .u8 41), .lit (.int .u8 37), .lit (.int .u8 16), .lit (.int .u8 46), .lit (.int .u8 35), .lit (.int .u8 44), .lit (.int .u8 21), .lit (.int .u8 52), .lit (.int .u8 32), .lit (.int .u8 23), .lit (.int .u8 11), .lit (.int .u8 54), .lit (.int .u8 26), .lit (.int .u8 40), .lit (.int .u8 15), .lit (.int .u8 34), .lit (.int .u8 20), .lit (.int .u8 31), .lit (.int .u8 10), .lit (.int .u8 25), .lit (.int .u8 14), .lit (.int .u8 19), .lit (.int .u8 9), .lit (.int .u8 13), .lit (.int .u8 8), .lit (.int .u8 7), .lit (.int .u8 6)]

/-- 'wordsetlaw01.BitsetWalks': WHATEVER THE INPUT: true; the input reads as it did. -/
def bitsetWalksSpec : ChangeSpec := { name := "bitsetWalks", fn := fun _ => fun
  | [d1, d2] => { results := [.lit (.bool true)], args := [d1, d2] }
  | _ => none }
def bitsetWalksRow : OpenClaim := { program := "ytdgmokelmocejaadoor", sum := "26003c9247fef620bdb64156eb8bdb30fb43cdeb7d921384a03ee892dadf6157", func := "wordset/wordsetlaw01.BitsetWalks", spec := "bitsetWalks", unfollowed := true, recurses := true, named := ["math/bits.deBruijn64tab"], apart := false, laid := [("math/bits.deBruijn64tab", laid_math_bits_deBruijn64tab)] }
def BitsetWalksSaid : Prop := bitsetWalksRow.holds Tryd.pinned (OpenSpec.ofChange bitsetWalksSpec)

/-- ITS FALSE NEIGHBOUR: 'it returns false'. Refute it at one input. -/
def bitsetWalksWrong : ChangeSpec := { name := "bitsetWalks", fn := fun _ => fun
  | [d1, d2] => { results := [.lit (.bool false)], args := [d1, d2] }
  | _ => none }
def BitsetWalksWrongFalsely : Prop := bitsetWalksRow.holds Tryd.pinned (OpenSpec.ofChange bitsetWalksWrong)

/-- 'wordsetlaw01.BitsetKeys': WHATEVER THE INPUT: true; the input reads as it did. -/
def bitsetKeysSpec : ChangeSpec := { name := "bitsetKeys", fn := fun _ => fun
  | [d] => { results := [.lit (.bool true)], args := [d] }
  | _ => none }
def bitsetKeysRow : OpenClaim := { program := "ytdgmokelmocejaadoor", sum := "26003c9247fef620bdb64156eb8bdb30fb43cdeb7d921384a03ee892dadf6157", func := "wordset/wordsetlaw01.BitsetKeys", spec := "bitsetKeys", unfollowed := true, recurses := true, named := ["math/bits.deBruijn64tab"], apart := false, laid := [("math/bits.deBruijn64tab", laid_math_bits_deBruijn64tab)] }
def BitsetKeysSaid : Prop := bitsetKeysRow.holds Tryd.pinned (OpenSpec.ofChange bitsetKeysSpec)

/-- ITS FALSE NEIGHBOUR: 'it returns false'. Refute it at one input. -/
def bitsetKeysWrong : ChangeSpec := { name := "bitsetKeys", fn := fun _ => fun
  | [d] => { results := [.lit (.bool false)], args := [d] }
  | _ => none }
def BitsetKeysWrongFalsely : Prop := bitsetKeysRow.holds Tryd.pinned (OpenSpec.ofChange bitsetKeysWrong)

/-- 'wordsetlaw01.BitsetTold': WHATEVER THE INPUT: true; the input reads as it did. -/
def bitsetToldSpec : ChangeSpec := { name := "bitsetTold", fn := fun _ => fun
  | [d1, d2, d3] => { results := [.lit (.bool true)], args := [d1, d2, d3] }
  | _ => none }
def bitsetToldRow : OpenClaim := { program := "ytdgmokelmocejaadoor", sum := "26003c9247fef620bdb64156eb8bdb30fb43cdeb7d921384a03ee892dadf6157", func := "wordset/wordsetlaw01.BitsetTold", spec := "bitsetTold", unfollowed := true, recurses := true, named := ["math/bits.deBruijn64tab"], apart := false, laid := [("math/bits.deBruijn64tab", laid_math_bits_deBruijn64tab)] }
def BitsetToldSaid : Prop := bitsetToldRow.holds Tryd.pinned (OpenSpec.ofChange bitsetToldSpec)

/-- ITS FALSE NEIGHBOUR: 'it returns false'. Refute it at one input. -/
def bitsetToldWrong : ChangeSpec := { name := "bitsetTold", fn := fun _ => fun
  | [d1, d2, d3] => { results := [.lit (.bool false)], args := [d1, d2, d3] }
  | _ => none }
def BitsetToldWrongFalsely : Prop := bitsetToldRow.holds Tryd.pinned (OpenSpec.ofChange bitsetToldWrong)

/-- 'wordsetlaw01.BitsetApart': WHATEVER THE INPUT: true; the input reads as it did. -/
def bitsetApartSpec : ChangeSpec := { name := "bitsetApart", fn := fun _ => fun
  | [d] => { results := [.lit (.bool true)], args := [d] }
  | _ => none }
def bitsetApartRow : OpenClaim := { program := "ytdgmokelmocejaadoor", sum := "26003c9247fef620bdb64156eb8bdb30fb43cdeb7d921384a03ee892dadf6157", func := "wordset/wordsetlaw01.BitsetApart", spec := "bitsetApart", unfollowed := true, recurses := true, named := ["math/bits.deBruijn64tab"], apart := false, laid := [("math/bits.deBruijn64tab", laid_math_bits_deBruijn64tab)] }
def BitsetApartSaid : Prop := bitsetApartRow.holds Tryd.pinned (OpenSpec.ofChange bitsetApartSpec)

/-- ITS FALSE NEIGHBOUR: 'it returns false'. Refute it at one input. -/
def bitsetApartWrong : ChangeSpec := { name := "bitsetApart", fn := fun _ => fun
  | [d] => { results := [.lit (.bool false)], args := [d] }
  | _ => none }
def BitsetApartWrongFalsely : Prop := bitsetApartRow.holds Tryd.pinned (OpenSpec.ofChange bitsetApartWrong)

/-- 'wordsetlaw01.BitsetOrder': WHATEVER THE INPUT: true; the input reads as it did. -/
def bitsetOrderSpec : ChangeSpec := { name := "bitsetOrder", fn := fun _ => fun
  | [d1, d2] => { results := [.lit (.bool true)], args := [d1, d2] }
  | _ => none }
def bitsetOrderRow : OpenClaim := { program := "ytdgmokelmocejaadoor", sum := "26003c9247fef620bdb64156eb8bdb30fb43cdeb7d921384a03ee892dadf6157", func := "wordset/wordsetlaw01.BitsetOrder", spec := "bitsetOrder", unfollowed := true, recurses := true, named := ["math/bits.deBruijn64tab"], apart := false, laid := [("math/bits.deBruijn64tab", laid_math_bits_deBruijn64tab)] }
def BitsetOrderSaid : Prop := bitsetOrderRow.holds Tryd.pinned (OpenSpec.ofChange bitsetOrderSpec)

/-- ITS FALSE NEIGHBOUR: 'it returns false'. Refute it at one input. -/
def bitsetOrderWrong : ChangeSpec := { name := "bitsetOrder", fn := fun _ => fun
  | [d1, d2] => { results := [.lit (.bool false)], args := [d1, d2] }
  | _ => none }
def BitsetOrderWrongFalsely : Prop := bitsetOrderRow.holds Tryd.pinned (OpenSpec.ofChange bitsetOrderWrong)

/-- 'wordsetlaw01.BitsetAlgebra': WHATEVER THE INPUT: true; the input reads as it did. -/
def bitsetAlgebraSpec : ChangeSpec := { name := "bitsetAlgebra", fn := fun _ => fun
  | [d] => { results := [.lit (.bool true)], args := [d] }
  | _ => none }
def bitsetAlgebraRow : OpenClaim := { program := "ytdgmokelmocejaadoor", sum := "26003c9247fef620bdb64156eb8bdb30fb43cdeb7d921384a03ee892dadf6157", func := "wordset/wordsetlaw01.BitsetAlgebra", spec := "bitsetAlgebra", unfollowed := true, recurses := true, named := ["math/bits.deBruijn64tab"], apart := false, laid := [("math/bits.deBruijn64tab", laid_math_bits_deBruijn64tab)] }
def BitsetAlgebraSaid : Prop := bitsetAlgebraRow.holds Tryd.pinned (OpenSpec.ofChange bitsetAlgebraSpec)

/-- ITS FALSE NEIGHBOUR: 'it returns false'. Refute it at one input. -/
def bitsetAlgebraWrong : ChangeSpec := { name := "bitsetAlgebra", fn := fun _ => fun
  | [d] => { results := [.lit (.bool false)], args := [d] }
  | _ => none }
def BitsetAlgebraWrongFalsely : Prop := bitsetAlgebraRow.holds Tryd.pinned (OpenSpec.ofChange bitsetAlgebraWrong)

/- THE SECOND FORM. 'bulk': how many values and letters a reading holds, each counted each time it is reached (what is shared counts as often as it is met; a slice's spare places count too). A statement '..UptoSaid' is the law's where the arguments, and the package variables that the reading takes, are together of bulk at most 1048576: NARROWER than '..Said'. Prove '..Said' where nothing that the law and all that it calls make is longer than what came in: it says more and counts as full. Else prove '..UptoSaid'. A law counts once. -/
mutual
def uptoBulk {H : Type} : DataW H → Nat
  | .lit (.string bytes) => bytes.length + 1
  | .lit _ => 1
  | .nil => 1
  | .ptr d => uptoBulk d + 1
  | .slice elems spare => uptoBulkAll elems + uptoBulkAll spare + 1
  | .agg parts => uptoBulkAll parts + 1
  | .iface _ d => uptoBulk d + 1
  | .map entries => uptoBulkEntries entries + 1
  | .held _ => 1
def uptoBulkAll {H : Type} : List (DataW H) → Nat
  | [] => 0
  | d :: r => uptoBulk d + uptoBulkAll r
def uptoBulkEntries {H : Type} : List (Lit × DataW H) → Nat
  | [] => 0
  | x :: r => uptoBulkEntry x + uptoBulkEntries r
def uptoBulkEntry {H : Type} : Lit × DataW H → Nat
  | (.string bytes, d) => bytes.length + uptoBulk d + 1
  | (_, d) => uptoBulk d + 1
 end
def uptoSmall : (H : Type) → List (DataW H) → Bool := fun _ ds => decide (uptoBulkAll ds ≤ 1048576)
def OpenSpec.upto (s : _root_.Go.ChangeSpec) : _root_.Go.OpenSpec := { _root_.Go.OpenSpec.ofChange s with cond := some uptoSmall }

/-- 'wordsetlaw01.BitsetWalks', WHERE WHAT IT READS IS OF BULK AT MOST 1048576: true; the input reads as it did. -/
def bitsetWalksUptoRow : OpenClaim := { program := "ytdgmokelmocejaadoor", sum := "26003c9247fef620bdb64156eb8bdb30fb43cdeb7d921384a03ee892dadf6157", func := "wordset/wordsetlaw01.BitsetWalks", spec := "bitsetWalks", unfollowed := true, recurses := true, named := ["math/bits.deBruijn64tab"], apart := false, laid := [("math/bits.deBruijn64tab", laid_math_bits_deBruijn64tab)], narrowed := true }
def BitsetWalksUptoSaid : Prop := bitsetWalksUptoRow.holds Tryd.pinned (OpenSpec.upto bitsetWalksSpec)

/-- 'wordsetlaw01.BitsetKeys', WHERE WHAT IT READS IS OF BULK AT MOST 1048576: true; the input reads as it did. -/
def bitsetKeysUptoRow : OpenClaim := { program := "ytdgmokelmocejaadoor", sum := "26003c9247fef620bdb64156eb8bdb30fb43cdeb7d921384a03ee892dadf6157", func := "wordset/wordsetlaw01.BitsetKeys", spec := "bitsetKeys", unfollowed := true, recurses := true, named := ["math/bits.deBruijn64tab"], apart := false, laid := [("math/bits.deBruijn64tab", laid_math_bits_deBruijn64tab)], narrowed := true }
def BitsetKeysUptoSaid : Prop := bitsetKeysUptoRow.holds Tryd.pinned (OpenSpec.upto bitsetKeysSpec)

/-- 'wordsetlaw01.BitsetTold', WHERE WHAT IT READS IS OF BULK AT MOST 1048576: true; the input reads as it did. -/
def bitsetToldUptoRow : OpenClaim := { program := "ytdgmokelmocejaadoor", sum := "26003c9247fef620bdb64156eb8bdb30fb43cdeb7d921384a03ee892dadf6157", func := "wordset/wordsetlaw01.BitsetTold", spec := "bitsetTold", unfollowed := true, recurses := true, named := ["math/bits.deBruijn64tab"], apart := false, laid := [("math/bits.deBruijn64tab", laid_math_bits_deBruijn64tab)], narrowed := true }
def BitsetToldUptoSaid : Prop := bitsetToldUptoRow.holds Tryd.pinned (OpenSpec.upto bitsetToldSpec)

/-- 'wordsetlaw01.BitsetApart', WHERE WHAT IT READS IS OF BULK AT MOST 1048576: true; the input reads as it did. -/
def bitsetApartUptoRow : OpenClaim := { program := "ytdgmokelmocejaadoor", sum := "26003c9247fef620bdb64156eb8bdb30fb43cdeb7d921384a03ee892dadf6157", func := "wordset/wordsetlaw01.BitsetApart", spec := "bitsetApart", unfollowed := true, recurses := true, named := ["math/bits.deBruijn64tab"], apart := false, laid := [("math/bits.deBruijn64tab", laid_math_bits_deBruijn64tab)], narrowed := true }
def BitsetApartUptoSaid : Prop := bitsetApartUptoRow.holds Tryd.pinned (OpenSpec.upto bitsetApartSpec)

/-- 'wordsetlaw01.BitsetOrder', WHERE WHAT IT READS IS OF BULK AT MOST 1048576: true; the input reads as it did. -/
def bitsetOrderUptoRow : OpenClaim := { program := "ytdgmokelmocejaadoor", sum := "26003c9247fef620bdb64156eb8bdb30fb43cdeb7d921384a03ee892dadf6157", func := "wordset/wordsetlaw01.BitsetOrder", spec := "bitsetOrder", unfollowed := true, recurses := true, named := ["math/bits.deBruijn64tab"], apart := false, laid := [("math/bits.deBruijn64tab", laid_math_bits_deBruijn64tab)], narrowed := true }
def BitsetOrderUptoSaid : Prop := bitsetOrderUptoRow.holds Tryd.pinned (OpenSpec.upto bitsetOrderSpec)

/-- 'wordsetlaw01.BitsetAlgebra', WHERE WHAT IT READS IS OF BULK AT MOST 1048576: true; the input reads as it did. -/
def bitsetAlgebraUptoRow : OpenClaim := { program := "ytdgmokelmocejaadoor", sum := "26003c9247fef620bdb64156eb8bdb30fb43cdeb7d921384a03ee892dadf6157", func := "wordset/wordsetlaw01.BitsetAlgebra", spec := "bitsetAlgebra", unfollowed := true, recurses := true, named := ["math/bits.deBruijn64tab"], apart := false, laid := [("math/bits.deBruijn64tab", laid_math_bits_deBruijn64tab)], narrowed := true }
def BitsetAlgebraUptoSaid : Prop := bitsetAlgebraUptoRow.holds Tryd.pinned (OpenSpec.upto bitsetAlgebraSpec)

end Rows
end Go.Proofs.YtdgmokelmocejaaDoor
