/-
  DERIVED. GIVEN WITH THE SEED: THE CARDS: each row of YtinlnafkmoabbaaGreatDoorRows.lean that lists a variable, with what it lists TIED to the program's text (the seventh form; the later family's looks); each row that meets fmt, with fmt's text TOLD by the authors' own Lean function (tested against real Go, not proved from fmt's source: count such statements apart). THE CARD IS WHAT COUNTS. Prove the row's statement (the work); the ties are given (YtinlnafkmoabbaaGreatDoorTie.lean); close each card by the builder's one call (the guide's Derived/Test/ToyasCard.lean, 'card_holds'). Laid BY PROGRAM, IN A SANDBOX (cutbox-door.mjs). By AI agents, Wed Nov 11 2026. No macro, syntax, notation, axiom, sorry.
-/
import Derived.Test.YtinlnafkmoabbaaGreatDoorRows
import GoSem.ClaimSeven
namespace Go.Proofs.YtinlnafkmoabbaaGreatDoor
namespace Rows

/-- THE TIED CARD OF 'laws.FnTrees'. -/
def fnTreesCard : Claim7 := { stood := { row := fnTreesRow, standIns := [], harness := (true, "1b751ed7c85ceff1372b3ce8081347f5c75b705c9e4d398d6e63c7d25f83c041"), looks := false }, kinds := [], alts := [], laidByText := true, laidKinds := [.data, .data], laidTests := true, laidLooks := .later }
def FnTreesCardSaid : Prop := Claim7.holds Tryz.pinned (.plain (OpenSpec.ofChange fnTreesSpec)) fnTreesCard

/-- THE TIED CARD OF 'laws.FnCrossings'. -/
def fnCrossingsCard : Claim7 := { stood := { row := fnCrossingsRow, standIns := [], harness := (true, "1b751ed7c85ceff1372b3ce8081347f5c75b705c9e4d398d6e63c7d25f83c041"), looks := false }, kinds := [], alts := [], laidByText := true, laidKinds := [.data, .data], laidTests := true, laidLooks := .later }
def FnCrossingsCardSaid : Prop := Claim7.holds Tryz.pinned (.plain (OpenSpec.ofChange fnCrossingsSpec)) fnCrossingsCard

/-- THE TIED CARD OF 'laws.FnTriangulations'. -/
def fnTriangulationsCard : Claim7 := { stood := { row := fnTriangulationsRow, standIns := [], harness := (true, "1b751ed7c85ceff1372b3ce8081347f5c75b705c9e4d398d6e63c7d25f83c041"), looks := false }, kinds := [], alts := [], laidByText := true, laidKinds := [.data, .data, .data], laidTests := true, laidLooks := .later }
def FnTriangulationsCardSaid : Prop := Claim7.holds Tryz.pinned (.plain (OpenSpec.ofChange fnTriangulationsSpec)) fnTriangulationsCard

/-- THE SECOND FORM's CARD OF 'laws.FnTrees'. -/
def fnTreesUptoCard : Claim7 := { stood := { row := fnTreesUptoRow, standIns := [], harness := (true, "1b751ed7c85ceff1372b3ce8081347f5c75b705c9e4d398d6e63c7d25f83c041"), looks := false }, kinds := [], alts := [], laidByText := true, laidKinds := [.data, .data], laidTests := true, laidLooks := .later }
def FnTreesUptoCardSaid : Prop := Claim7.holds Tryz.pinned (.plain (OpenSpec.upto fnTreesSpec)) fnTreesUptoCard

/-- THE SECOND FORM's CARD OF 'laws.FnCrossings'. -/
def fnCrossingsUptoCard : Claim7 := { stood := { row := fnCrossingsUptoRow, standIns := [], harness := (true, "1b751ed7c85ceff1372b3ce8081347f5c75b705c9e4d398d6e63c7d25f83c041"), looks := false }, kinds := [], alts := [], laidByText := true, laidKinds := [.data, .data], laidTests := true, laidLooks := .later }
def FnCrossingsUptoCardSaid : Prop := Claim7.holds Tryz.pinned (.plain (OpenSpec.upto fnCrossingsSpec)) fnCrossingsUptoCard

/-- THE SECOND FORM's CARD OF 'laws.FnTriangulations'. -/
def fnTriangulationsUptoCard : Claim7 := { stood := { row := fnTriangulationsUptoRow, standIns := [], harness := (true, "1b751ed7c85ceff1372b3ce8081347f5c75b705c9e4d398d6e63c7d25f83c041"), looks := false }, kinds := [], alts := [], laidByText := true, laidKinds := [.data, .data, .data], laidTests := true, laidLooks := .later }
def FnTriangulationsUptoCardSaid : Prop := Claim7.holds Tryz.pinned (.plain (OpenSpec.upto fnTriangulationsSpec)) fnTriangulationsUptoCard
end Rows
end Go.Proofs.YtinlnafkmoabbaaGreatDoor
