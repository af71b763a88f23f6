/-
  DERIVED. GIVEN WITH THE SEED: THE CARDS: each row of YtfjimdmoindepaaDoorRows.lean that lists a variable, with what it lists TIED to the program's text (the seventh form; the later family's looks); each row that meets fmt, with fmt's text TOLD by the authors' own Lean function (tested against real Go, not proved from fmt's source: count such statements apart). THE CARD IS WHAT COUNTS. Prove the row's statement (the work); the ties are given (YtfjimdmoindepaaDoorTie.lean); close each card by the builder's one call (the guide's Derived/Test/ToyasCard.lean, 'card_holds'). Laid BY PROGRAM, IN A SANDBOX (cutbox-door.mjs). By AI agents, Wed Nov 11 2026. No macro, syntax, notation, axiom, sorry.
-/
import Derived.Test.YtfjimdmoindepaaDoorRows
import GoSem.ClaimSeven
namespace Go.Proofs.YtfjimdmoindepaaDoor
namespace Rows

/-- THE TIED CARD OF 'laws.FnExactLeftCount'. -/
def fnExactLeftCountCard : Claim7 := { stood := { row := fnExactLeftCountRow, standIns := [], harness := (true, "db52c57af10b3cac23327d7324ea62e148401bb3ee32e8ffb2852e574c4e449e"), looks := false }, kinds := [], alts := [], laidByText := true, laidKinds := [.data, .data], laidTests := true, laidLooks := .later }
def FnExactLeftCountCardSaid : Prop := Claim7.holds Tryd.pinned (.plain (OpenSpec.ofChange fnExactLeftCountSpec)) fnExactLeftCountCard

/-- THE TIED CARD OF 'laws.FnExactLeftTable'. -/
def fnExactLeftTableCard : Claim7 := { stood := { row := fnExactLeftTableRow, standIns := [], harness := (true, "db52c57af10b3cac23327d7324ea62e148401bb3ee32e8ffb2852e574c4e449e"), looks := false }, kinds := [], alts := [], laidByText := true, laidKinds := [.data, .data], laidTests := true, laidLooks := .later }
def FnExactLeftTableCardSaid : Prop := Claim7.holds Tryd.pinned (.plain (OpenSpec.ofChange fnExactLeftTableSpec)) fnExactLeftTableCard

/-- THE TIED CARD OF 'laws.FnExactLeftRow'. -/
def fnExactLeftRowCard : Claim7 := { stood := { row := fnExactLeftRowRow, standIns := [], harness := (true, "db52c57af10b3cac23327d7324ea62e148401bb3ee32e8ffb2852e574c4e449e"), looks := false }, kinds := [], alts := [], laidByText := true, laidKinds := [.data, .data], laidTests := true, laidLooks := .later }
def FnExactLeftRowCardSaid : Prop := Claim7.holds Tryd.pinned (.plain (OpenSpec.ofChange fnExactLeftRowSpec)) fnExactLeftRowCard

/-- THE TIED CARD OF 'laws.FnExactCrossingSum'. -/
def fnExactCrossingSumCard : Claim7 := { stood := { row := fnExactCrossingSumRow, standIns := [], harness := (true, "db52c57af10b3cac23327d7324ea62e148401bb3ee32e8ffb2852e574c4e449e"), looks := false }, kinds := [], alts := [], laidByText := true, laidKinds := [.data, .data], laidTests := true, laidLooks := .later }
def FnExactCrossingSumCardSaid : Prop := Claim7.holds Tryd.pinned (.plain (OpenSpec.ofChange fnExactCrossingSumSpec)) fnExactCrossingSumCard

/-- THE TIED CARD OF 'laws.FnExactHalvingPairs'. -/
def fnExactHalvingPairsCard : Claim7 := { stood := { row := fnExactHalvingPairsRow, standIns := [], harness := (true, "db52c57af10b3cac23327d7324ea62e148401bb3ee32e8ffb2852e574c4e449e"), looks := false }, kinds := [], alts := [], laidByText := true, laidKinds := [.data, .data], laidTests := true, laidLooks := .later }
def FnExactHalvingPairsCardSaid : Prop := Claim7.holds Tryd.pinned (.plain (OpenSpec.ofChange fnExactHalvingPairsSpec)) fnExactHalvingPairsCard

/-- THE TIED CARD OF 'laws.FnExactCutSets'. -/
def fnExactCutSetsCard : Claim7 := { stood := { row := fnExactCutSetsRow, standIns := [], harness := (true, "db52c57af10b3cac23327d7324ea62e148401bb3ee32e8ffb2852e574c4e449e"), looks := false }, kinds := [], alts := [], laidByText := true, laidKinds := [.data, .data], laidTests := true, laidLooks := .later }
def FnExactCutSetsCardSaid : Prop := Claim7.holds Tryd.pinned (.plain (OpenSpec.ofChange fnExactCutSetsSpec)) fnExactCutSetsCard

/-- THE SECOND FORM's CARD OF 'laws.FnExactLeftCount'. -/
def fnExactLeftCountUptoCard : Claim7 := { stood := { row := fnExactLeftCountUptoRow, standIns := [], harness := (true, "db52c57af10b3cac23327d7324ea62e148401bb3ee32e8ffb2852e574c4e449e"), looks := false }, kinds := [], alts := [], laidByText := true, laidKinds := [.data, .data], laidTests := true, laidLooks := .later }
def FnExactLeftCountUptoCardSaid : Prop := Claim7.holds Tryd.pinned (.plain (OpenSpec.upto fnExactLeftCountSpec)) fnExactLeftCountUptoCard

/-- THE SECOND FORM's CARD OF 'laws.FnExactLeftTable'. -/
def fnExactLeftTableUptoCard : Claim7 := { stood := { row := fnExactLeftTableUptoRow, standIns := [], harness := (true, "db52c57af10b3cac23327d7324ea62e148401bb3ee32e8ffb2852e574c4e449e"), looks := false }, kinds := [], alts := [], laidByText := true, laidKinds := [.data, .data], laidTests := true, laidLooks := .later }
def FnExactLeftTableUptoCardSaid : Prop := Claim7.holds Tryd.pinned (.plain (OpenSpec.upto fnExactLeftTableSpec)) fnExactLeftTableUptoCard

/-- THE SECOND FORM's CARD OF 'laws.FnExactLeftRow'. -/
def fnExactLeftRowUptoCard : Claim7 := { stood := { row := fnExactLeftRowUptoRow, standIns := [], harness := (true, "db52c57af10b3cac23327d7324ea62e148401bb3ee32e8ffb2852e574c4e449e"), looks := false }, kinds := [], alts := [], laidByText := true, laidKinds := [.data, .data], laidTests := true, laidLooks := .later }
def FnExactLeftRowUptoCardSaid : Prop := Claim7.holds Tryd.pinned (.plain (OpenSpec.upto fnExactLeftRowSpec)) fnExactLeftRowUptoCard

/-- THE SECOND FORM's CARD OF 'laws.FnExactCrossingSum'. -/
def fnExactCrossingSumUptoCard : Claim7 := { stood := { row := fnExactCrossingSumUptoRow, standIns := [], harness := (true, "db52c57af10b3cac23327d7324ea62e148401bb3ee32e8ffb2852e574c4e449e"), looks := false }, kinds := [], alts := [], laidByText := true, laidKinds := [.data, .data], laidTests := true, laidLooks := .later }
def FnExactCrossingSumUptoCardSaid : Prop := Claim7.holds Tryd.pinned (.plain (OpenSpec.upto fnExactCrossingSumSpec)) fnExactCrossingSumUptoCard

/-- THE SECOND FORM's CARD OF 'laws.FnExactHalvingPairs'. -/
def fnExactHalvingPairsUptoCard : Claim7 := { stood := { row := fnExactHalvingPairsUptoRow, standIns := [], harness := (true, "db52c57af10b3cac23327d7324ea62e148401bb3ee32e8ffb2852e574c4e449e"), looks := false }, kinds := [], alts := [], laidByText := true, laidKinds := [.data, .data], laidTests := true, laidLooks := .later }
def FnExactHalvingPairsUptoCardSaid : Prop := Claim7.holds Tryd.pinned (.plain (OpenSpec.upto fnExactHalvingPairsSpec)) fnExactHalvingPairsUptoCard

/-- THE SECOND FORM's CARD OF 'laws.FnExactCutSets'. -/
def fnExactCutSetsUptoCard : Claim7 := { stood := { row := fnExactCutSetsUptoRow, standIns := [], harness := (true, "db52c57af10b3cac23327d7324ea62e148401bb3ee32e8ffb2852e574c4e449e"), looks := false }, kinds := [], alts := [], laidByText := true, laidKinds := [.data, .data], laidTests := true, laidLooks := .later }
def FnExactCutSetsUptoCardSaid : Prop := Claim7.holds Tryd.pinned (.plain (OpenSpec.upto fnExactCutSetsSpec)) fnExactCutSetsUptoCard
end Rows
end Go.Proofs.YtfjimdmoindepaaDoor
