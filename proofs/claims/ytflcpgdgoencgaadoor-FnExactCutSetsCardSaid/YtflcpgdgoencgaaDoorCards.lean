/-
  DERIVED. GIVEN WITH THE SEED: THE CARDS: each row of YtflcpgdgoencgaaDoorRows.lean that lists a variable, with what it lists TIED to the program's text (the seventh form; the later family's looks); each row that meets fmt, with fmt's text TOLD by the authors' own Lean function (tested against real Go, not proved from fmt's source: count such statements apart). THE CARD IS WHAT COUNTS. Prove the row's statement (the work); the ties are given (YtflcpgdgoencgaaDoorTie.lean); close each card by the builder's one call (the guide's Derived/Test/ToyasCard.lean, 'card_holds'). Laid BY PROGRAM, IN A SANDBOX (cutbox-door.mjs). By AI agents, Wed Nov 11 2026. No macro, syntax, notation, axiom, sorry.
-/
import Derived.Test.YtflcpgdgoencgaaDoorRows
import GoSem.ClaimSeven
namespace Go.Proofs.YtflcpgdgoencgaaDoor
namespace Rows

/-- THE TIED CARD OF 'laws.FnExactIsConvexSet'. -/
def fnExactIsConvexSetCard : Claim7 := { stood := { row := fnExactIsConvexSetRow, standIns := [], harness := (true, "09bcd76fa3d1f1c3034cce88da0ea3ab253677c64d2a34fd7aa5cd907009cc57"), looks := false }, kinds := [], alts := [], laidByText := true, laidKinds := [.data, .data], laidTests := true, laidLooks := .later }
def FnExactIsConvexSetCardSaid : Prop := Claim7.holds Tryd.pinned (.plain (OpenSpec.ofChange fnExactIsConvexSetSpec)) fnExactIsConvexSetCard

/-- THE TIED CARD OF 'laws.FnExactConvexSets'. -/
def fnExactConvexSetsCard : Claim7 := { stood := { row := fnExactConvexSetsRow, standIns := [], harness := (true, "09bcd76fa3d1f1c3034cce88da0ea3ab253677c64d2a34fd7aa5cd907009cc57"), looks := false }, kinds := [], alts := [], laidByText := true, laidKinds := [.data, .data], laidTests := true, laidLooks := .later }
def FnExactConvexSetsCardSaid : Prop := Claim7.holds Tryd.pinned (.plain (OpenSpec.ofChange fnExactConvexSetsSpec)) fnExactConvexSetsCard

/-- THE TIED CARD OF 'laws.FnExactEmptySets'. -/
def fnExactEmptySetsCard : Claim7 := { stood := { row := fnExactEmptySetsRow, standIns := [], harness := (true, "09bcd76fa3d1f1c3034cce88da0ea3ab253677c64d2a34fd7aa5cd907009cc57"), looks := false }, kinds := [], alts := [], laidByText := true, laidKinds := [.data, .data], laidTests := true, laidLooks := .later }
def FnExactEmptySetsCardSaid : Prop := Claim7.holds Tryd.pinned (.plain (OpenSpec.ofChange fnExactEmptySetsSpec)) fnExactEmptySetsCard

/-- THE TIED CARD OF 'laws.FnExactLargestConvex'. -/
def fnExactLargestConvexCard : Claim7 := { stood := { row := fnExactLargestConvexRow, standIns := [], harness := (true, "09bcd76fa3d1f1c3034cce88da0ea3ab253677c64d2a34fd7aa5cd907009cc57"), looks := false }, kinds := [], alts := [], laidByText := true, laidKinds := [.data, .data], laidTests := true, laidLooks := .later }
def FnExactLargestConvexCardSaid : Prop := Claim7.holds Tryd.pinned (.plain (OpenSpec.ofChange fnExactLargestConvexSpec)) fnExactLargestConvexCard

/-- THE TIED CARD OF 'laws.FnExactCapOf'. -/
def fnExactCapOfCard : Claim7 := { stood := { row := fnExactCapOfRow, standIns := [], harness := (true, "09bcd76fa3d1f1c3034cce88da0ea3ab253677c64d2a34fd7aa5cd907009cc57"), looks := false }, kinds := [], alts := [], laidByText := true, laidKinds := [.data, .data], laidTests := true, laidLooks := .later }
def FnExactCapOfCardSaid : Prop := Claim7.holds Tryd.pinned (.plain (OpenSpec.ofChange fnExactCapOfSpec)) fnExactCapOfCard

/-- THE TIED CARD OF 'laws.FnExactCupOf'. -/
def fnExactCupOfCard : Claim7 := { stood := { row := fnExactCupOfRow, standIns := [], harness := (true, "09bcd76fa3d1f1c3034cce88da0ea3ab253677c64d2a34fd7aa5cd907009cc57"), looks := false }, kinds := [], alts := [], laidByText := true, laidKinds := [.data, .data], laidTests := true, laidLooks := .later }
def FnExactCupOfCardSaid : Prop := Claim7.holds Tryd.pinned (.plain (OpenSpec.ofChange fnExactCupOfSpec)) fnExactCupOfCard

/-- THE TIED CARD OF 'laws.FnExactEvenSum'. -/
def fnExactEvenSumCard : Claim7 := { stood := { row := fnExactEvenSumRow, standIns := [], harness := (true, "09bcd76fa3d1f1c3034cce88da0ea3ab253677c64d2a34fd7aa5cd907009cc57"), looks := false }, kinds := [], alts := [], laidByText := true, laidKinds := [.data, .data], laidTests := true, laidLooks := .later }
def FnExactEvenSumCardSaid : Prop := Claim7.holds Tryd.pinned (.plain (OpenSpec.ofChange fnExactEvenSumSpec)) fnExactEvenSumCard

/-- THE TIED CARD OF 'laws.FnExactCutSets'. -/
def fnExactCutSetsCard : Claim7 := { stood := { row := fnExactCutSetsRow, standIns := [], harness := (true, "09bcd76fa3d1f1c3034cce88da0ea3ab253677c64d2a34fd7aa5cd907009cc57"), looks := false }, kinds := [], alts := [], laidByText := true, laidKinds := [.data, .data], laidTests := true, laidLooks := .later }
def FnExactCutSetsCardSaid : Prop := Claim7.holds Tryd.pinned (.plain (OpenSpec.ofChange fnExactCutSetsSpec)) fnExactCutSetsCard

/-- THE SECOND FORM's CARD OF 'laws.FnExactIsConvexSet'. -/
def fnExactIsConvexSetUptoCard : Claim7 := { stood := { row := fnExactIsConvexSetUptoRow, standIns := [], harness := (true, "09bcd76fa3d1f1c3034cce88da0ea3ab253677c64d2a34fd7aa5cd907009cc57"), looks := false }, kinds := [], alts := [], laidByText := true, laidKinds := [.data, .data], laidTests := true, laidLooks := .later }
def FnExactIsConvexSetUptoCardSaid : Prop := Claim7.holds Tryd.pinned (.plain (OpenSpec.upto fnExactIsConvexSetSpec)) fnExactIsConvexSetUptoCard

/-- THE SECOND FORM's CARD OF 'laws.FnExactConvexSets'. -/
def fnExactConvexSetsUptoCard : Claim7 := { stood := { row := fnExactConvexSetsUptoRow, standIns := [], harness := (true, "09bcd76fa3d1f1c3034cce88da0ea3ab253677c64d2a34fd7aa5cd907009cc57"), looks := false }, kinds := [], alts := [], laidByText := true, laidKinds := [.data, .data], laidTests := true, laidLooks := .later }
def FnExactConvexSetsUptoCardSaid : Prop := Claim7.holds Tryd.pinned (.plain (OpenSpec.upto fnExactConvexSetsSpec)) fnExactConvexSetsUptoCard

/-- THE SECOND FORM's CARD OF 'laws.FnExactEmptySets'. -/
def fnExactEmptySetsUptoCard : Claim7 := { stood := { row := fnExactEmptySetsUptoRow, standIns := [], harness := (true, "09bcd76fa3d1f1c3034cce88da0ea3ab253677c64d2a34fd7aa5cd907009cc57"), looks := false }, kinds := [], alts := [], laidByText := true, laidKinds := [.data, .data], laidTests := true, laidLooks := .later }
def FnExactEmptySetsUptoCardSaid : Prop := Claim7.holds Tryd.pinned (.plain (OpenSpec.upto fnExactEmptySetsSpec)) fnExactEmptySetsUptoCard

/-- THE SECOND FORM's CARD OF 'laws.FnExactLargestConvex'. -/
def fnExactLargestConvexUptoCard : Claim7 := { stood := { row := fnExactLargestConvexUptoRow, standIns := [], harness := (true, "09bcd76fa3d1f1c3034cce88da0ea3ab253677c64d2a34fd7aa5cd907009cc57"), looks := false }, kinds := [], alts := [], laidByText := true, laidKinds := [.data, .data], laidTests := true, laidLooks := .later }
def FnExactLargestConvexUptoCardSaid : Prop := Claim7.holds Tryd.pinned (.plain (OpenSpec.upto fnExactLargestConvexSpec)) fnExactLargestConvexUptoCard

/-- THE SECOND FORM's CARD OF 'laws.FnExactCapOf'. -/
def fnExactCapOfUptoCard : Claim7 := { stood := { row := fnExactCapOfUptoRow, standIns := [], harness := (true, "09bcd76fa3d1f1c3034cce88da0ea3ab253677c64d2a34fd7aa5cd907009cc57"), looks := false }, kinds := [], alts := [], laidByText := true, laidKinds := [.data, .data], laidTests := true, laidLooks := .later }
def FnExactCapOfUptoCardSaid : Prop := Claim7.holds Tryd.pinned (.plain (OpenSpec.upto fnExactCapOfSpec)) fnExactCapOfUptoCard

/-- THE SECOND FORM's CARD OF 'laws.FnExactCupOf'. -/
def fnExactCupOfUptoCard : Claim7 := { stood := { row := fnExactCupOfUptoRow, standIns := [], harness := (true, "09bcd76fa3d1f1c3034cce88da0ea3ab253677c64d2a34fd7aa5cd907009cc57"), looks := false }, kinds := [], alts := [], laidByText := true, laidKinds := [.data, .data], laidTests := true, laidLooks := .later }
def FnExactCupOfUptoCardSaid : Prop := Claim7.holds Tryd.pinned (.plain (OpenSpec.upto fnExactCupOfSpec)) fnExactCupOfUptoCard

/-- THE SECOND FORM's CARD OF 'laws.FnExactEvenSum'. -/
def fnExactEvenSumUptoCard : Claim7 := { stood := { row := fnExactEvenSumUptoRow, standIns := [], harness := (true, "09bcd76fa3d1f1c3034cce88da0ea3ab253677c64d2a34fd7aa5cd907009cc57"), looks := false }, kinds := [], alts := [], laidByText := true, laidKinds := [.data, .data], laidTests := true, laidLooks := .later }
def FnExactEvenSumUptoCardSaid : Prop := Claim7.holds Tryd.pinned (.plain (OpenSpec.upto fnExactEvenSumSpec)) fnExactEvenSumUptoCard

/-- THE SECOND FORM's CARD OF 'laws.FnExactCutSets'. -/
def fnExactCutSetsUptoCard : Claim7 := { stood := { row := fnExactCutSetsUptoRow, standIns := [], harness := (true, "09bcd76fa3d1f1c3034cce88da0ea3ab253677c64d2a34fd7aa5cd907009cc57"), looks := false }, kinds := [], alts := [], laidByText := true, laidKinds := [.data, .data], laidTests := true, laidLooks := .later }
def FnExactCutSetsUptoCardSaid : Prop := Claim7.holds Tryd.pinned (.plain (OpenSpec.upto fnExactCutSetsSpec)) fnExactCutSetsUptoCard
end Rows
end Go.Proofs.YtflcpgdgoencgaaDoor
