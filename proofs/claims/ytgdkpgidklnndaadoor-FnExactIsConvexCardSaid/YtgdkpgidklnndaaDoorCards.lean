/-
  DERIVED. GIVEN WITH THE SEED: THE CARDS: each row of YtgdkpgidklnndaaDoorRows.lean that lists a variable, with what it lists TIED to the program's text (the seventh form; the later family's looks); each row that meets fmt, with fmt's text TOLD by the authors' own Lean function (tested against real Go, not proved from fmt's source: count such statements apart). THE CARD IS WHAT COUNTS. Prove the row's statement (the work); the ties are given (YtgdkpgidklnndaaDoorTie.lean); close each card by the builder's one call (the guide's Derived/Test/ToyasCard.lean, 'card_holds'). Laid BY PROGRAM, IN A SANDBOX (cutbox-door.mjs). By AI agents, Wed Nov 11 2026. No macro, syntax, notation, axiom, sorry.
-/
import Derived.Test.YtgdkpgidklnndaaDoorRows
import GoSem.ClaimSeven
namespace Go.Proofs.YtgdkpgidklnndaaDoor
namespace Rows

/-- THE TIED CARD OF 'laws.FnExactIsExtreme'. -/
def fnExactIsExtremeCard : Claim7 := { stood := { row := fnExactIsExtremeRow, standIns := [], harness := (true, "0d3cb4114d8cebaa7d062058ea1599f4cf90927245792f79cba14a88268839cd"), looks := false }, kinds := [], alts := [], laidByText := true, laidKinds := [.data, .data], laidTests := true, laidLooks := .later }
def FnExactIsExtremeCardSaid : Prop := Claim7.holds Tryd.pinned (.plain (OpenSpec.ofChange fnExactIsExtremeSpec)) fnExactIsExtremeCard

/-- THE TIED CARD OF 'laws.FnExactHullOf'. -/
def fnExactHullOfCard : Claim7 := { stood := { row := fnExactHullOfRow, standIns := [], harness := (true, "0d3cb4114d8cebaa7d062058ea1599f4cf90927245792f79cba14a88268839cd"), looks := false }, kinds := [], alts := [], laidByText := true, laidKinds := [.data, .data], laidTests := true, laidLooks := .later }
def FnExactHullOfCardSaid : Prop := Claim7.holds Tryd.pinned (.plain (OpenSpec.ofChange fnExactHullOfSpec)) fnExactHullOfCard

/-- THE TIED CARD OF 'laws.FnExactLayersOf'. -/
def fnExactLayersOfCard : Claim7 := { stood := { row := fnExactLayersOfRow, standIns := [], harness := (true, "0d3cb4114d8cebaa7d062058ea1599f4cf90927245792f79cba14a88268839cd"), looks := false }, kinds := [], alts := [], laidByText := true, laidKinds := [.data, .data], laidTests := true, laidLooks := .later }
def FnExactLayersOfCardSaid : Prop := Claim7.holds Tryd.pinned (.plain (OpenSpec.ofChange fnExactLayersOfSpec)) fnExactLayersOfCard

/-- THE TIED CARD OF 'laws.FnExactHullSize'. -/
def fnExactHullSizeCard : Claim7 := { stood := { row := fnExactHullSizeRow, standIns := [], harness := (true, "0d3cb4114d8cebaa7d062058ea1599f4cf90927245792f79cba14a88268839cd"), looks := false }, kinds := [], alts := [], laidByText := true, laidKinds := [.data, .data], laidTests := true, laidLooks := .later }
def FnExactHullSizeCardSaid : Prop := Claim7.holds Tryd.pinned (.plain (OpenSpec.ofChange fnExactHullSizeSpec)) fnExactHullSizeCard

/-- THE TIED CARD OF 'laws.FnExactIsConvex'. -/
def fnExactIsConvexCard : Claim7 := { stood := { row := fnExactIsConvexRow, standIns := [], harness := (true, "0d3cb4114d8cebaa7d062058ea1599f4cf90927245792f79cba14a88268839cd"), looks := false }, kinds := [], alts := [], laidByText := true, laidKinds := [.data, .data], laidTests := true, laidLooks := .later }
def FnExactIsConvexCardSaid : Prop := Claim7.holds Tryd.pinned (.plain (OpenSpec.ofChange fnExactIsConvexSpec)) fnExactIsConvexCard

/-- THE TIED CARD OF 'laws.FnExactInHull'. -/
def fnExactInHullCard : Claim7 := { stood := { row := fnExactInHullRow, standIns := [], harness := (true, "0d3cb4114d8cebaa7d062058ea1599f4cf90927245792f79cba14a88268839cd"), looks := false }, kinds := [], alts := [], laidByText := true, laidKinds := [.data, .data], laidTests := true, laidLooks := .later }
def FnExactInHullCardSaid : Prop := Claim7.holds Tryd.pinned (.plain (OpenSpec.ofChange fnExactInHullSpec)) fnExactInHullCard

/-- THE SECOND FORM's CARD OF 'laws.FnExactIsExtreme'. -/
def fnExactIsExtremeUptoCard : Claim7 := { stood := { row := fnExactIsExtremeUptoRow, standIns := [], harness := (true, "0d3cb4114d8cebaa7d062058ea1599f4cf90927245792f79cba14a88268839cd"), looks := false }, kinds := [], alts := [], laidByText := true, laidKinds := [.data, .data], laidTests := true, laidLooks := .later }
def FnExactIsExtremeUptoCardSaid : Prop := Claim7.holds Tryd.pinned (.plain (OpenSpec.upto fnExactIsExtremeSpec)) fnExactIsExtremeUptoCard

/-- THE SECOND FORM's CARD OF 'laws.FnExactHullOf'. -/
def fnExactHullOfUptoCard : Claim7 := { stood := { row := fnExactHullOfUptoRow, standIns := [], harness := (true, "0d3cb4114d8cebaa7d062058ea1599f4cf90927245792f79cba14a88268839cd"), looks := false }, kinds := [], alts := [], laidByText := true, laidKinds := [.data, .data], laidTests := true, laidLooks := .later }
def FnExactHullOfUptoCardSaid : Prop := Claim7.holds Tryd.pinned (.plain (OpenSpec.upto fnExactHullOfSpec)) fnExactHullOfUptoCard

/-- THE SECOND FORM's CARD OF 'laws.FnExactLayersOf'. -/
def fnExactLayersOfUptoCard : Claim7 := { stood := { row := fnExactLayersOfUptoRow, standIns := [], harness := (true, "0d3cb4114d8cebaa7d062058ea1599f4cf90927245792f79cba14a88268839cd"), looks := false }, kinds := [], alts := [], laidByText := true, laidKinds := [.data, .data], laidTests := true, laidLooks := .later }
def FnExactLayersOfUptoCardSaid : Prop := Claim7.holds Tryd.pinned (.plain (OpenSpec.upto fnExactLayersOfSpec)) fnExactLayersOfUptoCard

/-- THE SECOND FORM's CARD OF 'laws.FnExactHullSize'. -/
def fnExactHullSizeUptoCard : Claim7 := { stood := { row := fnExactHullSizeUptoRow, standIns := [], harness := (true, "0d3cb4114d8cebaa7d062058ea1599f4cf90927245792f79cba14a88268839cd"), looks := false }, kinds := [], alts := [], laidByText := true, laidKinds := [.data, .data], laidTests := true, laidLooks := .later }
def FnExactHullSizeUptoCardSaid : Prop := Claim7.holds Tryd.pinned (.plain (OpenSpec.upto fnExactHullSizeSpec)) fnExactHullSizeUptoCard

/-- THE SECOND FORM's CARD OF 'laws.FnExactIsConvex'. -/
def fnExactIsConvexUptoCard : Claim7 := { stood := { row := fnExactIsConvexUptoRow, standIns := [], harness := (true, "0d3cb4114d8cebaa7d062058ea1599f4cf90927245792f79cba14a88268839cd"), looks := false }, kinds := [], alts := [], laidByText := true, laidKinds := [.data, .data], laidTests := true, laidLooks := .later }
def FnExactIsConvexUptoCardSaid : Prop := Claim7.holds Tryd.pinned (.plain (OpenSpec.upto fnExactIsConvexSpec)) fnExactIsConvexUptoCard

/-- THE SECOND FORM's CARD OF 'laws.FnExactInHull'. -/
def fnExactInHullUptoCard : Claim7 := { stood := { row := fnExactInHullUptoRow, standIns := [], harness := (true, "0d3cb4114d8cebaa7d062058ea1599f4cf90927245792f79cba14a88268839cd"), looks := false }, kinds := [], alts := [], laidByText := true, laidKinds := [.data, .data], laidTests := true, laidLooks := .later }
def FnExactInHullUptoCardSaid : Prop := Claim7.holds Tryd.pinned (.plain (OpenSpec.upto fnExactInHullSpec)) fnExactInHullUptoCard
end Rows
end Go.Proofs.YtgdkpgidklnndaaDoor
