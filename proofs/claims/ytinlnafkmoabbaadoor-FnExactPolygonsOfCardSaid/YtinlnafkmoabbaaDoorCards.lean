/-
  DERIVED. GIVEN WITH THE SEED: THE CARDS: each row of YtinlnafkmoabbaaDoorRows.lean that lists a variable, with what it lists TIED to the program's text (the seventh form; the later family's looks); each row that meets fmt, with fmt's text TOLD by the authors' own Lean function (tested against real Go, not proved from fmt's source: count such statements apart). THE CARD IS WHAT COUNTS. Prove the row's statement (the work); the ties are given (YtinlnafkmoabbaaDoorTie.lean); close each card by the builder's one call (the guide's Derived/Test/ToyasCard.lean, 'card_holds'). Laid BY PROGRAM, IN A SANDBOX (cutbox-door.mjs). By AI agents, Wed Nov 11 2026. No macro, syntax, notation, axiom, sorry.
-/
import Derived.Test.YtinlnafkmoabbaaDoorRows
import GoSem.ClaimSeven
namespace Go.Proofs.YtinlnafkmoabbaaDoor
namespace Rows

/-- THE TIED CARD OF 'laws.FnExactDegreesOf'. -/
def fnExactDegreesOfCard : Claim7 := { stood := { row := fnExactDegreesOfRow, standIns := [], harness := (true, "612379c6610a5e857e8ee3c053be696355ee500233234b3c14bb80a389062fb7"), looks := false }, kinds := [], alts := [], laidByText := true, laidKinds := [.data, .data], laidTests := true, laidLooks := .later }
def FnExactDegreesOfCardSaid : Prop := Claim7.holds Tryd.pinned (.plain (OpenSpec.ofChange fnExactDegreesOfSpec)) fnExactDegreesOfCard

/-- THE TIED CARD OF 'laws.FnExactIsTree'. -/
def fnExactIsTreeCard : Claim7 := { stood := { row := fnExactIsTreeRow, standIns := [], harness := (true, "612379c6610a5e857e8ee3c053be696355ee500233234b3c14bb80a389062fb7"), looks := false }, kinds := [], alts := [], laidByText := true, laidKinds := [.data, .data], laidTests := true, laidLooks := .later }
def FnExactIsTreeCardSaid : Prop := Claim7.holds Tryd.pinned (.plain (OpenSpec.ofChange fnExactIsTreeSpec)) fnExactIsTreeCard

/-- THE TIED CARD OF 'laws.FnExactPlaneTrees'. -/
def fnExactPlaneTreesCard : Claim7 := { stood := { row := fnExactPlaneTreesRow, standIns := [], harness := (true, "612379c6610a5e857e8ee3c053be696355ee500233234b3c14bb80a389062fb7"), looks := false }, kinds := [], alts := [], laidByText := true, laidKinds := [.data, .data], laidTests := true, laidLooks := .later }
def FnExactPlaneTreesCardSaid : Prop := Claim7.holds Tryd.pinned (.plain (OpenSpec.ofChange fnExactPlaneTreesSpec)) fnExactPlaneTreesCard

/-- THE TIED CARD OF 'laws.FnExactPlanePaths'. -/
def fnExactPlanePathsCard : Claim7 := { stood := { row := fnExactPlanePathsRow, standIns := [], harness := (true, "612379c6610a5e857e8ee3c053be696355ee500233234b3c14bb80a389062fb7"), looks := false }, kinds := [], alts := [], laidByText := true, laidKinds := [.data, .data], laidTests := true, laidLooks := .later }
def FnExactPlanePathsCardSaid : Prop := Claim7.holds Tryd.pinned (.plain (OpenSpec.ofChange fnExactPlanePathsSpec)) fnExactPlanePathsCard

/-- THE TIED CARD OF 'laws.FnExactPolygonsOf'. -/
def fnExactPolygonsOfCard : Claim7 := { stood := { row := fnExactPolygonsOfRow, standIns := [], harness := (true, "612379c6610a5e857e8ee3c053be696355ee500233234b3c14bb80a389062fb7"), looks := false }, kinds := [], alts := [], laidByText := true, laidKinds := [.data, .data], laidTests := true, laidLooks := .later }
def FnExactPolygonsOfCardSaid : Prop := Claim7.holds Tryd.pinned (.plain (OpenSpec.ofChange fnExactPolygonsOfSpec)) fnExactPolygonsOfCard

/-- THE TIED CARD OF 'laws.FnExactPlaneMatchings'. -/
def fnExactPlaneMatchingsCard : Claim7 := { stood := { row := fnExactPlaneMatchingsRow, standIns := [], harness := (true, "612379c6610a5e857e8ee3c053be696355ee500233234b3c14bb80a389062fb7"), looks := false }, kinds := [], alts := [], laidByText := true, laidKinds := [.data, .data], laidTests := true, laidLooks := .later }
def FnExactPlaneMatchingsCardSaid : Prop := Claim7.holds Tryd.pinned (.plain (OpenSpec.ofChange fnExactPlaneMatchingsSpec)) fnExactPlaneMatchingsCard

/-- THE TIED CARD OF 'laws.FnExactCrossingPairs'. -/
def fnExactCrossingPairsCard : Claim7 := { stood := { row := fnExactCrossingPairsRow, standIns := [], harness := (true, "612379c6610a5e857e8ee3c053be696355ee500233234b3c14bb80a389062fb7"), looks := false }, kinds := [], alts := [], laidByText := true, laidKinds := [.data, .data], laidTests := true, laidLooks := .later }
def FnExactCrossingPairsCardSaid : Prop := Claim7.holds Tryd.pinned (.plain (OpenSpec.ofChange fnExactCrossingPairsSpec)) fnExactCrossingPairsCard

/-- THE TIED CARD OF 'laws.FnExactIsPlane'. -/
def fnExactIsPlaneCard : Claim7 := { stood := { row := fnExactIsPlaneRow, standIns := [], harness := (true, "612379c6610a5e857e8ee3c053be696355ee500233234b3c14bb80a389062fb7"), looks := false }, kinds := [], alts := [], laidByText := true, laidKinds := [.data, .data], laidTests := true, laidLooks := .later }
def FnExactIsPlaneCardSaid : Prop := Claim7.holds Tryd.pinned (.plain (OpenSpec.ofChange fnExactIsPlaneSpec)) fnExactIsPlaneCard

/-- THE TIED CARD OF 'laws.FnExactEdgesText'. -/
def fnExactEdgesTextCard : Claim7 := { stood := { row := fnExactEdgesTextRow, standIns := [], harness := (true, "612379c6610a5e857e8ee3c053be696355ee500233234b3c14bb80a389062fb7"), looks := false }, kinds := [], alts := [], laidByText := true, laidKinds := [.data, .data, .data], laidTests := true, laidLooks := .later }
def FnExactEdgesTextCardSaid : Prop := Claim7.holds Tryd.pinned (.plain (OpenSpec.ofChange fnExactEdgesTextSpec)) fnExactEdgesTextCard

/-- THE SECOND FORM's CARD OF 'laws.FnExactDegreesOf'. -/
def fnExactDegreesOfUptoCard : Claim7 := { stood := { row := fnExactDegreesOfUptoRow, standIns := [], harness := (true, "612379c6610a5e857e8ee3c053be696355ee500233234b3c14bb80a389062fb7"), looks := false }, kinds := [], alts := [], laidByText := true, laidKinds := [.data, .data], laidTests := true, laidLooks := .later }
def FnExactDegreesOfUptoCardSaid : Prop := Claim7.holds Tryd.pinned (.plain (OpenSpec.upto fnExactDegreesOfSpec)) fnExactDegreesOfUptoCard

/-- THE SECOND FORM's CARD OF 'laws.FnExactIsTree'. -/
def fnExactIsTreeUptoCard : Claim7 := { stood := { row := fnExactIsTreeUptoRow, standIns := [], harness := (true, "612379c6610a5e857e8ee3c053be696355ee500233234b3c14bb80a389062fb7"), looks := false }, kinds := [], alts := [], laidByText := true, laidKinds := [.data, .data], laidTests := true, laidLooks := .later }
def FnExactIsTreeUptoCardSaid : Prop := Claim7.holds Tryd.pinned (.plain (OpenSpec.upto fnExactIsTreeSpec)) fnExactIsTreeUptoCard

/-- THE SECOND FORM's CARD OF 'laws.FnExactPlaneTrees'. -/
def fnExactPlaneTreesUptoCard : Claim7 := { stood := { row := fnExactPlaneTreesUptoRow, standIns := [], harness := (true, "612379c6610a5e857e8ee3c053be696355ee500233234b3c14bb80a389062fb7"), looks := false }, kinds := [], alts := [], laidByText := true, laidKinds := [.data, .data], laidTests := true, laidLooks := .later }
def FnExactPlaneTreesUptoCardSaid : Prop := Claim7.holds Tryd.pinned (.plain (OpenSpec.upto fnExactPlaneTreesSpec)) fnExactPlaneTreesUptoCard

/-- THE SECOND FORM's CARD OF 'laws.FnExactPlanePaths'. -/
def fnExactPlanePathsUptoCard : Claim7 := { stood := { row := fnExactPlanePathsUptoRow, standIns := [], harness := (true, "612379c6610a5e857e8ee3c053be696355ee500233234b3c14bb80a389062fb7"), looks := false }, kinds := [], alts := [], laidByText := true, laidKinds := [.data, .data], laidTests := true, laidLooks := .later }
def FnExactPlanePathsUptoCardSaid : Prop := Claim7.holds Tryd.pinned (.plain (OpenSpec.upto fnExactPlanePathsSpec)) fnExactPlanePathsUptoCard

/-- THE SECOND FORM's CARD OF 'laws.FnExactPolygonsOf'. -/
def fnExactPolygonsOfUptoCard : Claim7 := { stood := { row := fnExactPolygonsOfUptoRow, standIns := [], harness := (true, "612379c6610a5e857e8ee3c053be696355ee500233234b3c14bb80a389062fb7"), looks := false }, kinds := [], alts := [], laidByText := true, laidKinds := [.data, .data], laidTests := true, laidLooks := .later }
def FnExactPolygonsOfUptoCardSaid : Prop := Claim7.holds Tryd.pinned (.plain (OpenSpec.upto fnExactPolygonsOfSpec)) fnExactPolygonsOfUptoCard

/-- THE SECOND FORM's CARD OF 'laws.FnExactPlaneMatchings'. -/
def fnExactPlaneMatchingsUptoCard : Claim7 := { stood := { row := fnExactPlaneMatchingsUptoRow, standIns := [], harness := (true, "612379c6610a5e857e8ee3c053be696355ee500233234b3c14bb80a389062fb7"), looks := false }, kinds := [], alts := [], laidByText := true, laidKinds := [.data, .data], laidTests := true, laidLooks := .later }
def FnExactPlaneMatchingsUptoCardSaid : Prop := Claim7.holds Tryd.pinned (.plain (OpenSpec.upto fnExactPlaneMatchingsSpec)) fnExactPlaneMatchingsUptoCard

/-- THE SECOND FORM's CARD OF 'laws.FnExactCrossingPairs'. -/
def fnExactCrossingPairsUptoCard : Claim7 := { stood := { row := fnExactCrossingPairsUptoRow, standIns := [], harness := (true, "612379c6610a5e857e8ee3c053be696355ee500233234b3c14bb80a389062fb7"), looks := false }, kinds := [], alts := [], laidByText := true, laidKinds := [.data, .data], laidTests := true, laidLooks := .later }
def FnExactCrossingPairsUptoCardSaid : Prop := Claim7.holds Tryd.pinned (.plain (OpenSpec.upto fnExactCrossingPairsSpec)) fnExactCrossingPairsUptoCard

/-- THE SECOND FORM's CARD OF 'laws.FnExactIsPlane'. -/
def fnExactIsPlaneUptoCard : Claim7 := { stood := { row := fnExactIsPlaneUptoRow, standIns := [], harness := (true, "612379c6610a5e857e8ee3c053be696355ee500233234b3c14bb80a389062fb7"), looks := false }, kinds := [], alts := [], laidByText := true, laidKinds := [.data, .data], laidTests := true, laidLooks := .later }
def FnExactIsPlaneUptoCardSaid : Prop := Claim7.holds Tryd.pinned (.plain (OpenSpec.upto fnExactIsPlaneSpec)) fnExactIsPlaneUptoCard

/-- THE SECOND FORM's CARD OF 'laws.FnExactEdgesText'. -/
def fnExactEdgesTextUptoCard : Claim7 := { stood := { row := fnExactEdgesTextUptoRow, standIns := [], harness := (true, "612379c6610a5e857e8ee3c053be696355ee500233234b3c14bb80a389062fb7"), looks := false }, kinds := [], alts := [], laidByText := true, laidKinds := [.data, .data, .data], laidTests := true, laidLooks := .later }
def FnExactEdgesTextUptoCardSaid : Prop := Claim7.holds Tryd.pinned (.plain (OpenSpec.upto fnExactEdgesTextSpec)) fnExactEdgesTextUptoCard
end Rows
end Go.Proofs.YtinlnafkmoabbaaDoor
