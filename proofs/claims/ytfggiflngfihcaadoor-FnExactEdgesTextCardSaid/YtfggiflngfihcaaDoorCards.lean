/-
  DERIVED. GIVEN WITH THE SEED: THE CARDS: each row of YtfggiflngfihcaaDoorRows.lean that lists a variable, with what it lists TIED to the program's text (the seventh form; the later family's looks); each row that meets fmt, with fmt's text TOLD by the authors' own Lean function (tested against real Go, not proved from fmt's source: count such statements apart). THE CARD IS WHAT COUNTS. Prove the row's statement (the work); the ties are given (YtfggiflngfihcaaDoorTie.lean); close each card by the builder's one call (the guide's Derived/Test/ToyasCard.lean, 'card_holds'). Laid BY PROGRAM, IN A SANDBOX (cutbox-door.mjs). By AI agents, Wed Nov 11 2026. No macro, syntax, notation, axiom, sorry.
-/
import Derived.Test.YtfggiflngfihcaaDoorRows
import GoSem.ClaimSeven
namespace Go.Proofs.YtfggiflngfihcaaDoor
namespace Rows

/-- THE TIED CARD OF 'laws.FnExactIsTriangulation'. -/
def fnExactIsTriangulationCard : Claim7 := { stood := { row := fnExactIsTriangulationRow, standIns := [], harness := (true, "3eb2d199b230426fda89cc96fd8d07b19b20c5fbfd99096914d162adfe667af1"), looks := false }, kinds := [], alts := [], laidByText := true, laidKinds := [.data, .data], laidTests := true, laidLooks := .later }
def FnExactIsTriangulationCardSaid : Prop := Claim7.holds Tryd.pinned (.plain (OpenSpec.ofChange fnExactIsTriangulationSpec)) fnExactIsTriangulationCard

/-- THE TIED CARD OF 'laws.FnExactTriangulations'. -/
def fnExactTriangulationsCard : Claim7 := { stood := { row := fnExactTriangulationsRow, standIns := [], harness := (true, "3eb2d199b230426fda89cc96fd8d07b19b20c5fbfd99096914d162adfe667af1"), looks := false }, kinds := [], alts := [], laidByText := true, laidKinds := [.data, .data], laidTests := true, laidLooks := .later }
def FnExactTriangulationsCardSaid : Prop := Claim7.holds Tryd.pinned (.plain (OpenSpec.ofChange fnExactTriangulationsSpec)) fnExactTriangulationsCard

/-- THE TIED CARD OF 'laws.FnExactFlipEdge'. -/
def fnExactFlipEdgeCard : Claim7 := { stood := { row := fnExactFlipEdgeRow, standIns := [], harness := (true, "3eb2d199b230426fda89cc96fd8d07b19b20c5fbfd99096914d162adfe667af1"), looks := false }, kinds := [], alts := [], laidByText := true, laidKinds := [.data, .data], laidTests := true, laidLooks := .later }
def FnExactFlipEdgeCardSaid : Prop := Claim7.holds Tryd.pinned (.plain (OpenSpec.ofChange fnExactFlipEdgeSpec)) fnExactFlipEdgeCard

/-- THE TIED CARD OF 'laws.FnExactFlipsFrom'. -/
def fnExactFlipsFromCard : Claim7 := { stood := { row := fnExactFlipsFromRow, standIns := [], harness := (true, "3eb2d199b230426fda89cc96fd8d07b19b20c5fbfd99096914d162adfe667af1"), looks := false }, kinds := [], alts := [], laidByText := true, laidKinds := [.data, .data], laidTests := true, laidLooks := .later }
def FnExactFlipsFromCardSaid : Prop := Claim7.holds Tryd.pinned (.plain (OpenSpec.ofChange fnExactFlipsFromSpec)) fnExactFlipsFromCard

/-- THE TIED CARD OF 'laws.FnExactFlipDistance'. -/
def fnExactFlipDistanceCard : Claim7 := { stood := { row := fnExactFlipDistanceRow, standIns := [], harness := (true, "3eb2d199b230426fda89cc96fd8d07b19b20c5fbfd99096914d162adfe667af1"), looks := false }, kinds := [], alts := [], laidByText := true, laidKinds := [.data, .data], laidTests := true, laidLooks := .later }
def FnExactFlipDistanceCardSaid : Prop := Claim7.holds Tryd.pinned (.plain (OpenSpec.ofChange fnExactFlipDistanceSpec)) fnExactFlipDistanceCard

/-- THE TIED CARD OF 'laws.FnExactTrianglesOf'. -/
def fnExactTrianglesOfCard : Claim7 := { stood := { row := fnExactTrianglesOfRow, standIns := [], harness := (true, "3eb2d199b230426fda89cc96fd8d07b19b20c5fbfd99096914d162adfe667af1"), looks := false }, kinds := [], alts := [], laidByText := true, laidKinds := [.data, .data], laidTests := true, laidLooks := .later }
def FnExactTrianglesOfCardSaid : Prop := Claim7.holds Tryd.pinned (.plain (OpenSpec.ofChange fnExactTrianglesOfSpec)) fnExactTrianglesOfCard

/-- THE TIED CARD OF 'laws.FnExactEdgesText'. -/
def fnExactEdgesTextCard : Claim7 := { stood := { row := fnExactEdgesTextRow, standIns := [], harness := (true, "3eb2d199b230426fda89cc96fd8d07b19b20c5fbfd99096914d162adfe667af1"), looks := false }, kinds := [], alts := [], laidByText := true, laidKinds := [.data, .data, .data], laidTests := true, laidLooks := .later }
def FnExactEdgesTextCardSaid : Prop := Claim7.holds Tryd.pinned (.plain (OpenSpec.ofChange fnExactEdgesTextSpec)) fnExactEdgesTextCard

/-- THE SECOND FORM's CARD OF 'laws.FnExactIsTriangulation'. -/
def fnExactIsTriangulationUptoCard : Claim7 := { stood := { row := fnExactIsTriangulationUptoRow, standIns := [], harness := (true, "3eb2d199b230426fda89cc96fd8d07b19b20c5fbfd99096914d162adfe667af1"), looks := false }, kinds := [], alts := [], laidByText := true, laidKinds := [.data, .data], laidTests := true, laidLooks := .later }
def FnExactIsTriangulationUptoCardSaid : Prop := Claim7.holds Tryd.pinned (.plain (OpenSpec.upto fnExactIsTriangulationSpec)) fnExactIsTriangulationUptoCard

/-- THE SECOND FORM's CARD OF 'laws.FnExactTriangulations'. -/
def fnExactTriangulationsUptoCard : Claim7 := { stood := { row := fnExactTriangulationsUptoRow, standIns := [], harness := (true, "3eb2d199b230426fda89cc96fd8d07b19b20c5fbfd99096914d162adfe667af1"), looks := false }, kinds := [], alts := [], laidByText := true, laidKinds := [.data, .data], laidTests := true, laidLooks := .later }
def FnExactTriangulationsUptoCardSaid : Prop := Claim7.holds Tryd.pinned (.plain (OpenSpec.upto fnExactTriangulationsSpec)) fnExactTriangulationsUptoCard

/-- THE SECOND FORM's CARD OF 'laws.FnExactFlipEdge'. -/
def fnExactFlipEdgeUptoCard : Claim7 := { stood := { row := fnExactFlipEdgeUptoRow, standIns := [], harness := (true, "3eb2d199b230426fda89cc96fd8d07b19b20c5fbfd99096914d162adfe667af1"), looks := false }, kinds := [], alts := [], laidByText := true, laidKinds := [.data, .data], laidTests := true, laidLooks := .later }
def FnExactFlipEdgeUptoCardSaid : Prop := Claim7.holds Tryd.pinned (.plain (OpenSpec.upto fnExactFlipEdgeSpec)) fnExactFlipEdgeUptoCard

/-- THE SECOND FORM's CARD OF 'laws.FnExactFlipsFrom'. -/
def fnExactFlipsFromUptoCard : Claim7 := { stood := { row := fnExactFlipsFromUptoRow, standIns := [], harness := (true, "3eb2d199b230426fda89cc96fd8d07b19b20c5fbfd99096914d162adfe667af1"), looks := false }, kinds := [], alts := [], laidByText := true, laidKinds := [.data, .data], laidTests := true, laidLooks := .later }
def FnExactFlipsFromUptoCardSaid : Prop := Claim7.holds Tryd.pinned (.plain (OpenSpec.upto fnExactFlipsFromSpec)) fnExactFlipsFromUptoCard

/-- THE SECOND FORM's CARD OF 'laws.FnExactFlipDistance'. -/
def fnExactFlipDistanceUptoCard : Claim7 := { stood := { row := fnExactFlipDistanceUptoRow, standIns := [], harness := (true, "3eb2d199b230426fda89cc96fd8d07b19b20c5fbfd99096914d162adfe667af1"), looks := false }, kinds := [], alts := [], laidByText := true, laidKinds := [.data, .data], laidTests := true, laidLooks := .later }
def FnExactFlipDistanceUptoCardSaid : Prop := Claim7.holds Tryd.pinned (.plain (OpenSpec.upto fnExactFlipDistanceSpec)) fnExactFlipDistanceUptoCard

/-- THE SECOND FORM's CARD OF 'laws.FnExactTrianglesOf'. -/
def fnExactTrianglesOfUptoCard : Claim7 := { stood := { row := fnExactTrianglesOfUptoRow, standIns := [], harness := (true, "3eb2d199b230426fda89cc96fd8d07b19b20c5fbfd99096914d162adfe667af1"), looks := false }, kinds := [], alts := [], laidByText := true, laidKinds := [.data, .data], laidTests := true, laidLooks := .later }
def FnExactTrianglesOfUptoCardSaid : Prop := Claim7.holds Tryd.pinned (.plain (OpenSpec.upto fnExactTrianglesOfSpec)) fnExactTrianglesOfUptoCard

/-- THE SECOND FORM's CARD OF 'laws.FnExactEdgesText'. -/
def fnExactEdgesTextUptoCard : Claim7 := { stood := { row := fnExactEdgesTextUptoRow, standIns := [], harness := (true, "3eb2d199b230426fda89cc96fd8d07b19b20c5fbfd99096914d162adfe667af1"), looks := false }, kinds := [], alts := [], laidByText := true, laidKinds := [.data, .data, .data], laidTests := true, laidLooks := .later }
def FnExactEdgesTextUptoCardSaid : Prop := Claim7.holds Tryd.pinned (.plain (OpenSpec.upto fnExactEdgesTextSpec)) fnExactEdgesTextUptoCard
end Rows
end Go.Proofs.YtfggiflngfihcaaDoor
