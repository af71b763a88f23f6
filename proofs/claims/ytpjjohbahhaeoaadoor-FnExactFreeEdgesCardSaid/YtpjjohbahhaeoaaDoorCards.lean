/-
  DERIVED. GIVEN WITH THE SEED: THE CARDS: each row of YtpjjohbahhaeoaaDoorRows.lean that lists a variable, with what it lists TIED to the program's text (the seventh form; the later family's looks); each row that meets fmt, with fmt's text TOLD by the authors' own Lean function (tested against real Go, not proved from fmt's source: count such statements apart). THE CARD IS WHAT COUNTS. Prove the row's statement (the work); the ties are given (YtpjjohbahhaeoaaDoorTie.lean); close each card by the builder's one call (the guide's Derived/Test/ToyasCard.lean, 'card_holds'). Laid BY PROGRAM, IN A SANDBOX (cutbox-door.mjs). By AI agents, Wed Nov 11 2026. No macro, syntax, notation, axiom, sorry.
-/
import Derived.Test.YtpjjohbahhaeoaaDoorRows
import GoSem.ClaimSeven
namespace Go.Proofs.YtpjjohbahhaeoaaDoor
namespace Rows

/-- THE TIED CARD OF 'laws.FnExactCrossingPairs'. -/
def fnExactCrossingPairsCard : Claim7 := { stood := { row := fnExactCrossingPairsRow, standIns := [], harness := (true, "9a52a9c175fb1aeac4fcca8d4f891e891d56ae3ec23c805cc1580f998aaa3379"), looks := false }, kinds := [], alts := [], laidByText := true, laidKinds := [.data, .data], laidTests := true, laidLooks := .later }
def FnExactCrossingPairsCardSaid : Prop := Claim7.holds Tryd.pinned (.plain (OpenSpec.ofChange fnExactCrossingPairsSpec)) fnExactCrossingPairsCard

/-- THE TIED CARD OF 'laws.FnExactIsPlane'. -/
def fnExactIsPlaneCard : Claim7 := { stood := { row := fnExactIsPlaneRow, standIns := [], harness := (true, "9a52a9c175fb1aeac4fcca8d4f891e891d56ae3ec23c805cc1580f998aaa3379"), looks := false }, kinds := [], alts := [], laidByText := true, laidKinds := [.data, .data], laidTests := true, laidLooks := .later }
def FnExactIsPlaneCardSaid : Prop := Claim7.holds Tryd.pinned (.plain (OpenSpec.ofChange fnExactIsPlaneSpec)) fnExactIsPlaneCard

/-- THE TIED CARD OF 'laws.FnExactHullEdges'. -/
def fnExactHullEdgesCard : Claim7 := { stood := { row := fnExactHullEdgesRow, standIns := [], harness := (true, "9a52a9c175fb1aeac4fcca8d4f891e891d56ae3ec23c805cc1580f998aaa3379"), looks := false }, kinds := [], alts := [], laidByText := true, laidKinds := [.data, .data], laidTests := true, laidLooks := .later }
def FnExactHullEdgesCardSaid : Prop := Claim7.holds Tryd.pinned (.plain (OpenSpec.ofChange fnExactHullEdgesSpec)) fnExactHullEdgesCard

/-- THE TIED CARD OF 'laws.FnExactFreeEdges'. -/
def fnExactFreeEdgesCard : Claim7 := { stood := { row := fnExactFreeEdgesRow, standIns := [], harness := (true, "9a52a9c175fb1aeac4fcca8d4f891e891d56ae3ec23c805cc1580f998aaa3379"), looks := false }, kinds := [], alts := [], laidByText := true, laidKinds := [.data, .data], laidTests := true, laidLooks := .later }
def FnExactFreeEdgesCardSaid : Prop := Claim7.holds Tryd.pinned (.plain (OpenSpec.ofChange fnExactFreeEdgesSpec)) fnExactFreeEdgesCard

/-- THE SECOND FORM's CARD OF 'laws.FnExactCrossingPairs'. -/
def fnExactCrossingPairsUptoCard : Claim7 := { stood := { row := fnExactCrossingPairsUptoRow, standIns := [], harness := (true, "9a52a9c175fb1aeac4fcca8d4f891e891d56ae3ec23c805cc1580f998aaa3379"), looks := false }, kinds := [], alts := [], laidByText := true, laidKinds := [.data, .data], laidTests := true, laidLooks := .later }
def FnExactCrossingPairsUptoCardSaid : Prop := Claim7.holds Tryd.pinned (.plain (OpenSpec.upto fnExactCrossingPairsSpec)) fnExactCrossingPairsUptoCard

/-- THE SECOND FORM's CARD OF 'laws.FnExactIsPlane'. -/
def fnExactIsPlaneUptoCard : Claim7 := { stood := { row := fnExactIsPlaneUptoRow, standIns := [], harness := (true, "9a52a9c175fb1aeac4fcca8d4f891e891d56ae3ec23c805cc1580f998aaa3379"), looks := false }, kinds := [], alts := [], laidByText := true, laidKinds := [.data, .data], laidTests := true, laidLooks := .later }
def FnExactIsPlaneUptoCardSaid : Prop := Claim7.holds Tryd.pinned (.plain (OpenSpec.upto fnExactIsPlaneSpec)) fnExactIsPlaneUptoCard

/-- THE SECOND FORM's CARD OF 'laws.FnExactHullEdges'. -/
def fnExactHullEdgesUptoCard : Claim7 := { stood := { row := fnExactHullEdgesUptoRow, standIns := [], harness := (true, "9a52a9c175fb1aeac4fcca8d4f891e891d56ae3ec23c805cc1580f998aaa3379"), looks := false }, kinds := [], alts := [], laidByText := true, laidKinds := [.data, .data], laidTests := true, laidLooks := .later }
def FnExactHullEdgesUptoCardSaid : Prop := Claim7.holds Tryd.pinned (.plain (OpenSpec.upto fnExactHullEdgesSpec)) fnExactHullEdgesUptoCard

/-- THE SECOND FORM's CARD OF 'laws.FnExactFreeEdges'. -/
def fnExactFreeEdgesUptoCard : Claim7 := { stood := { row := fnExactFreeEdgesUptoRow, standIns := [], harness := (true, "9a52a9c175fb1aeac4fcca8d4f891e891d56ae3ec23c805cc1580f998aaa3379"), looks := false }, kinds := [], alts := [], laidByText := true, laidKinds := [.data, .data], laidTests := true, laidLooks := .later }
def FnExactFreeEdgesUptoCardSaid : Prop := Claim7.holds Tryd.pinned (.plain (OpenSpec.upto fnExactFreeEdgesSpec)) fnExactFreeEdgesUptoCard
end Rows
end Go.Proofs.YtpjjohbahhaeoaaDoor
