/-
  DERIVED. GIVEN WITH THE SEED: THE CARDS: each row of YticekiniljemeaaDoorRows.lean that lists a variable, with what it lists TIED to the program's text (the seventh form; the later family's looks); each row that meets fmt, with fmt's text TOLD by the authors' own Lean function (tested against real Go, not proved from fmt's source: count such statements apart). THE CARD IS WHAT COUNTS. Prove the row's statement (the work); the ties are given (YticekiniljemeaaDoorTie.lean); close each card by the builder's one call (the guide's Derived/Test/ToyasCard.lean, 'card_holds'). Laid BY PROGRAM, IN A SANDBOX (cutbox-door.mjs). By AI agents, Wed Nov 11 2026. No macro, syntax, notation, axiom, sorry.
-/
import Derived.Test.YticekiniljemeaaDoorRows
import GoSem.ClaimSeven
namespace Go.Proofs.YticekiniljemeaaDoor
namespace Rows

/-- THE TIED CARD OF 'laws.FnExactPointsText'. -/
def fnExactPointsTextCard : Claim7 := { stood := { row := fnExactPointsTextRow, standIns := [], harness := (true, "bc34558db166801462b6eb81918889fbc77fbf880741e0601c98b0d2cb1328f1"), looks := true }, kinds := [], alts := [], laidByText := true, laidKinds := [.data, .data, .data], laidTests := true, laidLooks := .later }
def FnExactPointsTextCardSaid : Prop := Claim7.holds Tryd.pinned (.plain (OpenSpec.ofChange fnExactPointsTextSpec)) fnExactPointsTextCard

/-- THE TIED CARD OF 'laws.FnExactParsePoints'. -/
def fnExactParsePointsCard : Claim7 := { stood := { row := fnExactParsePointsRow, standIns := [], harness := (true, "bc34558db166801462b6eb81918889fbc77fbf880741e0601c98b0d2cb1328f1"), looks := true }, kinds := [], alts := [], laidByText := true, laidKinds := [.data, .data, .data, .data, .sentinel, .sentinel, .sentinel, .pinned], laidTests := true, laidLooks := .later }
def FnExactParsePointsCardSaid : Prop := Claim7.holds Tryd.pinned (.plain (OpenSpec.ofChange fnExactParsePointsSpec)) fnExactParsePointsCard

/-- THE SECOND FORM's CARD OF 'laws.FnExactPointsText'. -/
def fnExactPointsTextUptoCard : Claim7 := { stood := { row := fnExactPointsTextUptoRow, standIns := [], harness := (true, "bc34558db166801462b6eb81918889fbc77fbf880741e0601c98b0d2cb1328f1"), looks := true }, kinds := [], alts := [], laidByText := true, laidKinds := [.data, .data, .data], laidTests := true, laidLooks := .later }
def FnExactPointsTextUptoCardSaid : Prop := Claim7.holds Tryd.pinned (.plain (OpenSpec.upto fnExactPointsTextSpec)) fnExactPointsTextUptoCard

/-- THE SECOND FORM's CARD OF 'laws.FnExactParsePoints'. -/
def fnExactParsePointsUptoCard : Claim7 := { stood := { row := fnExactParsePointsUptoRow, standIns := [], harness := (true, "bc34558db166801462b6eb81918889fbc77fbf880741e0601c98b0d2cb1328f1"), looks := true }, kinds := [], alts := [], laidByText := true, laidKinds := [.data, .data, .data, .data, .sentinel, .sentinel, .sentinel, .pinned], laidTests := true, laidLooks := .later }
def FnExactParsePointsUptoCardSaid : Prop := Claim7.holds Tryd.pinned (.plain (OpenSpec.upto fnExactParsePointsSpec)) fnExactParsePointsUptoCard
end Rows
end Go.Proofs.YticekiniljemeaaDoor
