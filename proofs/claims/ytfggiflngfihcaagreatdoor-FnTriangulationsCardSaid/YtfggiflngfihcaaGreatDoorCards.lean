/-
  DERIVED. GIVEN WITH THE SEED: THE CARDS: each row of YtfggiflngfihcaaGreatDoorRows.lean that lists a variable, with what it lists TIED to the program's text (the seventh form; the later family's looks); each row that meets fmt, with fmt's text TOLD by the authors' own Lean function (tested against real Go, not proved from fmt's source: count such statements apart). THE CARD IS WHAT COUNTS. Prove the row's statement (the work); the ties are given (YtfggiflngfihcaaGreatDoorTie.lean); close each card by the builder's one call (the guide's Derived/Test/ToyasCard.lean, 'card_holds'). Laid BY PROGRAM, IN A SANDBOX (cutbox-door.mjs). By AI agents, Wed Nov 11 2026. No macro, syntax, notation, axiom, sorry.
-/
import Derived.Test.YtfggiflngfihcaaGreatDoorRows
import GoSem.ClaimSeven
namespace Go.Proofs.YtfggiflngfihcaaGreatDoor
namespace Rows

/-- THE TIED CARD OF 'laws.FnTriangulations'. -/
def fnTriangulationsCard : Claim7 := { stood := { row := fnTriangulationsRow, standIns := [], harness := (true, "697f73ea366d7c2edfb006cd6d215dcf9877b1df1d7914bde5e8c94e7e6cdf6e"), looks := false }, kinds := [], alts := [], laidByText := true, laidKinds := [.data, .data, .data], laidTests := true, laidLooks := .later }
def FnTriangulationsCardSaid : Prop := Claim7.holds Tryz.pinned (.plain (OpenSpec.ofChange fnTriangulationsSpec)) fnTriangulationsCard

/-- THE SECOND FORM's CARD OF 'laws.FnTriangulations'. -/
def fnTriangulationsUptoCard : Claim7 := { stood := { row := fnTriangulationsUptoRow, standIns := [], harness := (true, "697f73ea366d7c2edfb006cd6d215dcf9877b1df1d7914bde5e8c94e7e6cdf6e"), looks := false }, kinds := [], alts := [], laidByText := true, laidKinds := [.data, .data, .data], laidTests := true, laidLooks := .later }
def FnTriangulationsUptoCardSaid : Prop := Claim7.holds Tryz.pinned (.plain (OpenSpec.upto fnTriangulationsSpec)) fnTriangulationsUptoCard
end Rows
end Go.Proofs.YtfggiflngfihcaaGreatDoor
