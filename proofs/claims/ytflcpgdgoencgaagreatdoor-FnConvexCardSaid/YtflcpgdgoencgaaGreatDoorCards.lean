/-
  DERIVED. GIVEN WITH THE SEED: THE CARDS: each row of YtflcpgdgoencgaaGreatDoorRows.lean that lists a variable, with what it lists TIED to the program's text (the seventh form; the later family's looks); each row that meets fmt, with fmt's text TOLD by the authors' own Lean function (tested against real Go, not proved from fmt's source: count such statements apart). THE CARD IS WHAT COUNTS. Prove the row's statement (the work); the ties are given (YtflcpgdgoencgaaGreatDoorTie.lean); close each card by the builder's one call (the guide's Derived/Test/ToyasCard.lean, 'card_holds'). Laid BY PROGRAM, IN A SANDBOX (cutbox-door.mjs). By AI agents, Wed Nov 11 2026. No macro, syntax, notation, axiom, sorry.
-/
import Derived.Test.YtflcpgdgoencgaaGreatDoorRows
import GoSem.ClaimSeven
namespace Go.Proofs.YtflcpgdgoencgaaGreatDoor
namespace Rows

/-- THE TIED CARD OF 'laws.FnConvex'. -/
def fnConvexCard : Claim7 := { stood := { row := fnConvexRow, standIns := [], harness := (true, "b55ca4450c096fc84f1fe00c100e756f9514a05aa4f346b13954f9f5f8292c3a"), looks := false }, kinds := [], alts := [], laidByText := true, laidKinds := [.data, .data], laidTests := true, laidLooks := .later }
def FnConvexCardSaid : Prop := Claim7.holds Tryz.pinned (.plain (OpenSpec.ofChange fnConvexSpec)) fnConvexCard

/-- THE TIED CARD OF 'laws.FnLefts'. -/
def fnLeftsCard : Claim7 := { stood := { row := fnLeftsRow, standIns := [], harness := (true, "b55ca4450c096fc84f1fe00c100e756f9514a05aa4f346b13954f9f5f8292c3a"), looks := false }, kinds := [], alts := [], laidByText := true, laidKinds := [.data, .data], laidTests := true, laidLooks := .later }
def FnLeftsCardSaid : Prop := Claim7.holds Tryz.pinned (.plain (OpenSpec.ofChange fnLeftsSpec)) fnLeftsCard

/-- THE SECOND FORM's CARD OF 'laws.FnConvex'. -/
def fnConvexUptoCard : Claim7 := { stood := { row := fnConvexUptoRow, standIns := [], harness := (true, "b55ca4450c096fc84f1fe00c100e756f9514a05aa4f346b13954f9f5f8292c3a"), looks := false }, kinds := [], alts := [], laidByText := true, laidKinds := [.data, .data], laidTests := true, laidLooks := .later }
def FnConvexUptoCardSaid : Prop := Claim7.holds Tryz.pinned (.plain (OpenSpec.upto fnConvexSpec)) fnConvexUptoCard

/-- THE SECOND FORM's CARD OF 'laws.FnLefts'. -/
def fnLeftsUptoCard : Claim7 := { stood := { row := fnLeftsUptoRow, standIns := [], harness := (true, "b55ca4450c096fc84f1fe00c100e756f9514a05aa4f346b13954f9f5f8292c3a"), looks := false }, kinds := [], alts := [], laidByText := true, laidKinds := [.data, .data], laidTests := true, laidLooks := .later }
def FnLeftsUptoCardSaid : Prop := Claim7.holds Tryz.pinned (.plain (OpenSpec.upto fnLeftsSpec)) fnLeftsUptoCard
end Rows
end Go.Proofs.YtflcpgdgoencgaaGreatDoor
