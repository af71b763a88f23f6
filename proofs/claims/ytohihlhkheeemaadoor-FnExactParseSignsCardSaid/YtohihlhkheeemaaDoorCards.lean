/-
  DERIVED. GIVEN WITH THE SEED: THE CARDS: each row of YtohihlhkheeemaaDoorRows.lean that lists a variable, with what it lists TIED to the program's text (the seventh form; the later family's looks); each row that meets fmt, with fmt's text TOLD by the authors' own Lean function (tested against real Go, not proved from fmt's source: count such statements apart). THE CARD IS WHAT COUNTS. Prove the row's statement (the work); the ties are given (YtohihlhkheeemaaDoorTie.lean); close each card by the builder's one call (the guide's Derived/Test/ToyasCard.lean, 'card_holds'). Laid BY PROGRAM, IN A SANDBOX (cutbox-door.mjs). By AI agents, Wed Nov 11 2026. No macro, syntax, notation, axiom, sorry.
-/
import Derived.Test.YtohihlhkheeemaaDoorRows
import GoSem.ClaimSeven
namespace Go.Proofs.YtohihlhkheeemaaDoor
namespace Rows

/-- THE TIED CARD OF 'laws.FnExactSignsText'. -/
def fnExactSignsTextCard : Claim7 := { stood := { row := fnExactSignsTextRow, standIns := [], harness := (true, "d5589c0a2a2130318de6c5b61240d620dd2f51df66b8e78057aae364e3aa87e5"), looks := true }, kinds := [], alts := [], laidByText := true, laidKinds := [.data, .data, .data], laidTests := true, laidLooks := .later }
def FnExactSignsTextCardSaid : Prop := Claim7.holds Tryd.pinned (.plain (OpenSpec.ofChange fnExactSignsTextSpec)) fnExactSignsTextCard

/-- THE TIED CARD OF 'laws.FnExactParseSigns'. -/
def fnExactParseSignsCard : Claim7 := { stood := { row := fnExactParseSignsRow, standIns := [], harness := (true, "d5589c0a2a2130318de6c5b61240d620dd2f51df66b8e78057aae364e3aa87e5"), looks := true }, kinds := [], alts := [], laidByText := true, laidKinds := [.data, .data, .data, .sentinel, .sentinel, .sentinel], laidTests := true, laidLooks := .later }
def FnExactParseSignsCardSaid : Prop := Claim7.holds Tryd.pinned (.plain (OpenSpec.ofChange fnExactParseSignsSpec)) fnExactParseSignsCard

/-- THE SECOND FORM's CARD OF 'laws.FnExactSignsText'. -/
def fnExactSignsTextUptoCard : Claim7 := { stood := { row := fnExactSignsTextUptoRow, standIns := [], harness := (true, "d5589c0a2a2130318de6c5b61240d620dd2f51df66b8e78057aae364e3aa87e5"), looks := true }, kinds := [], alts := [], laidByText := true, laidKinds := [.data, .data, .data], laidTests := true, laidLooks := .later }
def FnExactSignsTextUptoCardSaid : Prop := Claim7.holds Tryd.pinned (.plain (OpenSpec.upto fnExactSignsTextSpec)) fnExactSignsTextUptoCard

/-- THE SECOND FORM's CARD OF 'laws.FnExactParseSigns'. -/
def fnExactParseSignsUptoCard : Claim7 := { stood := { row := fnExactParseSignsUptoRow, standIns := [], harness := (true, "d5589c0a2a2130318de6c5b61240d620dd2f51df66b8e78057aae364e3aa87e5"), looks := true }, kinds := [], alts := [], laidByText := true, laidKinds := [.data, .data, .data, .sentinel, .sentinel, .sentinel], laidTests := true, laidLooks := .later }
def FnExactParseSignsUptoCardSaid : Prop := Claim7.holds Tryd.pinned (.plain (OpenSpec.upto fnExactParseSignsSpec)) fnExactParseSignsUptoCard
end Rows
end Go.Proofs.YtohihlhkheeemaaDoor
