/-
  DERIVED. GIVEN WITH THE SEED: THE CARDS: each row of YtfpbehnpaedpmaaDoorRows.lean that lists a variable, with what it lists TIED to the program's text (the seventh form; the later family's looks); each row that meets fmt, with fmt's text TOLD by the authors' own Lean function (tested against real Go, not proved from fmt's source: count such statements apart). THE CARD IS WHAT COUNTS. Prove the row's statement (the work); the ties are given (YtfpbehnpaedpmaaDoorTie.lean); close each card by the builder's one call (the guide's Derived/Test/ToyasCard.lean, 'card_holds'). Laid BY PROGRAM, IN A SANDBOX (cutbox-door.mjs). By AI agents, Wed Nov 11 2026. No macro, syntax, notation, axiom, sorry.
-/
import Derived.Test.YtfpbehnpaedpmaaDoorRows
import GoSem.ClaimSeven
namespace Go.Proofs.YtfpbehnpaedpmaaDoor
namespace Rows

/-- THE TIED CARD OF 'laws.FnWirings'. -/
def fnWiringsCard : Claim7 := { stood := { row := fnWiringsRow, standIns := [], harness := (true, "9388790c6057f1a63cbb6f76ee0bd7308672e43032113f2fb4d70a2b95e162c8"), looks := true }, kinds := [], alts := [], laidByText := true, laidKinds := [.data, .data, .data, .sentinel, .sentinel, .sentinel], laidTests := true, laidLooks := .later }
def FnWiringsCardSaid : Prop := Claim7.holds Tryd.pinned (.plain (OpenSpec.ofChange fnWiringsSpec)) fnWiringsCard

/-- THE TIED CARD OF 'laws.FnExactWiringText'. -/
def fnExactWiringTextCard : Claim7 := { stood := { row := fnExactWiringTextRow, standIns := [], harness := (true, "9388790c6057f1a63cbb6f76ee0bd7308672e43032113f2fb4d70a2b95e162c8"), looks := true }, kinds := [], alts := [], laidByText := true, laidKinds := [.data, .data, .data], laidTests := true, laidLooks := .later }
def FnExactWiringTextCardSaid : Prop := Claim7.holds Tryd.pinned (.plain (OpenSpec.ofChange fnExactWiringTextSpec)) fnExactWiringTextCard

/-- THE TIED CARD OF 'laws.FnExactParseWiring'. -/
def fnExactParseWiringCard : Claim7 := { stood := { row := fnExactParseWiringRow, standIns := [], harness := (true, "9388790c6057f1a63cbb6f76ee0bd7308672e43032113f2fb4d70a2b95e162c8"), looks := true }, kinds := [], alts := [], laidByText := true, laidKinds := [.data, .data, .data, .sentinel, .sentinel, .sentinel], laidTests := true, laidLooks := .later }
def FnExactParseWiringCardSaid : Prop := Claim7.holds Tryd.pinned (.plain (OpenSpec.ofChange fnExactParseWiringSpec)) fnExactParseWiringCard

/-- THE SECOND FORM's CARD OF 'laws.FnWirings'. -/
def fnWiringsUptoCard : Claim7 := { stood := { row := fnWiringsUptoRow, standIns := [], harness := (true, "9388790c6057f1a63cbb6f76ee0bd7308672e43032113f2fb4d70a2b95e162c8"), looks := true }, kinds := [], alts := [], laidByText := true, laidKinds := [.data, .data, .data, .sentinel, .sentinel, .sentinel], laidTests := true, laidLooks := .later }
def FnWiringsUptoCardSaid : Prop := Claim7.holds Tryd.pinned (.plain (OpenSpec.upto fnWiringsSpec)) fnWiringsUptoCard

/-- THE SECOND FORM's CARD OF 'laws.FnExactWiringText'. -/
def fnExactWiringTextUptoCard : Claim7 := { stood := { row := fnExactWiringTextUptoRow, standIns := [], harness := (true, "9388790c6057f1a63cbb6f76ee0bd7308672e43032113f2fb4d70a2b95e162c8"), looks := true }, kinds := [], alts := [], laidByText := true, laidKinds := [.data, .data, .data], laidTests := true, laidLooks := .later }
def FnExactWiringTextUptoCardSaid : Prop := Claim7.holds Tryd.pinned (.plain (OpenSpec.upto fnExactWiringTextSpec)) fnExactWiringTextUptoCard

/-- THE SECOND FORM's CARD OF 'laws.FnExactParseWiring'. -/
def fnExactParseWiringUptoCard : Claim7 := { stood := { row := fnExactParseWiringUptoRow, standIns := [], harness := (true, "9388790c6057f1a63cbb6f76ee0bd7308672e43032113f2fb4d70a2b95e162c8"), looks := true }, kinds := [], alts := [], laidByText := true, laidKinds := [.data, .data, .data, .sentinel, .sentinel, .sentinel], laidTests := true, laidLooks := .later }
def FnExactParseWiringUptoCardSaid : Prop := Claim7.holds Tryd.pinned (.plain (OpenSpec.upto fnExactParseWiringSpec)) fnExactParseWiringUptoCard
end Rows
end Go.Proofs.YtfpbehnpaedpmaaDoor
