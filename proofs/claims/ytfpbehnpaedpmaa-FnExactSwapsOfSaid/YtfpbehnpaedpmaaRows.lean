/-
  No cell of these rows narrows 'for every input' (looked for: loops, veiled, ifaces, maps, wideKeys, modest, calm, conditions, laid).
  DERIVED. THE GIVEN ROWS OF THIS SEAT. 6 by the template 'for every input the law returns true; each argument reads behind the call as it read before'; 0 by the template 'total and deterministic' (their statements: YtfpbehnpaedpmaaTotals.lean).
  GIVEN WITH THE SEED: the statements are not yours to turn. If you find one false, say at which input.
  Laid BY PROGRAM, IN A SANDBOX (cutbox-rows.mjs): the forced cells as the released guide's own fill.sh prints them over the translation ea32f51878d20ed3… (all of the seat's roots in one cut). By AI agents, Wed Nov 11 2026. No macro, syntax, notation, axiom, sorry.
-/
import Derived.Test.YtfpbehnpaedpmaaChecked
import GoSem.Claim
import GoSem.ClaimJoined
import GoSem.ClaimMapViews
import Derived.JoinedTies
import Derived.KernelRfl
namespace Go.Proofs.Ytfpbehnpaedpmaa
/- THE CELL 'sum', in the pinned program and in every row, IS THE sha256 OF THE DUMP (.gsa) THAT YtfpbehnpaedpmaaProg.lean LOADS. Nothing in Lean hashes anything: it is a label: what it is worth is what the hold of that sum in a sandbox is worth. -/
noncomputable def Try.pinned : Pinned := { name := "ytfpbehnpaedpmaa", sum := "ea32f51878d20ed3a305d98f14e0a81c04228a4caf97e87b60cda8e79caed0df", checked := Try.checked }
namespace Rows
def none {H : Type} : Left H := { results := [], args := [] }

/-- 'laws.FnExactIsWiring': WHATEVER THE INPUT: true; the input reads as it did. -/
def fnExactIsWiringSpec : ChangeSpec := { name := "fnExactIsWiring", fn := fun _ => fun
  | [d1, d2] => { results := [.lit (.bool true)], args := [d1, d2] }
  | _ => none }
def fnExactIsWiringRow : OpenClaim := { program := "ytfpbehnpaedpmaa", sum := "ea32f51878d20ed3a305d98f14e0a81c04228a4caf97e87b60cda8e79caed0df", func := "loop.example/g03104/laws.FnExactIsWiring", spec := "fnExactIsWiring", apart := false }
def FnExactIsWiringSaid : Prop := fnExactIsWiringRow.holds Try.pinned (OpenSpec.ofChange fnExactIsWiringSpec)

/-- ITS FALSE NEIGHBOUR: 'it returns false'. Refute it at one input. -/
def fnExactIsWiringWrong : ChangeSpec := { name := "fnExactIsWiring", fn := fun _ => fun
  | [d1, d2] => { results := [.lit (.bool false)], args := [d1, d2] }
  | _ => none }
def FnExactIsWiringWrongFalsely : Prop := fnExactIsWiringRow.holds Try.pinned (OpenSpec.ofChange fnExactIsWiringWrong)

/-- 'laws.FnExactWiresAfter': WHATEVER THE INPUT: true; the input reads as it did. -/
def fnExactWiresAfterSpec : ChangeSpec := { name := "fnExactWiresAfter", fn := fun _ => fun
  | [d1, d2, d3] => { results := [.lit (.bool true)], args := [d1, d2, d3] }
  | _ => none }
def fnExactWiresAfterRow : OpenClaim := { program := "ytfpbehnpaedpmaa", sum := "ea32f51878d20ed3a305d98f14e0a81c04228a4caf97e87b60cda8e79caed0df", func := "loop.example/g03104/laws.FnExactWiresAfter", spec := "fnExactWiresAfter", apart := false }
def FnExactWiresAfterSaid : Prop := fnExactWiresAfterRow.holds Try.pinned (OpenSpec.ofChange fnExactWiresAfterSpec)

/-- ITS FALSE NEIGHBOUR: 'it returns false'. Refute it at one input. -/
def fnExactWiresAfterWrong : ChangeSpec := { name := "fnExactWiresAfter", fn := fun _ => fun
  | [d1, d2, d3] => { results := [.lit (.bool false)], args := [d1, d2, d3] }
  | _ => none }
def FnExactWiresAfterWrongFalsely : Prop := fnExactWiresAfterRow.holds Try.pinned (OpenSpec.ofChange fnExactWiresAfterWrong)

/-- 'laws.FnExactSwapsOf': WHATEVER THE INPUT: true; the input reads as it did. -/
def fnExactSwapsOfSpec : ChangeSpec := { name := "fnExactSwapsOf", fn := fun _ => fun
  | [d1, d2] => { results := [.lit (.bool true)], args := [d1, d2] }
  | _ => none }
def fnExactSwapsOfRow : OpenClaim := { program := "ytfpbehnpaedpmaa", sum := "ea32f51878d20ed3a305d98f14e0a81c04228a4caf97e87b60cda8e79caed0df", func := "loop.example/g03104/laws.FnExactSwapsOf", spec := "fnExactSwapsOf", apart := false }
def FnExactSwapsOfSaid : Prop := fnExactSwapsOfRow.holds Try.pinned (OpenSpec.ofChange fnExactSwapsOfSpec)

/-- ITS FALSE NEIGHBOUR: 'it returns false'. Refute it at one input. -/
def fnExactSwapsOfWrong : ChangeSpec := { name := "fnExactSwapsOf", fn := fun _ => fun
  | [d1, d2] => { results := [.lit (.bool false)], args := [d1, d2] }
  | _ => none }
def FnExactSwapsOfWrongFalsely : Prop := fnExactSwapsOfRow.holds Try.pinned (OpenSpec.ofChange fnExactSwapsOfWrong)

/-- 'laws.FnExactWiringFrom': WHATEVER THE INPUT: true; the input reads as it did. -/
def fnExactWiringFromSpec : ChangeSpec := { name := "fnExactWiringFrom", fn := fun _ => fun
  | [d1, d2] => { results := [.lit (.bool true)], args := [d1, d2] }
  | _ => none }
def fnExactWiringFromRow : OpenClaim := { program := "ytfpbehnpaedpmaa", sum := "ea32f51878d20ed3a305d98f14e0a81c04228a4caf97e87b60cda8e79caed0df", func := "loop.example/g03104/laws.FnExactWiringFrom", spec := "fnExactWiringFrom", apart := false }
def FnExactWiringFromSaid : Prop := fnExactWiringFromRow.holds Try.pinned (OpenSpec.ofChange fnExactWiringFromSpec)

/-- ITS FALSE NEIGHBOUR: 'it returns false'. Refute it at one input. -/
def fnExactWiringFromWrong : ChangeSpec := { name := "fnExactWiringFrom", fn := fun _ => fun
  | [d1, d2] => { results := [.lit (.bool false)], args := [d1, d2] }
  | _ => none }
def FnExactWiringFromWrongFalsely : Prop := fnExactWiringFromRow.holds Try.pinned (OpenSpec.ofChange fnExactWiringFromWrong)

/-- 'laws.FnExactTurnWiring': WHATEVER THE INPUT: true; the input reads as it did. -/
def fnExactTurnWiringSpec : ChangeSpec := { name := "fnExactTurnWiring", fn := fun _ => fun
  | [d1, d2] => { results := [.lit (.bool true)], args := [d1, d2] }
  | _ => none }
def fnExactTurnWiringRow : OpenClaim := { program := "ytfpbehnpaedpmaa", sum := "ea32f51878d20ed3a305d98f14e0a81c04228a4caf97e87b60cda8e79caed0df", func := "loop.example/g03104/laws.FnExactTurnWiring", spec := "fnExactTurnWiring", apart := false }
def FnExactTurnWiringSaid : Prop := fnExactTurnWiringRow.holds Try.pinned (OpenSpec.ofChange fnExactTurnWiringSpec)

/-- ITS FALSE NEIGHBOUR: 'it returns false'. Refute it at one input. -/
def fnExactTurnWiringWrong : ChangeSpec := { name := "fnExactTurnWiring", fn := fun _ => fun
  | [d1, d2] => { results := [.lit (.bool false)], args := [d1, d2] }
  | _ => none }
def FnExactTurnWiringWrongFalsely : Prop := fnExactTurnWiringRow.holds Try.pinned (OpenSpec.ofChange fnExactTurnWiringWrong)

/-- 'laws.FnExactFlipWiring': WHATEVER THE INPUT: true; the input reads as it did. -/
def fnExactFlipWiringSpec : ChangeSpec := { name := "fnExactFlipWiring", fn := fun _ => fun
  | [d1, d2] => { results := [.lit (.bool true)], args := [d1, d2] }
  | _ => none }
def fnExactFlipWiringRow : OpenClaim := { program := "ytfpbehnpaedpmaa", sum := "ea32f51878d20ed3a305d98f14e0a81c04228a4caf97e87b60cda8e79caed0df", func := "loop.example/g03104/laws.FnExactFlipWiring", spec := "fnExactFlipWiring", apart := false }
def FnExactFlipWiringSaid : Prop := fnExactFlipWiringRow.holds Try.pinned (OpenSpec.ofChange fnExactFlipWiringSpec)

/-- ITS FALSE NEIGHBOUR: 'it returns false'. Refute it at one input. -/
def fnExactFlipWiringWrong : ChangeSpec := { name := "fnExactFlipWiring", fn := fun _ => fun
  | [d1, d2] => { results := [.lit (.bool false)], args := [d1, d2] }
  | _ => none }
def FnExactFlipWiringWrongFalsely : Prop := fnExactFlipWiringRow.holds Try.pinned (OpenSpec.ofChange fnExactFlipWiringWrong)

/- THE SECOND FORM. 'bulk': how many values and letters a reading holds, each counted each time it is reached (what is shared counts as often as it is met; a slice's spare places count too). A statement '..UptoSaid' is the law's where the arguments, and the package variables that the reading takes, are together of bulk at most 1048576: NARROWER than '..Said'. Prove '..Said' where nothing that the law and all that it calls make is longer than what came in: it says more and counts as full. Else prove '..UptoSaid'. A law counts once. -/
mutual
def uptoBulk {H : Type} : DataW H → Nat
  | .lit (.string bytes) => bytes.length + 1
  | .lit _ => 1
  | .nil => 1
  | .ptr d => uptoBulk d + 1
  | .slice elems spare => uptoBulkAll elems + uptoBulkAll spare + 1
  | .agg parts => uptoBulkAll parts + 1
  | .iface _ d => uptoBulk d + 1
  | .map entries => uptoBulkEntries entries + 1
  | .held _ => 1
def uptoBulkAll {H : Type} : List (DataW H) → Nat
  | [] => 0
  | d :: r => uptoBulk d + uptoBulkAll r
def uptoBulkEntries {H : Type} : List (Lit × DataW H) → Nat
  | [] => 0
  | x :: r => uptoBulkEntry x + uptoBulkEntries r
def uptoBulkEntry {H : Type} : Lit × DataW H → Nat
  | (.string bytes, d) => bytes.length + uptoBulk d + 1
  | (_, d) => uptoBulk d + 1
 end
def uptoSmall : (H : Type) → List (DataW H) → Bool := fun _ ds => decide (uptoBulkAll ds ≤ 1048576)
def OpenSpec.upto (s : _root_.Go.ChangeSpec) : _root_.Go.OpenSpec := { _root_.Go.OpenSpec.ofChange s with cond := some uptoSmall }

/-- 'laws.FnExactIsWiring', WHERE WHAT IT READS IS OF BULK AT MOST 1048576: true; the input reads as it did. -/
def fnExactIsWiringUptoRow : OpenClaim := { program := "ytfpbehnpaedpmaa", sum := "ea32f51878d20ed3a305d98f14e0a81c04228a4caf97e87b60cda8e79caed0df", func := "loop.example/g03104/laws.FnExactIsWiring", spec := "fnExactIsWiring", apart := false, narrowed := true }
def FnExactIsWiringUptoSaid : Prop := fnExactIsWiringUptoRow.holds Try.pinned (OpenSpec.upto fnExactIsWiringSpec)

/-- 'laws.FnExactWiresAfter', WHERE WHAT IT READS IS OF BULK AT MOST 1048576: true; the input reads as it did. -/
def fnExactWiresAfterUptoRow : OpenClaim := { program := "ytfpbehnpaedpmaa", sum := "ea32f51878d20ed3a305d98f14e0a81c04228a4caf97e87b60cda8e79caed0df", func := "loop.example/g03104/laws.FnExactWiresAfter", spec := "fnExactWiresAfter", apart := false, narrowed := true }
def FnExactWiresAfterUptoSaid : Prop := fnExactWiresAfterUptoRow.holds Try.pinned (OpenSpec.upto fnExactWiresAfterSpec)

/-- 'laws.FnExactSwapsOf', WHERE WHAT IT READS IS OF BULK AT MOST 1048576: true; the input reads as it did. -/
def fnExactSwapsOfUptoRow : OpenClaim := { program := "ytfpbehnpaedpmaa", sum := "ea32f51878d20ed3a305d98f14e0a81c04228a4caf97e87b60cda8e79caed0df", func := "loop.example/g03104/laws.FnExactSwapsOf", spec := "fnExactSwapsOf", apart := false, narrowed := true }
def FnExactSwapsOfUptoSaid : Prop := fnExactSwapsOfUptoRow.holds Try.pinned (OpenSpec.upto fnExactSwapsOfSpec)

/-- 'laws.FnExactWiringFrom', WHERE WHAT IT READS IS OF BULK AT MOST 1048576: true; the input reads as it did. -/
def fnExactWiringFromUptoRow : OpenClaim := { program := "ytfpbehnpaedpmaa", sum := "ea32f51878d20ed3a305d98f14e0a81c04228a4caf97e87b60cda8e79caed0df", func := "loop.example/g03104/laws.FnExactWiringFrom", spec := "fnExactWiringFrom", apart := false, narrowed := true }
def FnExactWiringFromUptoSaid : Prop := fnExactWiringFromUptoRow.holds Try.pinned (OpenSpec.upto fnExactWiringFromSpec)

/-- 'laws.FnExactTurnWiring', WHERE WHAT IT READS IS OF BULK AT MOST 1048576: true; the input reads as it did. -/
def fnExactTurnWiringUptoRow : OpenClaim := { program := "ytfpbehnpaedpmaa", sum := "ea32f51878d20ed3a305d98f14e0a81c04228a4caf97e87b60cda8e79caed0df", func := "loop.example/g03104/laws.FnExactTurnWiring", spec := "fnExactTurnWiring", apart := false, narrowed := true }
def FnExactTurnWiringUptoSaid : Prop := fnExactTurnWiringUptoRow.holds Try.pinned (OpenSpec.upto fnExactTurnWiringSpec)

/-- 'laws.FnExactFlipWiring', WHERE WHAT IT READS IS OF BULK AT MOST 1048576: true; the input reads as it did. -/
def fnExactFlipWiringUptoRow : OpenClaim := { program := "ytfpbehnpaedpmaa", sum := "ea32f51878d20ed3a305d98f14e0a81c04228a4caf97e87b60cda8e79caed0df", func := "loop.example/g03104/laws.FnExactFlipWiring", spec := "fnExactFlipWiring", apart := false, narrowed := true }
def FnExactFlipWiringUptoSaid : Prop := fnExactFlipWiringUptoRow.holds Try.pinned (OpenSpec.upto fnExactFlipWiringSpec)

end Rows
end Go.Proofs.Ytfpbehnpaedpmaa
