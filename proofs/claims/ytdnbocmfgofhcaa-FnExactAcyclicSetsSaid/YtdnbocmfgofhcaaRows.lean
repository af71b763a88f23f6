/-
  No cell of these rows narrows 'for every input' (looked for: loops, veiled, ifaces, maps, wideKeys, modest, calm, conditions, laid).
  DERIVED. THE GIVEN ROWS OF THIS SEAT. 7 by the template 'for every input the law returns true; each argument reads behind the call as it read before'; 0 by the template 'total and deterministic' (their statements: YtdnbocmfgofhcaaTotals.lean).
  GIVEN WITH THE SEED: the statements are not yours to turn. If you find one false, say at which input.
  Laid BY PROGRAM, IN A SANDBOX (cutbox-rows.mjs): the forced cells as the released guide's own fill.sh prints them over the translation 2eb1c6e569a0d3c9… (all of the seat's roots in one cut). By AI agents, Wed Nov 11 2026. No macro, syntax, notation, axiom, sorry.
-/
import Derived.Test.YtdnbocmfgofhcaaChecked
import GoSem.Claim
import GoSem.ClaimJoined
import GoSem.ClaimMapViews
import Derived.JoinedTies
import Derived.KernelRfl
namespace Go.Proofs.Ytdnbocmfgofhcaa
/- THE CELL 'sum', in the pinned program and in every row, IS THE sha256 OF THE DUMP (.gsa) THAT YtdnbocmfgofhcaaProg.lean LOADS. Nothing in Lean hashes anything: it is a label: what it is worth is what the hold of that sum in a sandbox is worth. -/
noncomputable def Try.pinned : Pinned := { name := "ytdnbocmfgofhcaa", sum := "2eb1c6e569a0d3c90b3ac3e7cd3ba345ada038b118ab380cd1b30972e5709edd", checked := Try.checked }
namespace Rows
def none {H : Type} : Left H := { results := [], args := [] }

/-- 'laws.FnRule': WHATEVER THE INPUT: true; the input reads as it did. -/
def fnRuleSpec : ChangeSpec := { name := "fnRule", fn := fun _ => fun
  | [d] => { results := [.lit (.bool true)], args := [d] }
  | _ => none }
def fnRuleRow : OpenClaim := { program := "ytdnbocmfgofhcaa", sum := "2eb1c6e569a0d3c90b3ac3e7cd3ba345ada038b118ab380cd1b30972e5709edd", func := "loop.example/g03104/laws.FnRule", spec := "fnRule", inPlace := ["internal/bytealg.CountString", "internal/bytealg.IndexByteString", "internal/bytealg.IndexString"], unfollowed := true, recurses := true, named := ["internal/bytealg.MaxLen"], plainKeys := false, apart := false }
def FnRuleSaid : Prop := fnRuleRow.holds Try.pinned (OpenSpec.ofChange fnRuleSpec)

/-- ITS FALSE NEIGHBOUR: 'it returns false'. Refute it at one input. -/
def fnRuleWrong : ChangeSpec := { name := "fnRule", fn := fun _ => fun
  | [d] => { results := [.lit (.bool false)], args := [d] }
  | _ => none }
def FnRuleWrongFalsely : Prop := fnRuleRow.holds Try.pinned (OpenSpec.ofChange fnRuleWrong)

/-- 'laws.FnExactFirstBreak': WHATEVER THE INPUT: true; the input reads as it did. -/
def fnExactFirstBreakSpec : ChangeSpec := { name := "fnExactFirstBreak", fn := fun _ => fun
  | [d] => { results := [.lit (.bool true)], args := [d] }
  | _ => none }
def fnExactFirstBreakRow : OpenClaim := { program := "ytdnbocmfgofhcaa", sum := "2eb1c6e569a0d3c90b3ac3e7cd3ba345ada038b118ab380cd1b30972e5709edd", func := "loop.example/g03104/laws.FnExactFirstBreak", spec := "fnExactFirstBreak", inPlace := ["internal/bytealg.CountString", "internal/bytealg.IndexByteString", "internal/bytealg.IndexString"], named := ["internal/bytealg.MaxLen"], plainKeys := false, apart := false }
def FnExactFirstBreakSaid : Prop := fnExactFirstBreakRow.holds Try.pinned (OpenSpec.ofChange fnExactFirstBreakSpec)

/-- ITS FALSE NEIGHBOUR: 'it returns false'. Refute it at one input. -/
def fnExactFirstBreakWrong : ChangeSpec := { name := "fnExactFirstBreak", fn := fun _ => fun
  | [d] => { results := [.lit (.bool false)], args := [d] }
  | _ => none }
def FnExactFirstBreakWrongFalsely : Prop := fnExactFirstBreakRow.holds Try.pinned (OpenSpec.ofChange fnExactFirstBreakWrong)

/-- 'laws.FnExactIsMatroid': WHATEVER THE INPUT: true; the input reads as it did. -/
def fnExactIsMatroidSpec : ChangeSpec := { name := "fnExactIsMatroid", fn := fun _ => fun
  | [d] => { results := [.lit (.bool true)], args := [d] }
  | _ => none }
def fnExactIsMatroidRow : OpenClaim := { program := "ytdnbocmfgofhcaa", sum := "2eb1c6e569a0d3c90b3ac3e7cd3ba345ada038b118ab380cd1b30972e5709edd", func := "loop.example/g03104/laws.FnExactIsMatroid", spec := "fnExactIsMatroid", inPlace := ["internal/bytealg.CountString", "internal/bytealg.IndexByteString", "internal/bytealg.IndexString"], named := ["internal/bytealg.MaxLen"], plainKeys := false, apart := false }
def FnExactIsMatroidSaid : Prop := fnExactIsMatroidRow.holds Try.pinned (OpenSpec.ofChange fnExactIsMatroidSpec)

/-- ITS FALSE NEIGHBOUR: 'it returns false'. Refute it at one input. -/
def fnExactIsMatroidWrong : ChangeSpec := { name := "fnExactIsMatroid", fn := fun _ => fun
  | [d] => { results := [.lit (.bool false)], args := [d] }
  | _ => none }
def FnExactIsMatroidWrongFalsely : Prop := fnExactIsMatroidRow.holds Try.pinned (OpenSpec.ofChange fnExactIsMatroidWrong)

/-- 'laws.FnExactReverseElement': WHATEVER THE INPUT: true; the input reads as it did. -/
def fnExactReverseElementSpec : ChangeSpec := { name := "fnExactReverseElement", fn := fun _ => fun
  | [d1, d2] => { results := [.lit (.bool true)], args := [d1, d2] }
  | _ => none }
def fnExactReverseElementRow : OpenClaim := { program := "ytdnbocmfgofhcaa", sum := "2eb1c6e569a0d3c90b3ac3e7cd3ba345ada038b118ab380cd1b30972e5709edd", func := "loop.example/g03104/laws.FnExactReverseElement", spec := "fnExactReverseElement", inPlace := ["internal/bytealg.CountString", "internal/bytealg.IndexByteString", "internal/bytealg.IndexString"], unfollowed := true, recurses := true, named := ["internal/bytealg.MaxLen"], plainKeys := false, apart := false }
def FnExactReverseElementSaid : Prop := fnExactReverseElementRow.holds Try.pinned (OpenSpec.ofChange fnExactReverseElementSpec)

/-- ITS FALSE NEIGHBOUR: 'it returns false'. Refute it at one input. -/
def fnExactReverseElementWrong : ChangeSpec := { name := "fnExactReverseElement", fn := fun _ => fun
  | [d1, d2] => { results := [.lit (.bool false)], args := [d1, d2] }
  | _ => none }
def FnExactReverseElementWrongFalsely : Prop := fnExactReverseElementRow.holds Try.pinned (OpenSpec.ofChange fnExactReverseElementWrong)

/-- 'laws.FnExactCircuitOf': WHATEVER THE INPUT: true; the input reads as it did. -/
def fnExactCircuitOfSpec : ChangeSpec := { name := "fnExactCircuitOf", fn := fun _ => fun
  | [d1, d2, d3, d4, d5] => { results := [.lit (.bool true)], args := [d1, d2, d3, d4, d5] }
  | _ => none }
def fnExactCircuitOfRow : OpenClaim := { program := "ytdnbocmfgofhcaa", sum := "2eb1c6e569a0d3c90b3ac3e7cd3ba345ada038b118ab380cd1b30972e5709edd", func := "loop.example/g03104/laws.FnExactCircuitOf", spec := "fnExactCircuitOf", inPlace := ["internal/bytealg.CountString", "internal/bytealg.IndexByteString", "internal/bytealg.IndexString"], named := ["internal/bytealg.MaxLen"], plainKeys := false, apart := false }
def FnExactCircuitOfSaid : Prop := fnExactCircuitOfRow.holds Try.pinned (OpenSpec.ofChange fnExactCircuitOfSpec)

/-- ITS FALSE NEIGHBOUR: 'it returns false'. Refute it at one input. -/
def fnExactCircuitOfWrong : ChangeSpec := { name := "fnExactCircuitOf", fn := fun _ => fun
  | [d1, d2, d3, d4, d5] => { results := [.lit (.bool false)], args := [d1, d2, d3, d4, d5] }
  | _ => none }
def FnExactCircuitOfWrongFalsely : Prop := fnExactCircuitOfRow.holds Try.pinned (OpenSpec.ofChange fnExactCircuitOfWrong)

/-- 'laws.FnExactIsAcyclic': WHATEVER THE INPUT: true; the input reads as it did. -/
def fnExactIsAcyclicSpec : ChangeSpec := { name := "fnExactIsAcyclic", fn := fun _ => fun
  | [d] => { results := [.lit (.bool true)], args := [d] }
  | _ => none }
def fnExactIsAcyclicRow : OpenClaim := { program := "ytdnbocmfgofhcaa", sum := "2eb1c6e569a0d3c90b3ac3e7cd3ba345ada038b118ab380cd1b30972e5709edd", func := "loop.example/g03104/laws.FnExactIsAcyclic", spec := "fnExactIsAcyclic", inPlace := ["internal/bytealg.CountString", "internal/bytealg.IndexByteString", "internal/bytealg.IndexString"], named := ["internal/bytealg.MaxLen"], plainKeys := false, apart := false }
def FnExactIsAcyclicSaid : Prop := fnExactIsAcyclicRow.holds Try.pinned (OpenSpec.ofChange fnExactIsAcyclicSpec)

/-- ITS FALSE NEIGHBOUR: 'it returns false'. Refute it at one input. -/
def fnExactIsAcyclicWrong : ChangeSpec := { name := "fnExactIsAcyclic", fn := fun _ => fun
  | [d] => { results := [.lit (.bool false)], args := [d] }
  | _ => none }
def FnExactIsAcyclicWrongFalsely : Prop := fnExactIsAcyclicRow.holds Try.pinned (OpenSpec.ofChange fnExactIsAcyclicWrong)

/-- 'laws.FnExactAcyclicSets': WHATEVER THE INPUT: true; the input reads as it did. -/
def fnExactAcyclicSetsSpec : ChangeSpec := { name := "fnExactAcyclicSets", fn := fun _ => fun
  | [d] => { results := [.lit (.bool true)], args := [d] }
  | _ => none }
def fnExactAcyclicSetsRow : OpenClaim := { program := "ytdnbocmfgofhcaa", sum := "2eb1c6e569a0d3c90b3ac3e7cd3ba345ada038b118ab380cd1b30972e5709edd", func := "loop.example/g03104/laws.FnExactAcyclicSets", spec := "fnExactAcyclicSets", inPlace := ["internal/bytealg.CountString", "internal/bytealg.IndexByteString", "internal/bytealg.IndexString"], named := ["internal/bytealg.MaxLen"], plainKeys := false, apart := false }
def FnExactAcyclicSetsSaid : Prop := fnExactAcyclicSetsRow.holds Try.pinned (OpenSpec.ofChange fnExactAcyclicSetsSpec)

/-- ITS FALSE NEIGHBOUR: 'it returns false'. Refute it at one input. -/
def fnExactAcyclicSetsWrong : ChangeSpec := { name := "fnExactAcyclicSets", fn := fun _ => fun
  | [d] => { results := [.lit (.bool false)], args := [d] }
  | _ => none }
def FnExactAcyclicSetsWrongFalsely : Prop := fnExactAcyclicSetsRow.holds Try.pinned (OpenSpec.ofChange fnExactAcyclicSetsWrong)

/- THE SECOND FORM. 'bulk': how many values and letters a reading holds, each counted each time it is reached (what is shared counts as often as it is met; a slice's spare places count too). A statement '..UptoSaid' is the law's where the arguments, and the package variables that the reading takes, are together of bulk at most 1048576: NARROWER than '..Said'. Prove '..Said' where nothing that the law and all that it calls make is longer than what came in: it says more and counts as full. Else prove '..UptoSaid'. A law counts once. -/
mutual
def uptoBulk {H : Type} : DataW H → Nat
  | .lit (.string bytes) => bytes.length + 1
  | .lit _ => 1
  | .nil => 1
  | .ptr d => uptoBulk d + 1
  | .slice elems spare => uptoBulkAll elems + uptoBulkAll spare + 1
  | .agg parts => uptoBulkAll parts + 1
  | .iface _ d => uptoBulk d + 1
  | .map entries => uptoBulkEntries entries + 1
  | .held _ => 1
def uptoBulkAll {H : Type} : List (DataW H) → Nat
  | [] => 0
  | d :: r => uptoBulk d + uptoBulkAll r
def uptoBulkEntries {H : Type} : List (Lit × DataW H) → Nat
  | [] => 0
  | x :: r => uptoBulkEntry x + uptoBulkEntries r
def uptoBulkEntry {H : Type} : Lit × DataW H → Nat
  | (.string bytes, d) => bytes.length + uptoBulk d + 1
  | (_, d) => uptoBulk d + 1
 end
def uptoSmall : (H : Type) → List (DataW H) → Bool := fun _ ds => decide (uptoBulkAll ds ≤ 1048576)
def OpenSpec.upto (s : _root_.Go.ChangeSpec) : _root_.Go.OpenSpec := { _root_.Go.OpenSpec.ofChange s with cond := some uptoSmall }

/-- 'laws.FnRule', WHERE WHAT IT READS IS OF BULK AT MOST 1048576: true; the input reads as it did. -/
def fnRuleUptoRow : OpenClaim := { program := "ytdnbocmfgofhcaa", sum := "2eb1c6e569a0d3c90b3ac3e7cd3ba345ada038b118ab380cd1b30972e5709edd", func := "loop.example/g03104/laws.FnRule", spec := "fnRule", inPlace := ["internal/bytealg.CountString", "internal/bytealg.IndexByteString", "internal/bytealg.IndexString"], unfollowed := true, recurses := true, named := ["internal/bytealg.MaxLen"], plainKeys := false, apart := false, narrowed := true }
def FnRuleUptoSaid : Prop := fnRuleUptoRow.holds Try.pinned (OpenSpec.upto fnRuleSpec)

/-- 'laws.FnExactFirstBreak', WHERE WHAT IT READS IS OF BULK AT MOST 1048576: true; the input reads as it did. -/
def fnExactFirstBreakUptoRow : OpenClaim := { program := "ytdnbocmfgofhcaa", sum := "2eb1c6e569a0d3c90b3ac3e7cd3ba345ada038b118ab380cd1b30972e5709edd", func := "loop.example/g03104/laws.FnExactFirstBreak", spec := "fnExactFirstBreak", inPlace := ["internal/bytealg.CountString", "internal/bytealg.IndexByteString", "internal/bytealg.IndexString"], named := ["internal/bytealg.MaxLen"], plainKeys := false, apart := false, narrowed := true }
def FnExactFirstBreakUptoSaid : Prop := fnExactFirstBreakUptoRow.holds Try.pinned (OpenSpec.upto fnExactFirstBreakSpec)

/-- 'laws.FnExactIsMatroid', WHERE WHAT IT READS IS OF BULK AT MOST 1048576: true; the input reads as it did. -/
def fnExactIsMatroidUptoRow : OpenClaim := { program := "ytdnbocmfgofhcaa", sum := "2eb1c6e569a0d3c90b3ac3e7cd3ba345ada038b118ab380cd1b30972e5709edd", func := "loop.example/g03104/laws.FnExactIsMatroid", spec := "fnExactIsMatroid", inPlace := ["internal/bytealg.CountString", "internal/bytealg.IndexByteString", "internal/bytealg.IndexString"], named := ["internal/bytealg.MaxLen"], plainKeys := false, apart := false, narrowed := true }
def FnExactIsMatroidUptoSaid : Prop := fnExactIsMatroidUptoRow.holds Try.pinned (OpenSpec.upto fnExactIsMatroidSpec)

/-- 'laws.FnExactReverseElement', WHERE WHAT IT READS IS OF BULK AT MOST 1048576: true; the input reads as it did. -/
def fnExactReverseElementUptoRow : OpenClaim := { program := "ytdnbocmfgofhcaa", sum := "2eb1c6e569a0d3c90b3ac3e7cd3ba345ada038b118ab380cd1b30972e5709edd", func := "loop.example/g03104/laws.FnExactReverseElement", spec := "fnExactReverseElement", inPlace := ["internal/bytealg.CountString", "internal/bytealg.IndexByteString", "internal/bytealg.IndexString"], unfollowed := true, recurses := true, named := ["internal/bytealg.MaxLen"], plainKeys := false, apart := false, narrowed := true }
def FnExactReverseElementUptoSaid : Prop := fnExactReverseElementUptoRow.holds Try.pinned (OpenSpec.upto fnExactReverseElementSpec)

/-- 'laws.FnExactCircuitOf', WHERE WHAT IT READS IS OF BULK AT MOST 1048576: true; the input reads as it did. -/
def fnExactCircuitOfUptoRow : OpenClaim := { program := "ytdnbocmfgofhcaa", sum := "2eb1c6e569a0d3c90b3ac3e7cd3ba345ada038b118ab380cd1b30972e5709edd", func := "loop.example/g03104/laws.FnExactCircuitOf", spec := "fnExactCircuitOf", inPlace := ["internal/bytealg.CountString", "internal/bytealg.IndexByteString", "internal/bytealg.IndexString"], named := ["internal/bytealg.MaxLen"], plainKeys := false, apart := false, narrowed := true }
def FnExactCircuitOfUptoSaid : Prop := fnExactCircuitOfUptoRow.holds Try.pinned (OpenSpec.upto fnExactCircuitOfSpec)

/-- 'laws.FnExactIsAcyclic', WHERE WHAT IT READS IS OF BULK AT MOST 1048576: true; the input reads as it did. -/
def fnExactIsAcyclicUptoRow : OpenClaim := { program := "ytdnbocmfgofhcaa", sum := "2eb1c6e569a0d3c90b3ac3e7cd3ba345ada038b118ab380cd1b30972e5709edd", func := "loop.example/g03104/laws.FnExactIsAcyclic", spec := "fnExactIsAcyclic", inPlace := ["internal/bytealg.CountString", "internal/bytealg.IndexByteString", "internal/bytealg.IndexString"], named := ["internal/bytealg.MaxLen"], plainKeys := false, apart := false, narrowed := true }
def FnExactIsAcyclicUptoSaid : Prop := fnExactIsAcyclicUptoRow.holds Try.pinned (OpenSpec.upto fnExactIsAcyclicSpec)

/-- 'laws.FnExactAcyclicSets', WHERE WHAT IT READS IS OF BULK AT MOST 1048576: true; the input reads as it did. -/
def fnExactAcyclicSetsUptoRow : OpenClaim := { program := "ytdnbocmfgofhcaa", sum := "2eb1c6e569a0d3c90b3ac3e7cd3ba345ada038b118ab380cd1b30972e5709edd", func := "loop.example/g03104/laws.FnExactAcyclicSets", spec := "fnExactAcyclicSets", inPlace := ["internal/bytealg.CountString", "internal/bytealg.IndexByteString", "internal/bytealg.IndexString"], named := ["internal/bytealg.MaxLen"], plainKeys := false, apart := false, narrowed := true }
def FnExactAcyclicSetsUptoSaid : Prop := fnExactAcyclicSetsUptoRow.holds Try.pinned (OpenSpec.upto fnExactAcyclicSetsSpec)

end Rows
end Go.Proofs.Ytdnbocmfgofhcaa
