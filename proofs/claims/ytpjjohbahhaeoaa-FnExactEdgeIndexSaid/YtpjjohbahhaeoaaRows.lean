/-
  No cell of these rows narrows 'for every input' (looked for: loops, veiled, ifaces, maps, wideKeys, modest, calm, conditions, laid).
  DERIVED. THE GIVEN ROWS OF THIS SEAT. 4 by the template 'for every input the law returns true; each argument reads behind the call as it read before'; 0 by the template 'total and deterministic' (their statements: YtpjjohbahhaeoaaTotals.lean).
  GIVEN WITH THE SEED: the statements are not yours to turn. If you find one false, say at which input.
  Laid BY PROGRAM, IN A SANDBOX (cutbox-rows.mjs): the forced cells as the released guide's own fill.sh prints them over the translation daa821789cfea617… (all of the seat's roots in one cut). By AI agents, Wed Nov 11 2026. No macro, syntax, notation, axiom, sorry.
-/
import Derived.Test.YtpjjohbahhaeoaaChecked
import GoSem.Claim
import GoSem.ClaimJoined
import GoSem.ClaimMapViews
import Derived.JoinedTies
import Derived.KernelRfl
namespace Go.Proofs.Ytpjjohbahhaeoaa
/- THE CELL 'sum', in the pinned program and in every row, IS THE sha256 OF THE DUMP (.gsa) THAT YtpjjohbahhaeoaaProg.lean LOADS. Nothing in Lean hashes anything: it is a label: what it is worth is what the hold of that sum in a sandbox is worth. -/
noncomputable def Try.pinned : Pinned := { name := "ytpjjohbahhaeoaa", sum := "daa821789cfea617b8b4a1b4f6773c1b0bb8313398c11bd936d67a22d2ab8685", checked := Try.checked }
namespace Rows
def none {H : Type} : Left H := { results := [], args := [] }

/-- 'laws.FnExactEdgeIndex': WHATEVER THE INPUT: true; the input reads as it did. -/
def fnExactEdgeIndexSpec : ChangeSpec := { name := "fnExactEdgeIndex", fn := fun _ => fun
  | [d1, d2, d3] => { results := [.lit (.bool true)], args := [d1, d2, d3] }
  | _ => none }
def fnExactEdgeIndexRow : OpenClaim := { program := "ytpjjohbahhaeoaa", sum := "daa821789cfea617b8b4a1b4f6773c1b0bb8313398c11bd936d67a22d2ab8685", func := "loop.example/g03104/laws.FnExactEdgeIndex", spec := "fnExactEdgeIndex", plainKeys := false, apart := false }
def FnExactEdgeIndexSaid : Prop := fnExactEdgeIndexRow.holds Try.pinned (OpenSpec.ofChange fnExactEdgeIndexSpec)

/-- ITS FALSE NEIGHBOUR: 'it returns false'. Refute it at one input. -/
def fnExactEdgeIndexWrong : ChangeSpec := { name := "fnExactEdgeIndex", fn := fun _ => fun
  | [d1, d2, d3] => { results := [.lit (.bool false)], args := [d1, d2, d3] }
  | _ => none }
def FnExactEdgeIndexWrongFalsely : Prop := fnExactEdgeIndexRow.holds Try.pinned (OpenSpec.ofChange fnExactEdgeIndexWrong)

/-- 'laws.FnExactEdgeAt': WHATEVER THE INPUT: true; the input reads as it did. -/
def fnExactEdgeAtSpec : ChangeSpec := { name := "fnExactEdgeAt", fn := fun _ => fun
  | [d1, d2] => { results := [.lit (.bool true)], args := [d1, d2] }
  | _ => none }
def fnExactEdgeAtRow : OpenClaim := { program := "ytpjjohbahhaeoaa", sum := "daa821789cfea617b8b4a1b4f6773c1b0bb8313398c11bd936d67a22d2ab8685", func := "loop.example/g03104/laws.FnExactEdgeAt", spec := "fnExactEdgeAt", plainKeys := false, apart := false }
def FnExactEdgeAtSaid : Prop := fnExactEdgeAtRow.holds Try.pinned (OpenSpec.ofChange fnExactEdgeAtSpec)

/-- ITS FALSE NEIGHBOUR: 'it returns false'. Refute it at one input. -/
def fnExactEdgeAtWrong : ChangeSpec := { name := "fnExactEdgeAt", fn := fun _ => fun
  | [d1, d2] => { results := [.lit (.bool false)], args := [d1, d2] }
  | _ => none }
def FnExactEdgeAtWrongFalsely : Prop := fnExactEdgeAtRow.holds Try.pinned (OpenSpec.ofChange fnExactEdgeAtWrong)

/-- 'laws.FnExactDoCross': WHATEVER THE INPUT: true; the input reads as it did. -/
def fnExactDoCrossSpec : ChangeSpec := { name := "fnExactDoCross", fn := fun _ => fun
  | [d1, d2, d3, d4, d5] => { results := [.lit (.bool true)], args := [d1, d2, d3, d4, d5] }
  | _ => none }
def fnExactDoCrossRow : OpenClaim := { program := "ytpjjohbahhaeoaa", sum := "daa821789cfea617b8b4a1b4f6773c1b0bb8313398c11bd936d67a22d2ab8685", func := "loop.example/g03104/laws.FnExactDoCross", spec := "fnExactDoCross", inPlace := ["internal/bytealg.CountString", "internal/bytealg.IndexByteString", "internal/bytealg.IndexString"], named := ["internal/bytealg.MaxLen"], plainKeys := false, apart := false }
def FnExactDoCrossSaid : Prop := fnExactDoCrossRow.holds Try.pinned (OpenSpec.ofChange fnExactDoCrossSpec)

/-- ITS FALSE NEIGHBOUR: 'it returns false'. Refute it at one input. -/
def fnExactDoCrossWrong : ChangeSpec := { name := "fnExactDoCross", fn := fun _ => fun
  | [d1, d2, d3, d4, d5] => { results := [.lit (.bool false)], args := [d1, d2, d3, d4, d5] }
  | _ => none }
def FnExactDoCrossWrongFalsely : Prop := fnExactDoCrossRow.holds Try.pinned (OpenSpec.ofChange fnExactDoCrossWrong)

/-- 'laws.FnExactAllEdges': WHATEVER THE INPUT: true; the input reads as it did. -/
def fnExactAllEdgesSpec : ChangeSpec := { name := "fnExactAllEdges", fn := fun _ => fun
  | [d] => { results := [.lit (.bool true)], args := [d] }
  | _ => none }
def fnExactAllEdgesRow : OpenClaim := { program := "ytpjjohbahhaeoaa", sum := "daa821789cfea617b8b4a1b4f6773c1b0bb8313398c11bd936d67a22d2ab8685", func := "loop.example/g03104/laws.FnExactAllEdges", spec := "fnExactAllEdges", plainKeys := false, apart := false }
def FnExactAllEdgesSaid : Prop := fnExactAllEdgesRow.holds Try.pinned (OpenSpec.ofChange fnExactAllEdgesSpec)

/-- ITS FALSE NEIGHBOUR: 'it returns false'. Refute it at one input. -/
def fnExactAllEdgesWrong : ChangeSpec := { name := "fnExactAllEdges", fn := fun _ => fun
  | [d] => { results := [.lit (.bool false)], args := [d] }
  | _ => none }
def FnExactAllEdgesWrongFalsely : Prop := fnExactAllEdgesRow.holds Try.pinned (OpenSpec.ofChange fnExactAllEdgesWrong)

/- THE SECOND FORM. 'bulk': how many values and letters a reading holds, each counted each time it is reached (what is shared counts as often as it is met; a slice's spare places count too). A statement '..UptoSaid' is the law's where the arguments, and the package variables that the reading takes, are together of bulk at most 1048576: NARROWER than '..Said'. Prove '..Said' where nothing that the law and all that it calls make is longer than what came in: it says more and counts as full. Else prove '..UptoSaid'. A law counts once. -/
mutual
def uptoBulk {H : Type} : DataW H → Nat
  | .lit (.string bytes) => bytes.length + 1
  | .lit _ => 1
  | .nil => 1
  | .ptr d => uptoBulk d + 1
  | .slice elems spare => uptoBulkAll elems + uptoBulkAll spare + 1
  | .agg parts => uptoBulkAll parts + 1
  | .iface _ d => uptoBulk d + 1
  | .map entries => uptoBulkEntries entries + 1
  | .held _ => 1
def uptoBulkAll {H : Type} : List (DataW H) → Nat
  | [] => 0
  | d :: r => uptoBulk d + uptoBulkAll r
def uptoBulkEntries {H : Type} : List (Lit × DataW H) → Nat
  | [] => 0
  | x :: r => uptoBulkEntry x + uptoBulkEntries r
def uptoBulkEntry {H : Type} : Lit × DataW H → Nat
  | (.string bytes, d) => bytes.length + uptoBulk d + 1
  | (_, d) => uptoBulk d + 1
 end
def uptoSmall : (H : Type) → List (DataW H) → Bool := fun _ ds => decide (uptoBulkAll ds ≤ 1048576)
def OpenSpec.upto (s : _root_.Go.ChangeSpec) : _root_.Go.OpenSpec := { _root_.Go.OpenSpec.ofChange s with cond := some uptoSmall }

/-- 'laws.FnExactEdgeIndex', WHERE WHAT IT READS IS OF BULK AT MOST 1048576: true; the input reads as it did. -/
def fnExactEdgeIndexUptoRow : OpenClaim := { program := "ytpjjohbahhaeoaa", sum := "daa821789cfea617b8b4a1b4f6773c1b0bb8313398c11bd936d67a22d2ab8685", func := "loop.example/g03104/laws.FnExactEdgeIndex", spec := "fnExactEdgeIndex", plainKeys := false, apart := false, narrowed := true }
def FnExactEdgeIndexUptoSaid : Prop := fnExactEdgeIndexUptoRow.holds Try.pinned (OpenSpec.upto fnExactEdgeIndexSpec)

/-- 'laws.FnExactEdgeAt', WHERE WHAT IT READS IS OF BULK AT MOST 1048576: true; the input reads as it did. -/
def fnExactEdgeAtUptoRow : OpenClaim := { program := "ytpjjohbahhaeoaa", sum := "daa821789cfea617b8b4a1b4f6773c1b0bb8313398c11bd936d67a22d2ab8685", func := "loop.example/g03104/laws.FnExactEdgeAt", spec := "fnExactEdgeAt", plainKeys := false, apart := false, narrowed := true }
def FnExactEdgeAtUptoSaid : Prop := fnExactEdgeAtUptoRow.holds Try.pinned (OpenSpec.upto fnExactEdgeAtSpec)

/-- 'laws.FnExactDoCross', WHERE WHAT IT READS IS OF BULK AT MOST 1048576: true; the input reads as it did. -/
def fnExactDoCrossUptoRow : OpenClaim := { program := "ytpjjohbahhaeoaa", sum := "daa821789cfea617b8b4a1b4f6773c1b0bb8313398c11bd936d67a22d2ab8685", func := "loop.example/g03104/laws.FnExactDoCross", spec := "fnExactDoCross", inPlace := ["internal/bytealg.CountString", "internal/bytealg.IndexByteString", "internal/bytealg.IndexString"], named := ["internal/bytealg.MaxLen"], plainKeys := false, apart := false, narrowed := true }
def FnExactDoCrossUptoSaid : Prop := fnExactDoCrossUptoRow.holds Try.pinned (OpenSpec.upto fnExactDoCrossSpec)

/-- 'laws.FnExactAllEdges', WHERE WHAT IT READS IS OF BULK AT MOST 1048576: true; the input reads as it did. -/
def fnExactAllEdgesUptoRow : OpenClaim := { program := "ytpjjohbahhaeoaa", sum := "daa821789cfea617b8b4a1b4f6773c1b0bb8313398c11bd936d67a22d2ab8685", func := "loop.example/g03104/laws.FnExactAllEdges", spec := "fnExactAllEdges", plainKeys := false, apart := false, narrowed := true }
def FnExactAllEdgesUptoSaid : Prop := fnExactAllEdgesUptoRow.holds Try.pinned (OpenSpec.upto fnExactAllEdgesSpec)

end Rows
end Go.Proofs.Ytpjjohbahhaeoaa
