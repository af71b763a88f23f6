/-
  No cell of these rows narrows 'for every input' (looked for: loops, veiled, ifaces, maps, wideKeys, modest, calm, conditions, laid).
  DERIVED. THE GIVEN ROWS OF THIS SEAT. 6 by the template 'for every input the law returns true; each argument reads behind the call as it read before'; 0 by the template 'total and deterministic' (their statements: YtohihlhkheeemaaTotals.lean).
  GIVEN WITH THE SEED: the statements are not yours to turn. If you find one false, say at which input.
  Laid BY PROGRAM, IN A SANDBOX (cutbox-rows.mjs): the forced cells as the released guide's own fill.sh prints them over the translation 0a557ec76ac5436a… (all of the seat's roots in one cut). By AI agents, Wed Nov 11 2026. No macro, syntax, notation, axiom, sorry.
-/
import Derived.Test.YtohihlhkheeemaaChecked
import GoSem.Claim
import GoSem.ClaimJoined
import GoSem.ClaimMapViews
import Derived.JoinedTies
import Derived.KernelRfl
namespace Go.Proofs.Ytohihlhkheeemaa
/- THE CELL 'sum', in the pinned program and in every row, IS THE sha256 OF THE DUMP (.gsa) THAT YtohihlhkheeemaaProg.lean LOADS. Nothing in Lean hashes anything: it is a label: what it is worth is what the hold of that sum in a sandbox is worth. -/
noncomputable def Try.pinned : Pinned := { name := "ytohihlhkheeemaa", sum := "0a557ec76ac5436a174fc466b508df61066d1019363e1d7b814ef6d2988496b3", checked := Try.checked }
namespace Rows
def none {H : Type} : Left H := { results := [], args := [] }

/-- 'laws.FnExactAreSigns': WHATEVER THE INPUT: true; the input reads as it did. -/
def fnExactAreSignsSpec : ChangeSpec := { name := "fnExactAreSigns", fn := fun _ => fun
  | [d] => { results := [.lit (.bool true)], args := [d] }
  | _ => none }
def fnExactAreSignsRow : OpenClaim := { program := "ytohihlhkheeemaa", sum := "0a557ec76ac5436a174fc466b508df61066d1019363e1d7b814ef6d2988496b3", func := "loop.example/g03104/laws.FnExactAreSigns", spec := "fnExactAreSigns", inPlace := ["internal/bytealg.CountString", "internal/bytealg.IndexByteString", "internal/bytealg.IndexString"], named := ["internal/bytealg.MaxLen"], plainKeys := false, apart := false }
def FnExactAreSignsSaid : Prop := fnExactAreSignsRow.holds Try.pinned (OpenSpec.ofChange fnExactAreSignsSpec)

/-- ITS FALSE NEIGHBOUR: 'it returns false'. Refute it at one input. -/
def fnExactAreSignsWrong : ChangeSpec := { name := "fnExactAreSigns", fn := fun _ => fun
  | [d] => { results := [.lit (.bool false)], args := [d] }
  | _ => none }
def FnExactAreSignsWrongFalsely : Prop := fnExactAreSignsRow.holds Try.pinned (OpenSpec.ofChange fnExactAreSignsWrong)

/-- 'laws.FnExactSignAt': WHATEVER THE INPUT: true; the input reads as it did. -/
def fnExactSignAtSpec : ChangeSpec := { name := "fnExactSignAt", fn := fun _ => fun
  | [d1, d2, d3, d4] => { results := [.lit (.bool true)], args := [d1, d2, d3, d4] }
  | _ => none }
def fnExactSignAtRow : OpenClaim := { program := "ytohihlhkheeemaa", sum := "0a557ec76ac5436a174fc466b508df61066d1019363e1d7b814ef6d2988496b3", func := "loop.example/g03104/laws.FnExactSignAt", spec := "fnExactSignAt", inPlace := ["internal/bytealg.CountString", "internal/bytealg.IndexByteString", "internal/bytealg.IndexString"], named := ["internal/bytealg.MaxLen"], plainKeys := false, apart := false }
def FnExactSignAtSaid : Prop := fnExactSignAtRow.holds Try.pinned (OpenSpec.ofChange fnExactSignAtSpec)

/-- ITS FALSE NEIGHBOUR: 'it returns false'. Refute it at one input. -/
def fnExactSignAtWrong : ChangeSpec := { name := "fnExactSignAt", fn := fun _ => fun
  | [d1, d2, d3, d4] => { results := [.lit (.bool false)], args := [d1, d2, d3, d4] }
  | _ => none }
def FnExactSignAtWrongFalsely : Prop := fnExactSignAtRow.holds Try.pinned (OpenSpec.ofChange fnExactSignAtWrong)

/-- 'laws.FnExactSignsOf': WHATEVER THE INPUT: true; the input reads as it did. -/
def fnExactSignsOfSpec : ChangeSpec := { name := "fnExactSignsOf", fn := fun _ => fun
  | [d] => { results := [.lit (.bool true)], args := [d] }
  | _ => none }
def fnExactSignsOfRow : OpenClaim := { program := "ytohihlhkheeemaa", sum := "0a557ec76ac5436a174fc466b508df61066d1019363e1d7b814ef6d2988496b3", func := "loop.example/g03104/laws.FnExactSignsOf", spec := "fnExactSignsOf", unfollowed := true, recurses := true, plainKeys := false, apart := false }
def FnExactSignsOfSaid : Prop := fnExactSignsOfRow.holds Try.pinned (OpenSpec.ofChange fnExactSignsOfSpec)

/-- ITS FALSE NEIGHBOUR: 'it returns false'. Refute it at one input. -/
def fnExactSignsOfWrong : ChangeSpec := { name := "fnExactSignsOf", fn := fun _ => fun
  | [d] => { results := [.lit (.bool false)], args := [d] }
  | _ => none }
def FnExactSignsOfWrongFalsely : Prop := fnExactSignsOfRow.holds Try.pinned (OpenSpec.ofChange fnExactSignsOfWrong)

/-- 'laws.FnExactOppositeSigns': WHATEVER THE INPUT: true; the input reads as it did. -/
def fnExactOppositeSignsSpec : ChangeSpec := { name := "fnExactOppositeSigns", fn := fun _ => fun
  | [d] => { results := [.lit (.bool true)], args := [d] }
  | _ => none }
def fnExactOppositeSignsRow : OpenClaim := { program := "ytohihlhkheeemaa", sum := "0a557ec76ac5436a174fc466b508df61066d1019363e1d7b814ef6d2988496b3", func := "loop.example/g03104/laws.FnExactOppositeSigns", spec := "fnExactOppositeSigns", inPlace := ["internal/bytealg.CountString", "internal/bytealg.IndexByteString", "internal/bytealg.IndexString"], unfollowed := true, recurses := true, named := ["internal/bytealg.MaxLen"], plainKeys := false, apart := false }
def FnExactOppositeSignsSaid : Prop := fnExactOppositeSignsRow.holds Try.pinned (OpenSpec.ofChange fnExactOppositeSignsSpec)

/-- ITS FALSE NEIGHBOUR: 'it returns false'. Refute it at one input. -/
def fnExactOppositeSignsWrong : ChangeSpec := { name := "fnExactOppositeSigns", fn := fun _ => fun
  | [d] => { results := [.lit (.bool false)], args := [d] }
  | _ => none }
def FnExactOppositeSignsWrongFalsely : Prop := fnExactOppositeSignsRow.holds Try.pinned (OpenSpec.ofChange fnExactOppositeSignsWrong)

/-- 'laws.FnExactRenameSigns': WHATEVER THE INPUT: true; the input reads as it did. -/
def fnExactRenameSignsSpec : ChangeSpec := { name := "fnExactRenameSigns", fn := fun _ => fun
  | [d1, d2] => { results := [.lit (.bool true)], args := [d1, d2] }
  | _ => none }
def fnExactRenameSignsRow : OpenClaim := { program := "ytohihlhkheeemaa", sum := "0a557ec76ac5436a174fc466b508df61066d1019363e1d7b814ef6d2988496b3", func := "loop.example/g03104/laws.FnExactRenameSigns", spec := "fnExactRenameSigns", inPlace := ["internal/bytealg.CountString", "internal/bytealg.IndexByteString", "internal/bytealg.IndexString"], unfollowed := true, recurses := true, named := ["internal/bytealg.MaxLen"], plainKeys := false, apart := false }
def FnExactRenameSignsSaid : Prop := fnExactRenameSignsRow.holds Try.pinned (OpenSpec.ofChange fnExactRenameSignsSpec)

/-- ITS FALSE NEIGHBOUR: 'it returns false'. Refute it at one input. -/
def fnExactRenameSignsWrong : ChangeSpec := { name := "fnExactRenameSigns", fn := fun _ => fun
  | [d1, d2] => { results := [.lit (.bool false)], args := [d1, d2] }
  | _ => none }
def FnExactRenameSignsWrongFalsely : Prop := fnExactRenameSignsRow.holds Try.pinned (OpenSpec.ofChange fnExactRenameSignsWrong)

/-- 'laws.FnExactWithoutElement': WHATEVER THE INPUT: true; the input reads as it did. -/
def fnExactWithoutElementSpec : ChangeSpec := { name := "fnExactWithoutElement", fn := fun _ => fun
  | [d1, d2] => { results := [.lit (.bool true)], args := [d1, d2] }
  | _ => none }
def fnExactWithoutElementRow : OpenClaim := { program := "ytohihlhkheeemaa", sum := "0a557ec76ac5436a174fc466b508df61066d1019363e1d7b814ef6d2988496b3", func := "loop.example/g03104/laws.FnExactWithoutElement", spec := "fnExactWithoutElement", inPlace := ["internal/bytealg.CountString", "internal/bytealg.IndexByteString", "internal/bytealg.IndexString"], unfollowed := true, recurses := true, named := ["internal/bytealg.MaxLen"], plainKeys := false, apart := false }
def FnExactWithoutElementSaid : Prop := fnExactWithoutElementRow.holds Try.pinned (OpenSpec.ofChange fnExactWithoutElementSpec)

/-- ITS FALSE NEIGHBOUR: 'it returns false'. Refute it at one input. -/
def fnExactWithoutElementWrong : ChangeSpec := { name := "fnExactWithoutElement", fn := fun _ => fun
  | [d1, d2] => { results := [.lit (.bool false)], args := [d1, d2] }
  | _ => none }
def FnExactWithoutElementWrongFalsely : Prop := fnExactWithoutElementRow.holds Try.pinned (OpenSpec.ofChange fnExactWithoutElementWrong)

/- THE SECOND FORM. 'bulk': how many values and letters a reading holds, each counted each time it is reached (what is shared counts as often as it is met; a slice's spare places count too). A statement '..UptoSaid' is the law's where the arguments, and the package variables that the reading takes, are together of bulk at most 1048576: NARROWER than '..Said'. Prove '..Said' where nothing that the law and all that it calls make is longer than what came in: it says more and counts as full. Else prove '..UptoSaid'. A law counts once. -/
mutual
def uptoBulk {H : Type} : DataW H → Nat
  | .lit (.string bytes) => bytes.length + 1
  | .lit _ => 1
  | .nil => 1
  | .ptr d => uptoBulk d + 1
  | .slice elems spare => uptoBulkAll elems + uptoBulkAll spare + 1
  | .agg parts => uptoBulkAll parts + 1
  | .iface _ d => uptoBulk d + 1
  | .map entries => uptoBulkEntries entries + 1
  | .held _ => 1
def uptoBulkAll {H : Type} : List (DataW H) → Nat
  | [] => 0
  | d :: r => uptoBulk d + uptoBulkAll r
def uptoBulkEntries {H : Type} : List (Lit × DataW H) → Nat
  | [] => 0
  | x :: r => uptoBulkEntry x + uptoBulkEntries r
def uptoBulkEntry {H : Type} : Lit × DataW H → Nat
  | (.string bytes, d) => bytes.length + uptoBulk d + 1
  | (_, d) => uptoBulk d + 1
 end
def uptoSmall : (H : Type) → List (DataW H) → Bool := fun _ ds => decide (uptoBulkAll ds ≤ 1048576)
def OpenSpec.upto (s : _root_.Go.ChangeSpec) : _root_.Go.OpenSpec := { _root_.Go.OpenSpec.ofChange s with cond := some uptoSmall }

/-- 'laws.FnExactAreSigns', WHERE WHAT IT READS IS OF BULK AT MOST 1048576: true; the input reads as it did. -/
def fnExactAreSignsUptoRow : OpenClaim := { program := "ytohihlhkheeemaa", sum := "0a557ec76ac5436a174fc466b508df61066d1019363e1d7b814ef6d2988496b3", func := "loop.example/g03104/laws.FnExactAreSigns", spec := "fnExactAreSigns", inPlace := ["internal/bytealg.CountString", "internal/bytealg.IndexByteString", "internal/bytealg.IndexString"], named := ["internal/bytealg.MaxLen"], plainKeys := false, apart := false, narrowed := true }
def FnExactAreSignsUptoSaid : Prop := fnExactAreSignsUptoRow.holds Try.pinned (OpenSpec.upto fnExactAreSignsSpec)

/-- 'laws.FnExactSignAt', WHERE WHAT IT READS IS OF BULK AT MOST 1048576: true; the input reads as it did. -/
def fnExactSignAtUptoRow : OpenClaim := { program := "ytohihlhkheeemaa", sum := "0a557ec76ac5436a174fc466b508df61066d1019363e1d7b814ef6d2988496b3", func := "loop.example/g03104/laws.FnExactSignAt", spec := "fnExactSignAt", inPlace := ["internal/bytealg.CountString", "internal/bytealg.IndexByteString", "internal/bytealg.IndexString"], named := ["internal/bytealg.MaxLen"], plainKeys := false, apart := false, narrowed := true }
def FnExactSignAtUptoSaid : Prop := fnExactSignAtUptoRow.holds Try.pinned (OpenSpec.upto fnExactSignAtSpec)

/-- 'laws.FnExactSignsOf', WHERE WHAT IT READS IS OF BULK AT MOST 1048576: true; the input reads as it did. -/
def fnExactSignsOfUptoRow : OpenClaim := { program := "ytohihlhkheeemaa", sum := "0a557ec76ac5436a174fc466b508df61066d1019363e1d7b814ef6d2988496b3", func := "loop.example/g03104/laws.FnExactSignsOf", spec := "fnExactSignsOf", unfollowed := true, recurses := true, plainKeys := false, apart := false, narrowed := true }
def FnExactSignsOfUptoSaid : Prop := fnExactSignsOfUptoRow.holds Try.pinned (OpenSpec.upto fnExactSignsOfSpec)

/-- 'laws.FnExactOppositeSigns', WHERE WHAT IT READS IS OF BULK AT MOST 1048576: true; the input reads as it did. -/
def fnExactOppositeSignsUptoRow : OpenClaim := { program := "ytohihlhkheeemaa", sum := "0a557ec76ac5436a174fc466b508df61066d1019363e1d7b814ef6d2988496b3", func := "loop.example/g03104/laws.FnExactOppositeSigns", spec := "fnExactOppositeSigns", inPlace := ["internal/bytealg.CountString", "internal/bytealg.IndexByteString", "internal/bytealg.IndexString"], unfollowed := true, recurses := true, named := ["internal/bytealg.MaxLen"], plainKeys := false, apart := false, narrowed := true }
def FnExactOppositeSignsUptoSaid : Prop := fnExactOppositeSignsUptoRow.holds Try.pinned (OpenSpec.upto fnExactOppositeSignsSpec)

/-- 'laws.FnExactRenameSigns', WHERE WHAT IT READS IS OF BULK AT MOST 1048576: true; the input reads as it did. -/
def fnExactRenameSignsUptoRow : OpenClaim := { program := "ytohihlhkheeemaa", sum := "0a557ec76ac5436a174fc466b508df61066d1019363e1d7b814ef6d2988496b3", func := "loop.example/g03104/laws.FnExactRenameSigns", spec := "fnExactRenameSigns", inPlace := ["internal/bytealg.CountString", "internal/bytealg.IndexByteString", "internal/bytealg.IndexString"], unfollowed := true, recurses := true, named := ["internal/bytealg.MaxLen"], plainKeys := false, apart := false, narrowed := true }
def FnExactRenameSignsUptoSaid : Prop := fnExactRenameSignsUptoRow.holds Try.pinned (OpenSpec.upto fnExactRenameSignsSpec)

/-- 'laws.FnExactWithoutElement', WHERE WHAT IT READS IS OF BULK AT MOST 1048576: true; the input reads as it did. -/
def fnExactWithoutElementUptoRow : OpenClaim := { program := "ytohihlhkheeemaa", sum := "0a557ec76ac5436a174fc466b508df61066d1019363e1d7b814ef6d2988496b3", func := "loop.example/g03104/laws.FnExactWithoutElement", spec := "fnExactWithoutElement", inPlace := ["internal/bytealg.CountString", "internal/bytealg.IndexByteString", "internal/bytealg.IndexString"], unfollowed := true, recurses := true, named := ["internal/bytealg.MaxLen"], plainKeys := false, apart := false, narrowed := true }
def FnExactWithoutElementUptoSaid : Prop := fnExactWithoutElementUptoRow.holds Try.pinned (OpenSpec.upto fnExactWithoutElementSpec)

end Rows
end Go.Proofs.Ytohihlhkheeemaa
