/-
  NARROWER THAN 'FOR EVERY INPUT', by the rows' own cells (each row's printed sentence says how): FnExactIsConvexSet: laid · FnExactConvexSets: laid · FnExactEmptySets: laid · FnExactLargestConvex: laid · FnExactCapOf: laid · FnExactCupOf: laid · FnExactEvenSum: laid · FnExactCutSets: laid.
  DERIVED. THE GIVEN ROWS OF THIS SEAT. 8 by the template 'for every input the law returns true; each argument reads behind the call as it read before'; 0 by the template 'total and deterministic' (their statements: YtflcpgdgoencgaaDoorTotals.lean).
  GIVEN WITH THE SEED: the statements are not yours to turn. If you find one false, say at which input.
  Laid BY PROGRAM, IN A SANDBOX (cutbox-rows.mjs): the forced cells as the released guide's own fill.sh prints them over the translation 319c4607334c39ed… (all of the seat's roots in one cut). By AI agents, Wed Nov 11 2026. No macro, syntax, notation, axiom, sorry.
-/
import Derived.Test.YtflcpgdgoencgaaDoorChecked
import GoSem.Claim
import GoSem.ClaimJoined
import GoSem.ClaimMapViews
import Derived.JoinedTies
import Derived.KernelRfl
namespace Go.Proofs.YtflcpgdgoencgaaDoor
/- THE CELL 'sum', in the pinned program and in every row, IS THE sha256 OF THE DUMP (.gsa) THAT YtflcpgdgoencgaaDoorProg.lean LOADS. Nothing in Lean hashes anything: it is a label: what it is worth is what the hold of that sum in a sandbox is worth. -/
noncomputable def Tryd.pinned : Pinned := { name := "ytflcpgdgoencgaadoor", sum := "319c4607334c39edab75b5538c281784e53902c3fd1f42670a00b53e88bfd8c7", checked := Tryd.checked }
namespace Rows
def none {H : Type} : Left H := { results := [], args := [] }

/- WHAT THE LISTED PACKAGE-LEVEL VARIABLES READ AS WHEN THE CALL BEGINS. Each datum BY PROGRAM (the guide's laid-datum.mjs) off the statement by which the dump's own 'gosem.cut.vars' lays the variable. In a bare row this is a premise. The card (YtflcpgdgoencgaaDoorCards.lean) ties it to the program's text. -/
def laid_math_bits_deBruijn32tab {H : Type} : DataW H := .agg [.lit (.int .u8 0), .lit (.int .u8 1), .lit (.int .u8 28), .lit (.int .u8 2), .lit (.int .u8 29), .lit (.int .u8 14), .lit (.int .u8 24), .lit (.int .u8 3), .lit (.int .u8 30), .lit (.int .u8 22), .lit (.int .u8 20), .lit (.int .u8 15), .lit (.int .u8 25), .lit (.int .u8 17), .lit (.int .u8 4), .lit (.int .u8 8), .lit (.int .u8 31), .lit (.int .u8 27), .lit (.int .u8 13), .lit (.int .u8 23), .lit (.int .u8 21), .lit (.int .u8 19), .lit (.int .u8 16), .lit (.int .u8 7), .lit (.int .u8 26), .lit (.int .u8 12), .lit (.int .u8 18), .lit (.int .u8 6), .lit (.int .u8 11), .lit (.int .u8 5), .lit (.int .u8 10), .lit (.int .u8 9)]
def laid_math_bits_deBruijn64tab {H : Type} : DataW H := .agg [.lit (.int .u8 0), .lit (.int .u8 1), .lit (.int .u8 56), .lit (.int .u8 2), .lit (.int .u8 57), .lit (.int .u8 49), .lit (.int .u8 28), .lit (.int .u8 3), .lit (.int .u8 61), .lit (.int .u8 58), .lit (.int .u8 42), .lit (.int .u8 50), .lit (.int .u8 38), .lit (.int .u8 29), .lit (.int .u8 17), .lit (.int .u8 4), .lit (.int .u8 62), .lit (.int .u8 47), .lit (.int .u8 59), .lit (.int .u8 36), .lit (.int .u8 45), .lit (.int .u8 43), .lit (.int .u8 51), .lit (.int .u8 22), .lit (.int .u8 53), .lit (.int .u8 39), .lit (.int .u8 33), .lit (.int .u8 30), .lit (.int .u8 24), .lit (.int .u8 18), .lit (.int .u8 12), .lit (.int .u8 5), .lit (.int .u8 63), .lit (.int .u8 55), .lit (.int .u8 48), .lit (.int .u8 27), .lit (.int .u8 60), .lit (.int .u8 41), .lit (.int .u8 37), .lit (.int .u8 16), .lit (.int .u8 46), .lit (.int .u8 35), .lit (.int .u8 44), .lit (.int .u8 21), .lit (.int .u8 52), .lit (.int .u8 32), .lit (.int .u8 23), .lit (.int .u8 11), .lit (.int .u8 54), .lit (.int .u8 26), .lit (.int .u8 40), .lit (.int .u8 15), .lit (.int .u8 34), .lit (.int .u8 20), .lit (.int .u8 31), .lit (.int .u8 10), .lit (.int .u8 25), .lit (.int .u8 14), .lit (.int .u8 19), .lit (.int .u8 9), .lit (.int .u8 13), .lit (.int .u8 8), .lit (.int .u8 7), .lit (.int .u8 6)]

/-- 'laws.FnExactIsConvexSet': WHATEVER THE INPUT: true; the input reads as it did. -/
def fnExactIsConvexSetSpec : ChangeSpec := { name := "fnExactIsConvexSet", fn := fun _ => fun
  | [d1, d2] => { results := [.lit (.bool true)], args := [d1, d2] }
  | _ => none }
def fnExactIsConvexSetRow : OpenClaim := { program := "ytflcpgdgoencgaadoor", sum := "319c4607334c39edab75b5538c281784e53902c3fd1f42670a00b53e88bfd8c7", func := "loop.example/g03104/laws.FnExactIsConvexSet", spec := "fnExactIsConvexSet", inPlace := ["internal/bytealg.CountString", "internal/bytealg.IndexByteString", "internal/bytealg.IndexString"], unfollowed := true, recurses := true, named := ["internal/bytealg.MaxLen", "math/bits.deBruijn32tab", "math/bits.deBruijn64tab"], plainKeys := false, apart := false, laid := [("math/bits.deBruijn32tab", laid_math_bits_deBruijn32tab), ("math/bits.deBruijn64tab", laid_math_bits_deBruijn64tab)] }
def FnExactIsConvexSetSaid : Prop := fnExactIsConvexSetRow.holds Tryd.pinned (OpenSpec.ofChange fnExactIsConvexSetSpec)

/-- ITS FALSE NEIGHBOUR: 'it returns false'. Refute it at one input. -/
def fnExactIsConvexSetWrong : ChangeSpec := { name := "fnExactIsConvexSet", fn := fun _ => fun
  | [d1, d2] => { results := [.lit (.bool false)], args := [d1, d2] }
  | _ => none }
def FnExactIsConvexSetWrongFalsely : Prop := fnExactIsConvexSetRow.holds Tryd.pinned (OpenSpec.ofChange fnExactIsConvexSetWrong)

/-- 'laws.FnExactConvexSets': WHATEVER THE INPUT: true; the input reads as it did. -/
def fnExactConvexSetsSpec : ChangeSpec := { name := "fnExactConvexSets", fn := fun _ => fun
  | [d1, d2] => { results := [.lit (.bool true)], args := [d1, d2] }
  | _ => none }
def fnExactConvexSetsRow : OpenClaim := { program := "ytflcpgdgoencgaadoor", sum := "319c4607334c39edab75b5538c281784e53902c3fd1f42670a00b53e88bfd8c7", func := "loop.example/g03104/laws.FnExactConvexSets", spec := "fnExactConvexSets", inPlace := ["internal/bytealg.CountString", "internal/bytealg.IndexByteString", "internal/bytealg.IndexString"], unfollowed := true, recurses := true, named := ["internal/bytealg.MaxLen", "math/bits.deBruijn32tab", "math/bits.deBruijn64tab"], plainKeys := false, apart := false, laid := [("math/bits.deBruijn32tab", laid_math_bits_deBruijn32tab), ("math/bits.deBruijn64tab", laid_math_bits_deBruijn64tab)] }
def FnExactConvexSetsSaid : Prop := fnExactConvexSetsRow.holds Tryd.pinned (OpenSpec.ofChange fnExactConvexSetsSpec)

/-- ITS FALSE NEIGHBOUR: 'it returns false'. Refute it at one input. -/
def fnExactConvexSetsWrong : ChangeSpec := { name := "fnExactConvexSets", fn := fun _ => fun
  | [d1, d2] => { results := [.lit (.bool false)], args := [d1, d2] }
  | _ => none }
def FnExactConvexSetsWrongFalsely : Prop := fnExactConvexSetsRow.holds Tryd.pinned (OpenSpec.ofChange fnExactConvexSetsWrong)

/-- 'laws.FnExactEmptySets': WHATEVER THE INPUT: true; the input reads as it did. -/
def fnExactEmptySetsSpec : ChangeSpec := { name := "fnExactEmptySets", fn := fun _ => fun
  | [d1, d2] => { results := [.lit (.bool true)], args := [d1, d2] }
  | _ => none }
def fnExactEmptySetsRow : OpenClaim := { program := "ytflcpgdgoencgaadoor", sum := "319c4607334c39edab75b5538c281784e53902c3fd1f42670a00b53e88bfd8c7", func := "loop.example/g03104/laws.FnExactEmptySets", spec := "fnExactEmptySets", inPlace := ["internal/bytealg.CountString", "internal/bytealg.IndexByteString", "internal/bytealg.IndexString"], unfollowed := true, recurses := true, named := ["internal/bytealg.MaxLen", "math/bits.deBruijn32tab", "math/bits.deBruijn64tab"], plainKeys := false, apart := false, laid := [("math/bits.deBruijn32tab", laid_math_bits_deBruijn32tab), ("math/bits.deBruijn64tab", laid_math_bits_deBruijn64tab)] }
def FnExactEmptySetsSaid : Prop := fnExactEmptySetsRow.holds Tryd.pinned (OpenSpec.ofChange fnExactEmptySetsSpec)

/-- ITS FALSE NEIGHBOUR: 'it returns false'. Refute it at one input. -/
def fnExactEmptySetsWrong : ChangeSpec := { name := "fnExactEmptySets", fn := fun _ => fun
  | [d1, d2] => { results := [.lit (.bool false)], args := [d1, d2] }
  | _ => none }
def FnExactEmptySetsWrongFalsely : Prop := fnExactEmptySetsRow.holds Tryd.pinned (OpenSpec.ofChange fnExactEmptySetsWrong)

/-- 'laws.FnExactLargestConvex': WHATEVER THE INPUT: true; the input reads as it did. -/
def fnExactLargestConvexSpec : ChangeSpec := { name := "fnExactLargestConvex", fn := fun _ => fun
  | [d] => { results := [.lit (.bool true)], args := [d] }
  | _ => none }
def fnExactLargestConvexRow : OpenClaim := { program := "ytflcpgdgoencgaadoor", sum := "319c4607334c39edab75b5538c281784e53902c3fd1f42670a00b53e88bfd8c7", func := "loop.example/g03104/laws.FnExactLargestConvex", spec := "fnExactLargestConvex", inPlace := ["internal/bytealg.CountString", "internal/bytealg.IndexByteString", "internal/bytealg.IndexString"], unfollowed := true, recurses := true, named := ["internal/bytealg.MaxLen", "math/bits.deBruijn32tab", "math/bits.deBruijn64tab"], plainKeys := false, apart := false, laid := [("math/bits.deBruijn32tab", laid_math_bits_deBruijn32tab), ("math/bits.deBruijn64tab", laid_math_bits_deBruijn64tab)] }
def FnExactLargestConvexSaid : Prop := fnExactLargestConvexRow.holds Tryd.pinned (OpenSpec.ofChange fnExactLargestConvexSpec)

/-- ITS FALSE NEIGHBOUR: 'it returns false'. Refute it at one input. -/
def fnExactLargestConvexWrong : ChangeSpec := { name := "fnExactLargestConvex", fn := fun _ => fun
  | [d] => { results := [.lit (.bool false)], args := [d] }
  | _ => none }
def FnExactLargestConvexWrongFalsely : Prop := fnExactLargestConvexRow.holds Tryd.pinned (OpenSpec.ofChange fnExactLargestConvexWrong)

/-- 'laws.FnExactCapOf': WHATEVER THE INPUT: true; the input reads as it did. -/
def fnExactCapOfSpec : ChangeSpec := { name := "fnExactCapOf", fn := fun _ => fun
  | [d] => { results := [.lit (.bool true)], args := [d] }
  | _ => none }
def fnExactCapOfRow : OpenClaim := { program := "ytflcpgdgoencgaadoor", sum := "319c4607334c39edab75b5538c281784e53902c3fd1f42670a00b53e88bfd8c7", func := "loop.example/g03104/laws.FnExactCapOf", spec := "fnExactCapOf", inPlace := ["internal/bytealg.CountString", "internal/bytealg.IndexByteString", "internal/bytealg.IndexString"], unfollowed := true, recurses := true, named := ["internal/bytealg.MaxLen", "math/bits.deBruijn32tab", "math/bits.deBruijn64tab"], plainKeys := false, apart := false, laid := [("math/bits.deBruijn32tab", laid_math_bits_deBruijn32tab), ("math/bits.deBruijn64tab", laid_math_bits_deBruijn64tab)] }
def FnExactCapOfSaid : Prop := fnExactCapOfRow.holds Tryd.pinned (OpenSpec.ofChange fnExactCapOfSpec)

/-- ITS FALSE NEIGHBOUR: 'it returns false'. Refute it at one input. -/
def fnExactCapOfWrong : ChangeSpec := { name := "fnExactCapOf", fn := fun _ => fun
  | [d] => { results := [.lit (.bool false)], args := [d] }
  | _ => none }
def FnExactCapOfWrongFalsely : Prop := fnExactCapOfRow.holds Tryd.pinned (OpenSpec.ofChange fnExactCapOfWrong)

/-- 'laws.FnExactCupOf': WHATEVER THE INPUT: true; the input reads as it did. -/
def fnExactCupOfSpec : ChangeSpec := { name := "fnExactCupOf", fn := fun _ => fun
  | [d] => { results := [.lit (.bool true)], args := [d] }
  | _ => none }
def fnExactCupOfRow : OpenClaim := { program := "ytflcpgdgoencgaadoor", sum := "319c4607334c39edab75b5538c281784e53902c3fd1f42670a00b53e88bfd8c7", func := "loop.example/g03104/laws.FnExactCupOf", spec := "fnExactCupOf", inPlace := ["internal/bytealg.CountString", "internal/bytealg.IndexByteString", "internal/bytealg.IndexString"], unfollowed := true, recurses := true, named := ["internal/bytealg.MaxLen", "math/bits.deBruijn32tab", "math/bits.deBruijn64tab"], plainKeys := false, apart := false, laid := [("math/bits.deBruijn32tab", laid_math_bits_deBruijn32tab), ("math/bits.deBruijn64tab", laid_math_bits_deBruijn64tab)] }
def FnExactCupOfSaid : Prop := fnExactCupOfRow.holds Tryd.pinned (OpenSpec.ofChange fnExactCupOfSpec)

/-- ITS FALSE NEIGHBOUR: 'it returns false'. Refute it at one input. -/
def fnExactCupOfWrong : ChangeSpec := { name := "fnExactCupOf", fn := fun _ => fun
  | [d] => { results := [.lit (.bool false)], args := [d] }
  | _ => none }
def FnExactCupOfWrongFalsely : Prop := fnExactCupOfRow.holds Tryd.pinned (OpenSpec.ofChange fnExactCupOfWrong)

/-- 'laws.FnExactEvenSum': WHATEVER THE INPUT: true; the input reads as it did. -/
def fnExactEvenSumSpec : ChangeSpec := { name := "fnExactEvenSum", fn := fun _ => fun
  | [d] => { results := [.lit (.bool true)], args := [d] }
  | _ => none }
def fnExactEvenSumRow : OpenClaim := { program := "ytflcpgdgoencgaadoor", sum := "319c4607334c39edab75b5538c281784e53902c3fd1f42670a00b53e88bfd8c7", func := "loop.example/g03104/laws.FnExactEvenSum", spec := "fnExactEvenSum", inPlace := ["internal/bytealg.CountString", "internal/bytealg.IndexByteString", "internal/bytealg.IndexString"], unfollowed := true, recurses := true, named := ["internal/bytealg.MaxLen", "math/bits.deBruijn32tab", "math/bits.deBruijn64tab"], plainKeys := false, apart := false, laid := [("math/bits.deBruijn32tab", laid_math_bits_deBruijn32tab), ("math/bits.deBruijn64tab", laid_math_bits_deBruijn64tab)] }
def FnExactEvenSumSaid : Prop := fnExactEvenSumRow.holds Tryd.pinned (OpenSpec.ofChange fnExactEvenSumSpec)

/-- ITS FALSE NEIGHBOUR: 'it returns false'. Refute it at one input. -/
def fnExactEvenSumWrong : ChangeSpec := { name := "fnExactEvenSum", fn := fun _ => fun
  | [d] => { results := [.lit (.bool false)], args := [d] }
  | _ => none }
def FnExactEvenSumWrongFalsely : Prop := fnExactEvenSumRow.holds Tryd.pinned (OpenSpec.ofChange fnExactEvenSumWrong)

/-- 'laws.FnExactCutSets': WHATEVER THE INPUT: true; the input reads as it did. -/
def fnExactCutSetsSpec : ChangeSpec := { name := "fnExactCutSets", fn := fun _ => fun
  | [d1, d2] => { results := [.lit (.bool true)], args := [d1, d2] }
  | _ => none }
def fnExactCutSetsRow : OpenClaim := { program := "ytflcpgdgoencgaadoor", sum := "319c4607334c39edab75b5538c281784e53902c3fd1f42670a00b53e88bfd8c7", func := "loop.example/g03104/laws.FnExactCutSets", spec := "fnExactCutSets", inPlace := ["internal/bytealg.CountString", "internal/bytealg.IndexByteString", "internal/bytealg.IndexString"], unfollowed := true, recurses := true, named := ["internal/bytealg.MaxLen", "math/bits.deBruijn32tab", "math/bits.deBruijn64tab"], plainKeys := false, apart := false, laid := [("math/bits.deBruijn32tab", laid_math_bits_deBruijn32tab), ("math/bits.deBruijn64tab", laid_math_bits_deBruijn64tab)] }
def FnExactCutSetsSaid : Prop := fnExactCutSetsRow.holds Tryd.pinned (OpenSpec.ofChange fnExactCutSetsSpec)

/-- ITS FALSE NEIGHBOUR: 'it returns false'. Refute it at one input. -/
def fnExactCutSetsWrong : ChangeSpec := { name := "fnExactCutSets", fn := fun _ => fun
  | [d1, d2] => { results := [.lit (.bool false)], args := [d1, d2] }
  | _ => none }
def FnExactCutSetsWrongFalsely : Prop := fnExactCutSetsRow.holds Tryd.pinned (OpenSpec.ofChange fnExactCutSetsWrong)

/- THE SECOND FORM. 'bulk': how many values and letters a reading holds, each counted each time it is reached (what is shared counts as often as it is met; a slice's spare places count too). A statement '..UptoSaid' is the law's where the arguments, and the package variables that the reading takes, are together of bulk at most 1048576: NARROWER than '..Said'. Prove '..Said' where nothing that the law and all that it calls make is longer than what came in: it says more and counts as full. Else prove '..UptoSaid'. A law counts once. -/
mutual
def uptoBulk {H : Type} : DataW H → Nat
  | .lit (.string bytes) => bytes.length + 1
  | .lit _ => 1
  | .nil => 1
  | .ptr d => uptoBulk d + 1
  | .slice elems spare => uptoBulkAll elems + uptoBulkAll spare + 1
  | .agg parts => uptoBulkAll parts + 1
  | .iface _ d => uptoBulk d + 1
  | .map entries => uptoBulkEntries entries + 1
  | .held _ => 1
def uptoBulkAll {H : Type} : List (DataW H) → Nat
  | [] => 0
  | d :: r => uptoBulk d + uptoBulkAll r
def uptoBulkEntries {H : Type} : List (Lit × DataW H) → Nat
  | [] => 0
  | x :: r => uptoBulkEntry x + uptoBulkEntries r
def uptoBulkEntry {H : Type} : Lit × DataW H → Nat
  | (.string bytes, d) => bytes.length + uptoBulk d + 1
  | (_, d) => uptoBulk d + 1
 end
def uptoSmall : (H : Type) → List (DataW H) → Bool := fun _ ds => decide (uptoBulkAll ds ≤ 1048576)
def OpenSpec.upto (s : _root_.Go.ChangeSpec) : _root_.Go.OpenSpec := { _root_.Go.OpenSpec.ofChange s with cond := some uptoSmall }

/-- 'laws.FnExactIsConvexSet', WHERE WHAT IT READS IS OF BULK AT MOST 1048576: true; the input reads as it did. -/
def fnExactIsConvexSetUptoRow : OpenClaim := { program := "ytflcpgdgoencgaadoor", sum := "319c4607334c39edab75b5538c281784e53902c3fd1f42670a00b53e88bfd8c7", func := "loop.example/g03104/laws.FnExactIsConvexSet", spec := "fnExactIsConvexSet", inPlace := ["internal/bytealg.CountString", "internal/bytealg.IndexByteString", "internal/bytealg.IndexString"], unfollowed := true, recurses := true, named := ["internal/bytealg.MaxLen", "math/bits.deBruijn32tab", "math/bits.deBruijn64tab"], plainKeys := false, apart := false, laid := [("math/bits.deBruijn32tab", laid_math_bits_deBruijn32tab), ("math/bits.deBruijn64tab", laid_math_bits_deBruijn64tab)], narrowed := true }
def FnExactIsConvexSetUptoSaid : Prop := fnExactIsConvexSetUptoRow.holds Tryd.pinned (OpenSpec.upto fnExactIsConvexSetSpec)

/-- 'laws.FnExactConvexSets', WHERE WHAT IT READS IS OF BULK AT MOST 1048576: true; the input reads as it did. -/
def fnExactConvexSetsUptoRow : OpenClaim := { program := "ytflcpgdgoencgaadoor", sum := "319c4607334c39edab75b5538c281784e53902c3fd1f42670a00b53e88bfd8c7", func := "loop.example/g03104/laws.FnExactConvexSets", spec := "fnExactConvexSets", inPlace := ["internal/bytealg.CountString", "internal/bytealg.IndexByteString", "internal/bytealg.IndexString"], unfollowed := true, recurses := true, named := ["internal/bytealg.MaxLen", "math/bits.deBruijn32tab", "math/bits.deBruijn64tab"], plainKeys := false, apart := false, laid := [("math/bits.deBruijn32tab", laid_math_bits_deBruijn32tab), ("math/bits.deBruijn64tab", laid_math_bits_deBruijn64tab)], narrowed := true }
def FnExactConvexSetsUptoSaid : Prop := fnExactConvexSetsUptoRow.holds Tryd.pinned (OpenSpec.upto fnExactConvexSetsSpec)

/-- 'laws.FnExactEmptySets', WHERE WHAT IT READS IS OF BULK AT MOST 1048576: true; the input reads as it did. -/
def fnExactEmptySetsUptoRow : OpenClaim := { program := "ytflcpgdgoencgaadoor", sum := "319c4607334c39edab75b5538c281784e53902c3fd1f42670a00b53e88bfd8c7", func := "loop.example/g03104/laws.FnExactEmptySets", spec := "fnExactEmptySets", inPlace := ["internal/bytealg.CountString", "internal/bytealg.IndexByteString", "internal/bytealg.IndexString"], unfollowed := true, recurses := true, named := ["internal/bytealg.MaxLen", "math/bits.deBruijn32tab", "math/bits.deBruijn64tab"], plainKeys := false, apart := false, laid := [("math/bits.deBruijn32tab", laid_math_bits_deBruijn32tab), ("math/bits.deBruijn64tab", laid_math_bits_deBruijn64tab)], narrowed := true }
def FnExactEmptySetsUptoSaid : Prop := fnExactEmptySetsUptoRow.holds Tryd.pinned (OpenSpec.upto fnExactEmptySetsSpec)

/-- 'laws.FnExactLargestConvex', WHERE WHAT IT READS IS OF BULK AT MOST 1048576: true; the input reads as it did. -/
def fnExactLargestConvexUptoRow : OpenClaim := { program := "ytflcpgdgoencgaadoor", sum := "319c4607334c39edab75b5538c281784e53902c3fd1f42670a00b53e88bfd8c7", func := "loop.example/g03104/laws.FnExactLargestConvex", spec := "fnExactLargestConvex", inPlace := ["internal/bytealg.CountString", "internal/bytealg.IndexByteString", "internal/bytealg.IndexString"], unfollowed := true, recurses := true, named := ["internal/bytealg.MaxLen", "math/bits.deBruijn32tab", "math/bits.deBruijn64tab"], plainKeys := false, apart := false, laid := [("math/bits.deBruijn32tab", laid_math_bits_deBruijn32tab), ("math/bits.deBruijn64tab", laid_math_bits_deBruijn64tab)], narrowed := true }
def FnExactLargestConvexUptoSaid : Prop := fnExactLargestConvexUptoRow.holds Tryd.pinned (OpenSpec.upto fnExactLargestConvexSpec)

/-- 'laws.FnExactCapOf', WHERE WHAT IT READS IS OF BULK AT MOST 1048576: true; the input reads as it did. -/
def fnExactCapOfUptoRow : OpenClaim := { program := "ytflcpgdgoencgaadoor", sum := "319c4607334c39edab75b5538c281784e53902c3fd1f42670a00b53e88bfd8c7", func := "loop.example/g03104/laws.FnExactCapOf", spec := "fnExactCapOf", inPlace := ["internal/bytealg.CountString", "internal/bytealg.IndexByteString", "internal/bytealg.IndexString"], unfollowed := true, recurses := true, named := ["internal/bytealg.MaxLen", "math/bits.deBruijn32tab", "math/bits.deBruijn64tab"], plainKeys := false, apart := false, laid := [("math/bits.deBruijn32tab", laid_math_bits_deBruijn32tab), ("math/bits.deBruijn64tab", laid_math_bits_deBruijn64tab)], narrowed := true }
def FnExactCapOfUptoSaid : Prop := fnExactCapOfUptoRow.holds Tryd.pinned (OpenSpec.upto fnExactCapOfSpec)

/-- 'laws.FnExactCupOf', WHERE WHAT IT READS IS OF BULK AT MOST 1048576: true; the input reads as it did. -/
def fnExactCupOfUptoRow : OpenClaim := { program := "ytflcpgdgoencgaadoor", sum := "319c4607334c39edab75b5538c281784e53902c3fd1f42670a00b53e88bfd8c7", func := "loop.example/g03104/laws.FnExactCupOf", spec := "fnExactCupOf", inPlace := ["internal/bytealg.CountString", "internal/bytealg.IndexByteString", "internal/bytealg.IndexString"], unfollowed := true, recurses := true, named := ["internal/bytealg.MaxLen", "math/bits.deBruijn32tab", "math/bits.deBruijn64tab"], plainKeys := false, apart := false, laid := [("math/bits.deBruijn32tab", laid_math_bits_deBruijn32tab), ("math/bits.deBruijn64tab", laid_math_bits_deBruijn64tab)], narrowed := true }
def FnExactCupOfUptoSaid : Prop := fnExactCupOfUptoRow.holds Tryd.pinned (OpenSpec.upto fnExactCupOfSpec)

/-- 'laws.FnExactEvenSum', WHERE WHAT IT READS IS OF BULK AT MOST 1048576: true; the input reads as it did. -/
def fnExactEvenSumUptoRow : OpenClaim := { program := "ytflcpgdgoencgaadoor", sum := "319c4607334c39edab75b5538c281784e53902c3fd1f42670a00b53e88bfd8c7", func := "loop.example/g03104/laws.FnExactEvenSum", spec := "fnExactEvenSum", inPlace := ["internal/bytealg.CountString", "internal/bytealg.IndexByteString", "internal/bytealg.IndexString"], unfollowed := true, recurses := true, named := ["internal/bytealg.MaxLen", "math/bits.deBruijn32tab", "math/bits.deBruijn64tab"], plainKeys := false, apart := false, laid := [("math/bits.deBruijn32tab", laid_math_bits_deBruijn32tab), ("math/bits.deBruijn64tab", laid_math_bits_deBruijn64tab)], narrowed := true }
def FnExactEvenSumUptoSaid : Prop := fnExactEvenSumUptoRow.holds Tryd.pinned (OpenSpec.upto fnExactEvenSumSpec)

/-- 'laws.FnExactCutSets', WHERE WHAT IT READS IS OF BULK AT MOST 1048576: true; the input reads as it did. -/
def fnExactCutSetsUptoRow : OpenClaim := { program := "ytflcpgdgoencgaadoor", sum := "319c4607334c39edab75b5538c281784e53902c3fd1f42670a00b53e88bfd8c7", func := "loop.example/g03104/laws.FnExactCutSets", spec := "fnExactCutSets", inPlace := ["internal/bytealg.CountString", "internal/bytealg.IndexByteString", "internal/bytealg.IndexString"], unfollowed := true, recurses := true, named := ["internal/bytealg.MaxLen", "math/bits.deBruijn32tab", "math/bits.deBruijn64tab"], plainKeys := false, apart := false, laid := [("math/bits.deBruijn32tab", laid_math_bits_deBruijn32tab), ("math/bits.deBruijn64tab", laid_math_bits_deBruijn64tab)], narrowed := true }
def FnExactCutSetsUptoSaid : Prop := fnExactCutSetsUptoRow.holds Tryd.pinned (OpenSpec.upto fnExactCutSetsSpec)

end Rows
end Go.Proofs.YtflcpgdgoencgaaDoor
