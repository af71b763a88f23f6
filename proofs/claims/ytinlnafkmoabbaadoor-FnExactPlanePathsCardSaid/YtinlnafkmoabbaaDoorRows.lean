/-
  NARROWER THAN 'FOR EVERY INPUT', by the rows' own cells (each row's printed sentence says how): FnExactDegreesOf: laid · FnExactIsTree: laid · FnExactPlaneTrees: laid · FnExactPlanePaths: laid · FnExactPolygonsOf: laid · FnExactPlaneMatchings: laid · FnExactCrossingPairs: laid · FnExactIsPlane: laid · FnExactEdgesText: laid.
  DERIVED. THE GIVEN ROWS OF THIS SEAT. 9 by the template 'for every input the law returns true; each argument reads behind the call as it read before'; 0 by the template 'total and deterministic' (their statements: YtinlnafkmoabbaaDoorTotals.lean).
  GIVEN WITH THE SEED: the statements are not yours to turn. If you find one false, say at which input.
  Laid BY PROGRAM, IN A SANDBOX (cutbox-rows.mjs): the forced cells as the released guide's own fill.sh prints them over the translation 26053e842910ef66… (all of the seat's roots in one cut). By AI agents, Wed Nov 11 2026. No macro, syntax, notation, axiom, sorry.
-/
import Derived.Test.YtinlnafkmoabbaaDoorChecked
import GoSem.Claim
import GoSem.ClaimJoined
import GoSem.ClaimMapViews
import Derived.JoinedTies
import Derived.KernelRfl
namespace Go.Proofs.YtinlnafkmoabbaaDoor
/- THE CELL 'sum', in the pinned program and in every row, IS THE sha256 OF THE DUMP (.gsa) THAT YtinlnafkmoabbaaDoorProg.lean LOADS. Nothing in Lean hashes anything: it is a label: what it is worth is what the hold of that sum in a sandbox is worth. -/
noncomputable def Tryd.pinned : Pinned := { name := "ytinlnafkmoabbaadoor", sum := "26053e842910ef664e63bf4795a082e898fda8386ad1c5995bc28d7c0478a2e2", checked := Tryd.checked }
namespace Rows
def none {H : Type} : Left H := { results := [], args := [] }

/- WHAT THE LISTED PACKAGE-LEVEL VARIABLES READ AS WHEN THE CALL BEGINS. Each datum BY PROGRAM (the guide's laid-datum.mjs) off the statement by which the dump's own 'gosem.cut.vars' lays the variable. In a bare row this is a premise. The card (YtinlnafkmoabbaaDoorCards.lean) ties it to the program's text. -/
def laid_math_bits_deBruijn32tab {H : Type} : DataW H := .agg [.lit (.int .u8 0), .lit (.int .u8 1), .lit (.int .u8 28), .lit (.int .u8 2), .lit (.int .u8 29), .lit (.int .u8 14), .lit (.int .u8 24), .lit (.int .u8 3), .lit (.int .u8 30), .lit (.int .u8 22), .lit (.int .u8 20), .lit (.int .u8 15), .lit (.int .u8 25), .lit (.int .u8 17), .lit (.int .u8 4), .lit (.int .u8 8), .lit (.int .u8 31), .lit (.int .u8 27), .lit (.int .u8 13), .lit (.int .u8 23), .lit (.int .u8 21), .lit (.int .u8 19), .lit (.int .u8 16), .lit (.int .u8 7), .lit (.int .u8 26), .lit (.int .u8 12), .lit (.int .u8 18), .lit (.int .u8 6), .lit (.int .u8 11), .lit (.int .u8 5), .lit (.int .u8 10), .lit (.int .u8 9)]
def laid_math_bits_deBruijn64tab {H : Type} : DataW H := .agg [.lit (.int .u8 0), .lit (.int .u8 1), .lit (.int .u8 56), .lit (.int .u8 2), .lit (.int .u8 57), .lit (.int .u8 49), .lit (.int .u8 28), .lit (.int .u8 3), .lit (.int .u8 61), .lit (.int .u8 58), .lit (.int .u8 42), .lit (.int .u8 50), .lit (.int .u8 38), .lit (.int .u8 29), .lit (.int .u8 17), .lit (.int .u8 4), .lit (.int .u8 62), .lit (.int .u8 47), .lit (.int .u8 59), .lit (.int .u8 36), .lit (.int .u8 45), .lit (.int .u8 43), .lit (.int .u8 51), .lit (.int .u8 22), .lit (.int .u8 53), .lit (.int .u8 39), .lit (.int .u8 33), .lit (.int .u8 30), .lit (.int .u8 24), .lit (.int .u8 18), .lit (.int .u8 12), .lit (.int .u8 5), .lit (.int .u8 63), .lit (.int .u8 55), .lit (.int .u8 48), .lit (.int .u8 27), .lit (.int .u8 60), .lit (.int .u8 41), .lit (.int .u8 37), .lit (.int .u8 16), .lit (.int .u8 46), .lit (.int .u8 35), .lit (.int .u8 44), .lit (.int .u8 21), .lit (.int .u8 52), .lit (.int .u8 32), .lit (.int .u8 23), .lit (.int .u8 11), .lit (.int .u8 54), .lit (.int .u8 26), .lit (.int .u8 40), .lit (.int .u8 15), .lit (.int .u8 34), .lit (.int .u8 20), .lit (.int .u8 31), .lit (.int .u8 10), .lit (.int .u8 25), .lit (.int .u8 14), .lit (.int .u8 19), .lit (.int .u8 9), .lit (.int .u8 13), .lit (.int .u8 8), .lit (.int .u8 7), .lit (.int .u8 6)]
def laid_internal_strconv_uint64pow10 {H : Type} : DataW H := .agg [.lit (.int .u64 1), .lit (.int .u64 10), .lit (.int .u64 100), .lit (.int .u64 1000), .lit (.int .u64 10000), .lit (.int .u64 100000), .lit (.int .u64 1000000), .lit (.int .u64 10000000), .lit (.int .u64 100000000), .lit (.int .u64 1000000000), .lit (.int .u64 10000000000), .lit (.int .u64 100000000000), .lit (.int .u64 1000000000000), .lit (.int .u64 10000000000000), .lit (.int .u64 100000000000000), .lit (.int .u64 1000000000000000), .lit (.int .u64 10000000000000000), .lit (.int .u64 100000000000000000), .lit (.int .u64 1000000000000000000), .lit (.int .u64 10000000000000000000)]

/-- 'laws.FnExactDegreesOf': WHATEVER THE INPUT: true; the input reads as it did. -/
def fnExactDegreesOfSpec : ChangeSpec := { name := "fnExactDegreesOf", fn := fun _ => fun
  | [d1, d2] => { results := [.lit (.bool true)], args := [d1, d2] }
  | _ => none }
def fnExactDegreesOfRow : OpenClaim := { program := "ytinlnafkmoabbaadoor", sum := "26053e842910ef664e63bf4795a082e898fda8386ad1c5995bc28d7c0478a2e2", func := "loop.example/g03104/laws.FnExactDegreesOf", spec := "fnExactDegreesOf", named := ["math/bits.deBruijn32tab", "math/bits.deBruijn64tab"], plainKeys := false, apart := false, laid := [("math/bits.deBruijn32tab", laid_math_bits_deBruijn32tab), ("math/bits.deBruijn64tab", laid_math_bits_deBruijn64tab)] }
def FnExactDegreesOfSaid : Prop := fnExactDegreesOfRow.holds Tryd.pinned (OpenSpec.ofChange fnExactDegreesOfSpec)

/-- ITS FALSE NEIGHBOUR: 'it returns false'. Refute it at one input. -/
def fnExactDegreesOfWrong : ChangeSpec := { name := "fnExactDegreesOf", fn := fun _ => fun
  | [d1, d2] => { results := [.lit (.bool false)], args := [d1, d2] }
  | _ => none }
def FnExactDegreesOfWrongFalsely : Prop := fnExactDegreesOfRow.holds Tryd.pinned (OpenSpec.ofChange fnExactDegreesOfWrong)

/-- 'laws.FnExactIsTree': WHATEVER THE INPUT: true; the input reads as it did. -/
def fnExactIsTreeSpec : ChangeSpec := { name := "fnExactIsTree", fn := fun _ => fun
  | [d1, d2] => { results := [.lit (.bool true)], args := [d1, d2] }
  | _ => none }
def fnExactIsTreeRow : OpenClaim := { program := "ytinlnafkmoabbaadoor", sum := "26053e842910ef664e63bf4795a082e898fda8386ad1c5995bc28d7c0478a2e2", func := "loop.example/g03104/laws.FnExactIsTree", spec := "fnExactIsTree", named := ["math/bits.deBruijn32tab", "math/bits.deBruijn64tab"], plainKeys := false, apart := false, laid := [("math/bits.deBruijn32tab", laid_math_bits_deBruijn32tab), ("math/bits.deBruijn64tab", laid_math_bits_deBruijn64tab)] }
def FnExactIsTreeSaid : Prop := fnExactIsTreeRow.holds Tryd.pinned (OpenSpec.ofChange fnExactIsTreeSpec)

/-- ITS FALSE NEIGHBOUR: 'it returns false'. Refute it at one input. -/
def fnExactIsTreeWrong : ChangeSpec := { name := "fnExactIsTree", fn := fun _ => fun
  | [d1, d2] => { results := [.lit (.bool false)], args := [d1, d2] }
  | _ => none }
def FnExactIsTreeWrongFalsely : Prop := fnExactIsTreeRow.holds Tryd.pinned (OpenSpec.ofChange fnExactIsTreeWrong)

/-- 'laws.FnExactPlaneTrees': WHATEVER THE INPUT: true; the input reads as it did. -/
def fnExactPlaneTreesSpec : ChangeSpec := { name := "fnExactPlaneTrees", fn := fun _ => fun
  | [d] => { results := [.lit (.bool true)], args := [d] }
  | _ => none }
def fnExactPlaneTreesRow : OpenClaim := { program := "ytinlnafkmoabbaadoor", sum := "26053e842910ef664e63bf4795a082e898fda8386ad1c5995bc28d7c0478a2e2", func := "loop.example/g03104/laws.FnExactPlaneTrees", spec := "fnExactPlaneTrees", inPlace := ["internal/bytealg.CountString", "internal/bytealg.IndexByteString", "internal/bytealg.IndexString"], unfollowed := true, recurses := true, named := ["internal/bytealg.MaxLen", "math/bits.deBruijn32tab", "math/bits.deBruijn64tab"], plainKeys := false, apart := false, laid := [("math/bits.deBruijn32tab", laid_math_bits_deBruijn32tab), ("math/bits.deBruijn64tab", laid_math_bits_deBruijn64tab)] }
def FnExactPlaneTreesSaid : Prop := fnExactPlaneTreesRow.holds Tryd.pinned (OpenSpec.ofChange fnExactPlaneTreesSpec)

/-- ITS FALSE NEIGHBOUR: 'it returns false'. Refute it at one input. -/
def fnExactPlaneTreesWrong : ChangeSpec := { name := "fnExactPlaneTrees", fn := fun _ => fun
  | [d] => { results := [.lit (.bool false)], args := [d] }
  | _ => none }
def FnExactPlaneTreesWrongFalsely : Prop := fnExactPlaneTreesRow.holds Tryd.pinned (OpenSpec.ofChange fnExactPlaneTreesWrong)

/-- 'laws.FnExactPlanePaths': WHATEVER THE INPUT: true; the input reads as it did. -/
def fnExactPlanePathsSpec : ChangeSpec := { name := "fnExactPlanePaths", fn := fun _ => fun
  | [d] => { results := [.lit (.bool true)], args := [d] }
  | _ => none }
def fnExactPlanePathsRow : OpenClaim := { program := "ytinlnafkmoabbaadoor", sum := "26053e842910ef664e63bf4795a082e898fda8386ad1c5995bc28d7c0478a2e2", func := "loop.example/g03104/laws.FnExactPlanePaths", spec := "fnExactPlanePaths", inPlace := ["internal/bytealg.CountString", "internal/bytealg.IndexByteString", "internal/bytealg.IndexString"], unfollowed := true, recurses := true, named := ["internal/bytealg.MaxLen", "math/bits.deBruijn32tab", "math/bits.deBruijn64tab"], plainKeys := false, apart := false, laid := [("math/bits.deBruijn32tab", laid_math_bits_deBruijn32tab), ("math/bits.deBruijn64tab", laid_math_bits_deBruijn64tab)] }
def FnExactPlanePathsSaid : Prop := fnExactPlanePathsRow.holds Tryd.pinned (OpenSpec.ofChange fnExactPlanePathsSpec)

/-- ITS FALSE NEIGHBOUR: 'it returns false'. Refute it at one input. -/
def fnExactPlanePathsWrong : ChangeSpec := { name := "fnExactPlanePaths", fn := fun _ => fun
  | [d] => { results := [.lit (.bool false)], args := [d] }
  | _ => none }
def FnExactPlanePathsWrongFalsely : Prop := fnExactPlanePathsRow.holds Tryd.pinned (OpenSpec.ofChange fnExactPlanePathsWrong)

/-- 'laws.FnExactPolygonsOf': WHATEVER THE INPUT: true; the input reads as it did. -/
def fnExactPolygonsOfSpec : ChangeSpec := { name := "fnExactPolygonsOf", fn := fun _ => fun
  | [d] => { results := [.lit (.bool true)], args := [d] }
  | _ => none }
def fnExactPolygonsOfRow : OpenClaim := { program := "ytinlnafkmoabbaadoor", sum := "26053e842910ef664e63bf4795a082e898fda8386ad1c5995bc28d7c0478a2e2", func := "loop.example/g03104/laws.FnExactPolygonsOf", spec := "fnExactPolygonsOf", inPlace := ["internal/bytealg.CountString", "internal/bytealg.IndexByteString", "internal/bytealg.IndexString"], unfollowed := true, recurses := true, named := ["internal/bytealg.MaxLen", "math/bits.deBruijn32tab", "math/bits.deBruijn64tab"], plainKeys := false, apart := false, laid := [("math/bits.deBruijn32tab", laid_math_bits_deBruijn32tab), ("math/bits.deBruijn64tab", laid_math_bits_deBruijn64tab)] }
def FnExactPolygonsOfSaid : Prop := fnExactPolygonsOfRow.holds Tryd.pinned (OpenSpec.ofChange fnExactPolygonsOfSpec)

/-- ITS FALSE NEIGHBOUR: 'it returns false'. Refute it at one input. -/
def fnExactPolygonsOfWrong : ChangeSpec := { name := "fnExactPolygonsOf", fn := fun _ => fun
  | [d] => { results := [.lit (.bool false)], args := [d] }
  | _ => none }
def FnExactPolygonsOfWrongFalsely : Prop := fnExactPolygonsOfRow.holds Tryd.pinned (OpenSpec.ofChange fnExactPolygonsOfWrong)

/-- 'laws.FnExactPlaneMatchings': WHATEVER THE INPUT: true; the input reads as it did. -/
def fnExactPlaneMatchingsSpec : ChangeSpec := { name := "fnExactPlaneMatchings", fn := fun _ => fun
  | [d] => { results := [.lit (.bool true)], args := [d] }
  | _ => none }
def fnExactPlaneMatchingsRow : OpenClaim := { program := "ytinlnafkmoabbaadoor", sum := "26053e842910ef664e63bf4795a082e898fda8386ad1c5995bc28d7c0478a2e2", func := "loop.example/g03104/laws.FnExactPlaneMatchings", spec := "fnExactPlaneMatchings", inPlace := ["internal/bytealg.CountString", "internal/bytealg.IndexByteString", "internal/bytealg.IndexString"], unfollowed := true, recurses := true, named := ["internal/bytealg.MaxLen", "math/bits.deBruijn32tab", "math/bits.deBruijn64tab"], plainKeys := false, apart := false, laid := [("math/bits.deBruijn32tab", laid_math_bits_deBruijn32tab), ("math/bits.deBruijn64tab", laid_math_bits_deBruijn64tab)] }
def FnExactPlaneMatchingsSaid : Prop := fnExactPlaneMatchingsRow.holds Tryd.pinned (OpenSpec.ofChange fnExactPlaneMatchingsSpec)

/-- ITS FALSE NEIGHBOUR: 'it returns false'. Refute it at one input. -/
def fnExactPlaneMatchingsWrong : ChangeSpec := { name := "fnExactPlaneMatchings", fn := fun _ => fun
  | [d] => { results := [.lit (.bool false)], args := [d] }
  | _ => none }
def FnExactPlaneMatchingsWrongFalsely : Prop := fnExactPlaneMatchingsRow.holds Tryd.pinned (OpenSpec.ofChange fnExactPlaneMatchingsWrong)

/-- 'laws.FnExactCrossingPairs': WHATEVER THE INPUT: true; the input reads as it did. -/
def fnExactCrossingPairsSpec : ChangeSpec := { name := "fnExactCrossingPairs", fn := fun _ => fun
  | [d1, d2] => { results := [.lit (.bool true)], args := [d1, d2] }
  | _ => none }
def fnExactCrossingPairsRow : OpenClaim := { program := "ytinlnafkmoabbaadoor", sum := "26053e842910ef664e63bf4795a082e898fda8386ad1c5995bc28d7c0478a2e2", func := "loop.example/g03104/laws.FnExactCrossingPairs", spec := "fnExactCrossingPairs", inPlace := ["internal/bytealg.CountString", "internal/bytealg.IndexByteString", "internal/bytealg.IndexString"], named := ["internal/bytealg.MaxLen", "math/bits.deBruijn32tab", "math/bits.deBruijn64tab"], plainKeys := false, apart := false, laid := [("math/bits.deBruijn32tab", laid_math_bits_deBruijn32tab), ("math/bits.deBruijn64tab", laid_math_bits_deBruijn64tab)] }
def FnExactCrossingPairsSaid : Prop := fnExactCrossingPairsRow.holds Tryd.pinned (OpenSpec.ofChange fnExactCrossingPairsSpec)

/-- ITS FALSE NEIGHBOUR: 'it returns false'. Refute it at one input. -/
def fnExactCrossingPairsWrong : ChangeSpec := { name := "fnExactCrossingPairs", fn := fun _ => fun
  | [d1, d2] => { results := [.lit (.bool false)], args := [d1, d2] }
  | _ => none }
def FnExactCrossingPairsWrongFalsely : Prop := fnExactCrossingPairsRow.holds Tryd.pinned (OpenSpec.ofChange fnExactCrossingPairsWrong)

/-- 'laws.FnExactIsPlane': WHATEVER THE INPUT: true; the input reads as it did. -/
def fnExactIsPlaneSpec : ChangeSpec := { name := "fnExactIsPlane", fn := fun _ => fun
  | [d1, d2] => { results := [.lit (.bool true)], args := [d1, d2] }
  | _ => none }
def fnExactIsPlaneRow : OpenClaim := { program := "ytinlnafkmoabbaadoor", sum := "26053e842910ef664e63bf4795a082e898fda8386ad1c5995bc28d7c0478a2e2", func := "loop.example/g03104/laws.FnExactIsPlane", spec := "fnExactIsPlane", inPlace := ["internal/bytealg.CountString", "internal/bytealg.IndexByteString", "internal/bytealg.IndexString"], named := ["internal/bytealg.MaxLen", "math/bits.deBruijn32tab", "math/bits.deBruijn64tab"], plainKeys := false, apart := false, laid := [("math/bits.deBruijn32tab", laid_math_bits_deBruijn32tab), ("math/bits.deBruijn64tab", laid_math_bits_deBruijn64tab)] }
def FnExactIsPlaneSaid : Prop := fnExactIsPlaneRow.holds Tryd.pinned (OpenSpec.ofChange fnExactIsPlaneSpec)

/-- ITS FALSE NEIGHBOUR: 'it returns false'. Refute it at one input. -/
def fnExactIsPlaneWrong : ChangeSpec := { name := "fnExactIsPlane", fn := fun _ => fun
  | [d1, d2] => { results := [.lit (.bool false)], args := [d1, d2] }
  | _ => none }
def FnExactIsPlaneWrongFalsely : Prop := fnExactIsPlaneRow.holds Tryd.pinned (OpenSpec.ofChange fnExactIsPlaneWrong)

/-- 'laws.FnExactEdgesText': WHATEVER THE INPUT: true; the input reads as it did. -/
def fnExactEdgesTextSpec : ChangeSpec := { name := "fnExactEdgesText", fn := fun _ => fun
  | [d1, d2] => { results := [.lit (.bool true)], args := [d1, d2] }
  | _ => none }
def fnExactEdgesTextRow : OpenClaim := { program := "ytinlnafkmoabbaadoor", sum := "26053e842910ef664e63bf4795a082e898fda8386ad1c5995bc28d7c0478a2e2", func := "loop.example/g03104/laws.FnExactEdgesText", spec := "fnExactEdgesText", inPlace := ["internal/abi.NoEscape", "internal/bytealg.MakeNoZero"], named := ["math/bits.deBruijn32tab", "math/bits.deBruijn64tab", "internal/strconv.uint64pow10"], plainKeys := false, apart := false, laid := [("math/bits.deBruijn32tab", laid_math_bits_deBruijn32tab), ("math/bits.deBruijn64tab", laid_math_bits_deBruijn64tab), ("internal/strconv.uint64pow10", laid_internal_strconv_uint64pow10)] }
def FnExactEdgesTextSaid : Prop := fnExactEdgesTextRow.holds Tryd.pinned (OpenSpec.ofChange fnExactEdgesTextSpec)

/-- ITS FALSE NEIGHBOUR: 'it returns false'. Refute it at one input. -/
def fnExactEdgesTextWrong : ChangeSpec := { name := "fnExactEdgesText", fn := fun _ => fun
  | [d1, d2] => { results := [.lit (.bool false)], args := [d1, d2] }
  | _ => none }
def FnExactEdgesTextWrongFalsely : Prop := fnExactEdgesTextRow.holds Tryd.pinned (OpenSpec.ofChange fnExactEdgesTextWrong)

/- THE SECOND FORM. 'bulk': how many values and letters a reading holds, each counted each time it is reached (what is shared counts as often as it is met; a slice's spare places count too). A statement '..UptoSaid' is the law's where the arguments, and the package variables that the reading takes, are together of bulk at most 1048576: NARROWER than '..Said'. Prove '..Said' where nothing that the law and all that it calls make is longer than what came in: it says more and counts as full. Else prove '..UptoSaid'. A law counts once. -/
mutual
def uptoBulk {H : Type} : DataW H → Nat
  | .lit (.string bytes) => bytes.length + 1
  | .lit _ => 1
  | .nil => 1
  | .ptr d => uptoBulk d + 1
  | .slice elems spare => uptoBulkAll elems + uptoBulkAll spare + 1
  | .agg parts => uptoBulkAll parts + 1
  | .iface _ d => uptoBulk d + 1
  | .map entries => uptoBulkEntries entries + 1
  | .held _ => 1
def uptoBulkAll {H : Type} : List (DataW H) → Nat
  | [] => 0
  | d :: r => uptoBulk d + uptoBulkAll r
def uptoBulkEntries {H : Type} : List (Lit × DataW H) → Nat
  | [] => 0
  | x :: r => uptoBulkEntry x + uptoBulkEntries r
def uptoBulkEntry {H : Type} : Lit × DataW H → Nat
  | (.string bytes, d) => bytes.length + uptoBulk d + 1
  | (_, d) => uptoBulk d + 1
 end
def uptoSmall : (H : Type) → List (DataW H) → Bool := fun _ ds => decide (uptoBulkAll ds ≤ 1048576)
def OpenSpec.upto (s : _root_.Go.ChangeSpec) : _root_.Go.OpenSpec := { _root_.Go.OpenSpec.ofChange s with cond := some uptoSmall }

/-- 'laws.FnExactDegreesOf', WHERE WHAT IT READS IS OF BULK AT MOST 1048576: true; the input reads as it did. -/
def fnExactDegreesOfUptoRow : OpenClaim := { program := "ytinlnafkmoabbaadoor", sum := "26053e842910ef664e63bf4795a082e898fda8386ad1c5995bc28d7c0478a2e2", func := "loop.example/g03104/laws.FnExactDegreesOf", spec := "fnExactDegreesOf", named := ["math/bits.deBruijn32tab", "math/bits.deBruijn64tab"], plainKeys := false, apart := false, laid := [("math/bits.deBruijn32tab", laid_math_bits_deBruijn32tab), ("math/bits.deBruijn64tab", laid_math_bits_deBruijn64tab)], narrowed := true }
def FnExactDegreesOfUptoSaid : Prop := fnExactDegreesOfUptoRow.holds Tryd.pinned (OpenSpec.upto fnExactDegreesOfSpec)

/-- 'laws.FnExactIsTree', WHERE WHAT IT READS IS OF BULK AT MOST 1048576: true; the input reads as it did. -/
def fnExactIsTreeUptoRow : OpenClaim := { program := "ytinlnafkmoabbaadoor", sum := "26053e842910ef664e63bf4795a082e898fda8386ad1c5995bc28d7c0478a2e2", func := "loop.example/g03104/laws.FnExactIsTree", spec := "fnExactIsTree", named := ["math/bits.deBruijn32tab", "math/bits.deBruijn64tab"], plainKeys := false, apart := false, laid := [("math/bits.deBruijn32tab", laid_math_bits_deBruijn32tab), ("math/bits.deBruijn64tab", laid_math_bits_deBruijn64tab)], narrowed := true }
def FnExactIsTreeUptoSaid : Prop := fnExactIsTreeUptoRow.holds Tryd.pinned (OpenSpec.upto fnExactIsTreeSpec)

/-- 'laws.FnExactPlaneTrees', WHERE WHAT IT READS IS OF BULK AT MOST 1048576: true; the input reads as it did. -/
def fnExactPlaneTreesUptoRow : OpenClaim := { program := "ytinlnafkmoabbaadoor", sum := "26053e842910ef664e63bf4795a082e898fda8386ad1c5995bc28d7c0478a2e2", func := "loop.example/g03104/laws.FnExactPlaneTrees", spec := "fnExactPlaneTrees", inPlace := ["internal/bytealg.CountString", "internal/bytealg.IndexByteString", "internal/bytealg.IndexString"], unfollowed := true, recurses := true, named := ["internal/bytealg.MaxLen", "math/bits.deBruijn32tab", "math/bits.deBruijn64tab"], plainKeys := false, apart := false, laid := [("math/bits.deBruijn32tab", laid_math_bits_deBruijn32tab), ("math/bits.deBruijn64tab", laid_math_bits_deBruijn64tab)], narrowed := true }
def FnExactPlaneTreesUptoSaid : Prop := fnExactPlaneTreesUptoRow.holds Tryd.pinned (OpenSpec.upto fnExactPlaneTreesSpec)

/-- 'laws.FnExactPlanePaths', WHERE WHAT IT READS IS OF BULK AT MOST 1048576: true; the input reads as it did. -/
def fnExactPlanePathsUptoRow : OpenClaim := { program := "ytinlnafkmoabbaadoor", sum := "26053e842910ef664e63bf4795a082e898fda8386ad1c5995bc28d7c0478a2e2", func := "loop.example/g03104/laws.FnExactPlanePaths", spec := "fnExactPlanePaths", inPlace := ["internal/bytealg.CountString", "internal/bytealg.IndexByteString", "internal/bytealg.IndexString"], unfollowed := true, recurses := true, named := ["internal/bytealg.MaxLen", "math/bits.deBruijn32tab", "math/bits.deBruijn64tab"], plainKeys := false, apart := false, laid := [("math/bits.deBruijn32tab", laid_math_bits_deBruijn32tab), ("math/bits.deBruijn64tab", laid_math_bits_deBruijn64tab)], narrowed := true }
def FnExactPlanePathsUptoSaid : Prop := fnExactPlanePathsUptoRow.holds Tryd.pinned (OpenSpec.upto fnExactPlanePathsSpec)

/-- 'laws.FnExactPolygonsOf', WHERE WHAT IT READS IS OF BULK AT MOST 1048576: true; the input reads as it did. -/
def fnExactPolygonsOfUptoRow : OpenClaim := { program := "ytinlnafkmoabbaadoor", sum := "26053e842910ef664e63bf4795a082e898fda8386ad1c5995bc28d7c0478a2e2", func := "loop.example/g03104/laws.FnExactPolygonsOf", spec := "fnExactPolygonsOf", inPlace := ["internal/bytealg.CountString", "internal/bytealg.IndexByteString", "internal/bytealg.IndexString"], unfollowed := true, recurses := true, named := ["internal/bytealg.MaxLen", "math/bits.deBruijn32tab", "math/bits.deBruijn64tab"], plainKeys := false, apart := false, laid := [("math/bits.deBruijn32tab", laid_math_bits_deBruijn32tab), ("math/bits.deBruijn64tab", laid_math_bits_deBruijn64tab)], narrowed := true }
def FnExactPolygonsOfUptoSaid : Prop := fnExactPolygonsOfUptoRow.holds Tryd.pinned (OpenSpec.upto fnExactPolygonsOfSpec)

/-- 'laws.FnExactPlaneMatchings', WHERE WHAT IT READS IS OF BULK AT MOST 1048576: true; the input reads as it did. -/
def fnExactPlaneMatchingsUptoRow : OpenClaim := { program := "ytinlnafkmoabbaadoor", sum := "26053e842910ef664e63bf4795a082e898fda8386ad1c5995bc28d7c0478a2e2", func := "loop.example/g03104/laws.FnExactPlaneMatchings", spec := "fnExactPlaneMatchings", inPlace := ["internal/bytealg.CountString", "internal/bytealg.IndexByteString", "internal/bytealg.IndexString"], unfollowed := true, recurses := true, named := ["internal/bytealg.MaxLen", "math/bits.deBruijn32tab", "math/bits.deBruijn64tab"], plainKeys := false, apart := false, laid := [("math/bits.deBruijn32tab", laid_math_bits_deBruijn32tab), ("math/bits.deBruijn64tab", laid_math_bits_deBruijn64tab)], narrowed := true }
def FnExactPlaneMatchingsUptoSaid : Prop := fnExactPlaneMatchingsUptoRow.holds Tryd.pinned (OpenSpec.upto fnExactPlaneMatchingsSpec)

/-- 'laws.FnExactCrossingPairs', WHERE WHAT IT READS IS OF BULK AT MOST 1048576: true; the input reads as it did. -/
def fnExactCrossingPairsUptoRow : OpenClaim := { program := "ytinlnafkmoabbaadoor", sum := "26053e842910ef664e63bf4795a082e898fda8386ad1c5995bc28d7c0478a2e2", func := "loop.example/g03104/laws.FnExactCrossingPairs", spec := "fnExactCrossingPairs", inPlace := ["internal/bytealg.CountString", "internal/bytealg.IndexByteString", "internal/bytealg.IndexString"], named := ["internal/bytealg.MaxLen", "math/bits.deBruijn32tab", "math/bits.deBruijn64tab"], plainKeys := false, apart := false, laid := [("math/bits.deBruijn32tab", laid_math_bits_deBruijn32tab), ("math/bits.deBruijn64tab", laid_math_bits_deBruijn64tab)], narrowed := true }
def FnExactCrossingPairsUptoSaid : Prop := fnExactCrossingPairsUptoRow.holds Tryd.pinned (OpenSpec.upto fnExactCrossingPairsSpec)

/-- 'laws.FnExactIsPlane', WHERE WHAT IT READS IS OF BULK AT MOST 1048576: true; the input reads as it did. -/
def fnExactIsPlaneUptoRow : OpenClaim := { program := "ytinlnafkmoabbaadoor", sum := "26053e842910ef664e63bf4795a082e898fda8386ad1c5995bc28d7c0478a2e2", func := "loop.example/g03104/laws.FnExactIsPlane", spec := "fnExactIsPlane", inPlace := ["internal/bytealg.CountString", "internal/bytealg.IndexByteString", "internal/bytealg.IndexString"], named := ["internal/bytealg.MaxLen", "math/bits.deBruijn32tab", "math/bits.deBruijn64tab"], plainKeys := false, apart := false, laid := [("math/bits.deBruijn32tab", laid_math_bits_deBruijn32tab), ("math/bits.deBruijn64tab", laid_math_bits_deBruijn64tab)], narrowed := true }
def FnExactIsPlaneUptoSaid : Prop := fnExactIsPlaneUptoRow.holds Tryd.pinned (OpenSpec.upto fnExactIsPlaneSpec)

/-- 'laws.FnExactEdgesText', WHERE WHAT IT READS IS OF BULK AT MOST 1048576: true; the input reads as it did. -/
def fnExactEdgesTextUptoRow : OpenClaim := { program := "ytinlnafkmoabbaadoor", sum := "26053e842910ef664e63bf4795a082e898fda8386ad1c5995bc28d7c0478a2e2", func := "loop.example/g03104/laws.FnExactEdgesText", spec := "fnExactEdgesText", inPlace := ["internal/abi.NoEscape", "internal/bytealg.MakeNoZero"], named := ["math/bits.deBruijn32tab", "math/bits.deBruijn64tab", "internal/strconv.uint64pow10"], plainKeys := false, apart := false, laid := [("math/bits.deBruijn32tab", laid_math_bits_deBruijn32tab), ("math/bits.deBruijn64tab", laid_math_bits_deBruijn64tab), ("internal/strconv.uint64pow10", laid_internal_strconv_uint64pow10)], narrowed := true }
def FnExactEdgesTextUptoSaid : Prop := fnExactEdgesTextUptoRow.holds Tryd.pinned (OpenSpec.upto fnExactEdgesTextSpec)

end Rows
end Go.Proofs.YtinlnafkmoabbaaDoor
