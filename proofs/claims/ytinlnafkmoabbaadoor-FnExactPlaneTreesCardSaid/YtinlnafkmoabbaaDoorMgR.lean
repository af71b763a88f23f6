/- Several texts in one: RuRev, RuElem, RuSets. -/
import Derived.Test.YtinlnafkmoabbaaDoorMgS
import Derived.Maps.Ext
import Derived.Maps.RangeWalk
import Derived.BigQuiet
import Derived.Test.YtinlnafkmoabbaaDoorMgQ
import Derived.StillTailTactics
import Derived.Test.YtinlnafkmoabbaaDoorMgC
/- Signs with the elements of a set reversed: impl's map of them. -/
namespace Go.Proofs.YtinlnafkmoabbaaDoor.Sg
open Go.RowKit Pt Go.Maps
theorem shr_div (set i : Nat) : ((set >>> i : Nat) : Int) = (set : Int) / 2 ^ i := by
  rw [Nat.shiftRight_eq_div_pow]
  push_cast
  rfl
end Go.Proofs.YtinlnafkmoabbaaDoor.Sg
/- ReverseElement, as impl and spec answer it; the law. -/
namespace Go.Proofs.YtinlnafkmoabbaaDoor.Sg
open Go.RowKit Pt
theorem sgnF_plain {f : Int → Int → Int → Int} {i j k : Nat} (h1 : i < j) (h2 : j < k) : sgnF f i j k = f i j k := by
  rw [sgnF_of (srt_asc (i := i) (j := j) (k := k) (by omega) (by omega))]
  simp
end Go.Proofs.YtinlnafkmoabbaaDoor.Sg
/- AcyclicSets, as impl and spec answer it; the law. -/
namespace Go.Proofs.YtinlnafkmoabbaaDoor.Sg
open Go.RowKit Pt NewI
/-- The sets among the first p. -/
def setsTo (q : Nat → Bool) (p : Nat) : List Int := ((List.range p).filter q).map fun (x : Nat) => (x : Int)
theorem ownsZ_on {w w' : World} {B : Nat} {v : Value} {zs : List Int} (h : OwnsZ w B v zs) (hb : Below w.heap.size w w') : OwnsZ w' B v zs :=
  World.ownsRow.kept h (row := none) ⟨hb.os, hb.tape, hb.output, hb.size, fun k hk _ => hb.block k hk⟩ (by cases v.ownBlock <;> simp)
end Go.Proofs.YtinlnafkmoabbaaDoor.Sg
