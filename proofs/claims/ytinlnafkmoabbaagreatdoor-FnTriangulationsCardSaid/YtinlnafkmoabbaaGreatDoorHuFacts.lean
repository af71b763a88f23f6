/- Hulls on plain functions: what FnHulls asks of them. -/
import Derived.Test.YtinlnafkmoabbaaGreatDoorMgK
import Derived.Test.YtinlnafkmoabbaaGreatDoorMgPl
import Derived.Test.YtinlnafkmoabbaaGreatDoorMgO
namespace Go.Proofs.YtinlnafkmoabbaaGreatDoor.Sg
open NewII
/-- How many of n elements are to the left of two. -/
def leftN (F : Int → Int → Int → Int) (n i j : Nat) : Nat := (List.range n).countP fun k => k != i && (k != j && decide (0 < F i j k))
section
variable {n : Nat} {s : List UInt8}
end
end Go.Proofs.YtinlnafkmoabbaaGreatDoor.Sg
