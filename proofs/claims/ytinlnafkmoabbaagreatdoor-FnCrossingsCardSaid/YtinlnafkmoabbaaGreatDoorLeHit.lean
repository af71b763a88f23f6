/- What lies left, on plain functions: a set is divided by no four elements' circuit just if it leaves no circuit of one kind; the orders in which impl goes through pairs. -/
import Derived.Test.YtinlnafkmoabbaaGreatDoorMgM

namespace Go.Proofs.YtinlnafkmoabbaaGreatDoor.Sg
section
variable {n : Nat} {s : List UInt8}
end
def both (L : List (Nat × Nat)) : List (Nat × Nat) := L.flatMap fun p => [p, (p.2, p.1)]
end Go.Proofs.YtinlnafkmoabbaaGreatDoor.Sg
