/- Plain facts on signs: the threes of n elements in their order, where each stands, the sign of any three. -/
import Derived.WalkKit
namespace Go.Proofs.Ytfpbehnpaedpmaa.Sg
abbrev T3 := Nat × Nat × Nat
/-- The threes of n elements, in their order. -/
def threes (n : Nat) : List T3 := (List.range n).flatMap fun i => (List.range n).flatMap fun j => (List.range n).filterMap fun k => if i < j && j < k then some (i, j, k) else none
def ahead (t : T3) (i j k : Nat) : Bool := decide (t.1 < i) || (t.1 == i && (decide (t.2.1 < j) || (t.2.1 == j && decide (t.2.2 < k))))
theorem all_lt {n : Nat} {p : Nat → Bool} (h : (List.range n).all p = true) {i : Nat} (hi : i < n) : p i = true := List.all_eq_true.1 h i (List.mem_range.2 hi)
/-- Where three stand. -/
def sA (n : Nat) : Nat → Nat
  | 0 => 0
  | a + 1 => sA n a + (n - 1 - a) * (n - 2 - a) / 2
def sB (n i : Nat) : Nat → Nat
  | 0 => 0
  | m + 1 => sB n i m + (n - 1 - (i + 1 + m))
def idx (n i j k : Nat) : Nat := sA n i + sB n i (j - i - 1) + (k - j - 1)
/-- A byte of a sign, a sign of a byte. -/
def sgn1 (b : UInt8) : Int := if b == 43 then 1 else -1
end Go.Proofs.Ytfpbehnpaedpmaa.Sg
