/- How many sets leave no circuit of one kind when they are reversed: signs of at most six elements that keep the rule, all asked one after another. -/
import Derived.WalkKit
namespace Go.Proofs.YtinlnafkmoabbaaGreatDoor.Rul
/-- Where three ascending elements stand in a code. -/
def cx (i j k : Nat) : Nat := i + j * (j - 1) / 2 + k * (k - 1) * (k - 2) / 6
def lo (a b c : Nat) : Nat := min a (min b c)
def hi (a b c : Nat) : Nat := max a (max b c)
/-- Where three elements stand, whatever their order. -/
def cxs (a b c : Nat) : Nat := cx (lo a b c) (a + b + c - lo a b c - hi a b c) (hi a b c)
abbrev C6 := Nat × Nat × Nat × Nat × Nat × Nat
def viol (v : Nat) (c : C6) : Bool := ((v.testBit c.1 ^^ v.testBit c.2.1) == (v.testBit c.2.2.1 ^^ v.testBit c.2.2.2.1)) && ((v.testBit c.1 ^^ v.testBit c.2.1) == !(v.testBit c.2.2.2.2.1 ^^ v.testBit c.2.2.2.2.2))
def six (a b c d e : Nat) : C6 := (cxs a b c, cxs a d e, cxs a b e, cxs a c d, cxs a b d, cxs a c e)
/-- The rule's conditions, each at the last place that it asks; false: a place where the sign is +. -/
def cons : List (Bool × List C6) :=
  [(false, []),
   (false, []),
   (false, []),
   (false, []),
   (false, []),
   (true, []),
   (true, []),
   (true, [(0, 7, 4, 2, 1, 5)]),
   (true, [(0, 8, 4, 3, 1, 6)]),
   (true, [(0, 9, 5, 3, 2, 6), (1, 9, 7, 3, 2, 8), (4, 9, 7, 6, 5, 8)]),
   (false, []),
   (true, []),
   (true, []),
   (true, [(0, 13, 10, 2, 1, 11)]),
   (true, [(0, 14, 10, 3, 1, 12)]),
   (true, [(0, 15, 11, 3, 2, 12), (1, 15, 13, 3, 2, 14), (10, 15, 13, 12, 11, 14)]),
   (true, [(0, 16, 10, 5, 4, 11), (1, 16, 10, 7, 4, 13), (2, 16, 11, 7, 5, 13)]),
   (true, [(0, 17, 10, 6, 4, 12), (1, 17, 10, 8, 4, 14), (3, 17, 12, 8, 6, 14)]),
   (true, [(0, 18, 11, 6, 5, 12), (2, 18, 11, 9, 5, 15), (3, 18, 12, 9, 6, 15), (4, 18, 16, 6, 5, 17), (10, 18, 16, 12, 11, 17)]),
   (true, [(1, 19, 13, 8, 7, 14), (2, 19, 13, 9, 7, 15), (3, 19, 14, 9, 8, 15), (4, 19, 16, 8, 7, 17), (5, 19, 16, 9, 7, 18), (6, 19, 17, 9, 8, 18), (10, 19, 16, 14, 13, 17), (11, 19, 16, 15, 13, 18), (12, 19, 17, 15, 14, 18)])]
def msk : Nat → Nat
  | 0 => 12297829382473034410
  | 1 => 14757395258967641292
  | 2 => 17361641481138401520
  | 3 => 18374966859414961920
  | 4 => 18446462603027742720
  | _ => 18446744069414584320
def full : Nat := 18446744073709551615
abbrev Q4 := Nat × Nat × Nat × Nat
/-- The sets that leave a circuit of one kind at four elements. -/
def bl (v : Nat) (q : Q4) : Nat :=
  let A := if v.testBit (cx q.2.1 q.2.2.1 q.2.2.2) then msk q.1 ^^^ full else msk q.1
  let B := if v.testBit (cx q.1 q.2.2.1 q.2.2.2) then msk q.2.1 else msk q.2.1 ^^^ full
  let C := if v.testBit (cx q.1 q.2.1 q.2.2.2) then msk q.2.2.1 ^^^ full else msk q.2.2.1
  let D := if v.testBit (cx q.1 q.2.1 q.2.2.1) then msk q.2.2.2 else msk q.2.2.2 ^^^ full
  (A &&& B &&& C &&& D) ||| ((A ^^^ full) &&& (B ^^^ full) &&& (C ^^^ full) &&& (D ^^^ full))
def quads : Nat → List Q4
  | 3 => []
  | 4 => [(0, 1, 2, 3)]
  | 5 => [(0, 1, 2, 3), (0, 1, 2, 4), (0, 1, 3, 4), (0, 2, 3, 4), (1, 2, 3, 4)]
  | _ => [(0, 1, 2, 3), (0, 1, 2, 4), (0, 1, 3, 4), (0, 2, 3, 4), (1, 2, 3, 4), (0, 1, 2, 5), (0, 1, 3, 5), (0, 2, 3, 5), (1, 2, 3, 5), (0, 1, 4, 5), (0, 2, 4, 5), (1, 2, 4, 5), (0, 3, 4, 5), (1, 3, 4, 5), (2, 3, 4, 5)]
def orAll (v : Nat) : List Q4 → Nat
  | [] => 0
  | q :: r => bl v q ||| orAll v r
def cz (w : Nat) : Nat → Nat
  | 0 => 0
  | S + 1 => cz w S + (if w.testBit S then 0 else 1)
def final (n v : Nat) : Bool := cz (orAll v (quads n)) (2 ^ n) == n * (n - 1) + 2
def go (n : Nat) : List (Bool × List C6) → Nat → Nat → Bool
  | [], _, v => final n v
  | (fr, cs) :: r, k, v => (cs.any (viol v) || go n r (k + 1) v) && (!fr || (cs.any (viol (v + 2 ^ k)) || go n r (k + 1) (v + 2 ^ k)))
theorem all_lt {n : Nat} {p : Nat → Bool} (h : (List.range n).all p = true) {i : Nat} (hi : i < n) : p i = true := List.all_eq_true.1 h i (List.mem_range.2 hi)
def qn (n : Nat) : Nat := n * (n - 1) * (n - 2) / 6
def blkT (t : Nat → Nat → Nat → Bool) (S : Nat) (q : Q4) : Bool :=
  ((t q.2.1 q.2.2.1 q.2.2.2 ^^ S.testBit q.1) && !(t q.1 q.2.2.1 q.2.2.2 ^^ S.testBit q.2.1) && (t q.1 q.2.1 q.2.2.2 ^^ S.testBit q.2.2.1) && !(t q.1 q.2.1 q.2.2.1 ^^ S.testBit q.2.2.2)) ||
  (!(t q.2.1 q.2.2.1 q.2.2.2 ^^ S.testBit q.1) && (t q.1 q.2.2.1 q.2.2.2 ^^ S.testBit q.2.1) && !(t q.1 q.2.1 q.2.2.2 ^^ S.testBit q.2.2.1) && (t q.1 q.2.1 q.2.2.1 ^^ S.testBit q.2.2.2))
/-- So many sets leave no circuit of one kind. -/
def many (n : Nat) (t : Nat → Nat → Nat → Bool) : Nat := ((List.range (2 ^ n)).filter fun S => !(quads n).any fun q => blkT t S q).length
end Go.Proofs.YtinlnafkmoabbaaGreatDoor.Rul
