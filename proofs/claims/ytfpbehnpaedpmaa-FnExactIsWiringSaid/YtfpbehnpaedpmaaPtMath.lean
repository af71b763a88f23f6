/- Points as pairs of integers: turns, areas, general position. Plain mathematics, nothing of the program. -/
namespace Go.Proofs.Ytfpbehnpaedpmaa.Pt
abbrev P2 := Int × Int
def inB (x lo hi : Int) : Bool := decide (lo ≤ x ∧ x ≤ hi)
theorem inB_yes {x lo hi : Int} (h1 : lo ≤ x) (h2 : x ≤ hi) : inB x lo hi = true := by simp [inB, h1, h2]
theorem inB_lo {x lo hi : Int} (h : x < lo) : inB x lo hi = false := by simp [inB]; omega
theorem inB_hi {x lo hi : Int} (h : hi < x) : inB x lo hi = false := by simp [inB]; omega
theorem inB_mem {x lo hi : Int} (h : inB x lo hi = true) : lo ≤ x ∧ x ≤ hi := by simpa [inB] using h
/-- Both coordinates are within a bound. -/
def fitB (x y m : Int) : Bool := inB x (-m) m && inB y (-m) m
def fit (p : P2) (m : Int) : Bool := fitB p.1 p.2 m
/-- Twice the area of a triangle, with its sign. -/
def crs (ax ay bx by_ cx cy : Int) : Int := (bx - ax) * (cy - ay) - (by_ - ay) * (cx - ax)
def cross (a b c : P2) : Int := crs a.1 a.2 b.1 b.2 c.1 c.2
def areaB (ax ay bx by_ cx cy : Int) : Int := if fitB ax ay 1000 = true ∧ fitB bx by_ 1000 = true ∧ fitB cx cy 1000 = true then crs ax ay bx by_ cx cy else 0
def area (a b c : P2) : Int := areaB a.1 a.2 b.1 b.2 c.1 c.2
/-- Points: three to seven, within 50, no three on a line. -/
def ok (xs : List P2) : Prop := (3 ≤ xs.length ∧ xs.length ≤ 7) ∧ (∀ p ∈ xs, fit p 50 = true) ∧ ∀ (i j k : Nat) (a b c : P2), i < j → j < k → xs[i]? = some a → xs[j]? = some b → xs[k]? = some c → cross a b c ≠ 0
open Classical in
noncomputable def okB (xs : List P2) : Bool := decide (ok xs)
end Go.Proofs.Ytfpbehnpaedpmaa.Pt
