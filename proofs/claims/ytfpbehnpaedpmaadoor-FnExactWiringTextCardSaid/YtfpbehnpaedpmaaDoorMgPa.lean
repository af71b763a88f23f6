/- Several texts in one: PtMath, Pt, SgMath. -/
import Derived.Test.YtfpbehnpaedpmaaDoorProg
import Derived.WalkKit
import Derived.Below
import Derived.Lib.Hide
import Derived.Handy
/- Points as pairs of integers: turns, areas, general position. Plain mathematics, nothing of the program. -/
namespace Go.Proofs.YtfpbehnpaedpmaaDoor.Pt
abbrev P2 := Int × Int
def inB (x lo hi : Int) : Bool := decide (lo ≤ x ∧ x ≤ hi)
theorem inB_yes {x lo hi : Int} (h1 : lo ≤ x) (h2 : x ≤ hi) : inB x lo hi = true := by simp [inB, h1, h2]
theorem inB_lo {x lo hi : Int} (h : x < lo) : inB x lo hi = false := by simp [inB]; omega
theorem inB_hi {x lo hi : Int} (h : hi < x) : inB x lo hi = false := by simp [inB]; omega
theorem inB_mem {x lo hi : Int} (h : inB x lo hi = true) : lo ≤ x ∧ x ≤ hi := by simpa [inB] using h
/-- Both coordinates are within a bound. -/
def fitB (x y m : Int) : Bool := inB x (-m) m && inB y (-m) m
def fit (p : P2) (m : Int) : Bool := fitB p.1 p.2 m
/-- Twice the area of a triangle, with its sign. -/
def crs (ax ay bx by_ cx cy : Int) : Int := (bx - ax) * (cy - ay) - (by_ - ay) * (cx - ax)
def cross (a b c : P2) : Int := crs a.1 a.2 b.1 b.2 c.1 c.2
def areaB (ax ay bx by_ cx cy : Int) : Int := if fitB ax ay 1000 = true ∧ fitB bx by_ 1000 = true ∧ fitB cx cy 1000 = true then crs ax ay bx by_ cx cy else 0
def area (a b c : P2) : Int := areaB a.1 a.2 b.1 b.2 c.1 c.2
/-- Points: three to seven, within 50, no three on a line. -/
def ok (xs : List P2) : Prop := (3 ≤ xs.length ∧ xs.length ≤ 7) ∧ (∀ p ∈ xs, fit p 50 = true) ∧ ∀ (i j k : Nat) (a b c : P2), i < j → j < k → xs[i]? = some a → xs[j]? = some b → xs[k]? = some c → cross a b c ≠ 0
open Classical in
noncomputable def okB (xs : List P2) : Bool := decide (ok xs)
end Go.Proofs.YtfpbehnpaedpmaaDoor.Pt
/- Points by value: bounds, areas and turns, as impl and spec reckon them. -/
namespace Go.Proofs.YtfpbehnpaedpmaaDoor.Pt
open Go.RowKit
theorem ret_bool {a b : Bool} (h : a = b) : Ending.returned (.bool a) = .returned (.bool b) := by rw [h]

set_option maxRecDepth 100000 in
theorem l1In_any (x lo hi : Int) (w : World) :
    Calls Tryd.prog 45 #[.int .i64 x, .int .i64 lo, .int .i64 hi] w fun e w' => e = .returned (.bool (inB x lo hi)) ∧ w = w' := by
  by_cases h1 : lo ≤ x
  · by_cases h2 : x ≤ hi
    · have HE := Lib.hid (inB_yes h1 h2)
      go_enter Tryd.func45, Tryd.ntmps45
      go_wp2
      go_ret
      exact ⟨ret_bool (by rw [HE.out]), rfl⟩
    · have HE := Lib.hid (inB_hi (lo := lo) (x := x) (hi := hi) (by omega))
      go_enter Tryd.func45, Tryd.ntmps45
      go_wp2
      go_ret
      exact ⟨ret_bool (by rw [HE.out]), rfl⟩
  · have HE := Lib.hid (inB_lo (lo := lo) (x := x) (hi := hi) (by omega))
    go_enter Tryd.func45, Tryd.ntmps45
    go_wp2
    go_ret
    exact ⟨ret_bool (by rw [HE.out]), rfl⟩

end Go.Proofs.YtfpbehnpaedpmaaDoor.Pt
/- Plain facts on signs: the threes of n elements in their order, where each stands, the sign of any three. -/
namespace Go.Proofs.YtfpbehnpaedpmaaDoor.Sg
abbrev T3 := Nat × Nat × Nat
/-- The threes of n elements, in their order. -/
def threes (n : Nat) : List T3 := (List.range n).flatMap fun i => (List.range n).flatMap fun j => (List.range n).filterMap fun k => if i < j && j < k then some (i, j, k) else none
def ahead (t : T3) (i j k : Nat) : Bool := decide (t.1 < i) || (t.1 == i && (decide (t.2.1 < j) || (t.2.1 == j && decide (t.2.2 < k))))
theorem all_lt {n : Nat} {p : Nat → Bool} (h : (List.range n).all p = true) {i : Nat} (hi : i < n) : p i = true := List.all_eq_true.1 h i (List.mem_range.2 hi)
/-- Where three stand. -/
def sA (n : Nat) : Nat → Nat
  | 0 => 0
  | a + 1 => sA n a + (n - 1 - a) * (n - 2 - a) / 2
def sB (n i : Nat) : Nat → Nat
  | 0 => 0
  | m + 1 => sB n i m + (n - 1 - (i + 1 + m))
def idx (n i j k : Nat) : Nat := sA n i + sB n i (j - i - 1) + (k - j - 1)
/-- A byte of a sign, a sign of a byte. -/
def sgn1 (b : UInt8) : Int := if b == 43 then 1 else -1
end Go.Proofs.YtfpbehnpaedpmaaDoor.Sg
