/- A slice of points that came in, empty or not: its copy, its length. -/
import Derived.Test.YtohihlhkheeemaaPtEq
namespace Go.Proofs.Ytohihlhkheeemaa.Pt
open Go.RowKit
/-- Where the points of a slice that came in lie. -/
def Src (w : World) (a : Option Addr) (c : Nat) (xs : List P2) : Prop := xs.length = 0 ∨ ∃ b o, a = some ⟨b, o, none⟩ ∧ AtP w b o xs ∧ b < w.heap.size ∧ xs.length ≤ c
theorem Src.on {w w' : World} {a : Option Addr} {c : Nat} {xs : List P2} (h : Src w a c xs) (hb : Below w.heap.size w w') : Src w' a c xs := by
  rcases h with h | ⟨b, o, h1, h2, h3, h4⟩
  · exact .inl h
  · exact .inr ⟨b, o, h1, h2.on hb h3, Nat.lt_of_lt_of_le h3 hb.size, h4⟩
theorem szN_neg {left : Int} {n : Nat} (h : left < n) : szN left n = -1 := by unfold szN; rw [if_pos (by omega)]
theorem szN_pos {left : Int} {n : Nat} (h : (n : Int) ≤ left) : szN left n = left - n := by unfold szN; rw [if_neg (by omega)]
/-- Block b is a row of the points xs. -/
def RowP (w : World) (b : Nat) (xs : List P2) : Prop := w.rowIs b 60 (xs.length * 2) (ptCell xs)
theorem RowP.at {w : World} {b : Nat} {xs : List P2} (h : RowP w b xs) : AtP w b 0 xs := AtP.of_row h
theorem RowP.lt {w : World} {b : Nat} {xs : List P2} (h : RowP w b xs) : b < w.heap.size := World.rowIs.lt h
theorem RowP.on {w w' : World} {b : Nat} {xs : List P2} (h : RowP w b xs) (hb : Below w.heap.size w w') : RowP w' b xs := row_on h hb h.lt
theorem to_arg (a : Option Addr) (c : Nat) (xs : List P2) (hx : xs.length ≤ 1048576) (w : World) (hs : Src w a c xs) :
    Calls Try.prog 17 #[.slice a xs.length c] w fun e w' => e = .returned (.slice (some ⟨w.heap.size, 0, none⟩) xs.length xs.length) ∧ RowP w' w.heap.size xs ∧ Below w.heap.size w w' := by
  rcases hs with h | ⟨b, o, rfl, h2, h3, h4⟩
  · obtain rfl : xs = [] := List.eq_nil_of_length_eq_zero h
    exact to_none a c w
  · exact to_any b o c xs hx w h2 h3
theorem rowP_drewN {w : World} {b : Nat} {xs : List P2} (h : RowP w b xs) (n : Nat) : RowP (w.drewN n) b xs := h
theorem below_drewN {B : Nat} {a w : World} (h : Below B a w) (n : Nat) : Below B a (w.drewN n) := ⟨h.os, h.tape, h.output, h.size, h.block⟩
theorem eq_rows (b c b2 c2 : Nat) (xs : List P2) (hx : xs.length ≤ 9223372036854775807) (w : World) (h1 : RowP w b xs) (h2 : RowP w b2 xs) :
    Calls Try.prog 20 #[.slice (some ⟨b, 0, none⟩) xs.length c, .slice (some ⟨b2, 0, none⟩) xs.length c2] w fun e w' => e = .returned (.bool true) ∧ Below w.heap.size w w' :=
  eq_same b 0 c b2 0 c2 xs hx w h1.at h2.at h1.lt h2.lt
end Go.Proofs.Ytohihlhkheeemaa.Pt
