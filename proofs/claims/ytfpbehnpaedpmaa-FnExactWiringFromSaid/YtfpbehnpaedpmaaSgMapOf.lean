/- impl.signMapOf: a map that has the sign of each three in order. -/
import Derived.Test.YtfpbehnpaedpmaaSgMap
import Derived.StillTailTactics
import Derived.Maps.OwnSet
namespace Go.Proofs.Ytfpbehnpaedpmaa.Sg
open Go.RowKit Pt Go.Maps
/-- The signs at the threes before number p. -/
def lookTo (n : Nat) (s : List UInt8) (p : Nat) (a b c : Int) : Int := if (0 ≤ a ∧ a < b ∧ b < c ∧ c < n) ∧ idx n a.toNat b.toNat c.toNat < p then sgn1 (s.getD (idx n a.toNat b.toNat c.toNat) 0) else 0
/-- A map's keys are small elements alone. -/
def KeysIn (D : DataW Unit) : Prop := ∀ x y z : Int, -9223372036854775808 ≤ x ∧ x ≤ 9223372036854775807 → -9223372036854775808 ≤ y ∧ y ≤ 9223372036854775807 → -9223372036854775808 ≤ z ∧ z ≤ 9223372036854775807 → ¬ ((0 ≤ x ∧ x < 8) ∧ (0 ≤ y ∧ y < 8) ∧ 0 ≤ z ∧ z < 8) → ∀ zd, D.atKey (kl x y z) zd = zd
/-- The map's state at three number p. -/
def MapTo (n : Nat) (s : List UInt8) (p : Nat) (D : DataW Unit) : Prop :=
  (∀ x y z : Int, -9223372036854775808 ≤ x ∧ x ≤ 9223372036854775807 → -9223372036854775808 ≤ y ∧ y ≤ 9223372036854775807 → -9223372036854775808 ≤ z ∧ z ≤ 9223372036854775807 → D.atKey (kl x y z) (.lit (.int .i64 0)) = .lit (.int .i64 (lookTo n s p x y z))) ∧ KeysIn D
/-- The cells of a row of threes. -/
def At3 (w : World) (g : Nat) (xs : List T3) : Prop := ∀ (j : Nat) t, xs[j]? = some t → w.cell? ⟨g, j * 3, none⟩ = some (.int .i64 t.1) ∧ w.cell? ⟨g, j * 3 + 1, none⟩ = some (.int .i64 t.2.1) ∧ w.cell? ⟨g, j * 3 + 2, none⟩ = some (.int .i64 t.2.2)
theorem At3.block {w w' : World} {g : Nat} {xs : List T3} (h : At3 w g xs) (e : w'.heap[g]? = w.heap[g]?) : At3 w' g xs := fun j t hj => by
  have c := fun o => World.cell?_of_block (a := ⟨g, o, none⟩) e
  rw [c, c, c]
  exact h j t hj
theorem At3.on {w w' : World} {B g : Nat} {xs : List T3} (h : At3 w g xs) (hb : Below B w w') (hB : g < B) : At3 w' g xs := h.block (hb.block g hB)
theorem Box.block {w0 : World} {n : Int} {s : ByteArray} {w w' : World} (h : Box w0 n s w) (e : w'.heap[w0.heap.size]? = w.heap[w0.heap.size]?) (hb : Below w0.heap.size w0 w') : Box w0 n s w' :=
  ⟨by rw [World.cell?_of_block (a := ⟨w0.heap.size, 0, none⟩) e]; exact h.1, by rw [World.cell?_of_block (a := ⟨w0.heap.size, 1, none⟩) e]; exact h.2.1, hb⟩
end Go.Proofs.Ytfpbehnpaedpmaa.Sg
