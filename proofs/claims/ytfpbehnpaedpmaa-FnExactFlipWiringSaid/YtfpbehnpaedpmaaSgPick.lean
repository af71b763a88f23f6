/- The signs of some elements: spec.l3Pick. -/
import Derived.Test.YtfpbehnpaedpmaaSgOppSpec
import Derived.Deep.RegionHeld3
import Derived.Test.YtfpbehnpaedpmaaProg
import Derived.WalkKit
import Derived.OrdersHeld
import Derived.Deep.RegionHeld
namespace Go.Proofs.Ytfpbehnpaedpmaa.Sg
open Go.RowKit Pt
/-- The cells of a slice of small numbers. -/
def IntsAt (w : World) (b : Nat) (es : List Nat) : Prop := ∀ (j x : Nat), es[j]? = some x → w.cell? ⟨b, j, none⟩ = some (.int .i64 x)
theorem IntsAt.on {w w' : World} {B b : Nat} {es : List Nat} (h : IntsAt w b es) (hb : Below B w w') (hB : b < B) : IntsAt w' b es := fun j x hx => by rw [hb.cell hB]; exact h j x hx
theorem IntsAt.get {w : World} {b : Nat} {es : List Nat} (h : IntsAt w b es) {i : Nat} (hi : i < es.length) : w.cell? ⟨b, i, none⟩ = some (.int .i64 es[i]) := h i _ (List.getElem?_eq_getElem hi)
end Go.Proofs.Ytfpbehnpaedpmaa.Sg
