/- OppositeSigns, as spec answers it; the law. -/
import Derived.Test.YtfpbehnpaedpmaaSgBy
import Derived.Test.YtfpbehnpaedpmaaSgMapOf
import Derived.Shelf.Abstract
import Derived.Test.YtfpbehnpaedpmaaPtArea
import Derived.Laws.Strings
namespace Go.Proofs.Ytfpbehnpaedpmaa.Sg
open Go.RowKit Pt
/-- Signs in the making, in block Bo. -/
def OutC (Bo : Nat) (n : Int) (x : ByteArray) (W : World) : Prop := (W.cell? ⟨Bo, 0, none⟩ = some (.int .i64 n) ∧ W.cell? ⟨Bo, 1, none⟩ = some (.string x)) ∧ (W.frozen? ⟨Bo, 0, none⟩ = false ∧ W.frozen? ⟨Bo, 1, none⟩ = false)
theorem OutC.set {Bo : Nat} {n : Int} {x : ByteArray} {W : World} (h : OutC Bo n x W) (y : ByteArray) : OutC Bo n y (W.setCell ⟨Bo, 1, none⟩ (.string y)) := by
  obtain ⟨⟨h1, h2⟩, ⟨h3, h4⟩⟩ := h
  exact ⟨⟨by rw [World.cell?_setCell_other _ _ _ _ (by simp)]; exact h1, World.cell?_setCell_same _ _ _ h2⟩, ⟨by rw [World.frozen?_setCell]; exact h3, by rw [World.frozen?_setCell]; exact h4⟩⟩
theorem OutC.on {Bo : Nat} {n : Int} {x : ByteArray} {W W' : World} (h : OutC Bo n x W) (hb : Below W.heap.size W W') : OutC Bo n x W' := by
  obtain ⟨⟨h1, h2⟩, ⟨h3, h4⟩⟩ := h
  have hl : Bo < W.heap.size := Kit.cell_lt h1
  exact ⟨⟨by rw [hb.cell hl]; exact h1, by rw [hb.cell hl]; exact h2⟩, ⟨by rw [hb.frozen hl]; exact h3, by rw [hb.frozen hl]; exact h4⟩⟩
theorem Box.on' {w0 : World} {n : Int} {s : ByteArray} {w w' : World} {B : Nat} (h : Box w0 n s w) (hb : Below B w w') (hl : w0.heap.size < B) (_hs : B ≤ w.heap.size) : Box w0 n s w' :=
  ⟨by rw [hb.cell hl]; exact h.1, by rw [hb.cell hl]; exact h.2.1, h.2.2.trans (hb.mono (by omega))⟩
end Go.Proofs.Ytfpbehnpaedpmaa.Sg
