/- impl.signsBy: the signs that a function tells of each three. -/
import Derived.Test.YtfpbehnpaedpmaaSgMapOf
import Derived.Shelf.GgClosure.Gives
import Derived.Laws.IdiomStrings
namespace Go.Proofs.Ytfpbehnpaedpmaa.Sg
open Go.RowKit Pt
/-- The result's block: still as it was made. -/
def ResC (w0 W : World) : Prop := (W.cell? ⟨w0.heap.size, 0, none⟩ = some (.int .i64 0) ∧ W.cell? ⟨w0.heap.size, 1, none⟩ = some (.string ⟨#[]⟩)) ∧ (W.frozen? ⟨w0.heap.size, 0, none⟩ = false ∧ W.frozen? ⟨w0.heap.size, 1, none⟩ = false) ∧ Below w0.heap.size w0 W
theorem ResC.lt {w0 W : World} (h : ResC w0 W) : w0.heap.size < W.heap.size := Kit.cell_lt h.1.1
theorem ResC.on' {w0 W W' : World} {B : Nat} (h : ResC w0 W) (hb : Below B W W') (hl : w0.heap.size < B) (_hs : B ≤ W.heap.size) : ResC w0 W' := by
  obtain ⟨⟨h1, h2⟩, ⟨h3, h4⟩, h5⟩ := h
  exact ⟨⟨by rw [hb.cell hl]; exact h1, by rw [hb.cell hl]; exact h2⟩, ⟨by rw [hb.frozen hl]; exact h3, by rw [hb.frozen hl]; exact h4⟩, h5.trans (hb.mono (by omega))⟩
theorem ResC.on {w0 W W' : World} (h : ResC w0 W) (hb : Below W.heap.size W W') : ResC w0 W' := h.on' hb h.lt (Nat.le_refl _)
theorem ResC.alloc {w0 W : World} (h : ResC w0 W) (o : Obj) : ResC w0 (W.alloc o) := h.on ((Below.refl _ _).alloc (Nat.le_refl _) o)
end Go.Proofs.Ytfpbehnpaedpmaa.Sg
