/- impl.foursOf: the fours of n elements, in memory of the call's own. -/
import Derived.Test.YtfpbehnpaedpmaaSgMapOf
import Derived.Test.YtfpbehnpaedpmaaRuMath
import Derived.BigQuiet
namespace Go.Proofs.Ytfpbehnpaedpmaa.Sg
open Go.RowKit Pt
/-- The cells of a list of fours. -/
def c4 : List T4 → List Value
  | [] => []
  | t :: r => .int .i64 t.1 :: .int .i64 t.2.1 :: .int .i64 t.2.2.1 :: .int .i64 t.2.2.2 :: c4 r
/-- The cells of a row of fours. -/
def At4 (w : World) (g : Nat) (xs : List T4) : Prop := ∀ (j : Nat) t, xs[j]? = some t → w.cell? ⟨g, j * 4, none⟩ = some (.int .i64 t.1) ∧ w.cell? ⟨g, j * 4 + 1, none⟩ = some (.int .i64 t.2.1) ∧ w.cell? ⟨g, j * 4 + 2, none⟩ = some (.int .i64 t.2.2.1) ∧ w.cell? ⟨g, j * 4 + 3, none⟩ = some (.int .i64 t.2.2.2)
theorem At4.block {w w' : World} {g : Nat} {xs : List T4} (h : At4 w g xs) (e : w'.heap[g]? = w.heap[g]?) : At4 w' g xs := fun j t hj => by
  have c := fun o => World.cell?_of_block (a := ⟨g, o, none⟩) e
  rw [c, c, c, c]
  exact h j t hj
theorem At4.on {w w' : World} {B g : Nat} {xs : List T4} (h : At4 w g xs) (hb : Below B w w') (hB : g < B) : At4 w' g xs := h.block (hb.block g hB)
/-- A row's block is none whose cells are of another type. -/
theorem own_box {w : World} {B b n size : Nat} {e e' : TypeId} {v : Value} {xs : List Value} {cs : Array Value} (h : w.ownsRow B e size v n xs) (hb : w.heap[b]? = some (.cells cs e')) (hne : e ≠ e') : some b ≠ v.ownBlock := by
  rcases h.2 with ⟨rfl, -⟩ | ⟨g, cap, cur, rfl, -, hh, -⟩
  · simp [Value.ownBlock]
  · intro e2
    have e2 : b = g := by simpa [Value.ownBlock] using e2
    subst e2
    rw [hh] at hb
    injection hb with hb
    injection hb with _ ht
    exact hne ht
theorem heap_made (w : World) (o : Obj) : (w.alloc o).heap[w.heap.size]? = some o := (MapKept.heap_alloc w o).1
end Go.Proofs.Ytfpbehnpaedpmaa.Sg
