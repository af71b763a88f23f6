/- impl.signsBy: the signs that a function tells of each three. -/
import Derived.Test.YtfjimdmoindepaaSgMapOf
import Derived.Shelf.GgClosure.Gives
import Derived.Laws.IdiomStrings
namespace Go.Proofs.Ytfjimdmoindepaa.Sg
open Go.RowKit Pt
/-- The text of the signs f of n elements. -/
def text3 (n : Nat) (f : Nat → Nat → Nat → Int) : List UInt8 := (threes n).map fun t => byteOf (f t.1 t.2.1 t.2.2)
theorem text3_length {n : Nat} (h7 : n ≤ 7) (f : Nat → Nat → Nat → Int) : (text3 n f).length = cnt n := by unfold text3; rw [List.length_map, threes_length h7]
theorem text3_congr {n : Nat} (h7 : n ≤ 7) {f g : Nat → Nat → Nat → Int} (h : ∀ i j k, i < j → j < k → k < n → f i j k = g i j k) : text3 n f = text3 n g := by
  unfold text3
  refine List.map_congr_left fun t ht => ?_
  obtain ⟨h1, h2, h3⟩ := threes_mem h7 ht
  rw [h _ _ _ h1 h2 h3]
/-- The result's block: still as it was made. -/
def ResC (w0 W : World) : Prop := (W.cell? ⟨w0.heap.size, 0, none⟩ = some (.int .i64 0) ∧ W.cell? ⟨w0.heap.size, 1, none⟩ = some (.string ⟨#[]⟩)) ∧ (W.frozen? ⟨w0.heap.size, 0, none⟩ = false ∧ W.frozen? ⟨w0.heap.size, 1, none⟩ = false) ∧ Below w0.heap.size w0 W
theorem resC_made (w : World) (t : TypeId) : ResC w (w.alloc (.cells #[.int .i64 0, .string ⟨#[]⟩] t)) := by
  refine ⟨⟨?_, ?_⟩, ⟨?_, ?_⟩, (Below.refl _ _).alloc (Nat.le_refl _) _⟩
  all_goals go_simp
theorem ResC.lt {w0 W : World} (h : ResC w0 W) : w0.heap.size < W.heap.size := Kit.cell_lt h.1.1
theorem ResC.on' {w0 W W' : World} {B : Nat} (h : ResC w0 W) (hb : Below B W W') (hl : w0.heap.size < B) (_hs : B ≤ W.heap.size) : ResC w0 W' := by
  obtain ⟨⟨h1, h2⟩, ⟨h3, h4⟩, h5⟩ := h
  exact ⟨⟨by rw [hb.cell hl]; exact h1, by rw [hb.cell hl]; exact h2⟩, ⟨by rw [hb.frozen hl]; exact h3, by rw [hb.frozen hl]; exact h4⟩, h5.trans (hb.mono (by omega))⟩
theorem ResC.on {w0 W W' : World} (h : ResC w0 W) (hb : Below W.heap.size W W') : ResC w0 W' := h.on' hb h.lt (Nat.le_refl _)
theorem ResC.alloc {w0 W : World} (h : ResC w0 W) (o : Obj) : ResC w0 (W.alloc o) := h.on ((Below.refl _ _).alloc (Nat.le_refl _) o)
theorem ret_sg {w1 : World} {B : Nat} {x0 y0 : Value} (e0 : w1.cell? ⟨B, 0, none⟩ = some x0) (e1 : w1.cell? ⟨B, 1, none⟩ = some y0) (x y : Value) :
    ((w1.setCell ⟨B, 0, none⟩ x).setCell ⟨B, 1, none⟩ y).cell? ⟨B, 0, none⟩ = some x ∧ ((w1.setCell ⟨B, 0, none⟩ x).setCell ⟨B, 1, none⟩ y).cell? ⟨B, 1, none⟩ = some y := by
  constructor
  · rw [World.cell?_setCell_other _ _ _ _ (by simp)]; exact World.cell?_setCell_same _ _ _ e0
  · exact World.cell?_setCell_same _ _ _ (by rw [World.cell?_setCell_other _ _ _ _ (by simp)]; exact e1)
/-- Of the bytes L those before number p; behind them zeros. -/
def byteSofar (L : List UInt8) (p j : Nat) : Value := if j < p then .int .u8 ((L.getD j 0).toNat : Nat) else .int .u8 0
theorem byteSofar_step (L : List UInt8) (p : Nat) (b : UInt8) (h : L[p]? = some b) (i : Nat) : (if i = p then Value.int .u8 (b.toNat : Nat) else byteSofar L p i) = byteSofar L (p + 1) i := by
  unfold byteSofar
  by_cases e : i = p
  · subst e
    rw [if_pos rfl, if_pos (by omega), List.getD_eq_getElem?_getD, h]; rfl
  · rw [if_neg e]
    by_cases h2 : i < p
    · rw [if_pos h2, if_pos (by omega)]
    · rw [if_neg h2, if_neg (by omega)]
set_option maxRecDepth 100000 in
theorem info8 : (Try.prog.info? 5).map (fun i => (i.zero, i.size, i.bytes)) = some (some (.int .u8 0), 1, 1) := by kernel_rfl
end Go.Proofs.Ytfjimdmoindepaa.Sg
