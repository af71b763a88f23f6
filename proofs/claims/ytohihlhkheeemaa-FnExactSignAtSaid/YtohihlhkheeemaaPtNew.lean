/- A slice of points of a call's own, empty or not: asked, marked, asked again. -/
import Derived.Test.YtohihlhkheeemaaPtArg
import Derived.Laws.AppendOwn
import Derived.Laws.OwnMore
import Derived.OwnWalk
import Derived.Deep.AppendLies
namespace Go.Proofs.Ytohihlhkheeemaa.Pt
open Go.RowKit
/-- The first m cells of block b hold f; none is frozen. -/
structure Cells (w : World) (b m : Nat) (f : Nat → Value) : Prop where
  cell : ∀ j, j < m → w.cell? ⟨b, j, none⟩ = some (f j)
  frozen : ∀ j, w.frozen? ⟨b, j, none⟩ = false
  lt : b < w.heap.size
theorem Cells.congr {w : World} {b m : Nat} {f g : Nat → Value} (h : Cells w b m f) (e : ∀ i, i < m → f i = g i) : Cells w b m g := ⟨fun j hj => by rw [h.cell j hj, e j hj], h.frozen, h.lt⟩
theorem Cells.block {w w' : World} {b m : Nat} {f : Nat → Value} (h : Cells w b m f) (e : w'.heap[b]? = w.heap[b]?) (hs : w.heap.size ≤ w'.heap.size) : Cells w' b m f :=
  ⟨fun j hj => by rw [World.cell?_of_block (a := ⟨b, j, none⟩) e]; exact h.cell j hj, fun j => by rw [World.frozen?_of_block (a := ⟨b, j, none⟩) e]; exact h.frozen j, Nat.lt_of_lt_of_le h.lt hs⟩
theorem Cells.on {w w' : World} {b m : Nat} {f : Nat → Value} (h : Cells w b m f) (hb : Below w.heap.size w w') : Cells w' b m f := h.block (hb.block b h.lt) hb.size
theorem Cells.set {w : World} {b m : Nat} {f : Nat → Value} (h : Cells w b m f) (i : Nat) (hi : i < m) (v : Value) : Cells (w.setCell ⟨b, i, none⟩ v) b m (fun j => if j = i then v else f j) :=
  ⟨fun j hj => by
    by_cases e : j = i
    · subst e
      rw [if_pos rfl]
      exact World.cell?_setCell_same w ⟨b, j, none⟩ v (h.cell j hj)
    · rw [if_neg e, World.cell?_setCell_other w _ _ v (fun he => e (by injection he with _ h2; exact h2.symm))]
      exact h.cell j hj, fun j => by rw [World.frozen?_setCell]; exact h.frozen j, by simpa [World.setCell] using h.lt⟩
theorem Cells.of_row {w : World} {b m : Nat} {t : TypeId} {f : Nat → Value} (h : w.rowIs b t m f) : Cells w b m f := ⟨fun _ hj => h.cell hj, h.frozen, h.lt⟩
theorem Cells.atP {w : World} {b : Nat} {xs : List P2} (h : Cells w b (xs.length * 2) (ptCell xs)) : AtP w b 0 xs := fun j x hx => by
  obtain ⟨hj, rfl⟩ := List.getElem?_eq_some_iff.1 hx
  have h1 := h.cell (j * 2) (by omega)
  have h2 := h.cell (j * 2 + 1) (by omega)
  rw [ptCell_even xs j hj] at h1
  rw [ptCell_odd xs j hj] at h2
  exact ⟨by simpa using h1, by simpa using h2⟩
/-- The cells of a list of points. -/
def ptCells : List P2 → List Value
  | [] => []
  | p :: r => .int .i64 p.1 :: .int .i64 p.2 :: ptCells r
theorem ptCells_length : ∀ xs : List P2, (ptCells xs).length = xs.length * 2
  | [] => rfl
  | p :: r => by simp [ptCells, ptCells_length r]; omega
theorem ptCells_append : ∀ xs ys : List P2, ptCells (xs ++ ys) = ptCells xs ++ ptCells ys
  | [], ys => rfl
  | p :: r, ys => by simp [ptCells, ptCells_append r ys]
theorem ptCells_get : ∀ (xs : List P2) (j : Nat), j < xs.length * 2 → (ptCells xs)[j]? = some (ptCell xs j)
  | [], j, h => by simp at h
  | p :: r, 0, _ => rfl
  | p :: r, 1, _ => rfl
  | p :: r, j + 2, h => by
    have := ptCells_get r j (by simp at h; omega)
    simp only [ptCells, List.getElem?_cons_succ, this]
    unfold ptCell
    rw [show (j + 2) % 2 = j % 2 by omega, show (j + 2) / 2 = j / 2 + 1 by omega]
    simp
/-- A value that owns just these points. -/
def Owns (w : World) (B : Nat) (v : Value) (xs : List P2) : Prop := w.ownsRow B 60 2 v xs.length (ptCells xs)

/-- A slice that is empty, or whose cells lie in a block from lo on and before hi. -/
def New (w : World) (lo hi : Nat) (a : Option Addr) (n : Nat) (f : Nat → Value) : Prop := n = 0 ∨ ∃ b, a = some ⟨b, 0, none⟩ ∧ lo ≤ b ∧ b < hi ∧ Cells w b (n * 2) f
theorem New.on {w w' : World} {lo hi n : Nat} {a : Option Addr} {f : Nat → Value} (h : New w lo hi a n f) (hb : Below w.heap.size w w') : New w' lo hi a n f := by
  rcases h with h | ⟨b, h1, h2, h3, h4⟩
  · exact .inl h
  · exact .inr ⟨b, h1, h2, h3, h4.on hb⟩
/-- Below B and from hi on nothing has changed; the heap has grown. -/
structure Out (lo hi : Nat) (w w' : World) : Prop where
  os : w'.os = w.os
  tape : w'.tape = w.tape
  output : w'.output = w.output
  size : w.heap.size ≤ w'.heap.size
  block : ∀ i, i < w.heap.size → ¬ (lo ≤ i ∧ i < hi) → w'.heap[i]? = w.heap[i]?
theorem Out.refl (lo hi : Nat) (w : World) : Out lo hi w w := ⟨rfl, rfl, rfl, Nat.le_refl _, fun _ _ _ => rfl⟩
theorem Out.below {lo hi B : Nat} {w w' : World} (h : Out lo hi w w') (hB : B ≤ lo) (hBw : B ≤ w.heap.size) : Below B w w' := ⟨h.os, h.tape, h.output, h.size, fun i hi => h.block i (by omega) (by omega)⟩
theorem New.far {w w' : World} {lo hi lo' hi' n : Nat} {a : Option Addr} {f : Nat → Value} (h : New w lo hi a n f) (ho : Out lo' hi' w w') (hd : hi ≤ lo' ∨ hi' ≤ lo) : New w' lo hi a n f := by
  rcases h with h | ⟨b, h1, h2, h3, h4⟩
  · exact .inl h
  · exact .inr ⟨b, h1, h2, h3, h4.block (ho.block b h4.lt (by omega)) ho.size⟩
theorem New.of_row {w : World} {b : Nat} {xs : List P2} (h : RowP w b xs) : New w b (b + 1) (some ⟨b, 0, none⟩) xs.length (ptCell xs) := .inr ⟨b, rfl, Nat.le_refl _, by omega, Cells.of_row h⟩
theorem New.of_own {w : World} {B : Nat} {v : Value} {xs : List P2} (h : Owns w B v xs) : ∃ a c, v = .slice a xs.length c ∧ New w B w.heap.size a xs.length (ptCell xs) := by
  obtain ⟨-, ⟨rfl, h1⟩ | ⟨g, cap, cur, rfl, hB, hh, hr⟩⟩ := id h
  · exact ⟨none, 0, by rw [h1], .inl h1⟩
  · have hlt := (World.ownsRow.lt h g rfl).2
    refine ⟨some ⟨g, 0, none⟩, cap, rfl, .inr ⟨g, rfl, hB, hlt, fun j hj => ?_, fun j => World.ownsRow.frozenAt h j, hlt⟩⟩
    rw [World.ownsRow.cellAt h j hj, ptCells_get xs j hj]

/-- Of the cells of a row: the first m bear the marks from k on. -/
def marked (k m : Nat) (f : Nat → Value) (j : Nat) : Value := if j < m then .int .i64 (k + j : Nat) else f j
theorem marked_step (k0 k : Nat) (f : Nat → Value) (n i : Nat) (_ : i < n) :
    (if i = k * 2 + 1 then Value.int .i64 ((k0 + k * 2 + 1 : Nat) : Int) else if i = k * 2 then Value.int .i64 ((k0 + k * 2 : Nat) : Int) else marked k0 (k * 2) f i) = marked k0 ((k + 1) * 2) f i := by
  unfold marked
  by_cases e1 : i = k * 2 + 1
  · subst e1; rw [if_pos rfl, if_pos (by omega), show k0 + k * 2 + 1 = k0 + (k * 2 + 1) by omega]
  · rw [if_neg e1]
    by_cases e : i = k * 2
    · subst e; rw [if_pos rfl, if_pos (by omega)]
    · rw [if_neg e]
      by_cases h2 : i < k * 2
      · rw [if_pos h2, if_pos (by omega)]
      · rw [if_neg h2, if_neg (by omega)]
theorem grown_set {w w' : World} {b : Nat} (h : w.grownBy w' (some b)) (j : Nat) (v : Value) : w.grownBy (w'.setCell ⟨b, j, none⟩ v) (some b) :=
  ⟨h.os, h.tape, h.output, by simpa [World.setCell] using h.size, fun i hi hn => (Below.heap_setCell w' ⟨b, j, none⟩ v i (fun e => hn (by rw [e]))).trans (h.block i hi hn)⟩

theorem ptCell_int (xs : List P2) (j : Nat) : ∃ x, ptCell xs j = .int .i64 x := ⟨_, rfl⟩
theorem eq_new (lo hi lo2 hi2 : Nat) (a a2 : Option Addr) (c c2 : Nat) (xs : List P2) (hx : xs.length ≤ 9223372036854775807) (w : World) (h1 : New w lo hi a xs.length (ptCell xs)) (h2 : New w lo2 hi2 a2 xs.length (ptCell xs)) :
    Calls Try.prog 20 #[.slice a xs.length c, .slice a2 xs.length c2] w fun e w' => e = .returned (.bool true) ∧ Below w.heap.size w w' := by
  rcases h1 with h1 | ⟨b, rfl, -, -, h1⟩
  · rw [h1]; exact (eq_none a a2 c c2 w).mono fun _ _ ⟨he, hw⟩ => ⟨he, by subst hw; exact Below.refl _ _⟩
  · rcases h2 with h2 | ⟨b2, rfl, -, -, h2⟩
    · rw [h2]; exact (eq_none _ a2 c c2 w).mono fun _ _ ⟨he, hw⟩ => ⟨he, by subst hw; exact Below.refl _ _⟩
    · exact eq_same b 0 c b2 0 c2 xs hx w h1.atP h2.atP h1.lt h2.lt
end Go.Proofs.Ytohihlhkheeemaa.Pt
