/- A slice of ints of a call's own, empty or not: asked, marked, asked again. -/
import Derived.Test.YtinlnafkmoabbaaGreatDoorMgSt
import Derived.Laws.AppendOwn
import Derived.Laws.OwnMore
import Derived.OwnWalk
import Derived.Deep.AppendLies
import Derived.BigQuiet
namespace Go.Proofs.YtinlnafkmoabbaaGreatDoor.NewI
open Go.RowKit
/-- The first m cells of block b hold f; none is frozen. -/
structure Cells (w : World) (b m : Nat) (f : Nat → Value) : Prop where
  cell : ∀ j, j < m → w.cell? ⟨b, j, none⟩ = some (f j)
  frozen : ∀ j, w.frozen? ⟨b, j, none⟩ = false
  lt : b < w.heap.size
theorem Cells.congr {w : World} {b m : Nat} {f g : Nat → Value} (h : Cells w b m f) (e : ∀ i, i < m → f i = g i) : Cells w b m g := ⟨fun j hj => by rw [h.cell j hj, e j hj], h.frozen, h.lt⟩
theorem Cells.block {w w' : World} {b m : Nat} {f : Nat → Value} (h : Cells w b m f) (e : w'.heap[b]? = w.heap[b]?) (hs : w.heap.size ≤ w'.heap.size) : Cells w' b m f :=
  ⟨fun j hj => by rw [World.cell?_of_block (a := ⟨b, j, none⟩) e]; exact h.cell j hj, fun j => by rw [World.frozen?_of_block (a := ⟨b, j, none⟩) e]; exact h.frozen j, Nat.lt_of_lt_of_le h.lt hs⟩
theorem Cells.on {w w' : World} {b m : Nat} {f : Nat → Value} (h : Cells w b m f) (hb : Below w.heap.size w w') : Cells w' b m f := h.block (hb.block b h.lt) hb.size
theorem Cells.set {w : World} {b m : Nat} {f : Nat → Value} (h : Cells w b m f) (i : Nat) (hi : i < m) (v : Value) : Cells (w.setCell ⟨b, i, none⟩ v) b m (fun j => if j = i then v else f j) :=
  ⟨fun j hj => by
    by_cases e : j = i
    · subst e
      rw [if_pos rfl]
      exact World.cell?_setCell_same w ⟨b, j, none⟩ v (h.cell j hj)
    · rw [if_neg e, World.cell?_setCell_other w _ _ v (fun he => e (by injection he with _ h2; exact h2.symm))]
      exact h.cell j hj, fun j => by rw [World.frozen?_setCell]; exact h.frozen j, by simpa [World.setCell] using h.lt⟩
def zc (zs : List Int) (j : Nat) : Value := .int .i64 (zs.getD j 0)
theorem zc_lt {zs : List Int} {j : Nat} (h : j < zs.length) : zc zs j = .int .i64 zs[j] := by unfold zc; rw [List.getD_eq_getElem?_getD, List.getElem?_eq_getElem h]; rfl
/-- A value that owns just these numbers. -/
def OwnsZ (w : World) (B : Nat) (v : Value) (zs : List Int) : Prop := w.ownsRow B 3 1 v zs.length (zs.map (Value.int .i64))
theorem ownsZ_snoc {w : World} {B : Nat} {v : Value} {zs ys : List Int} (h : w.ownsRow B 3 1 v (zs.length + ys.length) (zs.map (Value.int .i64) ++ ys.map (Value.int .i64))) : OwnsZ w B v (zs ++ ys) := by
  unfold OwnsZ
  rw [List.map_append, List.length_append]
  exact h
/-- A slice that is empty, or whose cells lie in a block from lo on and before hi. -/
def New (w : World) (lo hi : Nat) (a : Option Addr) (n : Nat) (f : Nat → Value) : Prop := n = 0 ∨ ∃ b, a = some ⟨b, 0, none⟩ ∧ lo ≤ b ∧ b < hi ∧ Cells w b n f
theorem New.on {w w' : World} {lo hi n : Nat} {a : Option Addr} {f : Nat → Value} (h : New w lo hi a n f) (hb : Below w.heap.size w w') : New w' lo hi a n f := by
  rcases h with h | ⟨b, h1, h2, h3, h4⟩
  · exact .inl h
  · exact .inr ⟨b, h1, h2, h3, h4.on hb⟩
/-- Below B and from hi on nothing has changed; the heap has grown. -/
structure Out (lo hi : Nat) (w w' : World) : Prop where
  os : w'.os = w.os
  tape : w'.tape = w.tape
  output : w'.output = w.output
  size : w.heap.size ≤ w'.heap.size
  block : ∀ i, i < w.heap.size → ¬ (lo ≤ i ∧ i < hi) → w'.heap[i]? = w.heap[i]?
theorem Out.refl (lo hi : Nat) (w : World) : Out lo hi w w := ⟨rfl, rfl, rfl, Nat.le_refl _, fun _ _ _ => rfl⟩
theorem Out.below {lo hi B : Nat} {w w' : World} (h : Out lo hi w w') (hB : B ≤ lo) (hBw : B ≤ w.heap.size) : Below B w w' := ⟨h.os, h.tape, h.output, h.size, fun i hi => h.block i (by omega) (by omega)⟩
theorem New.far {w w' : World} {lo hi lo' hi' n : Nat} {a : Option Addr} {f : Nat → Value} (h : New w lo hi a n f) (ho : Out lo' hi' w w') (hd : hi ≤ lo' ∨ hi' ≤ lo) : New w' lo hi a n f := by
  rcases h with h | ⟨b, h1, h2, h3, h4⟩
  · exact .inl h
  · exact .inr ⟨b, h1, h2, h3, h4.block (ho.block b h4.lt (by omega)) ho.size⟩
theorem New.of_own {w : World} {B : Nat} {v : Value} {zs : List Int} (h : OwnsZ w B v zs) : ∃ a c, v = .slice a zs.length c ∧ New w B w.heap.size a zs.length (zc zs) ∧ (zs ≠ [] → a.isNone = false) := by
  obtain ⟨-, ⟨rfl, h1⟩ | ⟨g, cap, cur, rfl, hB, hh, hr⟩⟩ := id h
  · exact ⟨none, 0, by rw [h1], .inl h1, fun hne => absurd (List.eq_nil_of_length_eq_zero h1) hne⟩
  · have hlt := (World.ownsRow.lt h g rfl).2
    refine ⟨some ⟨g, 0, none⟩, cap, rfl, .inr ⟨g, rfl, hB, hlt, fun j hj => ?_, fun j => World.ownsRow.frozenAt h j, hlt⟩, fun _ => rfl⟩
    rw [World.ownsRow.cellAt h j (by omega), List.getElem?_map, List.getElem?_eq_getElem hj, zc_lt hj]; rfl
/-- What a function hands back that makes a slice of these numbers. -/
def Got (B : Nat) (zs : List Int) (e : Ending) (w' : World) : Prop := ∃ a c, e = .returned (.slice a zs.length c) ∧ New w' B w'.heap.size a zs.length (zc zs)
theorem grown_set {w w' : World} {b : Nat} (h : w.grownBy w' (some b)) (j : Nat) (v : Value) : w.grownBy (w'.setCell ⟨b, j, none⟩ v) (some b) :=
  ⟨h.os, h.tape, h.output, by simpa [World.setCell] using h.size, fun i hi hn => (Below.heap_setCell w' ⟨b, j, none⟩ v i (fun e => hn (by rw [e]))).trans (h.block i hi hn)⟩
end Go.Proofs.YtinlnafkmoabbaaGreatDoor.NewI
