/- A number put into an ascending list, as spec does it: l10Add. -/
import Derived.Test.YtinlnafkmoabbaaDoorMgTc
import Derived.Deep.AppendLies
namespace Go.Proofs.YtinlnafkmoabbaaDoor.Sg
open Go.RowKit Pt NewI
/-- A row of numbers of the call's own that isn't nil. -/
def OwnN (w : World) (B g cap : Nat) (L : List Nat) : Prop := w.ownsRow B 3 1 (.slice (some ⟨g, 0, none⟩) L.length cap) L.length ((zl L).map (Value.int .i64))
theorem zlN_len (L : List Nat) : (zl L).length = L.length := List.length_map _
theorem vals_len (L : List Nat) : ((zl L).map (Value.int .i64)).length = L.length := by rw [List.length_map, zlN_len]
theorem vals_get {L : List Nat} {j : Nat} (h : j < L.length) : ((zl L).map (Value.int .i64))[j]? = some (.int .i64 (L.getD j 0 : Nat)) := by
  unfold zl
  rw [List.getElem?_map, List.getElem?_map, List.getElem?_eq_getElem h, List.getD_eq_getElem?_getD, List.getElem?_eq_getElem h]
  rfl
theorem OwnN.z {w : World} {B g cap : Nat} {L : List Nat} (h : OwnN w B g cap L) : OwnsZ w B (.slice (some ⟨g, 0, none⟩) L.length cap) (zl L) := by
  unfold OwnsZ
  rw [zlN_len]
  exact h
theorem OwnN.on {w w' : World} {B g cap : Nat} {L : List Nat} (h : OwnN w B g cap L) (hb : Below w.heap.size w w') : OwnN w' B g cap L := World.ownsRow.kept h (row := none) ⟨hb.os, hb.tape, hb.output, hb.size, fun k hk _ => hb.block k hk⟩ (by simp [Value.ownBlock])
theorem OwnN.lt {w : World} {B g cap : Nat} {L : List Nat} (h : OwnN w B g cap L) : B ≤ g ∧ g < w.heap.size ∧ L.length ≤ cap := by
  have hlt := World.ownsRow.lt h g rfl
  obtain ⟨-, ⟨h1, -⟩ | ⟨g', cap', cur, hv, hB, hh, hnc, -⟩⟩ := h
  · cases h1
  · injection hv with h1 h2 h3
    subst h3
    exact ⟨hlt.1, hlt.2, hnc⟩
theorem OwnN.cell {w : World} {B g cap : Nat} {L : List Nat} (h : OwnN w B g cap L) {j : Nat} (hj : j < L.length) : w.cell? ⟨g, j, none⟩ = some (.int .i64 (L.getD j 0 : Nat)) := by
  have h1 := World.ownsRow.cellAt h j (by omega)
  rw [vals_get hj] at h1
  exact h1
theorem OwnN.take {w : World} {B g cap : Nat} {L : List Nat} (h : OwnN w B g cap L) {m : Nat} (hm : m ≤ L.length) : w.ownsRow B 3 1 (.slice (some ⟨g, 0, none⟩) m cap) m ((zl (L.take m)).map (Value.int .i64)) := by
  obtain ⟨hl, ⟨hv, -⟩ | ⟨g', cap', cur, hv, hB, hh, hnc, hcm, hcs, ht⟩⟩ := h
  · cases hv
  · injection hv with h1 h2 h3
    injection h1 with h1
    injection h1 with h1
    subst h1 h3
    have e : (L.take m).length = m := by rw [List.length_take]; omega
    have e2 : (zl (L.take m)).map (Value.int .i64) = ((zl L).map (Value.int .i64)).take m := by unfold zl; rw [← List.map_take, ← List.map_take]
    refine ⟨by rw [vals_len]; omega, .inr ⟨g, cap, cur, rfl, hB, hh, by omega, hcm, hcs, ?_⟩⟩
    rw [e2, ← ht, List.take_take, Nat.min_eq_left (by omega), Nat.mul_one]
theorem OwnN.drop {w : World} {B g cap : Nat} {L : List Nat} (h : OwnN w B g cap L) (m : Nat) (o : Obj) : ∀ (j : Nat) u, ((zl (L.drop m)).map (Value.int .i64))[j]? = some u → (w.alloc o).cell? (Addr.add ⟨g, m, none⟩ j) = some u := fun j u hu => by
  have hj : j < (L.drop m).length := by
    rw [← vals_len (L.drop m)]
    exact (List.getElem?_eq_some_iff.1 hu).1
  rw [vals_get hj] at hu
  have hj2 : m + j < L.length := by rw [List.length_drop] at hj; omega
  have hc := h.cell hj2
  have e : (L.drop m).getD j 0 = L.getD (m + j) 0 := by rw [List.getD_eq_getElem?_getD, List.getElem?_drop, List.getD_eq_getElem?_getD]
  rw [e] at hu
  rw [WideShapes.add_plain, World.cell?_alloc_lt _ _ _ h.lt.2.1, hc]
  exact hu
end Go.Proofs.YtinlnafkmoabbaaDoor.Sg
