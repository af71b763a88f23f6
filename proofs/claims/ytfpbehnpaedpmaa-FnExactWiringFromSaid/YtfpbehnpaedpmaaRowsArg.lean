/- A slice of slices of ints as an argument: opened, measured, read. -/
import Derived.Test.YtfpbehnpaedpmaaSgInts
import Derived.Test.YtfpbehnpaedpmaaFillL
import Derived.Deep.Matrix
namespace Go.Proofs.Ytfpbehnpaedpmaa.Kit
open Go.RowKit Go.WideShapes Go.ChangeShapes
def RowsArg (w : World) (v : Value) (S : List (List Int)) : Prop :=
  ∃ (a : Option Addr) (c : Nat), v = .slice a S.length c ∧ S.length ≤ 9223372036854775807 ∧ ∀ j, j < S.length → ∃ b o ra rc, a = some ⟨b, o, none⟩ ∧ b < w.heap.size ∧ w.cell? ⟨b, o + j, none⟩ = some (.slice ra (S.getD j []).length rc) ∧ IntsArg w (.slice ra (S.getD j []).length rc) (S.getD j [])
theorem open_rowsArg {H : Type} {enc : TypeId × Value → H} {P : Program} {w : World} {base : Nat} {held : Bool} {r : Reach} {b0 : Nat} {t e q : TypeId} {v : Value} {d : DataW H} {ps : List MemPlace} (ht : P.underlying t = some (.slice e)) (he : P.underlying e = some (.slice q)) (hq : P.underlying q = some (.int .i64)) (ce : P.cellsOf e = 1) (cq : P.cellsOf q = 1)
    (hval : Value.okWide P w r b0 t v) (h : DataW.Trod enc P w base (fun _ => true) held t v d ps) : ∃ S, RowsArg w v S := by
  obtain ⟨a0, len0, cap0, rfl⟩ := okWide_slice ht hval
  obtain ⟨fuel, hf⟩ := h
  have hM : (maxLen : Nat) = 9223372036854775807 := by decide
  rcases Go.Deep.open_int_rows ht he hq ce cq hf with ⟨hcs, _⟩ | ⟨a, len, cap, A, L, C, Z, hcs, -, hlc, hcm, -, hrow⟩
  · simp [Value.cells] at hcs
    obtain ⟨rfl, rfl, rfl⟩ := hcs
    exact ⟨[], none, 0, rfl, by simp, fun j hj => by simp at hj⟩
  · simp [Value.cells] at hcs
    obtain ⟨rfl, rfl, rfl⟩ := hcs
    refine ⟨(List.range len0).map fun r => (Z r).take (L r), some a, cap0, by rw [List.length_map, List.length_range], by rw [List.length_map, List.length_range]; omega, fun j hj => ?_⟩
    rw [List.length_map, List.length_range] at hj
    obtain ⟨hc, r1, r2, r3, r4, r5, r6⟩ := hrow j (by omega)
    have hS : ((List.range len0).map fun r => (Z r).take (L r)).getD j [] = (Z j).take (L j) := by
      rw [List.getD_eq_getElem?_getD, List.getElem?_map, List.getElem?_range hj]; rfl
    have hl : ((Z j).take (L j)).length = L j := by rw [List.length_take]; omega
    have hspot : a.spot = none := by simpa [Addr.add] using World.cell?_spot (hrow 0 (by omega)).1
    obtain ⟨b, off, spot⟩ := a
    have hspot : spot = none := hspot
    subst hspot
    rw [hS, hl]
    refine ⟨b, off, A j, C j, rfl, by have := cell_lt hc; rwa [add_plain] at this, by rw [← add_plain]; exact hc, A j, C j, by rw [hl], by rw [hl]; omega, fun z hz => bounds_i64 (r4 z (List.mem_of_mem_take hz)), ?_⟩
    rw [hl]
    by_cases h0 : L j = 0
    · exact Or.inl h0
    · right
      cases hA : A j with
      | none => have := r5 hA; omega
      | some a' =>
        obtain ⟨-, hcell⟩ := r6 a' hA
        have hc0 := hcell 0 (by omega)
        obtain ⟨b', off', spot'⟩ := a'
        have hsp : spot' = none := by simpa [Addr.add] using World.cell?_spot hc0
        subst hsp
        refine ⟨b', off', rfl, fun i z hz => ?_, by simpa [Addr.add] using cell_lt hc0, r1⟩
        obtain ⟨hi, rfl⟩ := List.getElem?_eq_some_iff.1 hz
        rw [hl] at hi
        rw [← add_plain, hcell i (by omega), List.getElem_take, List.getD_eq_getElem?_getD, List.getElem?_eq_getElem (by omega)]
        rfl
end Go.Proofs.Ytfpbehnpaedpmaa.Kit
