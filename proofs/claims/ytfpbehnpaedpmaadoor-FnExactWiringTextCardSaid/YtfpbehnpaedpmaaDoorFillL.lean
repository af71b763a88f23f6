/- Rows laid one by one into a slice of slices that was made whole. -/
import Derived.Test.YtfpbehnpaedpmaaDoorNewII
import Derived.Deep.OwnRows
namespace Go.Proofs.YtfpbehnpaedpmaaDoor.NewII
open Go.RowKit NewI
/-- Block b holds m slices: the first ones, xss, lie in blocks gs of their own, the others are nil still. -/
structure FillL (w : World) (B b m : Nat) (gs : List (Nat × Nat)) (xss : List (List Int)) : Prop where
  len : gs.length = xss.length
  b1 : B ≤ b
  out : Cells w b m (fun j => match gs[j]? with | some g => rowV g (ln xss j) | none => .slice none 0 0)
  row : ∀ (j : Nat) (g : Nat × Nat), gs[j]? = some g → B ≤ g.1 ∧ g.1 ≠ b ∧ Cells w g.1 (ln xss j) (org xss j)
  apart : ∀ (i j : Nat) (g g' : Nat × Nat), gs[i]? = some g → gs[j]? = some g' → i ≠ j → g.1 ≠ g'.1
theorem FillL.on {w w' : World} {B b m : Nat} {gs : List (Nat × Nat)} {xss : List (List Int)} (h : FillL w B b m gs xss) (hb : Below w.heap.size w w') : FillL w' B b m gs xss :=
  ⟨h.len, h.b1, h.out.on hb, fun j g hj => ⟨(h.row j g hj).1, (h.row j g hj).2.1, (h.row j g hj).2.2.on hb⟩, h.apart⟩
theorem FillL.made (w : World) (B m : Nat) (hB : B ≤ w.heap.size) : FillL (w.alloc (.cells (madeCells #[.slice none 0 0] m) 24)) B w.heap.size m [] [] := by
  have h := World.rowIs_made w (.slice none 0 0) m 24
  exact ⟨rfl, hB, ⟨fun j hj => World.rowIs.cell h hj, World.rowIs.frozen h, World.rowIs.lt h⟩, fun j g hj => by simp at hj, fun i j g g' hi => by simp at hi⟩
/-- One more row: in a block that is new. -/
theorem FillL.step {w w' : World} {B b m : Nat} {gs : List (Nat × Nat)} {xss : List (List Int)} {zs : List Int} {G c : Nat} (h : FillL w B b m gs xss) (hb : Below w.heap.size w w') (hk : xss.length < m) (hG : w.heap.size ≤ G) (hB : B ≤ G) (hc : Cells w' G zs.length (zc zs)) :
    FillL (w'.setCell ⟨b, xss.length, none⟩ (rowV (G, c) zs.length)) B b m (gs ++ [(G, c)]) (xss ++ [zs]) := by
  have hbl := h.out.lt
  have h' := h.on hb
  have far : ∀ {g k : Nat} {f : Nat → Value}, g ≠ b → Cells w' g k f → Cells (w'.setCell ⟨b, xss.length, none⟩ (rowV (G, c) zs.length)) g k f := fun hne hg =>
    hg.block (heap_setCell_other _ _ _ _ (by exact hne)) (by simp [World.setCell])
  refine ⟨by simp [h.len], h.b1, (h'.out.set xss.length hk _).congr (fun j hj => ?_), fun j g hj => ?_, fun i j g g' hi hj hij => ?_⟩
  · rcases Nat.lt_trichotomy j xss.length with hlt | rfl | hgt
    · rw [if_neg (by omega), List.getElem?_append_left (by rw [h.len]; exact hlt)]
      unfold ln
      rw [ln_old hlt]
    · rw [if_pos rfl, List.getElem?_append_right (by rw [h.len]; exact Nat.le_refl _), h.len, Nat.sub_self]
      unfold ln
      rw [ln_new]
      rfl
    · rw [if_neg (by omega), List.getElem?_eq_none (by rw [h.len]; omega), List.getElem?_eq_none (by rw [List.length_append, h.len]; simp; omega)]
  · rcases Nat.lt_or_ge j gs.length with hlt | hge
    · rw [List.getElem?_append_left hlt] at hj
      obtain ⟨r1, r2, r3⟩ := h'.row j g hj
      refine ⟨r1, r2, far r2 ?_⟩
      unfold ln org
      rw [ln_old (by rw [← h.len]; exact hlt)]
      exact r3
    · rw [List.getElem?_append_right hge] at hj
      have hj0 : j = gs.length := by
        rcases Nat.lt_or_ge (j - gs.length) 1 with h | h
        · omega
        · rw [List.getElem?_eq_none (by simpa using h)] at hj; cases hj
      subst hj0
      simp only [Nat.sub_self, List.getElem?_cons_zero, Option.some.injEq] at hj
      subst hj
      refine ⟨hB, by show G ≠ b; omega, far (by show G ≠ b; omega) ?_⟩
      unfold ln org
      rw [h.len, ln_new]
      exact hc
  · have old : ∀ {i : Nat} {g : Nat × Nat}, gs[i]? = some g → g.1 < G := fun hi => Nat.lt_of_lt_of_le (h.row _ _ hi).2.2.lt hG
    rcases Nat.lt_or_ge i gs.length with hlt | hge
    · rw [List.getElem?_append_left hlt] at hi
      rcases Nat.lt_or_ge j gs.length with hlt2 | hge2
      · rw [List.getElem?_append_left hlt2] at hj
        exact h.apart i j g g' hi hj hij
      · rw [List.getElem?_append_right hge2] at hj
        have hj0 : j = gs.length := by
          rcases Nat.lt_or_ge (j - gs.length) 1 with h | h
          · omega
          · rw [List.getElem?_eq_none (by simpa using h)] at hj; cases hj
        subst hj0
        simp only [Nat.sub_self, List.getElem?_cons_zero, Option.some.injEq] at hj
        subst hj
        have := old hi
        show g.1 ≠ G
        omega
    · rw [List.getElem?_append_right hge] at hi
      have hi0 : i = gs.length := by
        rcases Nat.lt_or_ge (i - gs.length) 1 with h | h
        · omega
        · rw [List.getElem?_eq_none (by simpa using h)] at hi; cases hi
      subst hi0
      simp only [Nat.sub_self, List.getElem?_cons_zero, Option.some.injEq] at hi
      subst hi
      rcases Nat.lt_or_ge j gs.length with hlt2 | hge2
      · rw [List.getElem?_append_left hlt2] at hj
        have := old hj
        show G ≠ g'.1
        omega
      · rw [List.getElem?_append_right hge2] at hj
        rcases Nat.lt_or_ge (j - gs.length) 1 with h | h
        · omega
        · rw [List.getElem?_eq_none (by simpa using h)] at hj; cases hj
/-- All rows are laid. -/
theorem FillL.rows {w : World} {B b m : Nat} {gs : List (Nat × Nat)} {xss : List (List Int)} (h : FillL w B b m gs xss) (hm : xss.length = m) : Rows w B w.heap.size b gs xss (org xss) :=
  ⟨h.len, fun j g hj => by
    have hjl : j < gs.length := (List.getElem?_eq_some_iff.1 hj).1
    have := h.out.cell j (by rw [← hm, ← h.len]; exact hjl)
    rw [hj] at this
    exact this, ⟨h.b1, h.out.lt⟩, h.out.lt, fun j g hj => ⟨(h.row j g hj).1, (h.row j g hj).2.2.lt, (h.row j g hj).2.1, (h.row j g hj).2.2⟩, h.apart⟩
theorem FillL.dst {w : World} {B b m : Nat} {gs : List (Nat × Nat)} {xss : List (List Int)} (h : FillL w B b m gs xss) (hk : xss.length < m) : w.cell? ⟨b, xss.length, none⟩ = some (.slice none 0 0) := by
  rw [h.out.cell _ hk, List.getElem?_eq_none (by rw [h.len]; exact Nat.le_refl _)]
end Go.Proofs.YtfpbehnpaedpmaaDoor.NewII
