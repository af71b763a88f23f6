/- Rows being built while another row of ints is written. -/
import Derived.Test.YtfpbehnpaedpmaaDoorNewII
namespace Go.Proofs.YtfpbehnpaedpmaaDoor.NewII
open Go.RowKit NewI
/-- As OwnL, with all rows in blocks from R on. -/
def OwnW (w : World) (B R m : Nat) (v : Value) (xss : List (List Int)) : Prop := ∃ gs : List (Nat × Nat), gs.length = xss.length ∧ w.ownsRow B 24 1 v gs.length (List.zipWith (fun g (zs : List Int) => rowV g zs.length) gs xss) ∧
  (∀ (j : Nat) (g : Nat × Nat), gs[j]? = some g → R ≤ g.1 ∧ g.1 < m ∧ (∃ cs, w.heap[g.1]? = some (.cells cs 3)) ∧ Cells w g.1 (ln xss j) (org xss j)) ∧ ∀ (i j : Nat) (g g' : Nat × Nat), gs[i]? = some g → gs[j]? = some g' → i < j → g.1 < g'.1
theorem OwnW.toL {w : World} {B R m : Nat} {v : Value} {xss : List (List Int)} (h : OwnW w B R m v xss) (hBR : B ≤ R) : OwnL w B m v xss := by
  obtain ⟨gs, h1, h2, h3, h4⟩ := h
  exact ⟨gs, h1, h2, fun j g hj => ⟨Nat.le_trans hBR (h3 j g hj).1, (h3 j g hj).2⟩, h4⟩
theorem OwnW.made (w : World) (B R m : Nat) (hB : B ≤ w.heap.size) : OwnW (w.alloc (.cells #[] 24)) B R m (.slice (some ⟨w.heap.size, 0, none⟩) 0 0) [] :=
  ⟨[], rfl, World.ownsRow_made w #[] 0 hB (by decide) rfl, fun j g h => by simp at h, fun i j g g' h => by simp at h⟩
theorem OwnW.on {w w' : World} {B R m : Nat} {v : Value} {xss : List (List Int)} (h : OwnW w B R m v xss) (hb : Below w.heap.size w w') : OwnW w' B R m v xss := by
  obtain ⟨gs, h1, h2, h3, h4⟩ := h
  refine ⟨gs, h1, World.ownsRow.kept h2 (row := none) ⟨hb.os, hb.tape, hb.output, hb.size, fun k hk _ => hb.block k hk⟩ (by cases v.ownBlock <;> simp), fun j g hj => ?_, h4⟩
  obtain ⟨r1, r0, ⟨cs, r2⟩, r3⟩ := h3 j g hj
  exact ⟨r1, r0, ⟨cs, by rw [hb.block g.1 r3.lt]; exact r2⟩, r3.on hb⟩
theorem OwnW.top {w : World} {B R m : Nat} {v : Value} {xss : List (List Int)} (h : OwnW w B R m v xss) : OwnW w B R w.heap.size v xss := by
  obtain ⟨gs, h1, h2, h3, h4⟩ := h
  exact ⟨gs, h1, h2, fun j g hj => ⟨(h3 j g hj).1, (h3 j g hj).2.2.2.lt, (h3 j g hj).2.2⟩, h4⟩
/-- No rows yet: whatever lower bound. -/
theorem OwnW.low {w : World} {B R R' m : Nat} {v : Value} (h : OwnW w B R m v []) : OwnW w B R' m v [] := by
  obtain ⟨gs, h1, h2, -, -⟩ := h
  obtain rfl : gs = [] := List.eq_nil_of_length_eq_zero h1
  exact ⟨[], rfl, h2, fun j g h => by simp at h, fun i j g g' h => by simp at h⟩
/-- Another block of ints, ahead of all rows, is written. -/
theorem OwnW.out {w w' : World} {B R m b : Nat} {v : Value} {xss : List (List Int)} (h : OwnW w B R m v xss) (ho : Out b (b + 1) w w') (hb : b < R) (hcs : ∃ cs, w.heap[b]? = some (.cells cs 3)) : OwnW w' B R m v xss := by
  obtain ⟨gs, h1, h2, h3, h4⟩ := h
  obtain ⟨cs, hcs⟩ := hcs
  have hne := Sg.own_box h2 hcs (by decide)
  refine ⟨gs, h1, World.ownsRow.kept h2 (row := some b) ⟨ho.os, ho.tape, ho.output, ho.size, fun k hk hn => ho.block k hk (fun e => hn (by congr 1; omega))⟩ (.inr (fun e => hne e.symm)), fun j g hj => ?_, h4⟩
  obtain ⟨r1, r0, ⟨cs2, r2⟩, r3⟩ := h3 j g hj
  have hk := ho.block g.1 r3.lt (by omega)
  exact ⟨r1, r0, ⟨cs2, by rw [hk]; exact r2⟩, r3.block hk ho.size⟩
theorem OwnW.row {w : World} {B R m : Nat} {v : Value} {xss : List (List Int)} (h : OwnW w B R m v xss) : ∃ L : List Value, w.ownsRow B 24 1 v xss.length L := by
  obtain ⟨gs, h1, h2, -, -⟩ := h
  rw [h1] at h2
  exact ⟨_, h2⟩
/-- One more row: a block of its own, later than all others, is appended. -/
theorem OwnW.snoc {w w1 : World} {B R m : Nat} {v v1 : Value} {xss : List (List Int)} {zs : List Int} {g : Nat × Nat} {L : List Value} (h : OwnW w B R m v xss) (hB : R ≤ g.1) (hm : m ≤ g.1) (hcs : ∃ cs, w.heap[g.1]? = some (.cells cs 3)) (hc : Cells w g.1 zs.length (zc zs))
    (hg : w.grownBy w1 v.ownBlock) (hL : w.ownsRow B 24 1 v xss.length L) (ho : w1.ownsRow B 24 1 v1 (xss.length + 1) (L ++ [rowV g zs.length])) : OwnW w1 B R (g.1 + 1) v1 (xss ++ [zs]) := by
  obtain ⟨gs, h1, h2, h3, h4⟩ := h
  have h2' := h2
  rw [h1] at h2
  have hLe : List.zipWith (fun g (zs : List Int) => rowV g zs.length) gs xss = L := by
    obtain ⟨-, ⟨e1, e2⟩ | ⟨b1, cap1, cur1, e1, -, k1, -, -, -, k2⟩⟩ := id h2
    · have a1 := h2.1
      have a2 := hL.1
      rw [e2] at a1 a2
      have z1 : List.zipWith (fun g (zs : List Int) => rowV g zs.length) gs xss = [] := List.eq_nil_of_length_eq_zero (by omega)
      have z2 : L = [] := List.eq_nil_of_length_eq_zero (by omega)
      rw [z1, z2]
    · obtain ⟨-, ⟨e3, -⟩ | ⟨b2, cap2, cur2, e3, -, k3, -, -, -, k4⟩⟩ := id hL
      · rw [e3] at e1; cases e1
      · rw [e3] at e1
        obtain ⟨e4, -, -⟩ : b1 = b2 ∧ True ∧ True := by injection e1 with e1; injection e1 with e1; injection e1 with e1; exact ⟨e1.symm, trivial, trivial⟩
        subst e4
        rw [k1] at k3
        injection k3 with k3
        injection k3 with k3
        subst k3
        rw [← k2, ← k4]
  have hb1 : ∀ (b : Nat) (cs : Array Value), w.heap[b]? = some (Obj.cells cs 3) → w1.heap[b]? = w.heap[b]? := fun b cs hb =>
    hg.block b (Array.getElem?_eq_some_iff.1 hb).1 (Sg.own_box h2' hb (by decide))
  refine ⟨gs ++ [g], by simp [h1], ?_, fun j g' hj => ?_, fun i j gi gj hi hj hij => ?_⟩
  · rw [zip_snoc h1, hLe, List.length_append, h1]
    exact ho
  · by_cases hjl : j < gs.length
    · rw [List.getElem?_append_left hjl] at hj
      obtain ⟨r1, r0, ⟨cs, r2⟩, r3⟩ := h3 j g' hj
      have hk := hb1 _ _ r2
      have e : (xss ++ [zs]).getD j [] = xss.getD j [] := ln_old (by omega)
      refine ⟨r1, by omega, ⟨cs, by rw [hk]; exact r2⟩, ?_⟩
      unfold ln org
      rw [e]
      exact r3.block hk hg.size
    · rw [List.getElem?_append_right (by omega)] at hj
      have hj0 : j = gs.length := by
        rcases Nat.lt_or_ge (j - gs.length) 1 with h | h
        · omega
        · rw [List.getElem?_eq_none (by simpa using h)] at hj; cases hj
      subst hj0
      simp only [Nat.sub_self, List.getElem?_cons_zero, Option.some.injEq] at hj
      subst hj
      obtain ⟨cs, hcs⟩ := hcs
      have hk := hb1 _ _ hcs
      refine ⟨hB, by omega, ⟨cs, by rw [hk]; exact hcs⟩, ?_⟩
      unfold ln org
      rw [h1, ln_new]
      exact hc.block hk hg.size
  · by_cases hjl : j < gs.length
    · rw [List.getElem?_append_left hjl] at hj
      rw [List.getElem?_append_left (by omega)] at hi
      exact h4 i j gi gj hi hj hij
    · rw [List.getElem?_append_right (by omega)] at hj
      have hj0 : j = gs.length := by
        rcases Nat.lt_or_ge (j - gs.length) 1 with h | h
        · omega
        · rw [List.getElem?_eq_none (by simpa using h)] at hj; cases hj
      subst hj0
      simp only [Nat.sub_self, List.getElem?_cons_zero, Option.some.injEq] at hj
      subst hj
      rw [List.getElem?_append_left hij] at hi
      have := (h3 i gi hi).2.1
      omega
end Go.Proofs.YtfpbehnpaedpmaaDoor.NewII
