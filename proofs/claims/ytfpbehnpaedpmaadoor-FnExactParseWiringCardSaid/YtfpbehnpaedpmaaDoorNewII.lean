/- A slice of slices of ints of a call's own: asked, marked, asked again; how it is built row by row. -/
import Derived.Test.YtfpbehnpaedpmaaDoorNewI
import Derived.Test.YtfpbehnpaedpmaaDoorMgWd
namespace Go.Proofs.YtfpbehnpaedpmaaDoor.NewII
open Go.RowKit NewI
/-- A row's value. -/
abbrev rowV (g : Nat × Nat) (n : Nat) : Value := .slice (some ⟨g.1, 0, none⟩) n g.2
def ln (xss : List (List Int)) (j : Nat) : Nat := (xss.getD j []).length
/-- The rows' numbers. -/
def org (xss : List (List Int)) (j : Nat) : Nat → Value := zc (xss.getD j [])
/-- The first mark of a row. -/
def pre (xss : List (List Int)) : Nat → Nat
  | 0 => 1
  | k + 1 => pre xss k + ln xss k
/-- The rows before number k bear their marks. -/
def marks (xss : List (List Int)) (k j : Nat) : Nat → Value := if j < k then marked (pre xss j) (ln xss j) (org xss j) else org xss j
/-- A slice in block b whose rows lie in blocks gs, all from lo on and before hi, each in one of its own; row j holds F j. -/
structure Rows (w : World) (lo hi b : Nat) (gs : List (Nat × Nat)) (xss : List (List Int)) (F : Nat → Nat → Value) : Prop where
  len : gs.length = xss.length
  outer : ∀ (j : Nat) (g : Nat × Nat), gs[j]? = some g → w.cell? ⟨b, j, none⟩ = some (rowV g (ln xss j))
  b1 : lo ≤ b ∧ b < hi
  lt : b < w.heap.size
  row : ∀ (j : Nat) (g : Nat × Nat), gs[j]? = some g → lo ≤ g.1 ∧ g.1 < hi ∧ g.1 ≠ b ∧ Cells w g.1 (ln xss j) (F j)
  apart : ∀ (i j : Nat) (g g' : Nat × Nat), gs[i]? = some g → gs[j]? = some g' → i ≠ j → g.1 ≠ g'.1
section
variable {w w' : World} {lo hi b : Nat} {gs : List (Nat × Nat)} {xss : List (List Int)} {F G : Nat → Nat → Value}
theorem Rows.congr (h : Rows w lo hi b gs xss F) (e : ∀ j, F j = G j) : Rows w lo hi b gs xss G := by
  have : F = G := funext e
  rw [← this]; exact h
theorem Rows.on (h : Rows w lo hi b gs xss F) (hb : Below w.heap.size w w') : Rows w' lo hi b gs xss F :=
  ⟨h.len, fun j g hj => by rw [hb.cell h.lt]; exact h.outer j g hj, h.b1, Nat.lt_of_lt_of_le h.lt hb.size, fun j g hj => ⟨(h.row j g hj).1, (h.row j g hj).2.1, (h.row j g hj).2.2.1, (h.row j g hj).2.2.2.on hb⟩, h.apart⟩
theorem Rows.far {lo' hi' : Nat} (h : Rows w lo hi b gs xss F) (ho : Out lo' hi' w w') (hd : hi ≤ lo' ∨ hi' ≤ lo) : Rows w' lo hi b gs xss F := by
  have hb := h.b1
  have hbb := ho.block b h.lt (by omega)
  refine ⟨h.len, fun j g hj => by rw [World.cell?_of_block (a := ⟨b, j, none⟩) hbb]; exact h.outer j g hj, h.b1, Nat.lt_of_lt_of_le h.lt ho.size, fun j g hj => ?_, h.apart⟩
  obtain ⟨h1, h2, h3, h4⟩ := h.row j g hj
  exact ⟨h1, h2, h3, h4.block (ho.block g.1 h4.lt (by omega)) ho.size⟩
end
/-- No rows, or rows. -/
def Lists (w : World) (lo hi : Nat) (a : Option Addr) (xss : List (List Int)) (F : Nat → Nat → Value) : Prop := xss = [] ∨ ∃ b gs, a = some ⟨b, 0, none⟩ ∧ Rows w lo hi b gs xss F
theorem Lists.on {w w' : World} {lo hi : Nat} {a : Option Addr} {xss : List (List Int)} {F : Nat → Nat → Value} (h : Lists w lo hi a xss F) (hb : Below w.heap.size w w') : Lists w' lo hi a xss F := by
  rcases h with h | ⟨b, gs, h1, h2⟩
  · exact .inl h
  · exact .inr ⟨b, gs, h1, h2.on hb⟩
theorem Lists.far {w w' : World} {lo hi lo' hi' : Nat} {a : Option Addr} {xss : List (List Int)} {F : Nat → Nat → Value} (h : Lists w lo hi a xss F) (ho : Out lo' hi' w w') (hd : hi ≤ lo' ∨ hi' ≤ lo) : Lists w' lo hi a xss F := by
  rcases h with h | ⟨b, gs, h1, h2⟩
  · exact .inl h
  · exact .inr ⟨b, gs, h1, h2.far ho hd⟩
theorem Lists.low {w : World} {lo lo' hi : Nat} {a : Option Addr} {xss : List (List Int)} {F : Nat → Nat → Value} (h : Lists w lo hi a xss F) (hl : lo' ≤ lo) : Lists w lo' hi a xss F := by
  rcases h with h | ⟨b, gs, h1, h2⟩
  · exact .inl h
  · exact .inr ⟨b, gs, h1, h2.len, h2.outer, ⟨Nat.le_trans hl h2.b1.1, h2.b1.2⟩, h2.lt, fun j g hj => ⟨Nat.le_trans hl (h2.row j g hj).1, (h2.row j g hj).2⟩, h2.apart⟩
/-- What a function hands back that makes such a slice. -/
def Got2 (B : Nat) (xss : List (List Int)) (e : Ending) (w' : World) : Prop := ∃ a c, e = .returned (.slice a xss.length c) ∧ Lists w' B w'.heap.size a xss (org xss)
/-- Rows being built: a value that owns them, each in a block of ints ahead of block m, later rows in later blocks. -/
def OwnL (w : World) (B m : Nat) (v : Value) (xss : List (List Int)) : Prop := ∃ gs : List (Nat × Nat), gs.length = xss.length ∧ w.ownsRow B 24 1 v gs.length (List.zipWith (fun g (zs : List Int) => rowV g zs.length) gs xss) ∧
  (∀ (j : Nat) (g : Nat × Nat), gs[j]? = some g → B ≤ g.1 ∧ g.1 < m ∧ (∃ cs, w.heap[g.1]? = some (.cells cs 3)) ∧ Cells w g.1 (ln xss j) (org xss j)) ∧ ∀ (i j : Nat) (g g' : Nat × Nat), gs[i]? = some g → gs[j]? = some g' → i < j → g.1 < g'.1
theorem OwnL.nil (w : World) (B m : Nat) : OwnL w B m (.slice none 0 0) [] := ⟨[], rfl, World.ownsRow_nil _ _ _ _, fun j g h => by simp at h, fun i j g g' h => by simp at h⟩
theorem OwnL.made (w : World) (B m : Nat) (hB : B ≤ w.heap.size) : OwnL (w.alloc (.cells #[] 24)) B m (.slice (some ⟨w.heap.size, 0, none⟩) 0 0) [] :=
  ⟨[], rfl, World.ownsRow_made w #[] 0 hB (by decide) rfl, fun j g h => by simp at h, fun i j g g' h => by simp at h⟩
theorem OwnL.on {w w' : World} {B m : Nat} {v : Value} {xss : List (List Int)} (h : OwnL w B m v xss) (hb : Below w.heap.size w w') : OwnL w' B m v xss := by
  obtain ⟨gs, h1, h2, h3, h4⟩ := h
  refine ⟨gs, h1, World.ownsRow.kept h2 (row := none) ⟨hb.os, hb.tape, hb.output, hb.size, fun k hk _ => hb.block k hk⟩ (by cases v.ownBlock <;> simp), fun j g hj => ?_, h4⟩
  obtain ⟨r1, r0, ⟨cs, r2⟩, r3⟩ := h3 j g hj
  exact ⟨r1, r0, ⟨cs, by rw [hb.block g.1 r3.lt]; exact r2⟩, r3.on hb⟩
theorem OwnL.top {w : World} {B m : Nat} {v : Value} {xss : List (List Int)} (h : OwnL w B m v xss) : OwnL w B w.heap.size v xss := by
  obtain ⟨gs, h1, h2, h3, h4⟩ := h
  exact ⟨gs, h1, h2, fun j g hj => ⟨(h3 j g hj).1, (h3 j g hj).2.2.2.lt, (h3 j g hj).2.2⟩, h4⟩
/-- The value's own cells alone. -/
theorem OwnL.row {w : World} {B m : Nat} {v : Value} {xss : List (List Int)} (h : OwnL w B m v xss) : ∃ L : List Value, w.ownsRow B 24 1 v xss.length L := by
  obtain ⟨gs, h1, h2, -, -⟩ := h
  rw [h1] at h2
  exact ⟨_, h2⟩
theorem ln_old {xss : List (List Int)} {zs : List Int} {j : Nat} (h : j < xss.length) : (xss ++ [zs]).getD j [] = xss.getD j [] := by
  rw [List.getD_eq_getElem?_getD, List.getD_eq_getElem?_getD, List.getElem?_append_left h]
theorem ln_new {xss : List (List Int)} {zs : List Int} : (xss ++ [zs]).getD xss.length [] = zs := by
  rw [List.getD_eq_getElem?_getD, List.getElem?_append_right (Nat.le_refl _)]; simp
theorem zip_length {gs : List (Nat × Nat)} {xss : List (List Int)} (h : gs.length = xss.length) : (List.zipWith (fun g (zs : List Int) => rowV g zs.length) gs xss).length = gs.length := by
  rw [List.length_zipWith, h]; omega
theorem zip_snoc {gs : List (Nat × Nat)} {xss : List (List Int)} (h : gs.length = xss.length) (g : Nat × Nat) (zs : List Int) : List.zipWith (fun g (zs : List Int) => rowV g zs.length) (gs ++ [g]) (xss ++ [zs]) = List.zipWith (fun g (zs : List Int) => rowV g zs.length) gs xss ++ [rowV g zs.length] := by
  rw [List.zipWith_append h]; rfl
/-- One more row: a block of its own, later than all others, is appended. -/
theorem OwnL.snoc {w w1 : World} {B m : Nat} {v v1 : Value} {xss : List (List Int)} {zs : List Int} {g : Nat × Nat} {L : List Value} (h : OwnL w B m v xss) (hB : B ≤ g.1) (hm : m ≤ g.1) (hcs : ∃ cs, w.heap[g.1]? = some (.cells cs 3)) (hc : Cells w g.1 zs.length (zc zs))
    (hg : w.grownBy w1 v.ownBlock) (hL : w.ownsRow B 24 1 v xss.length L) (ho : w1.ownsRow B 24 1 v1 (xss.length + 1) (L ++ [rowV g zs.length])) : OwnL w1 B (g.1 + 1) v1 (xss ++ [zs]) := by
  obtain ⟨gs, h1, h2, h3, h4⟩ := h
  have h2' := h2
  rw [h1] at h2
  have hLe : List.zipWith (fun g (zs : List Int) => rowV g zs.length) gs xss = L := by
    obtain ⟨-, ⟨e1, e2⟩ | ⟨b1, cap1, cur1, e1, -, k1, -, -, -, k2⟩⟩ := id h2
    · have a1 := h2.1
      have a2 := hL.1
      rw [e2] at a1 a2
      have z1 : List.zipWith (fun g (zs : List Int) => rowV g zs.length) gs xss = [] := List.eq_nil_of_length_eq_zero (by omega)
      have z2 : L = [] := List.eq_nil_of_length_eq_zero (by omega)
      rw [z1, z2]
    · obtain ⟨-, ⟨e3, -⟩ | ⟨b2, cap2, cur2, e3, -, k3, -, -, -, k4⟩⟩ := id hL
      · rw [e3] at e1; cases e1
      · rw [e3] at e1
        obtain ⟨e4, -, -⟩ : b1 = b2 ∧ True ∧ True := by injection e1 with e1; injection e1 with e1; injection e1 with e1; exact ⟨e1.symm, trivial, trivial⟩
        subst e4
        rw [k1] at k3
        injection k3 with k3
        injection k3 with k3
        subst k3
        rw [← k2, ← k4]
  have hb1 : ∀ (b : Nat) (cs : Array Value), w.heap[b]? = some (Obj.cells cs 3) → w1.heap[b]? = w.heap[b]? := fun b cs hb =>
    hg.block b (Array.getElem?_eq_some_iff.1 hb).1 (Sg.own_box h2' hb (by decide))
  refine ⟨gs ++ [g], by simp [h1], ?_, fun j g' hj => ?_, fun i j gi gj hi hj hij => ?_⟩
  · rw [zip_snoc h1, hLe, List.length_append, h1]
    exact ho
  · by_cases hjl : j < gs.length
    · rw [List.getElem?_append_left hjl] at hj
      obtain ⟨r1, r0, ⟨cs, r2⟩, r3⟩ := h3 j g' hj
      have hk := hb1 _ _ r2
      have e : (xss ++ [zs]).getD j [] = xss.getD j [] := ln_old (by omega)
      refine ⟨r1, by omega, ⟨cs, by rw [hk]; exact r2⟩, ?_⟩
      unfold ln org
      rw [e]
      exact r3.block hk hg.size
    · rw [List.getElem?_append_right (by omega)] at hj
      have hj0 : j = gs.length := by
        rcases Nat.lt_or_ge (j - gs.length) 1 with h | h
        · omega
        · rw [List.getElem?_eq_none (by simpa using h)] at hj; cases hj
      subst hj0
      simp only [Nat.sub_self, List.getElem?_cons_zero, Option.some.injEq] at hj
      subst hj
      obtain ⟨cs, hcs⟩ := hcs
      have hk := hb1 _ _ hcs
      refine ⟨hB, by omega, ⟨cs, by rw [hk]; exact hcs⟩, ?_⟩
      unfold ln org
      rw [h1, ln_new]
      exact hc.block hk hg.size
  · by_cases hjl : j < gs.length
    · rw [List.getElem?_append_left hjl] at hj
      rw [List.getElem?_append_left (by omega)] at hi
      exact h4 i j gi gj hi hj hij
    · rw [List.getElem?_append_right (by omega)] at hj
      have hj0 : j = gs.length := by
        rcases Nat.lt_or_ge (j - gs.length) 1 with h | h
        · omega
        · rw [List.getElem?_eq_none (by simpa using h)] at hj; cases hj
      subst hj0
      simp only [Nat.sub_self, List.getElem?_cons_zero, Option.some.injEq] at hj
      subst hj
      rw [List.getElem?_append_left hij] at hi
      have := (h3 i gi hi).2.1
      omega
/-- A finished slice of rows. -/
theorem Lists.of_own {w : World} {B m : Nat} {v : Value} {xss : List (List Int)} (h : OwnL w B m v xss) : ∃ a c, v = .slice a xss.length c ∧ Lists w B w.heap.size a xss (org xss) := by
  obtain ⟨gs, h1, h2, h3, h4⟩ := h
  have hlt := World.ownsRow.lt h2
  have hzl := zip_length h1
  obtain ⟨-, ⟨rfl, h0⟩ | ⟨g, cap, cur, rfl, hB, hh, hr⟩⟩ := id h2
  · have e : xss = [] := List.eq_nil_of_length_eq_zero (by omega)
    subst e
    exact ⟨none, 0, rfl, .inl rfl⟩
  · refine ⟨some ⟨g, 0, none⟩, cap, by rw [h1], .inr ⟨g, gs, rfl, h1, fun j g' hj => ?_, ⟨hB, (hlt g rfl).2⟩, (hlt g rfl).2, fun j g' hj => ?_, fun i j gi gj hi hj hij => ?_⟩⟩
    · have hjl : j < gs.length := (List.getElem?_eq_some_iff.1 hj).1
      have hx : (List.zipWith (fun g (zs : List Int) => rowV g zs.length) gs xss)[j]? = some (rowV g' (ln xss j)) := by
        rw [List.getElem?_zipWith, hj, List.getElem?_eq_getElem (by omega)]
        simp only [Option.some.injEq]
        unfold ln
        rw [List.getD_eq_getElem?_getD, List.getElem?_eq_getElem (by omega)]
        rfl
      have := World.ownsRow.cells h2 (g := g) rfl j _ hx
      rwa [WideShapes.add_plain, Nat.zero_add] at this
    · obtain ⟨r1, -, ⟨cs, r2⟩, r3⟩ := h3 j g' hj
      refine ⟨r1, r3.lt, fun e => ?_, r3⟩
      rw [e, hh] at r2
      injection r2 with r2
      injection r2 with _ ht
      exact absurd ht (by decide)
    · rcases Nat.lt_or_gt_of_ne hij with h | h
      · have := h4 i j gi gj hi hj h; omega
      · have := h4 j i gj gi hj hi h; omega
end Go.Proofs.YtfpbehnpaedpmaaDoor.NewII
