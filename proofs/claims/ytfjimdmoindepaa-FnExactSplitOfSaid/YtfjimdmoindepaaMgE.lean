/- Several texts in one: NewII, QuList, QuInSpec, QuListSpec, QuLists. -/
import Derived.Test.YtfjimdmoindepaaNewI
import Derived.Test.YtfjimdmoindepaaRuFours
import Derived.Test.YtfjimdmoindepaaQuCount
import Derived.WalkSpells
import Derived.Lib.SliceRun
import Derived.Test.YtfjimdmoindepaaQuSplitSpec
/- A slice of slices of ints of a call's own: asked, marked, asked again; how it is built row by row. -/
namespace Go.Proofs.Ytfjimdmoindepaa.NewII
open Go.RowKit NewI
/-- A row's value. -/
abbrev rowV (g : Nat × Nat) (n : Nat) : Value := .slice (some ⟨g.1, 0, none⟩) n g.2
def ln (xss : List (List Int)) (j : Nat) : Nat := (xss.getD j []).length
/-- The rows' numbers. -/
def org (xss : List (List Int)) (j : Nat) : Nat → Value := zc (xss.getD j [])
/-- The first mark of a row. -/
def pre (xss : List (List Int)) : Nat → Nat
  | 0 => 1
  | k + 1 => pre xss k + ln xss k
/-- The rows before number k bear their marks. -/
def marks (xss : List (List Int)) (k j : Nat) : Nat → Value := if j < k then marked (pre xss j) (ln xss j) (org xss j) else org xss j
theorem pre_pos (xss : List (List Int)) : ∀ k, 1 ≤ pre xss k
  | 0 => Nat.le_refl _
  | k + 1 => by unfold pre; have := pre_pos xss k; omega
theorem pre_mono (xss : List (List Int)) {i j : Nat} (h : i ≤ j) : pre xss i ≤ pre xss j := by
  induction j with
  | zero => obtain rfl : i = 0 := by omega
            exact Nat.le_refl _
  | succ j ih =>
    by_cases e : i = j + 1
    · subst e; exact Nat.le_refl _
    · have := ih (by omega)
      show _ ≤ pre xss j + ln xss j
      omega
/-- A slice in block b whose rows lie in blocks gs, all from lo on and before hi, each in one of its own; row j holds F j. -/
structure Rows (w : World) (lo hi b : Nat) (gs : List (Nat × Nat)) (xss : List (List Int)) (F : Nat → Nat → Value) : Prop where
  len : gs.length = xss.length
  outer : ∀ (j : Nat) (g : Nat × Nat), gs[j]? = some g → w.cell? ⟨b, j, none⟩ = some (rowV g (ln xss j))
  b1 : lo ≤ b ∧ b < hi
  lt : b < w.heap.size
  row : ∀ (j : Nat) (g : Nat × Nat), gs[j]? = some g → lo ≤ g.1 ∧ g.1 < hi ∧ g.1 ≠ b ∧ Cells w g.1 (ln xss j) (F j)
  apart : ∀ (i j : Nat) (g g' : Nat × Nat), gs[i]? = some g → gs[j]? = some g' → i ≠ j → g.1 ≠ g'.1
section
variable {w w' : World} {lo hi b : Nat} {gs : List (Nat × Nat)} {xss : List (List Int)} {F G : Nat → Nat → Value}
theorem Rows.congr (h : Rows w lo hi b gs xss F) (e : ∀ j, F j = G j) : Rows w lo hi b gs xss G := by
  have : F = G := funext e
  rw [← this]; exact h
theorem Rows.on (h : Rows w lo hi b gs xss F) (hb : Below w.heap.size w w') : Rows w' lo hi b gs xss F :=
  ⟨h.len, fun j g hj => by rw [hb.cell h.lt]; exact h.outer j g hj, h.b1, Nat.lt_of_lt_of_le h.lt hb.size, fun j g hj => ⟨(h.row j g hj).1, (h.row j g hj).2.1, (h.row j g hj).2.2.1, (h.row j g hj).2.2.2.on hb⟩, h.apart⟩
theorem Rows.far {lo' hi' : Nat} (h : Rows w lo hi b gs xss F) (ho : Out lo' hi' w w') (hd : hi ≤ lo' ∨ hi' ≤ lo) : Rows w' lo hi b gs xss F := by
  have hb := h.b1
  have hbb := ho.block b h.lt (by omega)
  refine ⟨h.len, fun j g hj => by rw [World.cell?_of_block (a := ⟨b, j, none⟩) hbb]; exact h.outer j g hj, h.b1, Nat.lt_of_lt_of_le h.lt ho.size, fun j g hj => ?_, h.apart⟩
  obtain ⟨h1, h2, h3, h4⟩ := h.row j g hj
  exact ⟨h1, h2, h3, h4.block (ho.block g.1 h4.lt (by omega)) ho.size⟩
/-- One row has been written. -/
theorem Rows.wrote {k : Nat} {g : Nat × Nat} {f : Nat → Value} (h : Rows w lo hi b gs xss F) (hg : gs[k]? = some g) (hc : Cells w' g.1 (ln xss k) f) (hw : w.grownBy w' (some g.1)) : Rows w' lo hi b gs xss (fun j => if j = k then f else F j) := by
  obtain ⟨-, -, hgb, -⟩ := h.row k g hg
  have hbb := hw.block b h.lt (fun e => hgb (by injection e with e; exact e.symm))
  refine ⟨h.len, fun j g' hj => by rw [World.cell?_of_block (a := ⟨b, j, none⟩) hbb]; exact h.outer j g' hj, h.b1, Nat.lt_of_lt_of_le h.lt hw.size, fun j g' hj => ?_, h.apart⟩
  obtain ⟨h1, h2, h3, h4⟩ := h.row j g' hj
  by_cases e : j = k
  · subst e
    rw [hg] at hj
    obtain rfl := Option.some.inj hj
    simp only [if_true]
    exact ⟨h1, h2, h3, hc⟩
  · simp only [if_neg e]
    have hne := h.apart j k g' g hj hg e
    exact ⟨h1, h2, h3, h4.block (hw.block g'.1 h4.lt (fun e2 => hne (by injection e2))) hw.size⟩
end
theorem marks_zero (xss : List (List Int)) (j : Nat) : marks xss 0 j = org xss j := by unfold marks; rw [if_neg (by omega)]
theorem marks_step (xss : List (List Int)) (k j : Nat) : (if j = k then marked (pre xss k) (ln xss k) (org xss k) else marks xss k j) = marks xss (k + 1) j := by
  unfold marks
  by_cases e : j = k
  · subst e; rw [if_pos rfl, if_pos (by omega)]
  · rw [if_neg e]
    by_cases h : j < k
    · rw [if_pos h, if_pos (by omega)]
    · rw [if_neg h, if_neg (by omega)]
theorem ln_le {xss : List (List Int)} {k m : Nat} (hk : k < m) : ln xss k ≤ pre xss m := by
  have h1 := pre_mono xss (show k + 1 ≤ m by omega)
  have : pre xss (k + 1) = pre xss k + ln xss k := rfl
  omega
/-- No rows, or rows. -/
def Lists (w : World) (lo hi : Nat) (a : Option Addr) (xss : List (List Int)) (F : Nat → Nat → Value) : Prop := xss = [] ∨ ∃ b gs, a = some ⟨b, 0, none⟩ ∧ Rows w lo hi b gs xss F
theorem Lists.on {w w' : World} {lo hi : Nat} {a : Option Addr} {xss : List (List Int)} {F : Nat → Nat → Value} (h : Lists w lo hi a xss F) (hb : Below w.heap.size w w') : Lists w' lo hi a xss F := by
  rcases h with h | ⟨b, gs, h1, h2⟩
  · exact .inl h
  · exact .inr ⟨b, gs, h1, h2.on hb⟩
theorem Lists.far {w w' : World} {lo hi lo' hi' : Nat} {a : Option Addr} {xss : List (List Int)} {F : Nat → Nat → Value} (h : Lists w lo hi a xss F) (ho : Out lo' hi' w w') (hd : hi ≤ lo' ∨ hi' ≤ lo) : Lists w' lo hi a xss F := by
  rcases h with h | ⟨b, gs, h1, h2⟩
  · exact .inl h
  · exact .inr ⟨b, gs, h1, h2.far ho hd⟩
theorem Lists.low {w : World} {lo lo' hi : Nat} {a : Option Addr} {xss : List (List Int)} {F : Nat → Nat → Value} (h : Lists w lo hi a xss F) (hl : lo' ≤ lo) : Lists w lo' hi a xss F := by
  rcases h with h | ⟨b, gs, h1, h2⟩
  · exact .inl h
  · exact .inr ⟨b, gs, h1, h2.len, h2.outer, ⟨Nat.le_trans hl h2.b1.1, h2.b1.2⟩, h2.lt, fun j g hj => ⟨Nat.le_trans hl (h2.row j g hj).1, (h2.row j g hj).2⟩, h2.apart⟩
/-- What a function hands back that makes such a slice. -/
def Got2 (B : Nat) (xss : List (List Int)) (e : Ending) (w' : World) : Prop := ∃ a c, e = .returned (.slice a xss.length c) ∧ Lists w' B w'.heap.size a xss (org xss)
/-- Rows being built: a value that owns them, each in a block of ints ahead of block m, later rows in later blocks. -/
def OwnL (w : World) (B m : Nat) (v : Value) (xss : List (List Int)) : Prop := ∃ gs : List (Nat × Nat), gs.length = xss.length ∧ w.ownsRow B 40 1 v gs.length (List.zipWith (fun g (zs : List Int) => rowV g zs.length) gs xss) ∧
  (∀ (j : Nat) (g : Nat × Nat), gs[j]? = some g → B ≤ g.1 ∧ g.1 < m ∧ (∃ cs, w.heap[g.1]? = some (.cells cs 3)) ∧ Cells w g.1 (ln xss j) (org xss j)) ∧ ∀ (i j : Nat) (g g' : Nat × Nat), gs[i]? = some g → gs[j]? = some g' → i < j → g.1 < g'.1
theorem OwnL.nil (w : World) (B m : Nat) : OwnL w B m (.slice none 0 0) [] := ⟨[], rfl, World.ownsRow_nil _ _ _ _, fun j g h => by simp at h, fun i j g g' h => by simp at h⟩
theorem OwnL.made (w : World) (B m : Nat) (hB : B ≤ w.heap.size) : OwnL (w.alloc (.cells #[] 40)) B m (.slice (some ⟨w.heap.size, 0, none⟩) 0 0) [] :=
  ⟨[], rfl, World.ownsRow_made w #[] 0 hB (by decide) rfl, fun j g h => by simp at h, fun i j g g' h => by simp at h⟩
theorem OwnL.on {w w' : World} {B m : Nat} {v : Value} {xss : List (List Int)} (h : OwnL w B m v xss) (hb : Below w.heap.size w w') : OwnL w' B m v xss := by
  obtain ⟨gs, h1, h2, h3, h4⟩ := h
  refine ⟨gs, h1, World.ownsRow.kept h2 (row := none) ⟨hb.os, hb.tape, hb.output, hb.size, fun k hk _ => hb.block k hk⟩ (by cases v.ownBlock <;> simp), fun j g hj => ?_, h4⟩
  obtain ⟨r1, r0, ⟨cs, r2⟩, r3⟩ := h3 j g hj
  exact ⟨r1, r0, ⟨cs, by rw [hb.block g.1 r3.lt]; exact r2⟩, r3.on hb⟩
theorem OwnL.top {w : World} {B m : Nat} {v : Value} {xss : List (List Int)} (h : OwnL w B m v xss) : OwnL w B w.heap.size v xss := by
  obtain ⟨gs, h1, h2, h3, h4⟩ := h
  exact ⟨gs, h1, h2, fun j g hj => ⟨(h3 j g hj).1, (h3 j g hj).2.2.2.lt, (h3 j g hj).2.2⟩, h4⟩
/-- The value's own cells alone. -/
theorem OwnL.row {w : World} {B m : Nat} {v : Value} {xss : List (List Int)} (h : OwnL w B m v xss) : ∃ L : List Value, w.ownsRow B 40 1 v xss.length L := by
  obtain ⟨gs, h1, h2, -, -⟩ := h
  rw [h1] at h2
  exact ⟨_, h2⟩
theorem ln_old {xss : List (List Int)} {zs : List Int} {j : Nat} (h : j < xss.length) : (xss ++ [zs]).getD j [] = xss.getD j [] := by
  rw [List.getD_eq_getElem?_getD, List.getD_eq_getElem?_getD, List.getElem?_append_left h]
theorem ln_new {xss : List (List Int)} {zs : List Int} : (xss ++ [zs]).getD xss.length [] = zs := by
  rw [List.getD_eq_getElem?_getD, List.getElem?_append_right (Nat.le_refl _)]; simp
theorem zip_length {gs : List (Nat × Nat)} {xss : List (List Int)} (h : gs.length = xss.length) : (List.zipWith (fun g (zs : List Int) => rowV g zs.length) gs xss).length = gs.length := by
  rw [List.length_zipWith, h]; omega
theorem zip_snoc {gs : List (Nat × Nat)} {xss : List (List Int)} (h : gs.length = xss.length) (g : Nat × Nat) (zs : List Int) : List.zipWith (fun g (zs : List Int) => rowV g zs.length) (gs ++ [g]) (xss ++ [zs]) = List.zipWith (fun g (zs : List Int) => rowV g zs.length) gs xss ++ [rowV g zs.length] := by
  rw [List.zipWith_append h]; rfl
/-- One more row: a block of its own, later than all others, is appended. -/
theorem OwnL.snoc {w w1 : World} {B m : Nat} {v v1 : Value} {xss : List (List Int)} {zs : List Int} {g : Nat × Nat} {L : List Value} (h : OwnL w B m v xss) (hB : B ≤ g.1) (hm : m ≤ g.1) (hcs : ∃ cs, w.heap[g.1]? = some (.cells cs 3)) (hc : Cells w g.1 zs.length (zc zs))
    (hg : w.grownBy w1 v.ownBlock) (hL : w.ownsRow B 40 1 v xss.length L) (ho : w1.ownsRow B 40 1 v1 (xss.length + 1) (L ++ [rowV g zs.length])) : OwnL w1 B (g.1 + 1) v1 (xss ++ [zs]) := by
  obtain ⟨gs, h1, h2, h3, h4⟩ := h
  have h2' := h2
  rw [h1] at h2
  have hLe : List.zipWith (fun g (zs : List Int) => rowV g zs.length) gs xss = L := by
    obtain ⟨-, ⟨e1, e2⟩ | ⟨b1, cap1, cur1, e1, -, k1, -, -, -, k2⟩⟩ := id h2
    · have a1 := h2.1
      have a2 := hL.1
      rw [e2] at a1 a2
      have z1 : List.zipWith (fun g (zs : List Int) => rowV g zs.length) gs xss = [] := List.eq_nil_of_length_eq_zero (by omega)
      have z2 : L = [] := List.eq_nil_of_length_eq_zero (by omega)
      rw [z1, z2]
    · obtain ⟨-, ⟨e3, -⟩ | ⟨b2, cap2, cur2, e3, -, k3, -, -, -, k4⟩⟩ := id hL
      · rw [e3] at e1; cases e1
      · rw [e3] at e1
        obtain ⟨e4, -, -⟩ : b1 = b2 ∧ True ∧ True := by injection e1 with e1; injection e1 with e1; injection e1 with e1; exact ⟨e1.symm, trivial, trivial⟩
        subst e4
        rw [k1] at k3
        injection k3 with k3
        injection k3 with k3
        subst k3
        rw [← k2, ← k4]
  have hb1 : ∀ (b : Nat) (cs : Array Value), w.heap[b]? = some (Obj.cells cs 3) → w1.heap[b]? = w.heap[b]? := fun b cs hb =>
    hg.block b (Array.getElem?_eq_some_iff.1 hb).1 (Sg.own_box h2' hb (by decide))
  refine ⟨gs ++ [g], by simp [h1], ?_, fun j g' hj => ?_, fun i j gi gj hi hj hij => ?_⟩
  · rw [zip_snoc h1, hLe, List.length_append, h1]
    exact ho
  · by_cases hjl : j < gs.length
    · rw [List.getElem?_append_left hjl] at hj
      obtain ⟨r1, r0, ⟨cs, r2⟩, r3⟩ := h3 j g' hj
      have hk := hb1 _ _ r2
      have e : (xss ++ [zs]).getD j [] = xss.getD j [] := ln_old (by omega)
      refine ⟨r1, by omega, ⟨cs, by rw [hk]; exact r2⟩, ?_⟩
      unfold ln org
      rw [e]
      exact r3.block hk hg.size
    · rw [List.getElem?_append_right (by omega)] at hj
      have hj0 : j = gs.length := by
        rcases Nat.lt_or_ge (j - gs.length) 1 with h | h
        · omega
        · rw [List.getElem?_eq_none (by simpa using h)] at hj; cases hj
      subst hj0
      simp only [Nat.sub_self, List.getElem?_cons_zero, Option.some.injEq] at hj
      subst hj
      obtain ⟨cs, hcs⟩ := hcs
      have hk := hb1 _ _ hcs
      refine ⟨hB, by omega, ⟨cs, by rw [hk]; exact hcs⟩, ?_⟩
      unfold ln org
      rw [h1, ln_new]
      exact hc.block hk hg.size
  · by_cases hjl : j < gs.length
    · rw [List.getElem?_append_left hjl] at hj
      rw [List.getElem?_append_left (by omega)] at hi
      exact h4 i j gi gj hi hj hij
    · rw [List.getElem?_append_right (by omega)] at hj
      have hj0 : j = gs.length := by
        rcases Nat.lt_or_ge (j - gs.length) 1 with h | h
        · omega
        · rw [List.getElem?_eq_none (by simpa using h)] at hj; cases hj
      subst hj0
      simp only [Nat.sub_self, List.getElem?_cons_zero, Option.some.injEq] at hj
      subst hj
      rw [List.getElem?_append_left hij] at hi
      have := (h3 i gi hi).2.1
      omega
/-- A finished slice of rows. -/
theorem Lists.of_own {w : World} {B m : Nat} {v : Value} {xss : List (List Int)} (h : OwnL w B m v xss) : ∃ a c, v = .slice a xss.length c ∧ Lists w B w.heap.size a xss (org xss) := by
  obtain ⟨gs, h1, h2, h3, h4⟩ := h
  have hlt := World.ownsRow.lt h2
  have hzl := zip_length h1
  obtain ⟨-, ⟨rfl, h0⟩ | ⟨g, cap, cur, rfl, hB, hh, hr⟩⟩ := id h2
  · have e : xss = [] := List.eq_nil_of_length_eq_zero (by omega)
    subst e
    exact ⟨none, 0, rfl, .inl rfl⟩
  · refine ⟨some ⟨g, 0, none⟩, cap, by rw [h1], .inr ⟨g, gs, rfl, h1, fun j g' hj => ?_, ⟨hB, (hlt g rfl).2⟩, (hlt g rfl).2, fun j g' hj => ?_, fun i j gi gj hi hj hij => ?_⟩⟩
    · have hjl : j < gs.length := (List.getElem?_eq_some_iff.1 hj).1
      have hx : (List.zipWith (fun g (zs : List Int) => rowV g zs.length) gs xss)[j]? = some (rowV g' (ln xss j)) := by
        rw [List.getElem?_zipWith, hj, List.getElem?_eq_getElem (by omega)]
        simp only [Option.some.injEq]
        unfold ln
        rw [List.getD_eq_getElem?_getD, List.getElem?_eq_getElem (by omega)]
        rfl
      have := World.ownsRow.cells h2 (g := g) rfl j _ hx
      rwa [WideShapes.add_plain, Nat.zero_add] at this
    · obtain ⟨r1, -, ⟨cs, r2⟩, r3⟩ := h3 j g' hj
      refine ⟨r1, r3.lt, fun e => ?_, r3⟩
      rw [e, hh] at r2
      injection r2 with r2
      injection r2 with _ ht
      exact absurd ht (by decide)
    · rcases Nat.lt_or_gt_of_ne hij with h | h
      · have := h4 i j gi gj hi hj h; omega
      · have := h4 j i gj gi hj hi h; omega
end Go.Proofs.Ytfjimdmoindepaa.NewII
/- QuadsOf and CountQuads, as impl tells them. -/
namespace Go.Proofs.Ytfjimdmoindepaa.Sg
open Go.RowKit Pt NewI NewII Go.Maps
/-- A four as a row. -/
def r4 (t : T4) : List Int := [(t.1 : Int), (t.2.1 : Int), (t.2.2.1 : Int), (t.2.2.2 : Int)]
def rows4 (L : List T4) : List (List Int) := L.map r4
theorem rows4_length (L : List T4) : (rows4 L).length = L.length := by unfold rows4; simp
theorem rows4_snoc (L : List T4) (t : T4) : rows4 (L ++ [t]) = rows4 L ++ [r4 t] := by unfold rows4; simp
set_option maxRecDepth 100000 in
theorem infoL : (Try.prog.info? 40).map (fun i => (i.zero, i.size, i.bytes)) = some (some (.slice none 0 0), 1, 24) := by kernel_rfl
set_option maxHeartbeats 800000 in
set_option maxRecDepth 100000 in
theorem clone4_any (b c : Nat) (x y z u : Int) (w : World) (h0 : w.cell? ⟨b, 0, none⟩ = some (.int .i64 x)) (h1 : w.cell? ⟨b, 1, none⟩ = some (.int .i64 y)) (h2 : w.cell? ⟨b, 2, none⟩ = some (.int .i64 z)) (h3 : w.cell? ⟨b, 3, none⟩ = some (.int .i64 u)) :
    Calls Try.prog 62 #[.slice (some ⟨b, 0, none⟩) 4 c] w fun e w' => ∃ g cp, e = .returned (.slice (some ⟨g, 0, none⟩) 4 cp) ∧ w.heap.size ≤ g ∧ (∃ cs, w'.heap[g]? = some (.cells cs 3)) ∧ Cells w' g 4 (zc [x, y, z, u]) ∧ Below w.heap.size w w' := by
  obtain ⟨i0, hi, hz0, hz1, hz2⟩ := info_parts infoI
  have HO := Lib.hid (World.ownsRow_made (base := w.heap.size) (e := 3) (size := 1) w #[] 0 (Nat.le_refl _) (by decide) rfl)
  have HB0 := Lib.hid ((Below.refl w.heap.size w).alloc (Nat.le_refl _) (.cells #[] 3))
  have hbl : b < w.heap.size := Kit.cell_lt h0
  have HN : Hid (∀ (j : Nat) v, [Value.int .i64 x, Value.int .i64 y, Value.int .i64 z, Value.int .i64 u][j]? = some v → (w.alloc (.cells #[] 3)).cell? (Addr.add ⟨b, 0, none⟩ j) = some v) := Lib.hid (fun j v hv => by
    rw [WideShapes.add_plain, Nat.zero_add, World.cell?_alloc_lt _ _ _ (by simpa using hbl)]
    have hj : j < 4 := by
      rcases Nat.lt_or_ge j 4 with h | h
      · exact h
      · rw [List.getElem?_eq_none (by simpa using h)] at hv; cases hv
    rcases (by omega : j = 0 ∨ j = 1 ∨ j = 2 ∨ j = 3) with rfl | rfl | rfl | rfl <;> simp at hv <;> subst hv <;> assumption)
  have hnil : ∀ W : World, (binOp .eql 40 (.slice (some ⟨b, 0, none⟩) 4 c) (.slice none 0 0)).run Try.prog W = .ok (.bool false) W := fun W => by
    rw [Lib.run_eql_slice_nil W 40 3 _ _ _ _ _ Try.underlying40]; rfl
  clear h0 h1 h2 h3
  go_enter Try.func62, Try.ntmps62
  go_wp2_with (at_builtin; refine wpList_append_own _ rfl _ _ 40 rfl w.heap.size 3 i0 _ 1 8 Try.underlying40 hi hz0 hz1 hz2 rfl (by decide) _ _ _ rfl HO.out ⟨b, 0, none⟩ 4 c [.int .i64 x, .int .i64 y, .int .i64 z, .int .i64 u] rfl rfl HN.out (one4 _ _ _ _) ?_ ?_ ?_ ?_)
  · simp only [maxLen]; omega
  · omega
  · simp
  intro v1 w1 hown1 hg1 _
  have B1 := Lib.hid (HB0.out.grown hg1 (by simp) (fun q hq => (World.ownsRow.lt HO.out q hq).1))
  have hlt := World.ownsRow.lt hown1
  obtain ⟨g, cp, rfl, hg, hcs, hcl⟩ : ∃ g cp, v1 = .slice (some ⟨g, 0, none⟩) 4 cp ∧ w.heap.size ≤ g ∧ (∃ cs, w1.heap[g]? = some (.cells cs 3)) ∧ Cells w1 g 4 (zc [x, y, z, u]) := by
    obtain ⟨-, ⟨-, h1⟩ | ⟨g, cap, cur, rfl, hB, hh, hr⟩⟩ := id hown1
    · omega
    · refine ⟨g, cap, rfl, hB, ⟨cur, hh⟩, fun j hj => ?_, fun j => World.ownsRow.frozenAt hown1 j, (hlt g rfl).2⟩
      have e : ∀ v, ([] ++ [Value.int .i64 x, Value.int .i64 y, Value.int .i64 z, Value.int .i64 u])[j]? = some v → w1.cell? ⟨g, j, none⟩ = some v := fun v hv => by
        have := World.ownsRow.cells hown1 (g := g) rfl j v hv
        rwa [WideShapes.add_plain, Nat.zero_add] at this
      rcases (by omega : j = 0 ∨ j = 1 ∨ j = 2 ∨ j = 3) with rfl | rfl | rfl | rfl
      · exact e _ rfl
      · exact e _ rfl
      · exact e _ rfl
      · exact e _ rfl
  have HC := Lib.hid hcl
  clear hown1 hcl hg1
  go_wp2
  go_ret
  exact ⟨g, cp, rfl, hg, hcs, HC.out, B1.out⟩
theorem newsR (w : World) (v : Value) (t : TypeId) : ∀ (j : Nat) u, [v][j]? = some u → (w.alloc (.cells #[v] t)).cell? (Addr.add ⟨w.heap.size, 0, none⟩ j) = some u
  | 0, u, h => by
    rw [WideShapes.add_plain, Nat.add_zero, World.cell?_alloc_new]
    simpa using h
  | j + 1, u, h => by simp at h
theorem oneR (a : Option Addr) (n c : Nat) : ∀ u ∈ [Value.slice a n c], u.oneCell' = true := fun u hu => by
  simp only [List.mem_cons, List.not_mem_nil, or_false] at hu
  subst hu; rfl
set_option maxHeartbeats 3200000 in
set_option maxRecDepth 100000 in
theorem quadsOf_any (B : Nat) (f : Int → Int → Int → Int) (n : Nat) (h3 : 3 ≤ n) (h7 : n ≤ 7) (w : World) (hm : MapIs w B f) :
    Calls Try.prog 35 #[.map (some B), .int .i64 n] w fun e w' => Got2 w.heap.size (rows4 (quads (sgnF f) n)) e w' ∧ Below w.heap.size w w' := by
  obtain ⟨i0, hi, hz0, hz1, hz2⟩ := info_parts infoL
  have HM := Lib.hid hm
  have HI : Hid (∀ (a b c d : Nat), a ≤ 7 → b ≤ 7 → c ≤ 7 → d ≤ 7 → ∀ W, MapIs W B f → Calls Try.prog 36 #[.map (some B), .int .i64 a, .int .i64 b, .int .i64 c, .int .i64 d] W fun e w' => e = .returned (.int .i64 (inn4 (cir (sgnF f) a b c d) a b c d)) ∧ Below W.heap.size W w') := Lib.hid (fun a b c d h1 h2 h3 h4 W hW => innerOf_any B f a b c d (i64_nat (by omega)) (i64_nat (by omega)) (i64_nat (by omega)) (i64_nat (by omega)) W hW)
  have hl4 := fours_len h7
  have HQL := Lib.hid (fun p => quadsTo_len (f := sgnF f) (p := p) h7)
  have HALL := Lib.hid (quadsTo_all (sgnF f) n)
  have HZ := Lib.hid (quadsTo_zero (sgnF f) n)
  clear hm
  go_enter Try.func35, Try.ntmps35
  go_wp2_with fail
  refine (foursOf_any n h3 h7 _).mono ?_
  rintro e w1 ⟨v, rfl, hv, hb1⟩
  obtain ⟨a, c, rfl, hr⟩ := owns4_row hv
  have HR : Hid (Row4 w1 a (fours n)) := Lib.hid (fun hne => by obtain ⟨g, h1, _, h2, h4⟩ := hr hne; exact ⟨g, h1, h2, h4⟩)
  have B1 := Lib.hid hb1
  have HM1 := Lib.hid (HM.out.on hb1)
  have HO : Hid (OwnL w1 w1.heap.size w1.heap.size (.slice none 0 0) (rows4 (quadsTo (sgnF f) n 0))) := Lib.hid (by rw [HZ.out]; exact OwnL.nil _ _ _)
  clear hv hr hb1
  go_wp2
  go_loopw [5, 11] (fun vv i wr => ∃ p : Nat, p ≤ (fours n).length ∧ i = .int .i64 p ∧ Hid (OwnL wr w1.heap.size wr.heap.size vv (rows4 (quadsTo (sgnF f) n p))) ∧ Hid (Below w1.heap.size w1 wr)) (fun _ i _ => (fours n).length - (intOf i).toNat)
  case atStart => exact ⟨0, Nat.zero_le _, rfl, HO, Lib.hid (Below.refl _ _)⟩
  case round =>
    obtain ⟨p, hp, rfl, HV, HB⟩ := hrel
    by_cases hltp : p < (fours n).length
    · obtain ⟨t, ht⟩ : ∃ t, (fours n)[p]? = some t := ⟨_, List.getElem?_eq_getElem hltp⟩
      have hne : fours n ≠ [] := fun e0 => by rw [e0] at hltp; simp at hltp
      obtain ⟨g, rfl, hgl, hat4⟩ := HR.out hne
      obtain ⟨x0, x1, x2, x3⟩ := (hat4.on HB.out hgl) p t ht
      obtain ⟨t1, t2, t3, t4⟩ := fours_mem h7 (List.mem_of_getElem? ht)
      obtain ⟨z0, z1, z2, z3⟩ := box4_made wr t.1 t.2.1 t.2.2.1 t.2.2.2 85
      have HBa := Lib.hid (HB.out.alloc HB.out.size (.cells #[.int .i64 t.1, .int .i64 t.2.1, .int .i64 t.2.2.1, .int .i64 t.2.2.2] 85))
      have HVa := Lib.hid (HV.out.on ((Below.refl wr.heap.size wr).alloc (Nat.le_refl _) (.cells #[.int .i64 t.1, .int .i64 t.2.1, .int .i64 t.2.2.1, .int .i64 t.2.2.2] 85)))
      have HMa := Lib.hid (HM1.out.on HBa.out)
      have HZ4 := Lib.hid (box4_made wr t.1 t.2.1 t.2.2.1 t.2.2.2 85)
      have HCC := Lib.hid (HI.out t.1 t.2.1 t.2.2.1 t.2.2.2 (by omega) (by omega) (by omega) (by omega) _ HMa.out)
      have HH := Lib.hid (fun h => quadsTo_hit (f := sgnF f) ht h)
      have HX := Lib.hid (fun h => quadsTo_miss (f := sgnF f) ht h)
      have hhas : hasI (sgnF f) t = !(inn4 (cir (sgnF f) t.1 t.2.1 t.2.2.1 t.2.2.2) t.1 t.2.1 t.2.2.1 t.2.2.2 == -1) := rfl
      generalize inn4 (cir (sgnF f) t.1 t.2.1 t.2.2.1 t.2.2.2) t.1 t.2.1 t.2.2.1 t.2.2.2 = y at HCC hhas
      have hlt0 : wr.heap.size < (wr.alloc (.cells #[.int .i64 t.1, .int .i64 t.2.1, .int .i64 t.2.2.1, .int .i64 t.2.2.2] 85)).heap.size := by simp
      clear ht hat4 HV HZ
      cases hy : (y == -1)
      · rw [hy] at hhas
        have HN := Lib.hid (HX.out hhas)
        go_wp2_with fail
        refine HCC.out.mono ?_
        rintro e w3 ⟨rfl, hb3⟩
        have HB3 := Lib.hid (HBa.out.trans (hb3.mono HBa.out.size))
        have HV3 : Hid (OwnL w3 w1.heap.size w3.heap.size _ (rows4 (quadsTo (sgnF f) n (p + 1)))) := Lib.hid (by rw [HN.out]; exact (HVa.out.on hb3).top)
        clear hb3 HCC
        go_wp2
        exact ⟨⟨p + 1, by omega, by go_num, HV3, HB3⟩, by simp only [intOf]; omega⟩
      · rw [hy] at hhas
        have HN := Lib.hid (HH.out hhas)
        have HYL := HQL.out p
        generalize quadsTo (sgnF f) n p = ys at HVa HN HYL
        go_wp2_with fail
        refine HCC.out.mono ?_
        rintro e w3 ⟨rfl, hb3⟩
        have HB3 := Lib.hid (HBa.out.trans (hb3.mono HBa.out.size))
        have HV3 := Lib.hid (HVa.out.on hb3).top
        have hbx : ∀ i v, (wr.alloc (.cells #[.int .i64 t.1, .int .i64 t.2.1, .int .i64 t.2.2.1, .int .i64 t.2.2.2] 85)).cell? ⟨wr.heap.size, i, none⟩ = some v → w3.cell? ⟨wr.heap.size, i, none⟩ = some v := fun i v h => by rw [hb3.cell hlt0]; exact h
        have k0 := hbx _ _ HZ4.out.1
        have k1 := hbx _ _ HZ4.out.2.1
        have k2 := hbx _ _ HZ4.out.2.2.1
        have k3 := hbx _ _ HZ4.out.2.2.2
        clear hb3 HCC hbx
        go_wp2_with fail
        refine (clone4_any _ _ _ _ _ _ _ k0 k1 k2 k3).mono ?_
        rintro e w4 ⟨gc, cp, rfl, hgc, hcs, hcl, hb4⟩
        have HB4 := Lib.hid (HB3.out.trans (hb4.mono HB3.out.size))
        have HV4 := Lib.hid (HV3.out.on hb4)
        have HC4 := Lib.hid hcl
        have HCS := Lib.hid hcs
        obtain ⟨L, hL⟩ := HV4.out.row
        have HL4 := Lib.hid hL
        have hyl2 : (rows4 ys).length ≤ 35 := by rw [rows4_length]; exact HYL
        have hs4 : w1.heap.size ≤ w4.heap.size := HB4.out.size
        have hs1 : w.heap.size ≤ w1.heap.size := B1.out.size
        have hs3 : w1.heap.size ≤ gc := Nat.le_trans HB3.out.size hgc
        clear hcl hcs hb4 hL k0 k1 k2 k3
        go_wp2_with (at_builtin; refine wpList_append_own _ rfl (.tmp 26) (.tmp 29) 31 rfl w1.heap.size 40 i0 _ 1 24 Try.underlying31 hi hz0 hz1 hz2 rfl (by decide) _ _ _ rfl (World.ownsRow.alloc HL4.out _) ⟨_, 0, none⟩ 1 1 [.slice (some ⟨gc, 0, none⟩) 4 cp] rfl rfl (newsR _ _ _) (oneR _ _ _) (by simp only [maxLen]; omega) (by omega) (by simp; omega) ?_)
        intro v1 w5 hown hg _
        have hal := (Below.refl w4.heap.size w4).alloc (Nat.le_refl _) (.cells #[.slice (some ⟨gc, 0, none⟩) 4 cp] 40)
        have HV5 : Hid (OwnL w5 w1.heap.size w5.heap.size v1 (rows4 (quadsTo (sgnF f) n (p + 1)))) := Lib.hid (by
          rw [HN.out, rows4_snoc]
          obtain ⟨cs, hcs⟩ := HCS.out
          have hgl : gc < w4.heap.size := HC4.out.lt
          exact (OwnL.snoc (g := (gc, cp)) (zs := r4 t) (HV4.out.on hal) hs3 hgc ⟨cs, by rw [hal.block gc hgl]; exact hcs⟩ (HC4.out.on hal) hg (World.ownsRow.alloc HL4.out _) hown).top)
        have HB5 : Hid (Below w1.heap.size w1 w5) := Lib.hid ((HB4.out.alloc HB4.out.size _).grown hg (by simp; omega) (fun q hq => (World.ownsRow.lt HL4.out q hq).1))
        clear hown hg hal
        go_wp2
        exact ⟨⟨p + 1, by omega, by go_num, HV5, HB5⟩, by simp only [intOf]; omega⟩
    · have HV2 := HV
      rw [show p = (fours n).length by omega, HALL.out] at HV2
      obtain ⟨a2, c2, hv, hli⟩ := Lists.of_own HV2.out
      subst hv
      have HLI := Lib.hid hli
      clear HV HV2 hli
      go_wp2
      go_ret
      exact ⟨⟨a2, c2, rfl, HLI.out.low B1.out.size⟩, B1.out.trans (HB.out.mono B1.out.size)⟩
end Go.Proofs.Ytfjimdmoindepaa.Sg
/- The elements inside a triangle and the empty triangles, as spec tells them: IsInside, l5Inside, CountInside, EmptyTriangles. -/
namespace Go.Proofs.Ytfjimdmoindepaa.Sg
open Go.RowKit Pt NewI
/-- A circuit that is not full has no inner element. -/
theorem isIn_no {x : Int × Int × Int × Int} (h : full x = false) : isIn x = false := by
  cases hi : isIn x
  · rfl
  · exfalso
    obtain ⟨x0, x1, x2, x3⟩ := x
    unfold isIn at hi
    simp only [Bool.and_eq_true, beq_iff_eq] at hi
    obtain ⟨rfl, rfl, rfl, rfl⟩ := hi
    exact absurd h (by decide)
theorem isIn_same {n : Nat} {s : List UInt8} (h : aciB n s = true) {a b c d : Int} (hd : difB n [a, b, c, d] = false) : isIn (cir (sgnF (ordF n s)) a b c d) = false := by
  rw [ordF_is h]
  refine isIn_no ?_
  cases hf : full (cir (sgnF (lookS n s)) a b c d)
  · rfl
  · rw [dif_of_full (matB_ar (aciB_mat h)) hf] at hd; cases hd
set_option maxHeartbeats 3200000 in
set_option maxRecDepth 100000 in
theorem specIsInside (n : Int) (s : ByteArray) (a b c d : Int) (hs : s.size ≤ 9223372036854775807) (w : World) :
    Calls Try.prog 19 #[sg n s, .int .i64 a, .int .i64 b, .int .i64 c, .int .i64 d] w fun e w' => e = .returned (.bool (isIn (cir (sgnF (ordF n s.data.toList)) a b c d))) ∧ Below w.heap.size w w' := by
  have HA := Lib.hid (fun W => specAci n s hs W)
  have HS := Lib.hid (box_made w n s 25)
  obtain ⟨x0, x1, -⟩ := HS.out
  cases h : aciB n s.data.toList
  · have HE : Hid (isIn (cir (sgnF (ordF n s.data.toList)) a b c d) = false) := Lib.hid (isIn_no (full_no h a b c d))
    rw [h] at HA
    clear h
    go_enter Try.func19, Try.ntmps19
    go_wp2_with fail
    refine (HA.out _).mono ?_
    rintro e w1 ⟨rfl, hb1⟩
    have B1 := Lib.hid (HS.out.on hb1).2.2
    clear hb1 x0 x1
    go_wp2
    go_ret
    exact ⟨ret_bool HE.out.symm, B1.out⟩
  · obtain ⟨h3, h7⟩ := aciB_n h
    obtain ⟨m, rfl⟩ : ∃ m : Nat, n = m := ⟨n.toNat, by omega⟩
    have HD : Hid (∀ g W, Cells W g 4 (zc [a, b, c, d]) → Calls Try.prog 31 #[.int .i64 m, .slice (some ⟨g, 0, none⟩) 4 4] W fun e w' => e = .returned (.bool (difB m [a, b, c, d])) ∧ Below W.heap.size W w') := Lib.hid (fun g W hW => l5Different_any m (by omega) [a, b, c, d] (by simp) g 4 W hW)
    cases hdf : difB m [a, b, c, d]
    · have HE := Lib.hid (isIn_same h hdf)
      rw [h] at HA
      rw [hdf] at HD
      clear h hdf
      go_enter Try.func19, Try.ntmps19
      go_wp2_with fail
      refine (HA.out _).mono ?_
      rintro e w1 ⟨rfl, hb1⟩
      have X1 := Lib.hid (HS.out.on hb1)
      clear hb1 x0 x1
      obtain ⟨x0, x1, B1⟩ := X1.out
      have G1 := Lib.hid (cells4_made w1 a b c d 3)
      have B1a := Lib.hid (B1.alloc B1.size (.cells #[.int .i64 a, .int .i64 b, .int .i64 c, .int .i64 d] 3))
      go_wp2_with fail
      refine (HD.out _ _ G1.out).mono ?_
      rintro e w2 ⟨rfl, hb2⟩
      have B2 := Lib.hid (B1a.out.trans (hb2.mono B1a.out.size))
      clear hb2 x0 x1
      go_wp2
      go_ret
      exact ⟨ret_bool HE.out.symm, B2.out⟩
    · have har := matB_ar (aciB_mat h)
      obtain ⟨ga, gb, gc, gd, n1, n2, n3, n4, n5, n6⟩ := difB4.1 hdf
      obtain ⟨a, rfl⟩ : ∃ x : Nat, a = x := ⟨a.toNat, by omega⟩
      obtain ⟨b, rfl⟩ : ∃ x : Nat, b = x := ⟨b.toNat, by omega⟩
      obtain ⟨c, rfl⟩ : ∃ x : Nat, c = x := ⟨c.toNat, by omega⟩
      obtain ⟨d, rfl⟩ : ∃ x : Nat, d = x := ⟨d.toNat, by omega⟩
      have HIN : Hid (∀ g W, Cells W g 4 (zc [(a : Int), (b : Int), (c : Int), (d : Int)]) → Calls Try.prog 40 #[sg m s, .slice (some ⟨g, 0, none⟩) 4 4] W fun e w' => e = .returned (.int .i64 (inn4 (cir (sgnF (lookS m s.data.toList)) a b c d) a b c d)) ∧ Below W.heap.size W w') := Lib.hid (fun g W hW => l5Inner_any m s a b c d har (by omega) (by omega) (by omega) (by omega) (by omega) (by omega) (by omega) (by omega) (by omega) (by omega) g 4 W hW)
      have HE : Hid ((inn4 (cir (sgnF (lookS m s.data.toList)) a b c d) a b c d == (a : Int)) = isIn (cir (sgnF (ordF m s.data.toList)) a b c d)) := Lib.hid (by rw [ordF_is h]; exact inn4_isIn n1 n2 n3 (by omega))
      rw [← HE.out]
      generalize inn4 (cir (sgnF (lookS m s.data.toList)) a b c d) a b c d = y at HIN ⊢
      rw [h] at HA
      rw [hdf] at HD
      clear h hdf har HE n1 n2 n3 n4 n5 n6
      go_enter Try.func19, Try.ntmps19
      go_wp2_with fail
      refine (HA.out _).mono ?_
      rintro e w1 ⟨rfl, hb1⟩
      have X1 := Lib.hid (HS.out.on hb1)
      clear hb1 x0 x1
      obtain ⟨x0, x1, B1⟩ := X1.out
      have G1 := Lib.hid (cells4_made w1 a b c d 3)
      have X1a := Lib.hid (X1.out.alloc (.cells #[.int .i64 a, .int .i64 b, .int .i64 c, .int .i64 d] 3))
      go_wp2_with fail
      refine (HD.out _ _ G1.out).mono ?_
      rintro e w2 ⟨rfl, hb2⟩
      have X2 := Lib.hid (X1a.out.on hb2)
      clear hb2 x0 x1 B1
      obtain ⟨x0, x1, B2⟩ := X2.out
      have G2 := Lib.hid (cells4_made w2 a b c d 3)
      have B2a := Lib.hid (B2.alloc B2.size (.cells #[.int .i64 a, .int .i64 b, .int .i64 c, .int .i64 d] 3))
      go_wp2_with fail
      refine (HIN.out _ _ G2.out).mono ?_
      rintro e w3 ⟨rfl, hb3⟩
      have B3 := Lib.hid (B2a.out.trans (hb3.mono B2a.out.size))
      clear hb3 x0 x1
      go_wp2
      go_ret
      exact ⟨rfl, B3.out⟩
/-- A circuit with an element twice has no inner one. -/
theorem isIn_twice {n : Nat} {s : List UInt8} (h : arB n s = true) {p a b c : Int} (hp : p = a ∨ p = b ∨ p = c) : isIn (cir (sgnF (lookS n s)) p a b c) = false := by
  refine isIn_no ?_
  cases hf : full (cir (sgnF (lookS n s)) p a b c)
  · rfl
  · obtain ⟨-, -, -, -, n1, n2, n3, -⟩ := difB4.1 (dif_of_full h hf)
    omega
set_option maxHeartbeats 3200000 in
set_option maxRecDepth 100000 in
theorem l5Inside_any (n : Nat) (s : ByteArray) (a b c : Nat) (h : arB n s.data.toList = true) (ha : a < n) (hb : b < n) (hc : c < n) (d1 : a ≠ b) (d2 : a ≠ c) (d3 : b ≠ c) (w : World) :
    Calls Try.prog 44 #[sg n s, .int .i64 a, .int .i64 b, .int .i64 c] w fun e w' => e = .returned (.int .i64 (cntI (sgnF (lookS n s.data.toList)) a b c n)) ∧ Below w.heap.size w w' := by
  obtain ⟨_, h7, -, -⟩ := arB_yes h
  have h7 : n ≤ 7 := by omega
  have HS := Lib.hid (box_made w n s 25)
  have HTW : Hid (∀ p : Nat, p = a ∨ p = b ∨ p = c → isIn (cir (sgnF (lookS n s.data.toList)) p a b c) = false) := Lib.hid (fun p hp => isIn_twice h (by omega))
  have HIN : Hid (∀ p : Nat, p < n → p ≠ a → p ≠ b → p ≠ c → ∃ y : Int, (y == (p : Int)) = isIn (cir (sgnF (lookS n s.data.toList)) p a b c) ∧ ∀ g W, Cells W g 4 (zc [(p : Int), (a : Int), (b : Int), (c : Int)]) → Calls Try.prog 40 #[sg n s, .slice (some ⟨g, 0, none⟩) 4 4] W fun e w' => e = .returned (.int .i64 y) ∧ Below W.heap.size W w') := Lib.hid (fun p hp n1 n2 n3 =>
    ⟨_, inn4_isIn (by omega) (by omega) (by omega) (by omega), fun g W hW => l5Inner_any n s p a b c h hp ha hb hc n1 n2 n3 d1 d2 d3 g 4 W hW⟩)
  have HLE := Lib.hid (cntI_le (sgnF (lookS n s.data.toList)) a b c)
  generalize sgnF (lookS n s.data.toList) = F at HTW HIN HLE ⊢
  clear h
  go_enter Try.func44, Try.ntmps44
  go_wp2
  go_loopw [9, 10] (fun cv i wr => ∃ p : Nat, p ≤ n ∧ i = .int .i64 p ∧ cv = .int .i64 (cntI F a b c p : Nat) ∧ Hid (Box w n s wr)) (fun _ i _ => n - (intOf i).toNat)
  case atStart => exact ⟨0, Nat.zero_le _, rfl, rfl, HS⟩
  case round =>
    obtain ⟨p, hp, rfl, rfl, HB⟩ := hrel
    have hle := HLE.out p
    obtain ⟨x0, x1, B0⟩ := HB.out
    by_cases hlt : p < n
    · by_cases e1 : p = a
      · have HN := Lib.hid (cntI_miss (p := p) (HTW.out p (.inl e1)))
        have t1 : ((p : Int) != (a : Int)) = false := by simp; omega
        clear e1
        go_wp2
        exact ⟨⟨p + 1, by omega, by go_num, by rw [HN.out], HB⟩, by simp only [intOf]; omega⟩
      · have t1 : ((p : Int) != (a : Int)) = true := by simp; omega
        by_cases e2 : p = b
        · have HN := Lib.hid (cntI_miss (p := p) (HTW.out p (.inr (.inl e2))))
          have t2 : ((p : Int) != (b : Int)) = false := by simp; omega
          clear e1 e2
          go_wp2
          exact ⟨⟨p + 1, by omega, by go_num, by rw [HN.out], HB⟩, by simp only [intOf]; omega⟩
        · have t2 : ((p : Int) != (b : Int)) = true := by simp; omega
          by_cases e3 : p = c
          · have HN := Lib.hid (cntI_miss (p := p) (HTW.out p (.inr (.inr e3))))
            have t3 : ((p : Int) != (c : Int)) = false := by simp; omega
            clear e1 e2 e3
            go_wp2
            exact ⟨⟨p + 1, by omega, by go_num, by rw [HN.out], HB⟩, by simp only [intOf]; omega⟩
          · have t3 : ((p : Int) != (c : Int)) = true := by simp; omega
            obtain ⟨y, hy, hcall⟩ := HIN.out p hlt e1 e2 e3
            have HCALL := Lib.hid hcall
            have G1 := Lib.hid (cells4_made wr p a b c 3)
            have X1 := Lib.hid (HB.out.alloc (.cells #[.int .i64 p, .int .i64 a, .int .i64 b, .int .i64 c] 3))
            clear hcall e1 e2 e3
            cases hin : isIn (cir F p a b c)
            · have HN := Lib.hid (cntI_miss (p := p) hin)
              rw [hin] at hy
              clear hin
              go_wp2_with fail
              refine (HCALL.out _ _ G1.out).mono ?_
              rintro e w2 ⟨rfl, hb2⟩
              have X2 := Lib.hid (X1.out.on hb2)
              clear hb2
              go_wp2
              exact ⟨⟨p + 1, by omega, by go_num, by rw [HN.out], X2⟩, by simp only [intOf]; omega⟩
            · have HN := Lib.hid (cntI_hit (p := p) hin)
              rw [hin] at hy
              clear hin
              go_wp2_with fail
              refine (HCALL.out _ _ G1.out).mono ?_
              rintro e w2 ⟨rfl, hb2⟩
              have X2 := Lib.hid (X1.out.on hb2)
              clear hb2
              go_wp2
              exact ⟨⟨p + 1, by omega, by go_num, by rw [HN.out]; go_num, X2⟩, by simp only [intOf]; omega⟩
    · obtain rfl : p = n := by omega
      go_wp2
      go_ret
      exact ⟨rfl, B0⟩
/-- A slice of three numbers just made. -/
theorem cells3_made (w : World) (a b c : Int) (t : TypeId) : Cells (w.alloc (.cells #[.int .i64 a, .int .i64 b, .int .i64 c] t)) w.heap.size 3 (zc [a, b, c]) := by
  obtain ⟨h0, h1, h2⟩ := box3_made w a b c t
  refine ⟨fun j hj => ?_, fun j => by go_simp, by simp⟩
  rcases (by omega : j = 0 ∨ j = 1 ∨ j = 2) with rfl | rfl | rfl
  · exact h0
  · exact h1
  · exact h2
theorem insN_no {n : Int} {s : List UInt8} (h : aciB n s = false) (a b c : Int) : insN n s a b c = -1 := by unfold insN; rw [if_pos (sgnO_no h a b c)]
theorem insN_same {n : Nat} {s : List UInt8} (h : aciB n s = true) {a b c : Int} (hd : difB n [a, b, c] = false) : insN n s a b c = -1 := by
  unfold insN
  rw [ordF_yes h, if_pos (sgnF_bad (matB_ar (aciB_mat h)) (fun hb => ?_))]
  rw [difB3.2 ⟨hb.1, hb.2.1, hb.2.2.1, hb.2.2.2.1, hb.2.2.2.2.2, hb.2.2.2.2.1⟩] at hd; cases hd
theorem insN_yes {n a b c : Nat} {s : List UInt8} (h : aciB n s = true) (ha : a < n) (hb : b < n) (hc : c < n) (d1 : a ≠ b) (d2 : a ≠ c) (d3 : b ≠ c) : insN n s a b c = (cntI (sgnF (lookS n s)) a b c n : Nat) := by
  have h1 := sgn_one (matB_ar (aciB_mat h)) ha hb hc d1 d3 d2
  unfold insN
  rw [ordF_yes h, if_neg (by omega), Int.toNat_natCast]
set_option maxHeartbeats 3200000 in
set_option maxRecDepth 100000 in
theorem specCountInside (n : Int) (s : ByteArray) (a b c : Int) (hs : s.size ≤ 9223372036854775807) (w : World) :
    Calls Try.prog 21 #[sg n s, .int .i64 a, .int .i64 b, .int .i64 c] w fun e w' => e = .returned (.int .i64 (insN n s.data.toList a b c)) ∧ Below w.heap.size w w' := by
  have HA := Lib.hid (fun W => specAci n s hs W)
  have HS := Lib.hid (box_made w n s 25)
  obtain ⟨x0, x1, -⟩ := HS.out
  cases h : aciB n s.data.toList
  · have HE := Lib.hid (insN_no h a b c)
    rw [h] at HA
    clear h
    go_enter Try.func21, Try.ntmps21
    go_wp2_with fail
    refine (HA.out _).mono ?_
    rintro e w1 ⟨rfl, hb1⟩
    have B1 := Lib.hid (HS.out.on hb1).2.2
    clear hb1 x0 x1
    go_wp2
    go_ret
    exact ⟨ret_int HE.out.symm, B1.out⟩
  · obtain ⟨h3, h7⟩ := aciB_n h
    obtain ⟨m, rfl⟩ : ∃ m : Nat, n = m := ⟨n.toNat, by omega⟩
    have HD : Hid (∀ g W, Cells W g 3 (zc [a, b, c]) → Calls Try.prog 31 #[.int .i64 m, .slice (some ⟨g, 0, none⟩) 3 3] W fun e w' => e = .returned (.bool (difB m [a, b, c])) ∧ Below W.heap.size W w') := Lib.hid (fun g W hW => l5Different_any m (by omega) [a, b, c] (by simp) g 3 W hW)
    cases hdf : difB m [a, b, c]
    · have HE := Lib.hid (insN_same h hdf)
      rw [h] at HA
      rw [hdf] at HD
      clear h hdf
      go_enter Try.func21, Try.ntmps21
      go_wp2_with fail
      refine (HA.out _).mono ?_
      rintro e w1 ⟨rfl, hb1⟩
      have X1 := Lib.hid (HS.out.on hb1)
      clear hb1 x0 x1
      obtain ⟨x0, x1, B1⟩ := X1.out
      have G1 := Lib.hid (cells3_made w1 a b c 3)
      have B1a := Lib.hid (B1.alloc B1.size (.cells #[.int .i64 a, .int .i64 b, .int .i64 c] 3))
      go_wp2_with fail
      refine (HD.out _ _ G1.out).mono ?_
      rintro e w2 ⟨rfl, hb2⟩
      have B2 := Lib.hid (B1a.out.trans (hb2.mono B1a.out.size))
      clear hb2 x0 x1
      go_wp2
      go_ret
      exact ⟨ret_int HE.out.symm, B2.out⟩
    · have har := matB_ar (aciB_mat h)
      obtain ⟨ga, gb, gc, n1, n2, n3⟩ := difB3.1 hdf
      obtain ⟨a, rfl⟩ : ∃ x : Nat, a = x := ⟨a.toNat, by omega⟩
      obtain ⟨b, rfl⟩ : ∃ x : Nat, b = x := ⟨b.toNat, by omega⟩
      obtain ⟨c, rfl⟩ : ∃ x : Nat, c = x := ⟨c.toNat, by omega⟩
      have HE := Lib.hid (insN_yes h (a := a) (b := b) (c := c) (by omega) (by omega) (by omega) (by omega) (by omega) (by omega))
      have HIN := Lib.hid (fun W => l5Inside_any m s a b c har (by omega) (by omega) (by omega) (by omega) (by omega) (by omega) W)
      rw [h] at HA
      rw [hdf] at HD
      clear h hdf har n1 n2 n3
      go_enter Try.func21, Try.ntmps21
      go_wp2_with fail
      refine (HA.out _).mono ?_
      rintro e w1 ⟨rfl, hb1⟩
      have X1 := Lib.hid (HS.out.on hb1)
      clear hb1 x0 x1
      obtain ⟨x0, x1, B1⟩ := X1.out
      have G1 := Lib.hid (cells3_made w1 a b c 3)
      have X1a := Lib.hid (X1.out.alloc (.cells #[.int .i64 a, .int .i64 b, .int .i64 c] 3))
      go_wp2_with fail
      refine (HD.out _ _ G1.out).mono ?_
      rintro e w2 ⟨rfl, hb2⟩
      have X2 := Lib.hid (X1a.out.on hb2)
      clear hb2 x0 x1 B1
      obtain ⟨x0, x1, B2⟩ := X2.out
      go_wp2_with fail
      refine (HIN.out _).mono ?_
      rintro e w3 ⟨rfl, hb3⟩
      have B3 := Lib.hid (B2.trans (hb3.mono B2.size))
      clear hb3 x0 x1
      go_wp2
      go_ret
      exact ⟨ret_int HE.out.symm, B3.out⟩
set_option maxRecDepth 100000 in
theorem l1Bit_any (b : Bool) (w : World) : Calls Try.prog 46 #[.bool b] w fun e w' => e = .returned (.int .i64 (bit b)) ∧ w' = w := by
  cases b
  · go_enter Try.func46, Try.ntmps46
    go_wp2
    go_ret
    exact ⟨rfl, rfl⟩
  · go_enter Try.func46, Try.ntmps46
    go_wp2
    go_ret
    exact ⟨rfl, rfl⟩
theorem bit_le (b : Bool) : bit b ≤ 1 := by cases b <;> decide
set_option maxHeartbeats 3200000 in
set_option maxRecDepth 100000 in
theorem specEmpty (n : Int) (s : ByteArray) (hs : s.size ≤ 9223372036854775807) (w : World) :
    Calls Try.prog 23 #[sg n s] w fun e w' => e = .returned (.int .i64 (emptyN n s.data.toList)) ∧ Below w.heap.size w w' := by
  have HA := Lib.hid (fun W => specAci n s hs W)
  have HS := Lib.hid (box_made w n s 25)
  cases h : aciB n s.data.toList
  · have HE : Hid (emptyN n s.data.toList = -1) := Lib.hid (by unfold emptyN; rw [h]; rfl)
    rw [h] at HA
    clear h
    go_enter Try.func23, Try.ntmps23
    go_wp2_with fail
    refine (HA.out _).mono ?_
    rintro e w1 ⟨rfl, hb1⟩
    have B1 := Lib.hid (HS.out.on hb1).2.2
    clear hb1
    go_wp2
    go_ret
    exact ⟨ret_int HE.out.symm, B1.out⟩
  · obtain ⟨h3, h7⟩ := aciB_n h
    obtain ⟨m, rfl⟩ : ∃ m : Nat, n = m := ⟨n.toNat, by omega⟩
    have h7 : m ≤ 7 := by omega
    have har := matB_ar (aciB_mat h)
    have HE : Hid (emptyN m s.data.toList = (emptyTo (sgnF (lookS m s.data.toList)) m (cnt m) : Nat)) := Lib.hid (by unfold emptyN; rw [if_pos h, ordF_yes h, Int.toNat_natCast])
    rw [HE.out]
    have HIN : Hid (∀ a b c : Nat, a < b → b < c → c < m → ∀ W, Calls Try.prog 44 #[sg m s, .int .i64 a, .int .i64 b, .int .i64 c] W fun e w' => e = .returned (.int .i64 (cntI (sgnF (lookS m s.data.toList)) a b c m)) ∧ Below W.heap.size W w') := Lib.hid (fun a b c h1 h2 h3 W => l5Inside_any m s a b c har (by omega) (by omega) (by omega) (by omega) (by omega) (by omega) W)
    rw [h] at HA
    generalize sgnF (lookS m s.data.toList) = F at HIN ⊢
    clear h har HE
    have HLE := Lib.hid (fun i j k => emptyU_le h7 F i j k)
    go_enter Try.func23, Try.ntmps23
    go_wp2_with fail
    refine (HA.out _).mono ?_
    rintro e w1 ⟨rfl, hb1⟩
    have X1 := Lib.hid (HS.out.on hb1)
    clear hb1
    go_wp2
    go_loopw [3, 4] (fun cv x wr => ∃ a : Nat, a ≤ m ∧ x = .int .i64 a ∧ cv = .int .i64 (emptyU F m a (a + 1) (a + 1 + 1) : Nat) ∧ Hid (Box w m s wr)) (fun _ x _ => m - (intOf x).toNat)
    case atStart => exact ⟨0, Nat.zero_le _, rfl, by rw [emptyU_zero h7]; rfl, X1⟩
    case round =>
      obtain ⟨a, han, rfl, rfl, HB⟩ := hrel
      obtain ⟨c0, c1, B0⟩ := HB.out
      by_cases hlt : a < m
      · go_wp2
        go_loopw [3, 5] (fun cv x wr => ∃ b : Nat, a < b ∧ b ≤ m ∧ x = .int .i64 b ∧ cv = .int .i64 (emptyU F m a b (b + 1) : Nat) ∧ Hid (Box w m s wr)) (fun _ x _ => m - (intOf x).toNat)
        case atStart => exact ⟨a + 1, by omega, by omega, by go_num, rfl, HB⟩
        case round =>
          obtain ⟨b, hab, hbn, rfl, rfl, HB⟩ := hrel
          obtain ⟨c0, c1, B0⟩ := HB.out
          by_cases hlt2 : b < m
          · go_wp2
            go_loopw [3, 6] (fun cv x wr => ∃ c : Nat, b < c ∧ c ≤ m ∧ x = .int .i64 c ∧ cv = .int .i64 (emptyU F m a b c : Nat) ∧ Hid (Box w m s wr)) (fun _ x _ => m - (intOf x).toNat)
            case atStart => exact ⟨b + 1, by omega, by omega, by go_num, rfl, HB⟩
            case round =>
              obtain ⟨c, hbc, hcn, rfl, rfl, HB⟩ := hrel
              obtain ⟨c0, c1, B0⟩ := HB.out
              have hle := HLE.out a b c
              by_cases hlt3 : c < m
              · have HC := Lib.hid (HIN.out a b c hab hbc hlt3)
                have HN := Lib.hid (emptyU_step h7 F hab hbc hlt3)
                generalize cntI F a b c m = k at HC HN
                have hbl := bit_le (k == 0)
                have ht : ((k : Int) == 0) = (k == 0) := by cases k <;> rfl
                generalize (k == 0) = z at HN hbl ht
                go_wp2_with fail
                refine (HC.out _).mono ?_
                rintro e w2 ⟨rfl, hb2⟩
                have HB2 := Lib.hid (HB.out.on hb2)
                clear hb2
                go_wp2_with (go_at_call 46; refine (l1Bit_any _ _).mono ?_; rintro e w' ⟨rfl, rfl⟩)
                exact ⟨⟨c + 1, by omega, by omega, by go_num, by rw [HN.out]; go_num, HB2⟩, by simp only [intOf]; omega⟩
              · have HN := Lib.hid (emptyU_inner h7 F hab hlt2)
                obtain rfl : c = m := by omega
                go_wp2
                exact ⟨⟨b + 1, by omega, by omega, by go_num, by rw [HN.out], HB⟩, by simp only [intOf]; omega⟩
          · have HN := Lib.hid (emptyU_mid h7 F hlt)
            obtain rfl : b = m := by omega
            go_wp2
            exact ⟨⟨a + 1, by omega, by go_num, by rw [HN.out], HB⟩, by simp only [intOf]; omega⟩
      · have HN := Lib.hid (emptyU_end h7 F)
        obtain rfl : a = m := by omega
        go_wp2
        go_ret
        exact ⟨ret_int (by rw [HN.out]), B0⟩
end Go.Proofs.Ytfjimdmoindepaa.Sg
/- QuadsOf and CountQuads, as impl and spec tell them. -/
namespace Go.Proofs.Ytfjimdmoindepaa.Sg
open Go.RowKit Pt NewI NewII Go.Maps
/-- What QuadsOf answers. -/
def quadsL (n : Int) (s : List UInt8) : List T4 := if aciB n s = true then quads (sgnF (lookS n s)) n.toNat else []
theorem quadsL_no {n : Int} {s : List UInt8} (h : aciB n s = false) : quadsL n s = [] := by unfold quadsL; rw [h]; rfl
theorem quadsL_yes {n : Nat} {s : List UInt8} (h : aciB n s = true) : quadsL n s = quads (sgnF (lookS n s)) n := by unfold quadsL; rw [if_pos h, Int.toNat_natCast]
theorem quadsL_len (n : Int) (s : List UInt8) : (quadsL n s).length ≤ 35 := by
  cases h : aciB n s
  · rw [quadsL_no h]; simp
  · obtain ⟨h3, h7⟩ := aciB_n h
    obtain ⟨m, rfl⟩ : ∃ m : Nat, n = m := ⟨n.toNat, by omega⟩
    rw [quadsL_yes h]; exact quads_len (by omega)
set_option maxHeartbeats 1600000 in
set_option maxRecDepth 100000 in
theorem implQuads (n : Int) (s : ByteArray) (hs : s.size ≤ 9223372036854775807) (w : World) :
    Calls Try.prog 10 #[sg n s] w fun e w' => Got2 w.heap.size (rows4 (quadsL n s.data.toList)) e w' ∧ Below w.heap.size w w' := by
  have HO := Lib.hid (fun W => implOrd n s hs W)
  have HS := Lib.hid (box_made w n s 25)
  cases h : aciB n s.data.toList
  · have HE := Lib.hid (quadsL_no h)
    rw [h] at HO
    clear h
    go_enter Try.func10, Try.ntmps10
    go_wp2_with fail
    refine (HO.out _).mono ?_
    rintro e w1 ⟨B, rfl, hm, hb1⟩
    have B1 := Lib.hid (HS.out.on hb1).2.2
    obtain ⟨⟨m, D, hown, hz, -⟩, -⟩ := hm
    have hz : ((Maps.size D : Int) == 0) = true := hz
    have HW := Lib.hid hown
    clear hown hb1
    go_wp2_with (at_len; refine wpList_len_own _ rfl _ 48 rfl 66 3 Try.underlying48 _ B m D rfl HW.out ?_)
    go_ret
    exact ⟨by rw [HE.out]; exact ⟨none, 0, rfl, .inl rfl⟩, B1.out⟩
  · obtain ⟨h3, h7⟩ := aciB_n h
    obtain ⟨m, rfl⟩ : ∃ m : Nat, n = m := ⟨n.toNat, by omega⟩
    have HE := Lib.hid (quadsL_yes h)
    have HF := Lib.hid (ordF_yes h)
    have HQ : Hid (∀ B W, MapIs W B (ordF m s.data.toList) → Calls Try.prog 35 #[.map (some B), .int .i64 m] W fun e w' => Got2 W.heap.size (rows4 (quadsL m s.data.toList)) e w' ∧ Below W.heap.size W w') := Lib.hid (fun B W hW => by rw [HE.out, ← HF.out]; exact quadsOf_any B _ m (by omega) (by omega) W hW)
    rw [h] at HO
    clear h
    go_enter Try.func10, Try.ntmps10
    go_wp2_with fail
    refine (HO.out _).mono ?_
    rintro e w1 ⟨B, rfl, hm, hb1⟩
    have X1 := Lib.hid (HS.out.on hb1)
    obtain ⟨c0, c1, B1⟩ := X1.out
    have HM1 := Lib.hid hm.is
    obtain ⟨⟨q, D, hown, hz, -⟩, -⟩ := hm
    have hz : ((Maps.size D : Int) == 0) = false := hz
    have HW := Lib.hid hown
    clear hown hb1
    go_wp2_with (at_len; refine wpList_len_own _ rfl _ 48 rfl 66 3 Try.underlying48 _ B q D rfl HW.out ?_)
    refine (HQ.out _ _ HM1.out).mono ?_
    rintro e w2 ⟨⟨a2, cp, rfl, hli⟩, hb2⟩
    have B2 := Lib.hid (B1.trans (hb2.mono B1.size))
    have HLI := Lib.hid (hli.low B1.size)
    clear hli hb2 c0 c1
    go_wp2
    go_ret
    exact ⟨⟨a2, cp, rfl, HLI.out⟩, B2.out⟩
/-- What CountQuads answers. -/
def quadsN (n : Int) (s : List UInt8) : Int := if aciB n s = true then ((quadsL n s).length : Nat) else -1
set_option maxHeartbeats 1600000 in
set_option maxRecDepth 100000 in
theorem implCountQuads (n : Int) (s : ByteArray) (hs : s.size ≤ 9223372036854775807) (w : World) :
    Calls Try.prog 16 #[sg n s] w fun e w' => e = .returned (.int .i64 (quadsN n s.data.toList)) ∧ Below w.heap.size w w' := by
  have HO := Lib.hid (fun W => implOrd n s hs W)
  have HS := Lib.hid (box_made w n s 25)
  cases h : aciB n s.data.toList
  · have HE : Hid (quadsN n s.data.toList = -1) := Lib.hid (by unfold quadsN; rw [h]; rfl)
    rw [h] at HO
    clear h
    go_enter Try.func16, Try.ntmps16
    go_wp2_with fail
    refine (HO.out _).mono ?_
    rintro e w1 ⟨B, rfl, hm, hb1⟩
    have B1 := Lib.hid (HS.out.on hb1).2.2
    obtain ⟨⟨m, D, hown, hz, -⟩, -⟩ := hm
    have hz : ((Maps.size D : Int) == 0) = true := hz
    have HW := Lib.hid hown
    clear hown hb1
    go_wp2_with (at_len; refine wpList_len_own _ rfl _ 48 rfl 66 3 Try.underlying48 _ B m D rfl HW.out ?_)
    go_ret
    exact ⟨ret_int HE.out.symm, B1.out⟩
  · obtain ⟨h3, h7⟩ := aciB_n h
    obtain ⟨m, rfl⟩ : ∃ m : Nat, n = m := ⟨n.toNat, by omega⟩
    have HE : Hid (quadsN m s.data.toList = ((quadsL m s.data.toList).length : Nat)) := Lib.hid (by unfold quadsN; rw [if_pos h])
    have HE2 := Lib.hid (quadsL_yes h)
    have HF := Lib.hid (ordF_yes h)
    have HQ : Hid (∀ B W, MapIs W B (ordF m s.data.toList) → Calls Try.prog 35 #[.map (some B), .int .i64 m] W fun e w' => Got2 W.heap.size (rows4 (quadsL m s.data.toList)) e w' ∧ Below W.heap.size W w') := Lib.hid (fun B W hW => by rw [HE2.out, ← HF.out]; exact quadsOf_any B _ m (by omega) (by omega) W hW)
    have HRL := Lib.hid (rows4_length (quadsL m s.data.toList))
    rw [h] at HO
    clear h
    go_enter Try.func16, Try.ntmps16
    go_wp2_with fail
    refine (HO.out _).mono ?_
    rintro e w1 ⟨B, rfl, hm, hb1⟩
    have X1 := Lib.hid (HS.out.on hb1)
    obtain ⟨c0, c1, B1⟩ := X1.out
    have HM1 := Lib.hid hm.is
    obtain ⟨⟨q, D, hown, hz, -⟩, -⟩ := hm
    have hz : ((Maps.size D : Int) == 0) = false := hz
    have HW := Lib.hid hown
    clear hown hb1
    go_wp2_with (at_len; refine wpList_len_own _ rfl _ 48 rfl 66 3 Try.underlying48 _ B q D rfl HW.out ?_)
    refine (HQ.out _ _ HM1.out).mono ?_
    rintro e w2 ⟨⟨a2, cp, rfl, hli⟩, hb2⟩
    have B2 := Lib.hid (B1.trans (hb2.mono B1.size))
    clear hli hb2 c0 c1
    go_wp2
    go_ret
    exact ⟨ret_int (by rw [HE.out, HRL.out]), B2.out⟩
set_option maxHeartbeats 3200000 in
set_option maxRecDepth 100000 in
theorem specQuads (n : Int) (s : ByteArray) (hs : s.size ≤ 9223372036854775807) (w : World) :
    Calls Try.prog 15 #[sg n s] w fun e w' => Got2 w.heap.size (rows4 (quadsL n s.data.toList)) e w' ∧ Below w.heap.size w w' := by
  have HA := Lib.hid (fun W => specAci n s hs W)
  have HS := Lib.hid ((box_made w n s 25).alloc (.cells #[] 40))
  have hsz : (w.alloc (.cells #[.int .i64 n, .string s] 25)).heap.size = w.heap.size + 1 := by simp
  obtain ⟨x0, x1, -⟩ := HS.out
  cases h : aciB n s.data.toList
  · have HE := Lib.hid (quadsL_no h)
    rw [h] at HA
    clear h
    go_enter Try.func15, Try.ntmps15
    go_wp2_with fail
    refine (HA.out _).mono ?_
    rintro e w1 ⟨rfl, hb1⟩
    have B1 := Lib.hid (HS.out.on hb1).2.2
    clear hb1 x0 x1
    go_wp2
    go_ret
    exact ⟨by rw [HE.out]; exact ⟨_, _, rfl, .inl rfl⟩, B1.out⟩
  · obtain ⟨h3, h7⟩ := aciB_n h
    obtain ⟨m, rfl⟩ : ∃ m : Nat, n = m := ⟨n.toNat, by omega⟩
    have h7 : m ≤ 7 := by omega
    have har := matB_ar (aciB_mat h)
    obtain ⟨i0, hi, hz0, hz1, hz2⟩ := info_parts infoL
    have HE := Lib.hid (quadsL_yes h)
    have HIN : Hid (∀ a b c d : Nat, a < b → b < c → c < d → d < m → ∀ g W, Cells W g 4 (zc [(a : Int), (b : Int), (c : Int), (d : Int)]) → Calls Try.prog 40 #[sg m s, .slice (some ⟨g, 0, none⟩) 4 4] W fun e w' => e = .returned (.int .i64 (inn4 (cir (sgnF (lookS m s.data.toList)) a b c d) a b c d)) ∧ Below W.heap.size W w') := Lib.hid (fun a b c d h1 h2 h3 h4 g W hW => l5Inner_any m s a b c d har (by omega) (by omega) (by omega) (by omega) (by omega) (by omega) (by omega) (by omega) (by omega) (by omega) g 4 W hW)
    rw [HE.out]
    rw [h] at HA
    have HGE : Hid (∀ x : Int × Int × Int × Int, ∀ a b c d : Nat, (inn4 x a b c d < 0) = (inn4 x a b c d = -1)) := Lib.hid (fun x a b c d => by
      unfold inn4
      split
      · (simp; try omega)
      · split
        · (simp; try omega)
        · split
          · (simp; try omega)
          · split
            · (simp; try omega)
            · simp)
    have HQL := Lib.hid (fun a b c d => quadsU_len (f := sgnF (lookS m s.data.toList)) (n := m) (a := a) (b := b) (c := c) (d := d) h7)
    have HHH := Lib.hid (fun a b c d => quadsU_hit (f := sgnF (lookS m s.data.toList)) (n := m) (a := a) (b := b) (c := c) (d := d) h7)
    have HMM := Lib.hid (fun a b c d => quadsU_miss (f := sgnF (lookS m s.data.toList)) (n := m) (a := a) (b := b) (c := c) (d := d) h7)
    have HEND := Lib.hid (quadsU_end h7 (sgnF (lookS m s.data.toList)))
    have HZZ : Hid (quadsU (sgnF (lookS m s.data.toList)) m 0 (0 + 1) (0 + 1 + 1) (0 + 1 + 1 + 1) = []) := Lib.hid (by unfold quadsU; rw [upto4_zero h7]; rfl)
    have HDD : Hid (∀ a b c, a < b → b < c → c < m → quadsU (sgnF (lookS m s.data.toList)) m a b c m = quadsU (sgnF (lookS m s.data.toList)) m a b (c + 1) (c + 1 + 1)) := Lib.hid (fun a b c h1 h2 h3 => by unfold quadsU; rw [upto4_d h7 h1 h2 h3])
    have HCC : Hid (∀ a b, a < b → b < m → quadsU (sgnF (lookS m s.data.toList)) m a b m (m + 1) = quadsU (sgnF (lookS m s.data.toList)) m a (b + 1) (b + 1 + 1) (b + 1 + 1 + 1)) := Lib.hid (fun a b h1 h2 => by unfold quadsU; rw [upto4_c h7 h1 h2])
    have HBB : Hid (∀ a, a < m → quadsU (sgnF (lookS m s.data.toList)) m a m (m + 1) (m + 1 + 1) = quadsU (sgnF (lookS m s.data.toList)) m (a + 1) (a + 1 + 1) (a + 1 + 1 + 1) (a + 1 + 1 + 1 + 1)) := Lib.hid (fun a h1 => by unfold quadsU; rw [upto4_b h7 h1])
    have HHI : Hid (∀ a b c d : Nat, hasI (sgnF (lookS m s.data.toList)) (a, b, c, d) = !(inn4 (cir (sgnF (lookS m s.data.toList)) a b c d) a b c d == -1)) := Lib.hid (fun a b c d => rfl)
    generalize sgnF (lookS m s.data.toList) = F at HIN HQL HHH HMM HEND HZZ HDD HCC HBB HHI ⊢
    clear h har HE
    have HO0 := Lib.hid (OwnL.made (w.alloc (.cells #[.int .i64 m, .string s] 25)) (w.heap.size + 1) (w.heap.size + 1) (by rw [hsz]; exact Nat.le_refl _))
    rw [hsz] at HO0
    go_enter Try.func15, Try.ntmps15
    go_wp2_with fail
    refine (HA.out _).mono ?_
    rintro e w1 ⟨rfl, hb1⟩
    have X1 := Lib.hid (HS.out.on hb1)
    have HO1 := Lib.hid ((HO0.out.on hb1).top)
    clear hb1 x0 x1 HO0
    obtain ⟨x0, x1, -⟩ := X1.out
    go_wp2
    go_loopw [3, 4] (fun vv x wr => ∃ a : Nat, a ≤ m ∧ x = .int .i64 a ∧ Hid (OwnL wr (w.heap.size + 1) wr.heap.size vv (rows4 (quadsU F m a (a + 1) (a + 1 + 1) (a + 1 + 1 + 1)))) ∧ Hid (Box w m s wr)) (fun _ x _ => m - (intOf x).toNat)
    case atStart => exact ⟨0, Nat.zero_le _, rfl, by rw [HZZ.out]; exact HO1, X1⟩
    case round =>
      obtain ⟨a, han, rfl, HV, HB⟩ := hrel
      obtain ⟨c0, c1, B0⟩ := HB.out
      by_cases hlt : a < m
      · go_wp2
        go_loopw [3, 5] (fun vv x wr => ∃ b : Nat, a < b ∧ b ≤ m ∧ x = .int .i64 b ∧ Hid (OwnL wr (w.heap.size + 1) wr.heap.size vv (rows4 (quadsU F m a b (b + 1) (b + 1 + 1)))) ∧ Hid (Box w m s wr)) (fun _ x _ => m - (intOf x).toNat)
        case atStart => exact ⟨a + 1, by omega, by omega, by go_num, HV, HB⟩
        case round =>
          obtain ⟨b, hab, hbn, rfl, HV, HB⟩ := hrel
          obtain ⟨c0, c1, B0⟩ := HB.out
          by_cases hlt2 : b < m
          · go_wp2
            go_loopw [3, 6] (fun vv x wr => ∃ c : Nat, b < c ∧ c ≤ m ∧ x = .int .i64 c ∧ Hid (OwnL wr (w.heap.size + 1) wr.heap.size vv (rows4 (quadsU F m a b c (c + 1)))) ∧ Hid (Box w m s wr)) (fun _ x _ => m - (intOf x).toNat)
            case atStart => exact ⟨b + 1, by omega, by omega, by go_num, HV, HB⟩
            case round =>
              obtain ⟨c, hbc, hcn, rfl, HV, HB⟩ := hrel
              obtain ⟨c0, c1, B0⟩ := HB.out
              by_cases hlt3 : c < m
              · go_wp2
                go_loopw [3, 7] (fun vv x wr => ∃ d : Nat, c < d ∧ d ≤ m ∧ x = .int .i64 d ∧ Hid (OwnL wr (w.heap.size + 1) wr.heap.size vv (rows4 (quadsU F m a b c d))) ∧ Hid (Box w m s wr)) (fun _ x _ => m - (intOf x).toNat)
                case atStart => exact ⟨c + 1, by omega, by omega, by go_num, HV, HB⟩
                case round =>
                  obtain ⟨d, hcd, hdn, rfl, HV, HB⟩ := hrel
                  obtain ⟨c0, c1, B0⟩ := HB.out
                  by_cases hlt4 : d < m
                  · have HC := Lib.hid (HIN.out a b c d hab hbc hcd hlt4)
                    have HH := Lib.hid (fun h => HHH.out a b c d hab hbc hcd hlt4 h)
                    have HX := Lib.hid (fun h => HMM.out a b c d hab hbc hcd hlt4 h)
                    have hhas := HHI.out a b c d
                    have hneg := HGE.out (cir F a b c d) a b c d
                    generalize inn4 (cir F a b c d) a b c d = y at HC hhas hneg
                    have G1 := Lib.hid (cells4_made wr a b c d 3)
                    have hcs1 : ∃ cs, (wr.alloc (.cells #[.int .i64 a, .int .i64 b, .int .i64 c, .int .i64 d] 3)).heap[wr.heap.size]? = some (Obj.cells cs 3) := ⟨_, heap_made wr _⟩
                    have HX1 := Lib.hid (HB.out.alloc (.cells #[.int .i64 a, .int .i64 b, .int .i64 c, .int .i64 d] 3))
                    have HV1 := Lib.hid (HV.out.on ((Below.refl wr.heap.size wr).alloc (Nat.le_refl _) (.cells #[.int .i64 a, .int .i64 b, .int .i64 c, .int .i64 d] 3)))
                    have hlt0 : wr.heap.size < (wr.alloc (.cells #[.int .i64 a, .int .i64 b, .int .i64 c, .int .i64 d] 3)).heap.size := by simp
                    obtain ⟨c0, c1, -⟩ := HX1.out
                    have HCS := Lib.hid hcs1
                    clear HV hcs1
                    by_cases hy : y < 0
                    · have hy1 : y = -1 := by rw [← hneg]; exact hy
                      subst hy1
                      have HN := Lib.hid (HH.out (by rw [hhas]; rfl))
                      have HYL := HQL.out a b c d
                      generalize quadsU F m a b c d = ys at HV1 HN HYL
                      go_wp2_with fail
                      refine (HC.out _ _ G1.out).mono ?_
                      rintro e w3 ⟨rfl, hb3⟩
                      have HX3 := Lib.hid (HX1.out.on hb3)
                      have HV3 := Lib.hid (HV1.out.on hb3)
                      have G3 := Lib.hid (G1.out.on hb3)
                      have HCS3 : Hid (∃ cs, w3.heap[wr.heap.size]? = some (Obj.cells cs 3)) := Lib.hid (by obtain ⟨cs, hcs⟩ := HCS.out; exact ⟨cs, by rw [hb3.block _ hlt0]; exact hcs⟩)
                      obtain ⟨L, hL⟩ := HV3.out.row
                      have HL3 := Lib.hid hL
                      have hyl2 : (rows4 ys).length ≤ 35 := by rw [rows4_length]; exact HYL
                      have hw0 : w.heap.size < wr.heap.size := Kit.cell_lt HB.out.1
                      have hs3 : wr.heap.size ≤ w3.heap.size := by have := hb3.size; simp at this; omega
                      have B3 := HX3.out.2.2
                      clear hL hb3 c0 c1
                      go_wp2_with (at_builtin; refine wpList_append_own _ rfl (.tmp 53) (.tmp 55) 31 rfl (w.heap.size + 1) 40 i0 _ 1 24 Try.underlying31 hi hz0 hz1 hz2 rfl (by decide) _ _ _ rfl (World.ownsRow.alloc HL3.out _) ⟨_, 0, none⟩ 1 1 [.slice (some ⟨wr.heap.size, 0, none⟩) 4 4] rfl rfl (newsR _ _ _) (oneR _ _ _) (by simp only [maxLen]; omega) (by omega) (by simp; omega) ?_)
                      intro v1 w5 hown hg _
                      have hal := (Below.refl w3.heap.size w3).alloc (Nat.le_refl _) (.cells #[.slice (some ⟨wr.heap.size, 0, none⟩) 4 4] 40)
                      have HV5 : Hid (OwnL w5 (w.heap.size + 1) w5.heap.size v1 (rows4 (quadsU F m a b c (d + 1)))) := Lib.hid (by
                        rw [HN.out, rows4_snoc]
                        obtain ⟨cs, hcs⟩ := HCS3.out
                        exact (OwnL.snoc (g := (wr.heap.size, 4)) (zs := r4 (a, b, c, d)) (HV3.out.on hal) (by show w.heap.size + 1 ≤ wr.heap.size; omega) (Nat.le_refl _) ⟨cs, by rw [hal.block _ G3.out.lt]; exact hcs⟩ (G3.out.on hal) hg (World.ownsRow.alloc HL3.out _) hown).top)
                      have HX5 : Hid (Box w m s w5) := Lib.hid (by
                        have hbx := HX3.out.alloc (.cells #[.slice (some ⟨wr.heap.size, 0, none⟩) 4 4] 40)
                        refine hbx.block (hg.block _ (by simp; omega) (fun e => ?_)) (hbx.2.2.grown hg (by simp; omega) (fun q hq => by have := (World.ownsRow.lt HL3.out q hq).1; omega))
                        have := (World.ownsRow.lt HL3.out _ e.symm).1
                        omega)
                      clear hown hg hal
                      go_wp2
                      exact ⟨⟨d + 1, by omega, by omega, by go_num, HV5, HX5⟩, by simp only [intOf]; omega⟩
                    · have hy1 : (y == -1) = false := by
                        rw [beq_eq_false_iff_ne]
                        intro e
                        rw [← hneg] at e
                        exact hy e
                      have HN := Lib.hid (HX.out (by rw [hhas, hy1]; rfl))
                      go_wp2_with fail
                      refine (HC.out _ _ G1.out).mono ?_
                      rintro e w3 ⟨rfl, hb3⟩
                      have HX3 := Lib.hid (HX1.out.on hb3)
                      have HV3 : Hid (OwnL w3 (w.heap.size + 1) w3.heap.size _ (rows4 (quadsU F m a b c (d + 1)))) := Lib.hid (by rw [HN.out]; exact (HV1.out.on hb3).top)
                      clear hb3 c0 c1
                      go_wp2
                      exact ⟨⟨d + 1, by omega, by omega, by go_num, HV3, HX3⟩, by simp only [intOf]; omega⟩
                  · have HN := Lib.hid (HDD.out a b c hab hbc hlt3)
                    obtain rfl : d = m := by omega
                    have HV2 := HV
                    rw [HN.out] at HV2
                    clear HV
                    go_wp2
                    exact ⟨⟨c + 1, by omega, by omega, by go_num, HV2, HB⟩, by simp only [intOf]; omega⟩
              · have HN := Lib.hid (HCC.out a b hab hlt2)
                obtain rfl : c = m := by omega
                have HV2 := HV
                rw [HN.out] at HV2
                clear HV
                go_wp2
                exact ⟨⟨b + 1, by omega, by omega, by go_num, HV2, HB⟩, by simp only [intOf]; omega⟩
          · have HN := Lib.hid (HBB.out a hlt)
            obtain rfl : b = m := by omega
            have HV2 := HV
            rw [HN.out] at HV2
            clear HV
            go_wp2
            exact ⟨⟨a + 1, by omega, by go_num, HV2, HB⟩, by simp only [intOf]; omega⟩
      · obtain rfl : a = m := by omega
        have HV2 := HV
        rw [HEND.out] at HV2
        obtain ⟨a2, c2, hv, hli⟩ := Lists.of_own HV2.out
        subst hv
        have HLI := Lib.hid hli
        clear HV HV2 hli
        go_wp2
        go_ret
        exact ⟨⟨a2, c2, rfl, HLI.out.low (by omega)⟩, B0⟩
end Go.Proofs.Ytfjimdmoindepaa.Sg
/- The laws of QuadsOf and CountQuads. -/
namespace Go.Proofs.Ytfjimdmoindepaa.Sg
open Go.RowKit Pt NewI NewII
set_option maxHeartbeats 1600000 in
set_option maxRecDepth 100000 in
theorem specCountQuads (n : Int) (s : ByteArray) (hs : s.size ≤ 9223372036854775807) (w : World) :
    Calls Try.prog 17 #[sg n s] w fun e w' => e = .returned (.int .i64 (quadsN n s.data.toList)) ∧ Below w.heap.size w w' := by
  have HA := Lib.hid (fun W => specAci n s hs W)
  have HQ := Lib.hid (fun W => specQuads n s hs W)
  have HRL := Lib.hid (rows4_length (quadsL n s.data.toList))
  have HS := Lib.hid (box_made w n s 25)
  cases h : aciB n s.data.toList
  · have HE : Hid (quadsN n s.data.toList = -1) := Lib.hid (by unfold quadsN; rw [h]; rfl)
    rw [h] at HA
    clear h
    go_enter Try.func17, Try.ntmps17
    go_wp2_with fail
    refine (HA.out _).mono ?_
    rintro e w1 ⟨rfl, hb1⟩
    have B1 := Lib.hid (HS.out.on hb1).2.2
    clear hb1
    go_wp2
    go_ret
    exact ⟨ret_int HE.out.symm, B1.out⟩
  · have HE : Hid (quadsN n s.data.toList = ((quadsL n s.data.toList).length : Nat)) := Lib.hid (by unfold quadsN; rw [if_pos h])
    rw [h] at HA
    clear h
    go_enter Try.func17, Try.ntmps17
    go_wp2_with fail
    refine (HA.out _).mono ?_
    rintro e w1 ⟨rfl, hb1⟩
    have X1 := Lib.hid (HS.out.on hb1)
    clear hb1
    obtain ⟨c0, c1, B1⟩ := X1.out
    go_wp2_with fail
    refine (HQ.out _).mono ?_
    rintro e w2 ⟨⟨a2, cp, rfl, hli⟩, hb2⟩
    have B2 := Lib.hid (B1.trans (hb2.mono B1.size))
    clear hli hb2 c0 c1
    go_wp2
    go_ret
    exact ⟨ret_int (by rw [HE.out, HRL.out]), B2.out⟩
theorem pre_quads (L : List T4) (h : L.length ≤ 35) : ∀ k, k ≤ (rows4 L).length → pre (rows4 L) k ≤ 1 + 4 * k
  | 0, _ => by show 1 ≤ _; omega
  | k + 1, hk => by
    have h1 := pre_quads L h k (by omega)
    have h2 : ln (rows4 L) k = 4 := by
      unfold ln rows4
      rw [List.getD_eq_getElem?_getD, List.getElem?_map]
      rw [rows4_length] at hk
      rw [List.getElem?_eq_getElem (by omega)]
      rfl
    show pre (rows4 L) k + ln (rows4 L) k ≤ _
    omega
end Go.Proofs.Ytfjimdmoindepaa.Sg
