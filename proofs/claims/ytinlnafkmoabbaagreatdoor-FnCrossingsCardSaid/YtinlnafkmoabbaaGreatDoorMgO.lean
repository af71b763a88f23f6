/- Several texts in one: QuOrd, QuCount, NewII, QuList, QuSplit, QuSplitSpec, QuInSpec, QuListSpec. -/
import Derived.Test.YtinlnafkmoabbaaGreatDoorMgC
import Derived.Test.YtinlnafkmoabbaaGreatDoorMgR
import Derived.Test.YtinlnafkmoabbaaGreatDoorQuMath
import Derived.Test.YtinlnafkmoabbaaGreatDoorNewI
import Derived.Test.YtinlnafkmoabbaaGreatDoorMgS
import Derived.WalkSpells
import Derived.Lib.SliceRun
/- impl's map of order signs, and what it tells: innerOf, isInside; InnerOf, IsInside, as impl answers them. -/
namespace Go.Proofs.YtinlnafkmoabbaaGreatDoor.Sg
open Go.RowKit Pt Go.Maps
/-- The signs by three numbers in order: none if they are no order signs. -/
def ordF (n : Int) (s : List UInt8) (a b c : Int) : Int := if aciB n s = true then lookS n s a b c else 0
theorem ordF_yes {n : Int} {s : List UInt8} (h : aciB n s = true) : ordF n s = lookS n s := by funext a b c; unfold ordF; rw [if_pos h]
theorem ordF_no {n : Int} {s : List UInt8} (h : aciB n s = false) (a b c : Int) : ordF n s a b c = 0 := by unfold ordF; rw [h]; rfl
theorem aciB_mat {n : Int} {s : List UInt8} (h : aciB n s = true) : matB n s = true := by
  unfold aciB at h
  exact (Bool.and_eq_true_iff.1 h).1
theorem sgnO_no {n : Int} {s : List UInt8} (h : aciB n s = false) (a b c : Int) : sgnF (ordF n s) a b c = 0 := by
  unfold sgnF
  rw [ordF_no h]
  simp
/-- Block b is a map that has f a b c at the key a, b, c, and is empty if z. -/
def MapZ (w : World) (b : Nat) (f : Int → Int → Int → Int) (z : Bool) : Prop :=
  (∃ (m : Nat) (D : DataW Unit), w.ownsMap Tryz.prog 99 (plainElem Tryz.prog 3) b m D ∧ ((Maps.size D : Int) == 0) = z ∧ ∀ x y z : Int, -9223372036854775808 ≤ x ∧ x ≤ 9223372036854775807 → -9223372036854775808 ≤ y ∧ y ≤ 9223372036854775807 → -9223372036854775808 ≤ z ∧ z ≤ 9223372036854775807 → D.atKey (kl x y z) (.lit (.int .i64 0)) = .lit (.int .i64 (f x y z))) ∧
  ∀ x y z, -1 ≤ f x y z ∧ f x y z ≤ 1
theorem MapZ.is {w : World} {b : Nat} {f : Int → Int → Int → Int} {z : Bool} (h : MapZ w b f z) : MapIs w b f := by
  obtain ⟨⟨m, D, h, -, ha⟩, hf⟩ := h
  exact ⟨⟨m, D, h, ha⟩, hf⟩
theorem MapZ.on {w w' : World} {b : Nat} {f : Int → Int → Int → Int} {z : Bool} (h : MapZ w b f z) (hb : Below w.heap.size w w') : MapZ w' b f z := by
  obtain ⟨⟨m, D, h, hz, ha⟩, hf⟩ := h
  exact ⟨⟨m, D, World.ownsMap.kept h (row := none) ⟨hb.os, hb.tape, hb.output, hb.size, fun k hk _ => hb.block k hk⟩ (by simp), hz, ha⟩, hf⟩
/-- A map that has an entry other than 0 is not empty. -/
theorem mapZ_of {w : World} {b : Nat} {f : Int → Int → Int → Int} (h : MapK w b f) (hne : f 0 1 2 ≠ 0) : MapZ w b f false := by
  obtain ⟨⟨m, D, -, ho, ha, -⟩, hf⟩ := h
  refine ⟨⟨m, D, ho, ?_, ha⟩, hf⟩
  cases hz : ((Maps.size D : Int) == 0)
  · rfl
  · exfalso
    obtain ⟨es, rfl⟩ := World.ownsMap.isMap ho
    have hes : es = [] := by
      have h0 : (Maps.size (DataW.map es) : Int) = 0 := by simpa using hz
      rw [Maps.size_eq] at h0
      exact List.eq_nil_of_length_eq_zero (by omega)
    subst hes
    have := ha 0 1 2 (by omega) (by omega) (by omega)
    have e : DataW.atKey (H := Unit) (.map []) (kl 0 1 2) (.lit (.int .i64 0)) = .lit (.int .i64 0) := rfl
    rw [e] at this
    injection this with this
    injection this with _ this
    exact hne this.symm
theorem mapZ_made (w : World) (f : Int → Int → Int → Int) (hf : ∀ x y z, f x y z = 0) : MapZ (w.alloc (.map #[] 0)) w.heap.size f true := by
  refine ⟨⟨0, _, ownsMap_made w, ?_, fun x y z _ _ _ => by rw [hf]; rfl⟩, fun x y z => by rw [hf]; omega⟩
  rw [Maps.size_eq]; rfl
set_option maxHeartbeats 800000 in
set_option maxRecDepth 100000 in
theorem implOrd (n : Int) (s : ByteArray) (hs : s.size ≤ 9223372036854775807) (w : World) :
    Calls Tryz.prog 100 #[sg n s] w fun e w' => ∃ b, e = .returned (.map (some b)) ∧ MapZ w' b (ordF n s.data.toList) (!aciB n s.data.toList) ∧ Below w.heap.size w w' := by
  have HA := Lib.hid (fun W => implAci n s hs W)
  have HS := Lib.hid (box_made w n s 25)
  cases h : aciB n s.data.toList
  · have hmm := @run_makeMap Tryz.prog
    have HF := Lib.hid (ordF_no h)
    rw [h] at HA
    clear h
    go_enter Tryz.func100, Tryz.ntmps100
    go_wp2_with fail
    refine (HA.out _).mono ?_
    rintro e w1 ⟨rfl, hb1⟩
    have B1 := Lib.hid (HS.out.on hb1).2.2
    have HM := Lib.hid (mapZ_made w1 (ordF n s.data.toList) HF.out)
    have HB := Lib.hid (B1.out.alloc B1.out.size (.map #[] 0))
    clear hb1
    go_wp2
    go_ret
    exact ⟨_, rfl, HM.out, HB.out⟩
  · have har := matB_ar (aciB_mat h)
    obtain ⟨h3, -⟩ := arB_yes har
    obtain ⟨m, rfl⟩ : ∃ m : Nat, n = m := ⟨n.toNat, by omega⟩
    have HF := Lib.hid (ordF_yes h)
    have hne : lookS m s.data.toList 0 1 2 ≠ 0 := by
      have h1 := sgn_one har (x := 0) (y := 1) (z := 2) (by omega) (by omega) (by omega) (by omega) (by omega) (by omega)
      rw [sgnF_plain (by omega) (by omega)] at h1
      have e : lookS m s.data.toList ((0 : Nat) : Int) ((1 : Nat) : Int) ((2 : Nat) : Int) = lookS m s.data.toList 0 1 2 := rfl
      rw [e] at h1
      omega
    have HMK := Lib.hid (fun W => mapOf_k m s hs W)
    have HNE := Lib.hid hne
    rw [h] at HA
    clear h har hne
    go_enter Tryz.func100, Tryz.ntmps100
    go_wp2_with fail
    refine (HA.out _).mono ?_
    rintro e w1 ⟨rfl, hb1⟩
    have X1 := Lib.hid (HS.out.on hb1)
    obtain ⟨c0, c1, B1⟩ := X1.out
    clear hb1
    go_wp2_with fail
    refine (HMK.out _).mono ?_
    rintro e w2 ⟨b, rfl, -, hm, hb2⟩
    have HM : Hid (MapZ w2 b (ordF m s.data.toList) (!true)) := Lib.hid (by rw [HF.out]; exact mapZ_of hm HNE.out)
    have HB := Lib.hid (B1.trans (hb2.mono B1.size))
    clear hm hb2 c0 c1
    go_wp2
    go_ret
    exact ⟨_, rfl, HM.out, HB.out⟩
/-- A sign or 0 is equal to a sign or not. -/
theorem tri {x : Int} (h : -1 ≤ x ∧ x ≤ 1) : x = -1 ∨ x = 0 ∨ x = 1 := by omega
/-- A circuit's four numbers are -1, 0 or 1. -/
theorem cir_bd {f : Int → Int → Int → Int} (hbd : ∀ x y z, -1 ≤ f x y z ∧ f x y z ≤ 1) {a b c d c0 c1 c2 c3 : Int} (hx : cir f a b c d = (c0, c1, c2, c3)) : (-1 ≤ c0 ∧ c0 ≤ 1) ∧ (-1 ≤ c1 ∧ c1 ≤ 1) ∧ (-1 ≤ c2 ∧ c2 ≤ 1) ∧ -1 ≤ c3 ∧ c3 ≤ 1 := by
  unfold cir at hx
  simp only [Prod.mk.injEq] at hx
  obtain ⟨rfl, rfl, rfl, rfl⟩ := hx
  have n1 := hbd a c d
  have n3 := hbd a b c
  exact ⟨mul_bd (hbd _ _ _) (hbd _ _ _), mul_bd (by omega) (hbd _ _ _), mul_bd (hbd _ _ _) (hbd _ _ _), mul_bd (by omega) (hbd _ _ _)⟩
def I64 (x : Int) : Prop := -9223372036854775808 ≤ x ∧ x ≤ 9223372036854775807
theorem inn4_eq (c0 c1 c2 c3 a b c d : Int) : inn4 (c0, c1, c2, c3) a b c d = if (c0 == 1 && (c1 == -1 && (c2 == -1 && c3 == -1))) = true then a else if (c0 == 1 && (c1 == -1 && (c2 == 1 && c3 == 1))) = true then b else if (c0 == 1 && (c1 == 1 && (c2 == -1 && c3 == 1))) = true then c else if (c0 == 1 && (c1 == 1 && (c2 == 1 && c3 == -1))) = true then d else -1 := by
  unfold inn4
  simp only [Prod.mk.injEq, Bool.and_eq_true, beq_iff_eq]
end Go.Proofs.YtinlnafkmoabbaaGreatDoor.Sg
/- The elements inside a triangle and the empty triangles, as impl tells them: countInside, CountInside, EmptyTriangles. -/
namespace Go.Proofs.YtinlnafkmoabbaaGreatDoor.Sg
open Go.RowKit Pt Go.Maps
theorem i64_nat {x : Nat} (h : x ≤ 1000) : I64 (x : Int) := by unfold I64; omega
theorem aciB_n {n : Int} {s : List UInt8} (h : aciB n s = true) : 3 ≤ n ∧ n ≤ 7 := by
  obtain ⟨h3, h7, -⟩ := arB_yes (matB_ar (aciB_mat h))
  omega
end Go.Proofs.YtinlnafkmoabbaaGreatDoor.Sg
/- A slice of slices of ints of a call's own: asked, marked, asked again; how it is built row by row. -/
namespace Go.Proofs.YtinlnafkmoabbaaGreatDoor.NewII
open Go.RowKit NewI
/-- A row's value. -/
abbrev rowV (g : Nat × Nat) (n : Nat) : Value := .slice (some ⟨g.1, 0, none⟩) n g.2
def ln (xss : List (List Int)) (j : Nat) : Nat := (xss.getD j []).length
/-- The rows' numbers. -/
def org (xss : List (List Int)) (j : Nat) : Nat → Value := zc (xss.getD j [])
/-- A slice in block b whose rows lie in blocks gs, all from lo on and before hi, each in one of its own; row j holds F j. -/
structure Rows (w : World) (lo hi b : Nat) (gs : List (Nat × Nat)) (xss : List (List Int)) (F : Nat → Nat → Value) : Prop where
  len : gs.length = xss.length
  outer : ∀ (j : Nat) (g : Nat × Nat), gs[j]? = some g → w.cell? ⟨b, j, none⟩ = some (rowV g (ln xss j))
  b1 : lo ≤ b ∧ b < hi
  lt : b < w.heap.size
  row : ∀ (j : Nat) (g : Nat × Nat), gs[j]? = some g → lo ≤ g.1 ∧ g.1 < hi ∧ g.1 ≠ b ∧ Cells w g.1 (ln xss j) (F j)
  apart : ∀ (i j : Nat) (g g' : Nat × Nat), gs[i]? = some g → gs[j]? = some g' → i ≠ j → g.1 ≠ g'.1
section
variable {w w' : World} {lo hi b : Nat} {gs : List (Nat × Nat)} {xss : List (List Int)} {F G : Nat → Nat → Value}
theorem Rows.congr (h : Rows w lo hi b gs xss F) (e : ∀ j, F j = G j) : Rows w lo hi b gs xss G := by
  have : F = G := funext e
  rw [← this]; exact h
theorem Rows.on (h : Rows w lo hi b gs xss F) (hb : Below w.heap.size w w') : Rows w' lo hi b gs xss F :=
  ⟨h.len, fun j g hj => by rw [hb.cell h.lt]; exact h.outer j g hj, h.b1, Nat.lt_of_lt_of_le h.lt hb.size, fun j g hj => ⟨(h.row j g hj).1, (h.row j g hj).2.1, (h.row j g hj).2.2.1, (h.row j g hj).2.2.2.on hb⟩, h.apart⟩
theorem Rows.far {lo' hi' : Nat} (h : Rows w lo hi b gs xss F) (ho : Out lo' hi' w w') (hd : hi ≤ lo' ∨ hi' ≤ lo) : Rows w' lo hi b gs xss F := by
  have hb := h.b1
  have hbb := ho.block b h.lt (by omega)
  refine ⟨h.len, fun j g hj => by rw [World.cell?_of_block (a := ⟨b, j, none⟩) hbb]; exact h.outer j g hj, h.b1, Nat.lt_of_lt_of_le h.lt ho.size, fun j g hj => ?_, h.apart⟩
  obtain ⟨h1, h2, h3, h4⟩ := h.row j g hj
  exact ⟨h1, h2, h3, h4.block (ho.block g.1 h4.lt (by omega)) ho.size⟩
end
/-- No rows, or rows. -/
def Lists (w : World) (lo hi : Nat) (a : Option Addr) (xss : List (List Int)) (F : Nat → Nat → Value) : Prop := xss = [] ∨ ∃ b gs, a = some ⟨b, 0, none⟩ ∧ Rows w lo hi b gs xss F
theorem Lists.on {w w' : World} {lo hi : Nat} {a : Option Addr} {xss : List (List Int)} {F : Nat → Nat → Value} (h : Lists w lo hi a xss F) (hb : Below w.heap.size w w') : Lists w' lo hi a xss F := by
  rcases h with h | ⟨b, gs, h1, h2⟩
  · exact .inl h
  · exact .inr ⟨b, gs, h1, h2.on hb⟩
theorem Lists.far {w w' : World} {lo hi lo' hi' : Nat} {a : Option Addr} {xss : List (List Int)} {F : Nat → Nat → Value} (h : Lists w lo hi a xss F) (ho : Out lo' hi' w w') (hd : hi ≤ lo' ∨ hi' ≤ lo) : Lists w' lo hi a xss F := by
  rcases h with h | ⟨b, gs, h1, h2⟩
  · exact .inl h
  · exact .inr ⟨b, gs, h1, h2.far ho hd⟩
theorem Lists.low {w : World} {lo lo' hi : Nat} {a : Option Addr} {xss : List (List Int)} {F : Nat → Nat → Value} (h : Lists w lo hi a xss F) (hl : lo' ≤ lo) : Lists w lo' hi a xss F := by
  rcases h with h | ⟨b, gs, h1, h2⟩
  · exact .inl h
  · exact .inr ⟨b, gs, h1, h2.len, h2.outer, ⟨Nat.le_trans hl h2.b1.1, h2.b1.2⟩, h2.lt, fun j g hj => ⟨Nat.le_trans hl (h2.row j g hj).1, (h2.row j g hj).2⟩, h2.apart⟩
/-- What a function hands back that makes such a slice. -/
def Got2 (B : Nat) (xss : List (List Int)) (e : Ending) (w' : World) : Prop := ∃ a c, e = .returned (.slice a xss.length c) ∧ Lists w' B w'.heap.size a xss (org xss)
/-- Rows being built: a value that owns them, each in a block of ints ahead of block m, later rows in later blocks. -/
def OwnL (w : World) (B m : Nat) (v : Value) (xss : List (List Int)) : Prop := ∃ gs : List (Nat × Nat), gs.length = xss.length ∧ w.ownsRow B 27 1 v gs.length (List.zipWith (fun g (zs : List Int) => rowV g zs.length) gs xss) ∧
  (∀ (j : Nat) (g : Nat × Nat), gs[j]? = some g → B ≤ g.1 ∧ g.1 < m ∧ (∃ cs, w.heap[g.1]? = some (.cells cs 3)) ∧ Cells w g.1 (ln xss j) (org xss j)) ∧ ∀ (i j : Nat) (g g' : Nat × Nat), gs[i]? = some g → gs[j]? = some g' → i < j → g.1 < g'.1
theorem OwnL.nil (w : World) (B m : Nat) : OwnL w B m (.slice none 0 0) [] := ⟨[], rfl, World.ownsRow_nil _ _ _ _, fun j g h => by simp at h, fun i j g g' h => by simp at h⟩
theorem OwnL.made (w : World) (B m : Nat) (hB : B ≤ w.heap.size) : OwnL (w.alloc (.cells #[] 27)) B m (.slice (some ⟨w.heap.size, 0, none⟩) 0 0) [] :=
  ⟨[], rfl, World.ownsRow_made w #[] 0 hB (by decide) rfl, fun j g h => by simp at h, fun i j g g' h => by simp at h⟩
theorem OwnL.on {w w' : World} {B m : Nat} {v : Value} {xss : List (List Int)} (h : OwnL w B m v xss) (hb : Below w.heap.size w w') : OwnL w' B m v xss := by
  obtain ⟨gs, h1, h2, h3, h4⟩ := h
  refine ⟨gs, h1, World.ownsRow.kept h2 (row := none) ⟨hb.os, hb.tape, hb.output, hb.size, fun k hk _ => hb.block k hk⟩ (by cases v.ownBlock <;> simp), fun j g hj => ?_, h4⟩
  obtain ⟨r1, r0, ⟨cs, r2⟩, r3⟩ := h3 j g hj
  exact ⟨r1, r0, ⟨cs, by rw [hb.block g.1 r3.lt]; exact r2⟩, r3.on hb⟩
theorem OwnL.top {w : World} {B m : Nat} {v : Value} {xss : List (List Int)} (h : OwnL w B m v xss) : OwnL w B w.heap.size v xss := by
  obtain ⟨gs, h1, h2, h3, h4⟩ := h
  exact ⟨gs, h1, h2, fun j g hj => ⟨(h3 j g hj).1, (h3 j g hj).2.2.2.lt, (h3 j g hj).2.2⟩, h4⟩
/-- The value's own cells alone. -/
theorem OwnL.row {w : World} {B m : Nat} {v : Value} {xss : List (List Int)} (h : OwnL w B m v xss) : ∃ L : List Value, w.ownsRow B 27 1 v xss.length L := by
  obtain ⟨gs, h1, h2, -, -⟩ := h
  rw [h1] at h2
  exact ⟨_, h2⟩
theorem ln_old {xss : List (List Int)} {zs : List Int} {j : Nat} (h : j < xss.length) : (xss ++ [zs]).getD j [] = xss.getD j [] := by
  rw [List.getD_eq_getElem?_getD, List.getD_eq_getElem?_getD, List.getElem?_append_left h]
theorem ln_new {xss : List (List Int)} {zs : List Int} : (xss ++ [zs]).getD xss.length [] = zs := by
  rw [List.getD_eq_getElem?_getD, List.getElem?_append_right (Nat.le_refl _)]; simp
theorem zip_length {gs : List (Nat × Nat)} {xss : List (List Int)} (h : gs.length = xss.length) : (List.zipWith (fun g (zs : List Int) => rowV g zs.length) gs xss).length = gs.length := by
  rw [List.length_zipWith, h]; omega
theorem zip_snoc {gs : List (Nat × Nat)} {xss : List (List Int)} (h : gs.length = xss.length) (g : Nat × Nat) (zs : List Int) : List.zipWith (fun g (zs : List Int) => rowV g zs.length) (gs ++ [g]) (xss ++ [zs]) = List.zipWith (fun g (zs : List Int) => rowV g zs.length) gs xss ++ [rowV g zs.length] := by
  rw [List.zipWith_append h]; rfl
/-- One more row: a block of its own, later than all others, is appended. -/
theorem OwnL.snoc {w w1 : World} {B m : Nat} {v v1 : Value} {xss : List (List Int)} {zs : List Int} {g : Nat × Nat} {L : List Value} (h : OwnL w B m v xss) (hB : B ≤ g.1) (hm : m ≤ g.1) (hcs : ∃ cs, w.heap[g.1]? = some (.cells cs 3)) (hc : Cells w g.1 zs.length (zc zs))
    (hg : w.grownBy w1 v.ownBlock) (hL : w.ownsRow B 27 1 v xss.length L) (ho : w1.ownsRow B 27 1 v1 (xss.length + 1) (L ++ [rowV g zs.length])) : OwnL w1 B (g.1 + 1) v1 (xss ++ [zs]) := by
  obtain ⟨gs, h1, h2, h3, h4⟩ := h
  have h2' := h2
  rw [h1] at h2
  have hLe : List.zipWith (fun g (zs : List Int) => rowV g zs.length) gs xss = L := by
    obtain ⟨-, ⟨e1, e2⟩ | ⟨b1, cap1, cur1, e1, -, k1, -, -, -, k2⟩⟩ := id h2
    · have a1 := h2.1
      have a2 := hL.1
      rw [e2] at a1 a2
      have z1 : List.zipWith (fun g (zs : List Int) => rowV g zs.length) gs xss = [] := List.eq_nil_of_length_eq_zero (by omega)
      have z2 : L = [] := List.eq_nil_of_length_eq_zero (by omega)
      rw [z1, z2]
    · obtain ⟨-, ⟨e3, -⟩ | ⟨b2, cap2, cur2, e3, -, k3, -, -, -, k4⟩⟩ := id hL
      · rw [e3] at e1; cases e1
      · rw [e3] at e1
        obtain ⟨e4, -, -⟩ : b1 = b2 ∧ True ∧ True := by injection e1 with e1; injection e1 with e1; injection e1 with e1; exact ⟨e1.symm, trivial, trivial⟩
        subst e4
        rw [k1] at k3
        injection k3 with k3
        injection k3 with k3
        subst k3
        rw [← k2, ← k4]
  have hb1 : ∀ (b : Nat) (cs : Array Value), w.heap[b]? = some (Obj.cells cs 3) → w1.heap[b]? = w.heap[b]? := fun b cs hb =>
    hg.block b (Array.getElem?_eq_some_iff.1 hb).1 (Sg.own_box h2' hb (by decide))
  refine ⟨gs ++ [g], by simp [h1], ?_, fun j g' hj => ?_, fun i j gi gj hi hj hij => ?_⟩
  · rw [zip_snoc h1, hLe, List.length_append, h1]
    exact ho
  · by_cases hjl : j < gs.length
    · rw [List.getElem?_append_left hjl] at hj
      obtain ⟨r1, r0, ⟨cs, r2⟩, r3⟩ := h3 j g' hj
      have hk := hb1 _ _ r2
      have e : (xss ++ [zs]).getD j [] = xss.getD j [] := ln_old (by omega)
      refine ⟨r1, by omega, ⟨cs, by rw [hk]; exact r2⟩, ?_⟩
      unfold ln org
      rw [e]
      exact r3.block hk hg.size
    · rw [List.getElem?_append_right (by omega)] at hj
      have hj0 : j = gs.length := by
        rcases Nat.lt_or_ge (j - gs.length) 1 with h | h
        · omega
        · rw [List.getElem?_eq_none (by simpa using h)] at hj; cases hj
      subst hj0
      simp only [Nat.sub_self, List.getElem?_cons_zero, Option.some.injEq] at hj
      subst hj
      obtain ⟨cs, hcs⟩ := hcs
      have hk := hb1 _ _ hcs
      refine ⟨hB, by omega, ⟨cs, by rw [hk]; exact hcs⟩, ?_⟩
      unfold ln org
      rw [h1, ln_new]
      exact hc.block hk hg.size
  · by_cases hjl : j < gs.length
    · rw [List.getElem?_append_left hjl] at hj
      rw [List.getElem?_append_left (by omega)] at hi
      exact h4 i j gi gj hi hj hij
    · rw [List.getElem?_append_right (by omega)] at hj
      have hj0 : j = gs.length := by
        rcases Nat.lt_or_ge (j - gs.length) 1 with h | h
        · omega
        · rw [List.getElem?_eq_none (by simpa using h)] at hj; cases hj
      subst hj0
      simp only [Nat.sub_self, List.getElem?_cons_zero, Option.some.injEq] at hj
      subst hj
      rw [List.getElem?_append_left hij] at hi
      have := (h3 i gi hi).2.1
      omega
/-- A finished slice of rows. -/
theorem Lists.of_own {w : World} {B m : Nat} {v : Value} {xss : List (List Int)} (h : OwnL w B m v xss) : ∃ a c, v = .slice a xss.length c ∧ Lists w B w.heap.size a xss (org xss) := by
  obtain ⟨gs, h1, h2, h3, h4⟩ := h
  have hlt := World.ownsRow.lt h2
  have hzl := zip_length h1
  obtain ⟨-, ⟨rfl, h0⟩ | ⟨g, cap, cur, rfl, hB, hh, hr⟩⟩ := id h2
  · have e : xss = [] := List.eq_nil_of_length_eq_zero (by omega)
    subst e
    exact ⟨none, 0, rfl, .inl rfl⟩
  · refine ⟨some ⟨g, 0, none⟩, cap, by rw [h1], .inr ⟨g, gs, rfl, h1, fun j g' hj => ?_, ⟨hB, (hlt g rfl).2⟩, (hlt g rfl).2, fun j g' hj => ?_, fun i j gi gj hi hj hij => ?_⟩⟩
    · have hjl : j < gs.length := (List.getElem?_eq_some_iff.1 hj).1
      have hx : (List.zipWith (fun g (zs : List Int) => rowV g zs.length) gs xss)[j]? = some (rowV g' (ln xss j)) := by
        rw [List.getElem?_zipWith, hj, List.getElem?_eq_getElem (by omega)]
        simp only [Option.some.injEq]
        unfold ln
        rw [List.getD_eq_getElem?_getD, List.getElem?_eq_getElem (by omega)]
        rfl
      have := World.ownsRow.cells h2 (g := g) rfl j _ hx
      rwa [WideShapes.add_plain, Nat.zero_add] at this
    · obtain ⟨r1, -, ⟨cs, r2⟩, r3⟩ := h3 j g' hj
      refine ⟨r1, r3.lt, fun e => ?_, r3⟩
      rw [e, hh] at r2
      injection r2 with r2
      injection r2 with _ ht
      exact absurd ht (by decide)
    · rcases Nat.lt_or_gt_of_ne hij with h | h
      · have := h4 i j gi gj hi hj h; omega
      · have := h4 j i gj gi hj hi h; omega
end Go.Proofs.YtinlnafkmoabbaaGreatDoor.NewII
/- QuadsOf and CountQuads, as impl tells them. -/
namespace Go.Proofs.YtinlnafkmoabbaaGreatDoor.Sg
open Go.RowKit Pt NewI NewII Go.Maps
/-- A four as a row. -/
def r4 (t : T4) : List Int := [(t.1 : Int), (t.2.1 : Int), (t.2.2.1 : Int), (t.2.2.2 : Int)]
def rows4 (L : List T4) : List (List Int) := L.map r4
theorem rows4_length (L : List T4) : (rows4 L).length = L.length := by unfold rows4; simp
theorem rows4_snoc (L : List T4) (t : T4) : rows4 (L ++ [t]) = rows4 L ++ [r4 t] := by unfold rows4; simp
set_option maxRecDepth 100000 in
theorem infoL : (Tryz.prog.info? 27).map (fun i => (i.zero, i.size, i.bytes)) = some (some (.slice none 0 0), 1, 24) := by kernel_rfl
theorem newsR (w : World) (v : Value) (t : TypeId) : ∀ (j : Nat) u, [v][j]? = some u → (w.alloc (.cells #[v] t)).cell? (Addr.add ⟨w.heap.size, 0, none⟩ j) = some u
  | 0, u, h => by
    rw [WideShapes.add_plain, Nat.add_zero, World.cell?_alloc_new]
    simpa using h
  | j + 1, u, h => by simp at h
theorem oneR (a : Option Addr) (n c : Nat) : ∀ u ∈ [Value.slice a n c], u.oneCell' = true := fun u hu => by
  simp only [List.mem_cons, List.not_mem_nil, or_false] at hu
  subst hu; rfl
end Go.Proofs.YtinlnafkmoabbaaGreatDoor.Sg
/- Both sets of a circuit and the inner element, as spec tells them: l5Different, l5Only, l5Split, l5Inner; SplitOf, InnerOf. -/
namespace Go.Proofs.YtinlnafkmoabbaaGreatDoor.Sg
open Go.RowKit Pt NewI
/-- Are all ahead of number k elements, and different? -/
def DifTo (n : Int) (zs : List Int) (k : Nat) : Prop := ∀ i, i < k → (0 ≤ zs.getD i 0 ∧ zs.getD i 0 < n) ∧ ∀ j, j < i → zs.getD i 0 ≠ zs.getD j 0
instance (n : Int) (zs : List Int) (k : Nat) : Decidable (DifTo n zs k) := by unfold DifTo; infer_instance
/-- Are these different elements? -/
def difB (n : Int) (zs : List Int) : Bool := decide (DifTo n zs zs.length)
theorem difTo_zero (n : Int) (zs : List Int) : DifTo n zs 0 := fun i hi => by omega
theorem difTo_step {n : Int} {zs : List Int} {k : Nat} (h : DifTo n zs k) (h1 : 0 ≤ zs.getD k 0 ∧ zs.getD k 0 < n) (h2 : ∀ j, j < k → zs.getD k 0 ≠ zs.getD j 0) : DifTo n zs (k + 1) := fun i hi => by
  by_cases e : i = k
  · subst e; exact ⟨h1, h2⟩
  · exact h i (by omega)
theorem difB_out {n : Int} {zs : List Int} {k : Nat} (hk : k < zs.length) (h : ¬ (0 ≤ zs.getD k 0 ∧ zs.getD k 0 < n)) : difB n zs = false := by
  unfold difB
  exact decide_eq_false fun hd => h (hd k hk).1
theorem difB_same {n : Int} {zs : List Int} {k j : Nat} (hk : k < zs.length) (hj : j < k) (h : zs.getD k 0 = zs.getD j 0) : difB n zs = false := by
  unfold difB
  exact decide_eq_false fun hd => (hd k hk).2 j hj h
theorem difB4 {n a b c d : Int} : difB n [a, b, c, d] = true ↔ (0 ≤ a ∧ a < n) ∧ (0 ≤ b ∧ b < n) ∧ (0 ≤ c ∧ c < n) ∧ (0 ≤ d ∧ d < n) ∧ a ≠ b ∧ a ≠ c ∧ a ≠ d ∧ b ≠ c ∧ b ≠ d ∧ c ≠ d := by
  unfold difB
  rw [decide_eq_true_eq]
  constructor
  · intro h
    have h0 := h 0 (by simp)
    have h1 := h 1 (by simp)
    have h2 := h 2 (by simp)
    have h3 := h 3 (by simp)
    have e10 := h1.2 0 (by omega)
    have e20 := h2.2 0 (by omega)
    have e21 := h2.2 1 (by omega)
    have e30 := h3.2 0 (by omega)
    have e31 := h3.2 1 (by omega)
    have e32 := h3.2 2 (by omega)
    have q0 := h0.1
    have q1 := h1.1
    have q2 := h2.1
    have q3 := h3.1
    simp at q0 q1 q2 q3 e10 e20 e21 e30 e31 e32
    exact ⟨q0, q1, q2, q3, fun e => e10 e.symm, fun e => e20 e.symm, fun e => e30 e.symm, fun e => e21 e.symm, fun e => e31 e.symm, fun e => e32 e.symm⟩
  · rintro ⟨h0, h1, h2, h3, n1, n2, n3, n4, n5, n6⟩
    intro i hi
    simp only [List.length_cons, List.length_nil] at hi
    have hi4 : i < 4 := by omega
    rcases (by omega : i = 0 ∨ i = 1 ∨ i = 2 ∨ i = 3) with rfl | rfl | rfl | rfl
    · exact ⟨h0, fun j hj => by omega⟩
    · refine ⟨h1, fun j hj => ?_⟩
      obtain rfl : j = 0 := by omega
      exact fun e => n1 e.symm
    · refine ⟨h2, fun j hj => ?_⟩
      rcases (by omega : j = 0 ∨ j = 1) with rfl | rfl
      · exact fun e => n2 e.symm
      · exact fun e => n4 e.symm
    · refine ⟨h3, fun j hj => ?_⟩
      rcases (by omega : j = 0 ∨ j = 1 ∨ j = 2) with rfl | rfl | rfl
      · exact fun e => n3 e.symm
      · exact fun e => n5 e.symm
      · exact fun e => n6 e.symm
theorem cell_z {w : World} {b k : Nat} {zs : List Int} (h : Cells w b zs.length (zc zs)) (hk : k < zs.length) : w.cell? ⟨b, k, none⟩ = some (.int .i64 (zs.getD k 0)) := by
  rw [h.cell k hk]; rfl
set_option maxHeartbeats 1600000 in
set_option maxRecDepth 100000 in
theorem l5Different_any (n : Nat) (h7 : n ≤ 7) (zs : List Int) (hl : zs.length ≤ 100) (b c : Nat) (w : World) (hc : Cells w b zs.length (zc zs)) :
    Calls Tryz.prog 99 #[.int .i64 n, .slice (some ⟨b, 0, none⟩) zs.length c] w fun e w' => e = .returned (.bool (difB n zs)) ∧ Below w.heap.size w w' := by
  have HC := Lib.hid (fun k hk => cell_z (k := k) hc hk)
  clear hc
  go_enter Tryz.func99, Tryz.ntmps99
  go_wp2
  go_loopw [5] (fun i wr => ∃ k : Nat, k ≤ zs.length ∧ i = .int .i64 k ∧ Hid (DifTo n zs k) ∧ Hid (∃ q, wr = w.drewN q)) (fun i _ => zs.length - (intOf i).toNat)
  case atStart => exact ⟨0, Nat.zero_le _, rfl, Lib.hid (difTo_zero _ _), Lib.hid ⟨0, rfl⟩⟩
  case round =>
    obtain ⟨k, hk, rfl, HD, hq⟩ := hrel
    obtain ⟨q, rfl⟩ := hq.out
    by_cases hlt : k < zs.length
    · have x1 := HC.out k hlt
      have HO : Hid (inB (zs.getD k 0) 0 ((n : Int) - 1) = false → difB n zs = false) := Lib.hid (fun h => difB_out hlt (inB_norange h))
      have HI : Hid (inB (zs.getD k 0) 0 ((n : Int) - 1) = true → 0 ≤ zs.getD k 0 ∧ zs.getD k 0 < n) := Lib.hid (fun h => inB_range h)
      have HS : Hid (∀ j, j < k → zs.getD k 0 = zs.getD j 0 → difB n zs = false) := Lib.hid (fun j hj e => difB_same hlt hj e)
      have HN : Hid ((0 ≤ zs.getD k 0 ∧ zs.getD k 0 < n) → (∀ j, j < k → zs.getD k 0 ≠ zs.getD j 0) → DifTo n zs (k + 1)) := Lib.hid (fun h1 h2 => difTo_step HD.out h1 h2)
      generalize zs.getD k 0 = z at x1 HO HI HS HN
      cases hin : inB z 0 ((n : Int) - 1)
      · have HF := Lib.hid (HO.out hin)
        go_wp2_with (go_at_call 87; refine (l1In_any _ _ _ _).mono ?_; rintro e w' ⟨rfl, rfl⟩)
        go_ret
        exact ⟨ret_bool HF.out.symm, Sg.drewN_below (Below.refl _ _) _⟩
      · have HR := Lib.hid (HI.out hin)
        go_wp2_with (go_at_call 87; refine (l1In_any _ _ _ _).mono ?_; rintro e w' ⟨rfl, rfl⟩)
        clear hin
        go_loopw [6] (fun i wr => ∃ j : Nat, j ≤ k ∧ i = .int .i64 j ∧ Hid (∀ i, i < j → z ≠ zs.getD i 0) ∧ Hid (∃ q, wr = w.drewN q)) (fun i _ => k - (intOf i).toNat)
        case atStart => exact ⟨0, Nat.zero_le _, rfl, Lib.hid (fun i hi => by omega), Lib.hid ⟨_, rfl⟩⟩
        case round =>
          obtain ⟨j, hj, rfl, HJ, hq⟩ := hrel
          obtain ⟨q2, rfl⟩ := hq.out
          by_cases hlt2 : j < k
          · have x2 := HC.out j (by omega)
            have HSJ := Lib.hid (HS.out j hlt2)
            have HJ2 : Hid (z ≠ zs.getD j 0 → ∀ i, i < j + 1 → z ≠ zs.getD i 0) := Lib.hid (fun h i hi => by
              by_cases e : i = j
              · subst e; exact h
              · exact HJ.out i (by omega))
            generalize zs.getD j 0 = y at x2 HSJ HJ2
            by_cases e : z = y
            · have ht : (z == y) = true := by simpa using e
              have HF := Lib.hid (HSJ.out e)
              clear e
              go_wp2
              go_quiet (fail)
              go_wp2
              go_ret
              exact ⟨ret_bool HF.out.symm, Sg.drewN_below (Sg.drewN_below (Below.refl _ _) _) _⟩
            · have ht : (z == y) = false := by simpa using e
              have HJ3 := Lib.hid (HJ2.out e)
              clear e
              go_wp2
              go_quiet (fail)
              go_wp2
              exact ⟨⟨j + 1, by omega, by go_num, HJ3, Lib.hid ⟨_, rfl⟩⟩, by simp only [intOf]; omega⟩
          · obtain rfl : j = k := by omega
            have HD2 := Lib.hid (HN.out HR.out HJ.out)
            go_wp2
            exact ⟨⟨j + 1, by omega, by go_num, HD2, Lib.hid ⟨_, rfl⟩⟩, by simp only [intOf]; omega⟩
    · obtain rfl : k = zs.length := by omega
      have HF : Hid (difB n zs = true) := Lib.hid (decide_eq_true HD.out)
      go_wp2
      go_ret
      exact ⟨ret_bool HF.out.symm, Sg.drewN_below (Below.refl _ _) _⟩
set_option maxHeartbeats 1600000 in
set_option maxRecDepth 100000 in
theorem l5Only_any (m : Int) (w : World) :
    Calls Tryz.prog 174 #[.int .i64 m] w fun e w' => e = .returned (.int .i64 (only m)) ∧ w' = w := by
  have HE : Hid (only m = if (m == 1) = true then 0 else if (m == 2) = true then 1 else if (m == 4) = true then 2 else if (m == 8) = true then 3 else if (m == 16) = true then 4 else if (m == 32) = true then 5 else if (m == 64) = true then 6 else -1) := Lib.hid (by unfold only; simp only [beq_iff_eq])
  rw [HE.out]
  clear HE
  go_enter Tryz.func174, Tryz.ntmps174
  go_wp2
  refine wp_loop_rounds 8 ?_
  rw [rounds_succ]
  cases e0 : (m == 1)
  · go_wp2
    rw [rounds_succ]
    cases e1 : (m == 2)
    · go_wp2
      rw [rounds_succ]
      cases e2 : (m == 4)
      · go_wp2
        rw [rounds_succ]
        cases e3 : (m == 8)
        · go_wp2
          rw [rounds_succ]
          cases e4 : (m == 16)
          · go_wp2
            rw [rounds_succ]
            cases e5 : (m == 32)
            · go_wp2
              rw [rounds_succ]
              cases e6 : (m == 64)
              · go_wp2
                rw [rounds_succ]
                go_wp2
                go_ret
                exact ⟨rfl, rfl⟩
              · go_wp2
                go_ret
                exact ⟨rfl, rfl⟩
            · go_wp2
              go_ret
              exact ⟨rfl, rfl⟩
          · go_wp2
            go_ret
            exact ⟨rfl, rfl⟩
        · go_wp2
          go_ret
          exact ⟨rfl, rfl⟩
      · go_wp2
        go_ret
        exact ⟨rfl, rfl⟩
    · go_wp2
      go_ret
      exact ⟨rfl, rfl⟩
  · go_wp2
    go_ret
    exact ⟨rfl, rfl⟩
set_option maxRecDepth 100000 in
theorem maxI_any (x y : Int) (w : World) :
    Calls Tryz.prog 141 #[.int .i64 x, .int .i64 y] w fun e w' => e = .returned (.int .i64 (max x y)) ∧ w' = w := by
  by_cases h : y < x
  · have HE : Hid (max x y = x) := Lib.hid (by omega)
    go_enter Tryz.func141, Tryz.ntmps141
    go_wp2
    go_ret
    exact ⟨ret_int HE.out.symm, rfl⟩
  · have HE : Hid (max x y = y) := Lib.hid (by omega)
    go_enter Tryz.func141, Tryz.ntmps141
    go_wp2
    go_ret
    exact ⟨ret_int HE.out.symm, rfl⟩
end Go.Proofs.YtinlnafkmoabbaaGreatDoor.Sg
/- Both sets of a circuit and the inner element, as spec tells them: l5Split, l5Inner; SplitOf, InnerOf. -/
namespace Go.Proofs.YtinlnafkmoabbaaGreatDoor.Sg
open Go.RowKit Pt NewI
def sg1 (p : Bool) : Int := if p then 1 else -1
def by1 (p : Bool) : UInt8 := if p then 43 else 45
/-- Both sets of a circuit by its signs. -/
theorem sets4_of (p q r : Bool) (a b c d : Int) : sets4 (1, sg1 p, sg1 q, sg1 r) a b c d = (pw a + (if p then pw b else 0) + (if q then pw c else 0) + (if r then pw d else 0), 0 + (if p then 0 else pw b) + (if q then 0 else pw c) + (if r then 0 else pw d)) := by
  unfold sets4
  have hf : full (1, sg1 p, sg1 q, sg1 r) = true := by cases p <;> cases q <;> cases r <;> rfl
  rw [if_pos hf]
  have h1 : ∀ x : Bool, (sg1 x = 1) = (x = true) := fun x => by cases x <;> simp [sg1]
  simp only [h1, if_true]
theorem cirT_of (p q r : Bool) : cirT (1, sg1 p, sg1 q, sg1 r) = [43, by1 p, by1 q, by1 r] := by cases p <;> cases q <;> cases r <;> rfl
/-- Different elements of signs have a full circuit. -/
theorem full_dif {n a b c d : Nat} {s : List UInt8} (h : arB n s = true) (ha : a < n) (hb : b < n) (hc : c < n) (hd : d < n) (d1 : a ≠ b) (d2 : a ≠ c) (d3 : a ≠ d) (d4 : b ≠ c) (d5 : b ≠ d) (d6 : c ≠ d) : full (cir (sgnF (lookS n s)) a b c d) = true := by
  have s0 := sgn_one h hb hc hd d4 d6 d5
  have s1 := sgn_one h ha hc hd d2 d6 d3
  have s2 := sgn_one h ha hb hd d1 d5 d3
  have s3 := sgn_one h ha hb hc d1 d4 d2
  exact full_iff.2 ⟨by omega, by omega, by omega, by omega⟩
theorem lookS_bd (n : Int) (s : List UInt8) (a b c : Int) : -1 ≤ lookS n s a b c ∧ lookS n s a b c ≤ 1 := by
  unfold lookS
  split
  · exact look_bd _ _ _ _ _
  · omega
/-- The circuit of different elements. -/
theorem cir_form {n a b c d : Nat} {s : List UInt8} (h : arB n s = true) (ha : a < n) (hb : b < n) (hc : c < n) (hd : d < n) (d1 : a ≠ b) (d2 : a ≠ c) (d3 : a ≠ d) (d4 : b ≠ c) (d5 : b ≠ d) (d6 : c ≠ d) :
    ∃ p q r : Bool, cir (sgnF (lookS n s)) a b c d = (1, sg1 p, sg1 q, sg1 r) :=
  full_form (sgnF_bd (lookS_bd n s)) (full_dif h ha hb hc hd d1 d2 d3 d4 d5 d6)
theorem pow_bd {a : Nat} (h : a < 7) : 0 ≤ (2 : Int) ^ a ∧ (2 : Int) ^ a ≤ 64 := by
  rcases (by omega : a = 0 ∨ a = 1 ∨ a = 2 ∨ a = 3 ∨ a = 4 ∨ a = 5 ∨ a = 6) with rfl | rfl | rfl | rfl | rfl | rfl | rfl <;> decide
theorem pw_nat (a : Nat) : pw (a : Int) = (2 : Int) ^ a := by unfold pw; rw [Int.toNat_natCast]; push_cast; rfl
theorem ret_two {x y x' y' : Int} (h : (x', y') = (x, y)) : Ending.returned (.tuple #[.int .i64 x, .int .i64 y]) = Ending.returned (.tuple #[.int .i64 x', .int .i64 y']) := by
  obtain ⟨rfl, rfl⟩ := Prod.mk.inj h
  rfl
set_option maxHeartbeats 3200000 in
set_option maxRecDepth 100000 in
theorem l5Split_any (n : Nat) (s : ByteArray) (a b c d : Nat) (h : arB n s.data.toList = true) (ha : a < n) (hb : b < n) (hc : c < n) (hd : d < n) (d1 : a ≠ b) (d2 : a ≠ c) (d3 : a ≠ d) (d4 : b ≠ c) (d5 : b ≠ d) (d6 : c ≠ d) (g cp : Nat) (w : World) (hg : Cells w g 4 (zc [(a : Int), (b : Int), (c : Int), (d : Int)])) :
    Calls Tryz.prog 145 #[sg n s, .slice (some ⟨g, 0, none⟩) 4 cp] w fun e w' => e = .returned (.tuple #[.int .i64 (sets4 (cir (sgnF (lookS n s.data.toList)) a b c d) a b c d).1, .int .i64 (sets4 (cir (sgnF (lookS n s.data.toList)) a b c d) a b c d).2]) ∧ Below w.heap.size w w' := by
  obtain ⟨_, h7, -, -⟩ := arB_yes h
  have h7 : n ≤ 7 := by omega
  obtain ⟨p, q, r, hx⟩ := cir_form h ha hb hc hd d1 d2 d3 d4 d5 d6
  have HCI := Lib.hid (fun W => l4Circuit_any n s a b c d h ha hb hc hd d1 d2 d3 d4 d5 d6 W)
  rw [hx, cirT_of] at HCI
  rw [hx, sets4_of, pw_nat, pw_nat, pw_nat, pw_nat]
  have ba := pow_bd (a := a) (by omega)
  have bb := pow_bd (a := b) (by omega)
  have bc := pow_bd (a := c) (by omega)
  have bd := pow_bd (a := d) (by omega)
  obtain ⟨A, hA⟩ : ∃ x, x = (2 : Int) ^ a := ⟨_, rfl⟩
  obtain ⟨B, hB⟩ : ∃ x, x = (2 : Int) ^ b := ⟨_, rfl⟩
  obtain ⟨C, hC⟩ : ∃ x, x = (2 : Int) ^ c := ⟨_, rfl⟩
  obtain ⟨D, hD⟩ : ∃ x, x = (2 : Int) ^ d := ⟨_, rfl⟩
  have wa : IntKind.i64.wrap ((2 : Int) ^ a) = A := by rw [hA]; exact IntWalk.i64_in _ (by omega)
  have wb : IntKind.i64.wrap ((2 : Int) ^ b) = B := by rw [hB]; exact IntWalk.i64_in _ (by omega)
  have wc : IntKind.i64.wrap ((2 : Int) ^ c) = C := by rw [hC]; exact IntWalk.i64_in _ (by omega)
  have wd : IntKind.i64.wrap ((2 : Int) ^ d) = D := by rw [hD]; exact IntWalk.i64_in _ (by omega)
  rw [← hA] at ba; rw [← hB] at bb; rw [← hC] at bc; rw [← hD] at bd
  rw [← hA, ← hB, ← hC, ← hD]
  have HG := Lib.hid hg
  have hgw := hg.lt
  have HS := Lib.hid (box_made w n s 25)
  have HGL : Hid (∀ W, Below w.heap.size w W → W.cell? ⟨g, 0, none⟩ = some (.int .i64 a) ∧ W.cell? ⟨g, 1, none⟩ = some (.int .i64 b) ∧ W.cell? ⟨g, 2, none⟩ = some (.int .i64 c) ∧ W.cell? ⟨g, 3, none⟩ = some (.int .i64 d)) := Lib.hid (fun W hW => by
    have hh := hg.on hW
    exact ⟨hh.cell 0 (by omega), hh.cell 1 (by omega), hh.cell 2 (by omega), hh.cell 3 (by omega)⟩)
  clear h hx hA hB hC hD hg
  obtain ⟨x0, x1, X2⟩ := HS.out
  obtain ⟨y0, y1, y2, y3⟩ := HGL.out _ X2
  have HCC : Hid (∀ W, (W.cell? ⟨w.heap.size, 0, none⟩ = some (.int .i64 n) ∧ W.cell? ⟨w.heap.size, 1, none⟩ = some (.string s) ∧ W.cell? ⟨g, 0, none⟩ = some (.int .i64 a) ∧ W.cell? ⟨g, 1, none⟩ = some (.int .i64 b) ∧ W.cell? ⟨g, 2, none⟩ = some (.int .i64 c) ∧ W.cell? ⟨g, 3, none⟩ = some (.int .i64 d) ∧ Below w.heap.size w W) → Calls Tryz.prog 139 #[sg n s, .int .i64 a, .int .i64 b, .int .i64 c, .int .i64 d] W fun e w' => e = .returned (.string ⟨#[43, by1 p, by1 q, by1 r]⟩) ∧ w'.cell? ⟨w.heap.size, 0, none⟩ = some (.int .i64 n) ∧ w'.cell? ⟨w.heap.size, 1, none⟩ = some (.string s) ∧ w'.cell? ⟨g, 0, none⟩ = some (.int .i64 a) ∧ w'.cell? ⟨g, 1, none⟩ = some (.int .i64 b) ∧ w'.cell? ⟨g, 2, none⟩ = some (.int .i64 c) ∧ w'.cell? ⟨g, 3, none⟩ = some (.int .i64 d) ∧ Below w.heap.size w w') := Lib.hid (fun W hW => (HCI.out W).mono fun e w' ⟨he, hb⟩ => by
      have hbx : Box w n s w' := Box.on ⟨hW.1, hW.2.1, hW.2.2.2.2.2.2⟩ hb
      obtain ⟨k0, k1, k2, k3⟩ := HGL.out _ hbx.2.2
      exact ⟨he, hbx.1, hbx.2.1, k0, k1, k2, k3, hbx.2.2⟩)
  clear HCI
  go_enter Tryz.func145, Tryz.ntmps145
  go_wp2
  go_region_held3 (fun W => W.cell? ⟨w.heap.size, 0, none⟩ = some (.int .i64 n) ∧ W.cell? ⟨w.heap.size, 1, none⟩ = some (.string s) ∧ W.cell? ⟨g, 0, none⟩ = some (.int .i64 a) ∧ W.cell? ⟨g, 1, none⟩ = some (.int .i64 b) ∧ W.cell? ⟨g, 2, none⟩ = some (.int .i64 c) ∧ W.cell? ⟨g, 3, none⟩ = some (.int .i64 d) ∧ Below w.heap.size w W)
    (first | exact ⟨by assumption, by assumption, by assumption, by assumption, by assumption, by assumption, by assumption⟩ | exact ⟨by assumption, by assumption, by assumption, by assumption, by assumption, by assumption, Below.drew (by assumption)⟩)
    (first | (go_at_call 139; refine (HCC.out _ ?_).mono ?_; (first | exact ⟨by assumption, by assumption, by assumption, by assumption, by assumption, by assumption, by assumption⟩ | exact ⟨by assumption, by assumption, by assumption, by assumption, by assumption, by assumption, Below.drew (by assumption)⟩); rintro e' w' ⟨rfl, c1, c2, c3, c4, c5, c6, c7⟩))
  all_goals
    have HB := Lib.hid c7
    clear c1 c2 c7 x0 x1 y0 y1 y2 y3 HG HGL HS HCC X2
    go_wp2
    refine wp_loop_rounds 5 ?_
    rw [rounds_succ]
    go_wp2
    rw [rounds_succ]
    cases p
    · go_wp2
      rw [rounds_succ]
      cases q
      · go_wp2
        rw [rounds_succ]
        cases r
        · go_wp2
          rw [rounds_succ]
          go_wp2
          go_ret2
          exact ⟨ret_two (by simp <;> omega), HB.out⟩
        · go_wp2
          rw [rounds_succ]
          go_wp2
          go_ret2
          exact ⟨ret_two (by simp <;> omega), HB.out⟩
      · go_wp2
        rw [rounds_succ]
        cases r
        · go_wp2
          rw [rounds_succ]
          go_wp2
          go_ret2
          exact ⟨ret_two (by simp <;> omega), HB.out⟩
        · go_wp2
          rw [rounds_succ]
          go_wp2
          go_ret2
          exact ⟨ret_two (by simp <;> omega), HB.out⟩
    · go_wp2
      rw [rounds_succ]
      cases q
      · go_wp2
        rw [rounds_succ]
        cases r
        · go_wp2
          rw [rounds_succ]
          go_wp2
          go_ret2
          exact ⟨ret_two (by simp <;> omega), HB.out⟩
        · go_wp2
          rw [rounds_succ]
          go_wp2
          go_ret2
          exact ⟨ret_two (by simp <;> omega), HB.out⟩
      · go_wp2
        rw [rounds_succ]
        cases r
        · go_wp2
          rw [rounds_succ]
          go_wp2
          go_ret2
          exact ⟨ret_two (by simp <;> omega), HB.out⟩
        · go_wp2
          rw [rounds_succ]
          go_wp2
          go_ret2
          exact ⟨ret_two (by simp <;> omega), HB.out⟩
/-- A slice of four numbers just made. -/
theorem cells4_made (w : World) (a b c d : Int) (t : TypeId) : Cells (w.alloc (.cells #[.int .i64 a, .int .i64 b, .int .i64 c, .int .i64 d] t)) w.heap.size 4 (zc [a, b, c, d]) := by
  obtain ⟨h0, h1, h2, h3⟩ := box4_made w a b c d t
  refine ⟨fun j hj => ?_, fun j => by go_simp, by simp⟩
  rcases (by omega : j = 0 ∨ j = 1 ∨ j = 2 ∨ j = 3) with rfl | rfl | rfl | rfl
  · exact h0
  · exact h1
  · exact h2
  · exact h3
/-- The inner one of different elements, told by spec. -/
theorem inner_max {n a b c d : Nat} {s : List UInt8} (h : arB n s = true) (ha : a < n) (hb : b < n) (hc : c < n) (hd : d < n) (d1 : a ≠ b) (d2 : a ≠ c) (d3 : a ≠ d) (d4 : b ≠ c) (d5 : b ≠ d) (d6 : c ≠ d) :
    max (only (sets4 (cir (sgnF (lookS n s)) a b c d) a b c d).1) (only (sets4 (cir (sgnF (lookS n s)) a b c d) a b c d).2) = inn4 (cir (sgnF (lookS n s)) a b c d) a b c d := by
  obtain ⟨_, h7, -, -⟩ := arB_yes h
  exact max_only (sgnF_bd (lookS_bd n s)) fun _ => ⟨by omega, by omega, by omega, by omega, by omega, by omega, by omega, by omega, by omega, by omega⟩
set_option maxHeartbeats 1600000 in
set_option maxRecDepth 100000 in
theorem l5Inner_any (n : Nat) (s : ByteArray) (a b c d : Nat) (h : arB n s.data.toList = true) (ha : a < n) (hb : b < n) (hc : c < n) (hd : d < n) (d1 : a ≠ b) (d2 : a ≠ c) (d3 : a ≠ d) (d4 : b ≠ c) (d5 : b ≠ d) (d6 : c ≠ d) (g cp : Nat) (w : World) (hg : Cells w g 4 (zc [(a : Int), (b : Int), (c : Int), (d : Int)])) :
    Calls Tryz.prog 148 #[sg n s, .slice (some ⟨g, 0, none⟩) 4 cp] w fun e w' => e = .returned (.int .i64 (inn4 (cir (sgnF (lookS n s.data.toList)) a b c d) a b c d)) ∧ Below w.heap.size w w' := by
  have HI := Lib.hid (inner_max h ha hb hc hd d1 d2 d3 d4 d5 d6)
  have HSP : Hid (∀ W, Below w.heap.size w W → Calls Tryz.prog 145 #[sg n s, .slice (some ⟨g, 0, none⟩) 4 cp] W fun e w' => e = .returned (.tuple #[.int .i64 (sets4 (cir (sgnF (lookS n s.data.toList)) a b c d) a b c d).1, .int .i64 (sets4 (cir (sgnF (lookS n s.data.toList)) a b c d) a b c d).2]) ∧ Below W.heap.size W w') := Lib.hid (fun W hW => l5Split_any n s a b c d h ha hb hc hd d1 d2 d3 d4 d5 d6 g cp W (hg.on hW))
  have HS := Lib.hid (box_made w n s 25)
  rw [← HI.out]
  generalize sets4 (cir (sgnF (lookS n s.data.toList)) a b c d) a b c d = x at HSP ⊢
  obtain ⟨x, y⟩ := x
  clear HI h ha hb hc hd d1 d2 d3 d4 d5 d6 hg
  have HB0 := Lib.hid HS.out.2.2
  go_enter Tryz.func148, Tryz.ntmps148
  go_wp2_with fail
  refine (HSP.out _ HB0.out).mono ?_
  rintro e w1 ⟨rfl, hb1⟩
  have HB1 := Lib.hid (HB0.out.trans (hb1.mono HB0.out.size))
  clear hb1
  go_wp2_with fail
  refine (l5Only_any _ _).mono ?_
  rintro e w' ⟨rfl, rfl⟩
  go_wp2_with fail
  refine (l5Only_any _ _).mono ?_
  rintro e w' ⟨rfl, rfl⟩
  go_wp2_with fail
  refine (maxI_any _ _ _).mono ?_
  rintro e w' ⟨rfl, rfl⟩
  go_wp2
  go_ret
  exact ⟨rfl, HB1.out⟩
/-- A full circuit has different elements. -/
theorem dif_of_full {n : Nat} {s : List UInt8} (h : arB n s = true) {a b c d : Int} (hf : full (cir (sgnF (lookS n s)) a b c d) = true) : difB n [a, b, c, d] = true := by
  obtain ⟨h0, h1, h2, h3⟩ := full_iff.1 hf
  have g0 := Classical.byContradiction fun hb => h0 (sgnF_bad h hb)
  have g1 := Classical.byContradiction fun hb => h1 (sgnF_bad h hb)
  have g2 := Classical.byContradiction fun hb => h2 (sgnF_bad h hb)
  have g3 := Classical.byContradiction fun hb => h3 (sgnF_bad h hb)
  exact difB4.2 ⟨by omega, by omega, by omega, by omega, by omega, by omega, by omega, by omega, by omega, by omega⟩
end Go.Proofs.YtinlnafkmoabbaaGreatDoor.Sg
/- The elements inside a triangle and the empty triangles, as spec tells them: IsInside, l5Inside, CountInside, EmptyTriangles. -/
namespace Go.Proofs.YtinlnafkmoabbaaGreatDoor.Sg
open Go.RowKit Pt NewI
/-- A circuit that is not full has no inner element. -/
theorem isIn_no {x : Int × Int × Int × Int} (h : full x = false) : isIn x = false := by
  cases hi : isIn x
  · rfl
  · exfalso
    obtain ⟨x0, x1, x2, x3⟩ := x
    unfold isIn at hi
    simp only [Bool.and_eq_true, beq_iff_eq] at hi
    obtain ⟨rfl, rfl, rfl, rfl⟩ := hi
    exact absurd h (by decide)
/-- A circuit with an element twice has no inner one. -/
theorem isIn_twice {n : Nat} {s : List UInt8} (h : arB n s = true) {p a b c : Int} (hp : p = a ∨ p = b ∨ p = c) : isIn (cir (sgnF (lookS n s)) p a b c) = false := by
  refine isIn_no ?_
  cases hf : full (cir (sgnF (lookS n s)) p a b c)
  · rfl
  · obtain ⟨-, -, -, -, n1, n2, n3, -⟩ := difB4.1 (dif_of_full h hf)
    omega
set_option maxRecDepth 100000 in
theorem l1Bit_any (b : Bool) (w : World) : Calls Tryz.prog 82 #[.bool b] w fun e w' => e = .returned (.int .i64 (bit b)) ∧ w' = w := by
  cases b
  · go_enter Tryz.func82, Tryz.ntmps82
    go_wp2
    go_ret
    exact ⟨rfl, rfl⟩
  · go_enter Tryz.func82, Tryz.ntmps82
    go_wp2
    go_ret
    exact ⟨rfl, rfl⟩
theorem bit_le (b : Bool) : bit b ≤ 1 := by cases b <;> decide
end Go.Proofs.YtinlnafkmoabbaaGreatDoor.Sg
/- QuadsOf and CountQuads, as impl and spec tell them. -/
namespace Go.Proofs.YtinlnafkmoabbaaGreatDoor.Sg
open Go.RowKit Pt NewI NewII Go.Maps
/-- What QuadsOf answers. -/
def quadsL (n : Int) (s : List UInt8) : List T4 := if aciB n s = true then quads (sgnF (lookS n s)) n.toNat else []
theorem quadsL_no {n : Int} {s : List UInt8} (h : aciB n s = false) : quadsL n s = [] := by unfold quadsL; rw [h]; rfl
theorem quadsL_yes {n : Nat} {s : List UInt8} (h : aciB n s = true) : quadsL n s = quads (sgnF (lookS n s)) n := by unfold quadsL; rw [if_pos h, Int.toNat_natCast]
/-- What CountQuads answers. -/
def quadsN (n : Int) (s : List UInt8) : Int := if aciB n s = true then ((quadsL n s).length : Nat) else -1
set_option maxHeartbeats 3200000 in
set_option maxRecDepth 100000 in
theorem specQuads (n : Int) (s : ByteArray) (hs : s.size ≤ 9223372036854775807) (w : World) :
    Calls Tryz.prog 106 #[sg n s] w fun e w' => Got2 w.heap.size (rows4 (quadsL n s.data.toList)) e w' ∧ Below w.heap.size w w' := by
  have HA := Lib.hid (fun W => specAci n s hs W)
  have HS := Lib.hid ((box_made w n s 25).alloc (.cells #[] 27))
  have hsz : (w.alloc (.cells #[.int .i64 n, .string s] 25)).heap.size = w.heap.size + 1 := by simp
  obtain ⟨x0, x1, -⟩ := HS.out
  cases h : aciB n s.data.toList
  · have HE := Lib.hid (quadsL_no h)
    rw [h] at HA
    clear h
    go_enter Tryz.func106, Tryz.ntmps106
    go_wp2_with fail
    refine (HA.out _).mono ?_
    rintro e w1 ⟨rfl, hb1⟩
    have B1 := Lib.hid (HS.out.on hb1).2.2
    clear hb1 x0 x1
    go_wp2
    go_ret
    exact ⟨by rw [HE.out]; exact ⟨_, _, rfl, .inl rfl⟩, B1.out⟩
  · obtain ⟨h3, h7⟩ := aciB_n h
    obtain ⟨m, rfl⟩ : ∃ m : Nat, n = m := ⟨n.toNat, by omega⟩
    have h7 : m ≤ 7 := by omega
    have har := matB_ar (aciB_mat h)
    obtain ⟨i0, hi, hz0, hz1, hz2⟩ := info_parts infoL
    have HE := Lib.hid (quadsL_yes h)
    have HIN : Hid (∀ a b c d : Nat, a < b → b < c → c < d → d < m → ∀ g W, Cells W g 4 (zc [(a : Int), (b : Int), (c : Int), (d : Int)]) → Calls Tryz.prog 148 #[sg m s, .slice (some ⟨g, 0, none⟩) 4 4] W fun e w' => e = .returned (.int .i64 (inn4 (cir (sgnF (lookS m s.data.toList)) a b c d) a b c d)) ∧ Below W.heap.size W w') := Lib.hid (fun a b c d h1 h2 h3 h4 g W hW => l5Inner_any m s a b c d har (by omega) (by omega) (by omega) (by omega) (by omega) (by omega) (by omega) (by omega) (by omega) (by omega) g 4 W hW)
    rw [HE.out]
    rw [h] at HA
    have HGE : Hid (∀ x : Int × Int × Int × Int, ∀ a b c d : Nat, (inn4 x a b c d < 0) = (inn4 x a b c d = -1)) := Lib.hid (fun x a b c d => by
      unfold inn4
      split
      · (simp; try omega)
      · split
        · (simp; try omega)
        · split
          · (simp; try omega)
          · split
            · (simp; try omega)
            · simp)
    have HQL := Lib.hid (fun a b c d => quadsU_len (f := sgnF (lookS m s.data.toList)) (n := m) (a := a) (b := b) (c := c) (d := d) h7)
    have HHH := Lib.hid (fun a b c d => quadsU_hit (f := sgnF (lookS m s.data.toList)) (n := m) (a := a) (b := b) (c := c) (d := d) h7)
    have HMM := Lib.hid (fun a b c d => quadsU_miss (f := sgnF (lookS m s.data.toList)) (n := m) (a := a) (b := b) (c := c) (d := d) h7)
    have HEND := Lib.hid (quadsU_end h7 (sgnF (lookS m s.data.toList)))
    have HZZ : Hid (quadsU (sgnF (lookS m s.data.toList)) m 0 (0 + 1) (0 + 1 + 1) (0 + 1 + 1 + 1) = []) := Lib.hid (by unfold quadsU; rw [upto4_zero h7]; rfl)
    have HDD : Hid (∀ a b c, a < b → b < c → c < m → quadsU (sgnF (lookS m s.data.toList)) m a b c m = quadsU (sgnF (lookS m s.data.toList)) m a b (c + 1) (c + 1 + 1)) := Lib.hid (fun a b c h1 h2 h3 => by unfold quadsU; rw [upto4_d h7 h1 h2 h3])
    have HCC : Hid (∀ a b, a < b → b < m → quadsU (sgnF (lookS m s.data.toList)) m a b m (m + 1) = quadsU (sgnF (lookS m s.data.toList)) m a (b + 1) (b + 1 + 1) (b + 1 + 1 + 1)) := Lib.hid (fun a b h1 h2 => by unfold quadsU; rw [upto4_c h7 h1 h2])
    have HBB : Hid (∀ a, a < m → quadsU (sgnF (lookS m s.data.toList)) m a m (m + 1) (m + 1 + 1) = quadsU (sgnF (lookS m s.data.toList)) m (a + 1) (a + 1 + 1) (a + 1 + 1 + 1) (a + 1 + 1 + 1 + 1)) := Lib.hid (fun a h1 => by unfold quadsU; rw [upto4_b h7 h1])
    have HHI : Hid (∀ a b c d : Nat, hasI (sgnF (lookS m s.data.toList)) (a, b, c, d) = !(inn4 (cir (sgnF (lookS m s.data.toList)) a b c d) a b c d == -1)) := Lib.hid (fun a b c d => rfl)
    generalize sgnF (lookS m s.data.toList) = F at HIN HQL HHH HMM HEND HZZ HDD HCC HBB HHI ⊢
    clear h har HE
    have HO0 := Lib.hid (OwnL.made (w.alloc (.cells #[.int .i64 m, .string s] 25)) (w.heap.size + 1) (w.heap.size + 1) (by rw [hsz]; exact Nat.le_refl _))
    rw [hsz] at HO0
    go_enter Tryz.func106, Tryz.ntmps106
    go_wp2_with fail
    refine (HA.out _).mono ?_
    rintro e w1 ⟨rfl, hb1⟩
    have X1 := Lib.hid (HS.out.on hb1)
    have HO1 := Lib.hid ((HO0.out.on hb1).top)
    clear hb1 x0 x1 HO0
    obtain ⟨x0, x1, -⟩ := X1.out
    go_wp2
    go_loopw [3, 4] (fun vv x wr => ∃ a : Nat, a ≤ m ∧ x = .int .i64 a ∧ Hid (OwnL wr (w.heap.size + 1) wr.heap.size vv (rows4 (quadsU F m a (a + 1) (a + 1 + 1) (a + 1 + 1 + 1)))) ∧ Hid (Box w m s wr)) (fun _ x _ => m - (intOf x).toNat)
    case atStart => exact ⟨0, Nat.zero_le _, rfl, by rw [HZZ.out]; exact HO1, X1⟩
    case round =>
      obtain ⟨a, han, rfl, HV, HB⟩ := hrel
      obtain ⟨c0, c1, B0⟩ := HB.out
      by_cases hlt : a < m
      · go_wp2
        go_loopw [3, 5] (fun vv x wr => ∃ b : Nat, a < b ∧ b ≤ m ∧ x = .int .i64 b ∧ Hid (OwnL wr (w.heap.size + 1) wr.heap.size vv (rows4 (quadsU F m a b (b + 1) (b + 1 + 1)))) ∧ Hid (Box w m s wr)) (fun _ x _ => m - (intOf x).toNat)
        case atStart => exact ⟨a + 1, by omega, by omega, by go_num, HV, HB⟩
        case round =>
          obtain ⟨b, hab, hbn, rfl, HV, HB⟩ := hrel
          obtain ⟨c0, c1, B0⟩ := HB.out
          by_cases hlt2 : b < m
          · go_wp2
            go_loopw [3, 6] (fun vv x wr => ∃ c : Nat, b < c ∧ c ≤ m ∧ x = .int .i64 c ∧ Hid (OwnL wr (w.heap.size + 1) wr.heap.size vv (rows4 (quadsU F m a b c (c + 1)))) ∧ Hid (Box w m s wr)) (fun _ x _ => m - (intOf x).toNat)
            case atStart => exact ⟨b + 1, by omega, by omega, by go_num, HV, HB⟩
            case round =>
              obtain ⟨c, hbc, hcn, rfl, HV, HB⟩ := hrel
              obtain ⟨c0, c1, B0⟩ := HB.out
              by_cases hlt3 : c < m
              · go_wp2
                go_loopw [3, 7] (fun vv x wr => ∃ d : Nat, c < d ∧ d ≤ m ∧ x = .int .i64 d ∧ Hid (OwnL wr (w.heap.size + 1) wr.heap.size vv (rows4 (quadsU F m a b c d))) ∧ Hid (Box w m s wr)) (fun _ x _ => m - (intOf x).toNat)
                case atStart => exact ⟨c + 1, by omega, by omega, by go_num, HV, HB⟩
                case round =>
                  obtain ⟨d, hcd, hdn, rfl, HV, HB⟩ := hrel
                  obtain ⟨c0, c1, B0⟩ := HB.out
                  by_cases hlt4 : d < m
                  · have HC := Lib.hid (HIN.out a b c d hab hbc hcd hlt4)
                    have HH := Lib.hid (fun h => HHH.out a b c d hab hbc hcd hlt4 h)
                    have HX := Lib.hid (fun h => HMM.out a b c d hab hbc hcd hlt4 h)
                    have hhas := HHI.out a b c d
                    have hneg := HGE.out (cir F a b c d) a b c d
                    generalize inn4 (cir F a b c d) a b c d = y at HC hhas hneg
                    have G1 := Lib.hid (cells4_made wr a b c d 3)
                    have hcs1 : ∃ cs, (wr.alloc (.cells #[.int .i64 a, .int .i64 b, .int .i64 c, .int .i64 d] 3)).heap[wr.heap.size]? = some (Obj.cells cs 3) := ⟨_, heap_made wr _⟩
                    have HX1 := Lib.hid (HB.out.alloc (.cells #[.int .i64 a, .int .i64 b, .int .i64 c, .int .i64 d] 3))
                    have HV1 := Lib.hid (HV.out.on ((Below.refl wr.heap.size wr).alloc (Nat.le_refl _) (.cells #[.int .i64 a, .int .i64 b, .int .i64 c, .int .i64 d] 3)))
                    have hlt0 : wr.heap.size < (wr.alloc (.cells #[.int .i64 a, .int .i64 b, .int .i64 c, .int .i64 d] 3)).heap.size := by simp
                    obtain ⟨c0, c1, -⟩ := HX1.out
                    have HCS := Lib.hid hcs1
                    clear HV hcs1
                    by_cases hy : y < 0
                    · have hy1 : y = -1 := by rw [← hneg]; exact hy
                      subst hy1
                      have HN := Lib.hid (HH.out (by rw [hhas]; rfl))
                      have HYL := HQL.out a b c d
                      generalize quadsU F m a b c d = ys at HV1 HN HYL
                      go_wp2_with fail
                      refine (HC.out _ _ G1.out).mono ?_
                      rintro e w3 ⟨rfl, hb3⟩
                      have HX3 := Lib.hid (HX1.out.on hb3)
                      have HV3 := Lib.hid (HV1.out.on hb3)
                      have G3 := Lib.hid (G1.out.on hb3)
                      have HCS3 : Hid (∃ cs, w3.heap[wr.heap.size]? = some (Obj.cells cs 3)) := Lib.hid (by obtain ⟨cs, hcs⟩ := HCS.out; exact ⟨cs, by rw [hb3.block _ hlt0]; exact hcs⟩)
                      obtain ⟨L, hL⟩ := HV3.out.row
                      have HL3 := Lib.hid hL
                      have hyl2 : (rows4 ys).length ≤ 35 := by rw [rows4_length]; exact HYL
                      have hw0 : w.heap.size < wr.heap.size := Kit.cell_lt HB.out.1
                      have hs3 : wr.heap.size ≤ w3.heap.size := by have := hb3.size; simp at this; omega
                      have B3 := HX3.out.2.2
                      clear hL hb3 c0 c1
                      go_wp2_with (at_builtin; refine wpList_append_own _ rfl (.tmp 53) (.tmp 55) 81 rfl (w.heap.size + 1) 27 i0 _ 1 24 Tryz.underlying81 hi hz0 hz1 hz2 rfl (by decide) _ _ _ rfl (World.ownsRow.alloc HL3.out _) ⟨_, 0, none⟩ 1 1 [.slice (some ⟨wr.heap.size, 0, none⟩) 4 4] rfl rfl (newsR _ _ _) (oneR _ _ _) (by simp only [maxLen]; omega) (by omega) (by simp; omega) ?_)
                      intro v1 w5 hown hg _
                      have hal := (Below.refl w3.heap.size w3).alloc (Nat.le_refl _) (.cells #[.slice (some ⟨wr.heap.size, 0, none⟩) 4 4] 27)
                      have HV5 : Hid (OwnL w5 (w.heap.size + 1) w5.heap.size v1 (rows4 (quadsU F m a b c (d + 1)))) := Lib.hid (by
                        rw [HN.out, rows4_snoc]
                        obtain ⟨cs, hcs⟩ := HCS3.out
                        exact (OwnL.snoc (g := (wr.heap.size, 4)) (zs := r4 (a, b, c, d)) (HV3.out.on hal) (by show w.heap.size + 1 ≤ wr.heap.size; omega) (Nat.le_refl _) ⟨cs, by rw [hal.block _ G3.out.lt]; exact hcs⟩ (G3.out.on hal) hg (World.ownsRow.alloc HL3.out _) hown).top)
                      have HX5 : Hid (Box w m s w5) := Lib.hid (by
                        have hbx := HX3.out.alloc (.cells #[.slice (some ⟨wr.heap.size, 0, none⟩) 4 4] 27)
                        refine hbx.block (hg.block _ (by simp; omega) (fun e => ?_)) (hbx.2.2.grown hg (by simp; omega) (fun q hq => by have := (World.ownsRow.lt HL3.out q hq).1; omega))
                        have := (World.ownsRow.lt HL3.out _ e.symm).1
                        omega)
                      clear hown hg hal
                      go_wp2
                      exact ⟨⟨d + 1, by omega, by omega, by go_num, HV5, HX5⟩, by simp only [intOf]; omega⟩
                    · have hy1 : (y == -1) = false := by
                        rw [beq_eq_false_iff_ne]
                        intro e
                        rw [← hneg] at e
                        exact hy e
                      have HN := Lib.hid (HX.out (by rw [hhas, hy1]; rfl))
                      go_wp2_with fail
                      refine (HC.out _ _ G1.out).mono ?_
                      rintro e w3 ⟨rfl, hb3⟩
                      have HX3 := Lib.hid (HX1.out.on hb3)
                      have HV3 : Hid (OwnL w3 (w.heap.size + 1) w3.heap.size _ (rows4 (quadsU F m a b c (d + 1)))) := Lib.hid (by rw [HN.out]; exact (HV1.out.on hb3).top)
                      clear hb3 c0 c1
                      go_wp2
                      exact ⟨⟨d + 1, by omega, by omega, by go_num, HV3, HX3⟩, by simp only [intOf]; omega⟩
                  · have HN := Lib.hid (HDD.out a b c hab hbc hlt3)
                    obtain rfl : d = m := by omega
                    have HV2 := HV
                    rw [HN.out] at HV2
                    clear HV
                    go_wp2
                    exact ⟨⟨c + 1, by omega, by omega, by go_num, HV2, HB⟩, by simp only [intOf]; omega⟩
              · have HN := Lib.hid (HCC.out a b hab hlt2)
                obtain rfl : c = m := by omega
                have HV2 := HV
                rw [HN.out] at HV2
                clear HV
                go_wp2
                exact ⟨⟨b + 1, by omega, by omega, by go_num, HV2, HB⟩, by simp only [intOf]; omega⟩
          · have HN := Lib.hid (HBB.out a hlt)
            obtain rfl : b = m := by omega
            have HV2 := HV
            rw [HN.out] at HV2
            clear HV
            go_wp2
            exact ⟨⟨a + 1, by omega, by go_num, HV2, HB⟩, by simp only [intOf]; omega⟩
      · obtain rfl : a = m := by omega
        have HV2 := HV
        rw [HEND.out] at HV2
        obtain ⟨a2, c2, hv, hli⟩ := Lists.of_own HV2.out
        subst hv
        have HLI := Lib.hid hli
        clear HV HV2 hli
        go_wp2
        go_ret
        exact ⟨⟨a2, c2, rfl, HLI.out.low (by omega)⟩, B0⟩
end Go.Proofs.YtinlnafkmoabbaaGreatDoor.Sg
