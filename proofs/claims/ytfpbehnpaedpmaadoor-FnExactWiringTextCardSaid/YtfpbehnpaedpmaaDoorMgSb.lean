/- Several texts in one: SgMap, SgMapOf, SgBy, PtArea, SgOppSpec, SgPick, SgOthers. -/
import Derived.Test.YtfpbehnpaedpmaaDoorMgSa
import Derived.Maps.OwnOps
import Derived.Maps.Views
import Derived.DeepKeys4
import Derived.StillTailTactics
import Derived.Maps.OwnSet
import Derived.Shelf.GgClosure.Gives
import Derived.Laws.IdiomStrings
import Derived.Test.YtfpbehnpaedpmaaDoorMgPa
import Derived.Shelf.Abstract
import Derived.Laws.Strings
import Derived.Deep.RegionHeld3
import Derived.Test.YtfpbehnpaedpmaaDoorProg
import Derived.WalkKit
import Derived.OrdersHeld
import Derived.Deep.RegionHeld
/- Signs in a map from three elements: the map's reading, the sign of any three (impl's signMap.at). -/
namespace Go.Proofs.YtfpbehnpaedpmaaDoor.Sg
open Go.RowKit Pt Go.Maps
/-- What a key reads as. -/
def kl (a b c : Int) : Lit := .string (keyBytes [.int .i64 a, .int .i64 b, .int .i64 c])
end Go.Proofs.YtfpbehnpaedpmaaDoor.Sg
/- impl.signMapOf: a map that has the sign of each three in order. -/
namespace Go.Proofs.YtfpbehnpaedpmaaDoor.Sg
open Go.RowKit Pt Go.Maps
/-- The signs at the threes before number p. -/
def lookTo (n : Nat) (s : List UInt8) (p : Nat) (a b c : Int) : Int := if (0 ≤ a ∧ a < b ∧ b < c ∧ c < n) ∧ idx n a.toNat b.toNat c.toNat < p then sgn1 (s.getD (idx n a.toNat b.toNat c.toNat) 0) else 0
/-- A map's keys are small elements alone. -/
def KeysIn (D : DataW Unit) : Prop := ∀ x y z : Int, -9223372036854775808 ≤ x ∧ x ≤ 9223372036854775807 → -9223372036854775808 ≤ y ∧ y ≤ 9223372036854775807 → -9223372036854775808 ≤ z ∧ z ≤ 9223372036854775807 → ¬ ((0 ≤ x ∧ x < 8) ∧ (0 ≤ y ∧ y < 8) ∧ 0 ≤ z ∧ z < 8) → ∀ zd, D.atKey (kl x y z) zd = zd
/-- The map's state at three number p. -/
def MapTo (n : Nat) (s : List UInt8) (p : Nat) (D : DataW Unit) : Prop :=
  (∀ x y z : Int, -9223372036854775808 ≤ x ∧ x ≤ 9223372036854775807 → -9223372036854775808 ≤ y ∧ y ≤ 9223372036854775807 → -9223372036854775808 ≤ z ∧ z ≤ 9223372036854775807 → D.atKey (kl x y z) (.lit (.int .i64 0)) = .lit (.int .i64 (lookTo n s p x y z))) ∧ KeysIn D
/-- The cells of a row of threes. -/
def At3 (w : World) (g : Nat) (xs : List T3) : Prop := ∀ (j : Nat) t, xs[j]? = some t → w.cell? ⟨g, j * 3, none⟩ = some (.int .i64 t.1) ∧ w.cell? ⟨g, j * 3 + 1, none⟩ = some (.int .i64 t.2.1) ∧ w.cell? ⟨g, j * 3 + 2, none⟩ = some (.int .i64 t.2.2)
theorem At3.block {w w' : World} {g : Nat} {xs : List T3} (h : At3 w g xs) (e : w'.heap[g]? = w.heap[g]?) : At3 w' g xs := fun j t hj => by
  have c := fun o => World.cell?_of_block (a := ⟨g, o, none⟩) e
  rw [c, c, c]
  exact h j t hj
theorem At3.on {w w' : World} {B g : Nat} {xs : List T3} (h : At3 w g xs) (hb : Below B w w') (hB : g < B) : At3 w' g xs := h.block (hb.block g hB)
theorem Box.block {w0 : World} {n : Int} {s : ByteArray} {w w' : World} (h : Box w0 n s w) (e : w'.heap[w0.heap.size]? = w.heap[w0.heap.size]?) (hb : Below w0.heap.size w0 w') : Box w0 n s w' :=
  ⟨by rw [World.cell?_of_block (a := ⟨w0.heap.size, 0, none⟩) e]; exact h.1, by rw [World.cell?_of_block (a := ⟨w0.heap.size, 1, none⟩) e]; exact h.2.1, hb⟩
end Go.Proofs.YtfpbehnpaedpmaaDoor.Sg
/- impl.signsBy: the signs that a function tells of each three. -/
namespace Go.Proofs.YtfpbehnpaedpmaaDoor.Sg
open Go.RowKit Pt
/-- The result's block: still as it was made. -/
def ResC (w0 W : World) : Prop := (W.cell? ⟨w0.heap.size, 0, none⟩ = some (.int .i64 0) ∧ W.cell? ⟨w0.heap.size, 1, none⟩ = some (.string ⟨#[]⟩)) ∧ (W.frozen? ⟨w0.heap.size, 0, none⟩ = false ∧ W.frozen? ⟨w0.heap.size, 1, none⟩ = false) ∧ Below w0.heap.size w0 W
theorem ResC.lt {w0 W : World} (h : ResC w0 W) : w0.heap.size < W.heap.size := Kit.cell_lt h.1.1
theorem ResC.on' {w0 W W' : World} {B : Nat} (h : ResC w0 W) (hb : Below B W W') (hl : w0.heap.size < B) (_hs : B ≤ W.heap.size) : ResC w0 W' := by
  obtain ⟨⟨h1, h2⟩, ⟨h3, h4⟩, h5⟩ := h
  exact ⟨⟨by rw [hb.cell hl]; exact h1, by rw [hb.cell hl]; exact h2⟩, ⟨by rw [hb.frozen hl]; exact h3, by rw [hb.frozen hl]; exact h4⟩, h5.trans (hb.mono (by omega))⟩
theorem ResC.on {w0 W W' : World} (h : ResC w0 W) (hb : Below W.heap.size W W') : ResC w0 W' := h.on' hb h.lt (Nat.le_refl _)
theorem ResC.alloc {w0 W : World} (h : ResC w0 W) (o : Obj) : ResC w0 (W.alloc o) := h.on ((Below.refl _ _).alloc (Nat.le_refl _) o)
end Go.Proofs.YtfpbehnpaedpmaaDoor.Sg
/- Areas and turns of three points by value, as impl and spec reckon them; a law's point as impl's. -/
namespace Go.Proofs.YtfpbehnpaedpmaaDoor.Pt
open Go.RowKit

/-- Block B holds a point. -/
def PtAt (w : World) (B o : Nat) (x y : Int) : Prop := w.cell? ⟨B, o, none⟩ = some (.int .i64 x) ∧ w.cell? ⟨B, o + 1, none⟩ = some (.int .i64 y)
theorem PtAt.on {w w' : World} {B o C : Nat} {x y : Int} (h : PtAt w B o x y) (hb : Below C w w') (hB : B < C) : PtAt w' B o x y := ⟨by rw [hb.cell hB]; exact h.1, by rw [hb.cell hB]; exact h.2⟩
/-- Three points in three blocks, and in a row behind them. -/
structure Tri (B : Nat) (ax ay bx by_ cx cy : Int) (w : World) : Prop where
  a : PtAt w B 0 ax ay
  b : PtAt w (B + 1) 0 bx by_
  c : PtAt w (B + 1 + 1) 0 cx cy
  ra : PtAt w (B + 1 + 1 + 1) 0 ax ay
  rb : PtAt w (B + 1 + 1 + 1) 2 bx by_
  rc : PtAt w (B + 1 + 1 + 1) 4 cx cy
  lt : B + 1 + 1 + 1 < w.heap.size
theorem Tri.on {B : Nat} {ax ay bx by_ cx cy : Int} {w w' : World} (h : Tri B ax ay bx by_ cx cy w) (hb : Below w.heap.size w w') : Tri B ax ay bx by_ cx cy w' :=
  have := h.lt
  ⟨h.a.on hb (by omega), h.b.on hb (by omega), h.c.on hb (by omega), h.ra.on hb (by omega), h.rb.on hb (by omega), h.rc.on hb (by omega), Nat.lt_of_lt_of_le h.lt hb.size⟩
end Go.Proofs.YtfpbehnpaedpmaaDoor.Pt
/- OppositeSigns, as spec answers it; the law. -/
namespace Go.Proofs.YtfpbehnpaedpmaaDoor.Sg
open Go.RowKit Pt
/-- Signs in the making, in block Bo. -/
def OutC (Bo : Nat) (n : Int) (x : ByteArray) (W : World) : Prop := (W.cell? ⟨Bo, 0, none⟩ = some (.int .i64 n) ∧ W.cell? ⟨Bo, 1, none⟩ = some (.string x)) ∧ (W.frozen? ⟨Bo, 0, none⟩ = false ∧ W.frozen? ⟨Bo, 1, none⟩ = false)
theorem OutC.set {Bo : Nat} {n : Int} {x : ByteArray} {W : World} (h : OutC Bo n x W) (y : ByteArray) : OutC Bo n y (W.setCell ⟨Bo, 1, none⟩ (.string y)) := by
  obtain ⟨⟨h1, h2⟩, ⟨h3, h4⟩⟩ := h
  exact ⟨⟨by rw [World.cell?_setCell_other _ _ _ _ (by simp)]; exact h1, World.cell?_setCell_same _ _ _ h2⟩, ⟨by rw [World.frozen?_setCell]; exact h3, by rw [World.frozen?_setCell]; exact h4⟩⟩
theorem OutC.on {Bo : Nat} {n : Int} {x : ByteArray} {W W' : World} (h : OutC Bo n x W) (hb : Below W.heap.size W W') : OutC Bo n x W' := by
  obtain ⟨⟨h1, h2⟩, ⟨h3, h4⟩⟩ := h
  have hl : Bo < W.heap.size := Kit.cell_lt h1
  exact ⟨⟨by rw [hb.cell hl]; exact h1, by rw [hb.cell hl]; exact h2⟩, ⟨by rw [hb.frozen hl]; exact h3, by rw [hb.frozen hl]; exact h4⟩⟩
theorem Box.on' {w0 : World} {n : Int} {s : ByteArray} {w w' : World} {B : Nat} (h : Box w0 n s w) (hb : Below B w w') (hl : w0.heap.size < B) (_hs : B ≤ w.heap.size) : Box w0 n s w' :=
  ⟨by rw [hb.cell hl]; exact h.1, by rw [hb.cell hl]; exact h.2.1, h.2.2.trans (hb.mono (by omega))⟩
end Go.Proofs.YtfpbehnpaedpmaaDoor.Sg
/- The signs of some elements: spec.l3Pick. -/
namespace Go.Proofs.YtfpbehnpaedpmaaDoor.Sg
open Go.RowKit Pt
/-- The cells of a slice of small numbers. -/
def IntsAt (w : World) (b : Nat) (es : List Nat) : Prop := ∀ (j x : Nat), es[j]? = some x → w.cell? ⟨b, j, none⟩ = some (.int .i64 x)
theorem IntsAt.on {w w' : World} {B b : Nat} {es : List Nat} (h : IntsAt w b es) (hb : Below B w w') (hB : b < B) : IntsAt w' b es := fun j x hx => by rw [hb.cell hB]; exact h j x hx
theorem IntsAt.get {w : World} {b : Nat} {es : List Nat} (h : IntsAt w b es) {i : Nat} (hi : i < es.length) : w.cell? ⟨b, i, none⟩ = some (.int .i64 es[i]) := h i _ (List.getElem?_eq_getElem hi)
end Go.Proofs.YtfpbehnpaedpmaaDoor.Sg
/- The elements other than one, in memory of the call's own (spec.l3Others); what a function that hands back signs and a bool keeps in sight. -/
namespace Go.Proofs.YtfpbehnpaedpmaaDoor.Sg
open Go.RowKit Pt
set_option maxRecDepth 100000 in
theorem infoI : (Tryd.prog.info? 3).map (fun i => (i.zero, i.size, i.bytes)) = some (some (.int .i64 0), 1, 8) := by kernel_rfl
theorem news1 (w : World) (x : Int) (t : TypeId) : ∀ (j : Nat) u, [Value.int .i64 x][j]? = some u → (w.alloc (.cells #[.int .i64 x] t)).cell? (Addr.add ⟨w.heap.size, 0, none⟩ j) = some u
  | 0, u, h => by
    rw [WideShapes.add_plain, Nat.add_zero, World.cell?_alloc_new]
    simpa using h
  | j + 1, u, h => by simp at h
theorem one1 (x : Int) : ∀ u ∈ [Value.int .i64 x], u.oneCell' = true := fun u hu => by
  simp only [List.mem_cons, List.not_mem_nil, or_false] at hu
  subst hu; rfl
/-- The signs by value and the zero result, in the two blocks that the call makes first. -/
structure WAt (w : World) (n : Int) (s : ByteArray) (W : World) : Prop where
  b0 : W.cell? ⟨w.heap.size, 0, none⟩ = some (.int .i64 n)
  b1 : W.cell? ⟨w.heap.size, 1, none⟩ = some (.string s)
  r0 : W.cell? ⟨w.heap.size + 1, 0, none⟩ = some (.int .i64 0)
  r1 : W.cell? ⟨w.heap.size + 1, 1, none⟩ = some (.string ⟨#[]⟩)
  z0 : W.frozen? ⟨w.heap.size + 1, 0, none⟩ = false
  z1 : W.frozen? ⟨w.heap.size + 1, 1, none⟩ = false
  below : Below w.heap.size w W
theorem WAt.on {w : World} {n : Int} {s : ByteArray} {W W' : World} (h : WAt w n s W) (hb : Below W.heap.size W W') : WAt w n s W' := by
  have l0 : w.heap.size < W.heap.size := Kit.cell_lt h.b0
  have l1 : w.heap.size + 1 < W.heap.size := Kit.cell_lt h.r0
  exact ⟨by rw [hb.cell l0]; exact h.b0, by rw [hb.cell l0]; exact h.b1, by rw [hb.cell l1]; exact h.r0, by rw [hb.cell l1]; exact h.r1, by rw [hb.frozen l1]; exact h.z0, by rw [hb.frozen l1]; exact h.z1, h.below.trans (hb.mono (by omega))⟩
theorem WAt.drew {w : World} {n : Int} {s : ByteArray} {W : World} (h : WAt w n s W) : WAt w n s W.drew := ⟨h.b0, h.b1, h.r0, h.r1, h.z0, h.z1, h.below.drew⟩
end Go.Proofs.YtfpbehnpaedpmaaDoor.Sg
