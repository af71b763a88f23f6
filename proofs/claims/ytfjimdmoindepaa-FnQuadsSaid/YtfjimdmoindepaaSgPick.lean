/- The signs of some elements: spec.l3Pick. -/
import Derived.Test.YtfjimdmoindepaaSgOppSpec
import Derived.Deep.RegionHeld3
import Derived.Test.YtfjimdmoindepaaLast
namespace Go.Proofs.Ytfjimdmoindepaa.Sg
open Go.RowKit Pt
/-- The cells of a slice of small numbers. -/
def IntsAt (w : World) (b : Nat) (es : List Nat) : Prop := ∀ (j x : Nat), es[j]? = some x → w.cell? ⟨b, j, none⟩ = some (.int .i64 x)
theorem IntsAt.on {w w' : World} {B b : Nat} {es : List Nat} (h : IntsAt w b es) (hb : Below B w w') (hB : b < B) : IntsAt w' b es := fun j x hx => by rw [hb.cell hB]; exact h j x hx
theorem IntsAt.get {w : World} {b : Nat} {es : List Nat} (h : IntsAt w b es) {i : Nat} (hi : i < es.length) : w.cell? ⟨b, i, none⟩ = some (.int .i64 es[i]) := h i _ (List.getElem?_eq_getElem hi)
/-- The signs of these elements. -/
def pickF (n : Nat) (s : List UInt8) (es : List Nat) (i j k : Nat) : Int := sgnF (lookS n s) (es.getD i 0) (es.getD j 0) (es.getD k 0)
def textTo (n : Nat) (f : Nat → Nat → Nat → Int) (i j k : Nat) : List UInt8 := (upto n i j k).map fun t => byteOf (f t.1 t.2.1 t.2.2)
theorem textTo_le {n : Nat} (h7 : n ≤ 7) (f : Nat → Nat → Nat → Int) (i j k : Nat) : (textTo n f i j k).length ≤ 35 := by
  unfold textTo
  rw [List.length_map]
  exact Nat.le_trans (upto_length n i j k) (by rw [threes_length h7]; exact cnt_le h7)
theorem textTo_zero {n : Nat} (h7 : n ≤ 7) (f : Nat → Nat → Nat → Int) : textTo n f 0 (0 + 1) (0 + 2) = [] := by unfold textTo; rw [upto_zero n (by omega)]; rfl
theorem textTo_step {n i j k : Nat} (h7 : n ≤ 7) (f : Nat → Nat → Nat → Int) (h1 : i < j) (h2 : j < k) (h3 : k < n) : textTo n f i j (k + 1) = textTo n f i j k ++ [byteOf (f i j k)] := by
  unfold textTo
  rw [upto_step h7 h1 h2 h3, List.map_append]; rfl
theorem textTo_inner {n i j : Nat} (h7 : n ≤ 7) (f : Nat → Nat → Nat → Int) (h1 : i < j) (h2 : j < n) : textTo n f i j n = textTo n f i (j + 1) (j + 1 + 1) := by unfold textTo; rw [upto_inner h7 h1 h2]
theorem textTo_mid {n i : Nat} (h7 : n ≤ 7) (f : Nat → Nat → Nat → Int) (h1 : i < n) : textTo n f i n (n + 1) = textTo n f (i + 1) (i + 1 + 1) (i + 1 + 2) := by unfold textTo; rw [upto_mid h7 h1]
theorem textTo_end {n : Nat} (h7 : n ≤ 7) (f : Nat → Nat → Nat → Int) : textTo n f n (n + 1) (n + 2) = text3 n f := by unfold textTo text3; rw [upto_end h7]
/-- Beside a call that writes nothing of what was there eight facts stand. -/
theorem held8 (wr : World) (Bo : Nat) (X : ByteArray) (a1 a2 a3 a4 a5 : Addr) (v1 v2 v3 v4 v5 : Value) {f : FuncId} {args : Array Value} {W : World} {v : Value} (h : Calls Try.prog f args W fun e w' => e = .returned v ∧ Below W.heap.size W w')
    (hS : W.cell? ⟨Bo, 1, none⟩ = some (.string X) ∧ W.frozen? ⟨Bo, 1, none⟩ = false ∧ W.cell? a1 = some v1 ∧ W.cell? a2 = some v2 ∧ W.cell? a3 = some v3 ∧ W.cell? a4 = some v4 ∧ W.cell? a5 = some v5 ∧ Below wr.heap.size wr W) :
    Calls Try.prog f args W fun e w' => e = .returned v ∧ w'.cell? ⟨Bo, 1, none⟩ = some (.string X) ∧ w'.frozen? ⟨Bo, 1, none⟩ = false ∧ w'.cell? a1 = some v1 ∧ w'.cell? a2 = some v2 ∧ w'.cell? a3 = some v3 ∧ w'.cell? a4 = some v4 ∧ w'.cell? a5 = some v5 ∧ Below wr.heap.size wr w' := by
  obtain ⟨c0, f0, c1, c2, c3, c4, c5, hB⟩ := hS
  have hl : Bo < W.heap.size := Kit.cell_lt c0
  exact h.mono fun _ _ ⟨he, hb⟩ => ⟨he, by rw [hb.cell hl]; exact c0, by rw [hb.frozen hl]; exact f0, by rw [hb.cell (Kit.cell_lt c1)]; exact c1, by rw [hb.cell (Kit.cell_lt c2)]; exact c2, by rw [hb.cell (Kit.cell_lt c3)]; exact c3, by rw [hb.cell (Kit.cell_lt c4)]; exact c4, by rw [hb.cell (Kit.cell_lt c5)]; exact c5, hB.trans (hb.mono hB.size)⟩
/-- The loops' memory: the text so far in block Bo; below Bo nothing has changed. -/
def PickSt (Bo : Nat) (w1 : World) (m : Nat) (L : List UInt8) (wr : World) : Prop := OutC Bo m ⟨L.toArray⟩ wr ∧ Below Bo w1 wr
theorem PickSt.store {Bo : Nat} {w1 : World} {m : Nat} {L : List UInt8} {wr W : World} (h : PickSt Bo w1 m L wr) (hb : Below wr.heap.size wr W) (b : UInt8) : PickSt Bo w1 m (L ++ [b]) (W.setCell ⟨Bo, 1, none⟩ (.string (⟨L.toArray⟩ ++ ⟨#[b]⟩))) := by
  have hl : Bo < wr.heap.size := Kit.cell_lt h.1.1.1
  rw [bytes_snoc]
  exact ⟨(h.1.on hb).set _, (h.2.trans (hb.mono (by omega))).setCell (p := ⟨Bo, 1, none⟩) (Nat.le_refl _) _⟩
end Go.Proofs.Ytfjimdmoindepaa.Sg
