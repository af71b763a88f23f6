/- Slices of strings: what the laws' helpers make of them. -/
import Derived.Test.YtohihlhkheeemaaDoorProg
import Derived.WalkKit
import Derived.Below
import Derived.Lib.Hide
import Derived.Handy
import Derived.Deep.OwnRows
import Derived.Deep.QuietTactic
import Derived.BigQuiet
import Derived.RegionTactic
import Derived.OwnWalk
namespace Go.Proofs.YtohihlhkheeemaaDoor.Strs
open Go.RowKit

theorem ret_int {k : IntKind} {a b : Int} (h : a = b) : Ending.returned (.int k a) = .returned (.int k b) := by rw [h]
theorem ret_bool {a b : Bool} (h : a = b) : Ending.returned (.bool a) = .returned (.bool b) := by rw [h]
theorem ret_str {a b : List UInt8} (h : a = b) : Ending.returned (.string ⟨a.toArray⟩) = .returned (.string ⟨b.toArray⟩) := by rw [h]

/-- The cells from offset o of block b on hold the strings xs. -/
def At (w : World) (b o : Nat) (xs : List ByteArray) : Prop := ∀ (j : Nat) x, xs[j]? = some x → w.cell? ⟨b, o + j, none⟩ = some (.string x)
theorem At.get {w : World} {b o : Nat} {xs : List ByteArray} (h : At w b o xs) (k : Nat) (hk : k < xs.length) : w.cell? ⟨b, o + k, none⟩ = some (.string xs[k]) := h k _ (List.getElem?_eq_getElem hk)
theorem At.on {w w' : World} {B b o : Nat} {xs : List ByteArray} (h : At w b o xs) (hb : Below B w w') (hB : b < B) : At w' b o xs := fun j x hx => by rw [hb.cell hB]; exact h j x hx

/-- 'sz': what is left of a bound. -/
def szTo (left : Int) : List ByteArray → Int
  | [] => left
  | x :: r => if left - x.size < 0 then -1 else szTo (left - x.size) r
def sz (left : Int) (xs : List ByteArray) : Int := if left - xs.length < 0 then -1 else szTo (left - xs.length) xs
def tot (xs : List ByteArray) : Nat := (xs.map (·.size)).sum
theorem szTo_tot : ∀ (xs : List ByteArray) (left : Int), 0 ≤ left → 0 ≤ szTo left xs → (tot xs : Int) ≤ left
  | [], left, h, _ => by simpa [tot] using h
  | x :: r, left, h, h2 => by
    unfold szTo at h2
    split at h2
    · omega
    · have := szTo_tot r _ (by omega) h2
      simp only [tot, List.map_cons, List.sum_cons] at this ⊢
      omega
theorem szTo_drop (xs : List ByteArray) (k : Nat) (hk : k < xs.length) (left : Int) : szTo left (xs.drop k) = if left - xs[k].size < 0 then -1 else szTo (left - xs[k].size) (xs.drop (k + 1)) := by
  rw [List.drop_eq_getElem_cons hk]; rfl
theorem sz_tot (xs : List ByteArray) (left : Int) (h2 : 0 ≤ sz left xs) : (tot xs : Int) + xs.length ≤ left := by
  unfold sz at h2
  split at h2
  · omega
  · have := szTo_tot xs _ (by omega) h2
    omega
theorem szTo_le : ∀ (xs : List ByteArray) (left : Int), -1 ≤ left → -1 ≤ szTo left xs ∧ szTo left xs ≤ left
  | [], left, h => by unfold szTo; omega
  | x :: r, left, h => by
    unfold szTo
    split
    · omega
    · have := szTo_le r (left - x.size) (by omega)
      omega
def strAt (xs : List ByteArray) (j : Nat) : Value := .string (xs.getD j ⟨#[]⟩)
theorem strAt_lt (xs : List ByteArray) (j : Nat) (h : j < xs.length) : strAt xs j = .string xs[j] := by unfold strAt; rw [List.getD_eq_getElem?_getD, List.getElem?_eq_getElem h]; rfl
def sofar (xs : List ByteArray) (k : Nat) (j : Nat) : Value := if j < k then strAt xs j else .string ⟨#[]⟩
theorem At.of_row {w : World} {b : Nat} {t : TypeId} {xs : List ByteArray} (h : w.rowIs b t xs.length (strAt xs)) : At w b 0 xs := fun j x hx => by
  obtain ⟨hj, rfl⟩ := List.getElem?_eq_some_iff.1 hx
  have := h.cell hj
  rw [strAt_lt xs j hj] at this
  simpa using this
theorem row_on {w w' : World} {B b : Nat} {t : TypeId} {n : Nat} {f : Nat → Value} (h : w.rowIs b t n f) (hb : Below B w w') (hB : b < B) : w'.rowIs b t n f := h.of_block (hb.block b hB)
end Go.Proofs.YtohihlhkheeemaaDoor.Strs
