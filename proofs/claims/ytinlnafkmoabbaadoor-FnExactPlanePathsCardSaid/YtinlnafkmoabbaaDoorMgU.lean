/- Several texts in one: Cur, Strs. -/
import Derived.Test.YtinlnafkmoabbaaDoorProg
import Derived.Test.YtinlnafkmoabbaaDoorKit
import Derived.WalkKit
import Derived.Below
import Derived.Lib.Hide
import Derived.Handy
import Derived.Deep.OwnRows
import Derived.Deep.QuietTactic
import Derived.BigQuiet
import Derived.RegionTactic
import Derived.ChangeAlike
import Derived.Outline
import Derived.OwnWalk
/- The cursor of the draws: whatever the code, a draw ends and answers within its bounds. -/
namespace Go.Proofs.YtinlnafkmoabbaaDoor.Cur
open Go.RowKit

/-- The bytes of a code, whatever they are. -/
def Bytes (w : World) (v : Value) (n B : Nat) : Prop := ∃ (a : Option Addr) (c : Nat), v = .slice a n c ∧ n ≤ 9223372036854775807 ∧
  (n = 0 ∨ ∃ b o, a = some ⟨b, o, none⟩ ∧ b < B ∧ ∀ j, j < n → ∃ x : Nat, x ≤ 255 ∧ w.cell? ⟨b, o + j, none⟩ = some (.int .u8 x))
theorem grown_set {w w' : World} {b : Nat} (h : w.grownBy w' (some b)) (j : Nat) (v : Value) : w.grownBy (w'.setCell ⟨b, j, none⟩ v) (some b) :=
  ⟨h.os, h.tape, h.output, by simpa [World.setCell] using h.size, fun i hi hn => (Below.heap_setCell w' ⟨b, j, none⟩ v i (fun e => hn (by rw [e]))).trans (h.block i hi hn)⟩
theorem grown_refl (w : World) (r : Option Nat) : w.grownBy w r := ⟨rfl, rfl, rfl, Nat.le_refl _, fun _ _ _ => rfl⟩
theorem Bytes.on {w w' : World} {v : Value} {n b : Nat} (h : Bytes w v n b) (hg : w.grownBy w' (some b)) : Bytes w' v n b := by
  obtain ⟨a, c, rfl, hn, h0 | ⟨cb, co, rfl, hcb, hby⟩⟩ := h
  · exact ⟨a, c, rfl, hn, Or.inl h0⟩
  · refine ⟨_, c, rfl, hn, Or.inr ⟨cb, co, rfl, hcb, fun j hj => ?_⟩⟩
    obtain ⟨x, hx, hc⟩ := hby j hj
    exact ⟨x, hx, hg.cell hc (fun e => by have := Option.some.inj e; simp at this; omega)⟩
theorem grown_trans {w w' w'' : World} {b : Nat} (h : w.grownBy w' (some b)) (k : w'.grownBy w'' (some b)) : w.grownBy w'' (some b) :=
  ⟨k.os.trans h.os, k.tape.trans h.tape, k.output.trans h.output, Nat.le_trans h.size k.size, fun i hi hn => (k.block i (Nat.lt_of_lt_of_le hi h.size) hn).trans (h.block i hi hn)⟩

end Go.Proofs.YtinlnafkmoabbaaDoor.Cur
/- Slices of strings: what the laws' helpers make of them. -/
namespace Go.Proofs.YtinlnafkmoabbaaDoor.Strs
open Go.RowKit

theorem ret_int {k : IntKind} {a b : Int} (h : a = b) : Ending.returned (.int k a) = .returned (.int k b) := by rw [h]
theorem ret_bool {a b : Bool} (h : a = b) : Ending.returned (.bool a) = .returned (.bool b) := by rw [h]
theorem ret_str {a b : List UInt8} (h : a = b) : Ending.returned (.string ⟨a.toArray⟩) = .returned (.string ⟨b.toArray⟩) := by rw [h]

/-- The cells from offset o of block b on hold the strings xs. -/
def At (w : World) (b o : Nat) (xs : List ByteArray) : Prop := ∀ (j : Nat) x, xs[j]? = some x → w.cell? ⟨b, o + j, none⟩ = some (.string x)
theorem At.get {w : World} {b o : Nat} {xs : List ByteArray} (h : At w b o xs) (k : Nat) (hk : k < xs.length) : w.cell? ⟨b, o + k, none⟩ = some (.string xs[k]) := h k _ (List.getElem?_eq_getElem hk)
theorem At.on {w w' : World} {B b o : Nat} {xs : List ByteArray} (h : At w b o xs) (hb : Below B w w') (hB : b < B) : At w' b o xs := fun j x hx => by rw [hb.cell hB]; exact h j x hx

/-- 'sz': what is left of a bound. -/
def szTo (left : Int) : List ByteArray → Int
  | [] => left
  | x :: r => if left - x.size < 0 then -1 else szTo (left - x.size) r
def sz (left : Int) (xs : List ByteArray) : Int := if left - xs.length < 0 then -1 else szTo (left - xs.length) xs
def tot (xs : List ByteArray) : Nat := (xs.map (·.size)).sum
def strAt (xs : List ByteArray) (j : Nat) : Value := .string (xs.getD j ⟨#[]⟩)
theorem strAt_lt (xs : List ByteArray) (j : Nat) (h : j < xs.length) : strAt xs j = .string xs[j] := by unfold strAt; rw [List.getD_eq_getElem?_getD, List.getElem?_eq_getElem h]; rfl
theorem At.of_row {w : World} {b : Nat} {t : TypeId} {xs : List ByteArray} (h : w.rowIs b t xs.length (strAt xs)) : At w b 0 xs := fun j x hx => by
  obtain ⟨hj, rfl⟩ := List.getElem?_eq_some_iff.1 hx
  have := h.cell hj
  rw [strAt_lt xs j hj] at this
  simpa using this
theorem row_on {w w' : World} {B b : Nat} {t : TypeId} {n : Nat} {f : Nat → Value} (h : w.rowIs b t n f) (hb : Below B w w') (hB : b < B) : w'.rowIs b t n f := h.of_block (hb.block b hB)
end Go.Proofs.YtinlnafkmoabbaaDoor.Strs
