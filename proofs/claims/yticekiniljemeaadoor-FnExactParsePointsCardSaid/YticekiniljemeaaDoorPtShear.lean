/- ShearPoints, as impl and spec reckon it. -/
import Derived.Test.YticekiniljemeaaDoorPtNew
import Derived.Test.YticekiniljemeaaDoorPtAre
import Derived.RegionTactic
import Derived.ChangeAlike
import Derived.BigRegion
import Derived.Deep.Onto
namespace Go.Proofs.YticekiniljemeaaDoor.Pt
open Go.RowKit
def shear (k : Int) (p : P2) : P2 := (p.1, p.2 + k * p.1)
open Classical in
noncomputable def shearB (xs : List P2) (k : Int) : Bool := okB xs && inB k (-100) 100 && decide (∀ p ∈ xs, fit (shear k p) 50 = true)
noncomputable def shearR (xs : List P2) (k : Int) : List P2 := if shearB xs k = true then xs.map (shear k) else []
theorem shearB_no {xs : List P2} {k : Int} (h : okB xs = false ∨ inB k (-100) 100 = false) : shearB xs k = false := by unfold shearB; rcases h with h | h <;> simp [h]
theorem shearB_out {xs : List P2} {k : Int} {p : P2} (hm : p ∈ xs) (h : fitB p.1 (p.2 + k * p.1) 50 = false) : shearB xs k = false := by
  have hn : ¬ ∀ p ∈ xs, fit (shear k p) 50 = true := fun hk => by have := hk p hm; unfold fit shear at this; simp only at this; rw [h] at this; cases this
  unfold shearB
  rw [decide_eq_false hn]
  simp
def ShAll (xs : List P2) (k : Int) (m : Nat) : Prop := ∀ (j : Nat) p, j < m → xs[j]? = some p → fit (shear k p) 50 = true
theorem ShAll.zero (xs : List P2) (k : Int) : ShAll xs k 0 := fun j p h => by omega
theorem ShAll.step {xs : List P2} {k : Int} {m : Nat} (h : ShAll xs k m) {p : P2} (hp : xs[m]? = some p) (hf : fitB p.1 (p.2 + k * p.1) 50 = true) : ShAll xs k (m + 1) := fun j q hj hq => by
  by_cases e : j = m
  · subst e; rw [hp] at hq; cases hq; exact hf
  · exact h j q (by omega) hq
theorem shearB_yes {xs : List P2} {k : Int} (h1 : okB xs = true) (h2 : inB k (-100) 100 = true) (h : ShAll xs k xs.length) : shearB xs k = true := by
  have hn : ∀ p ∈ xs, fit (shear k p) 50 = true := fun p hp => by
    obtain ⟨i, hi, rfl⟩ := List.mem_iff_getElem.1 hp
    exact h i _ hi (List.getElem?_eq_getElem hi)
  unfold shearB
  simp only [h1, h2, Bool.and_self, Bool.true_and, decide_eq_true_eq]
  exact hn
theorem shearR_no {xs : List P2} {k : Int} (h : shearB xs k = false) : shearR xs k = [] := by unfold shearR; rw [h]; rfl
theorem shearR_yes {xs : List P2} {k : Int} (h : shearB xs k = true) : shearR xs k = xs.map (shear k) := by unfold shearR; rw [if_pos h]
theorem shear_mul {k x : Int} (h1 : -100 ≤ k) (h2 : k ≤ 100) (h3 : -50 ≤ x) (h4 : x ≤ 50) : -10000 ≤ k * x ∧ k * x ≤ 10000 := mul_bound (m := 100) h1 h2 (by omega) (by omega)

/-- What the call hands back: a slice of its own, and whether there is one. -/
def Got (B : Nat) (ys : List P2) (z : Bool) (e : Ending) (w' : World) : Prop := ∃ a c, e = .returned (.tuple #[.slice a ys.length c, .bool z]) ∧ New w' B w'.heap.size a ys.length (ptCell ys)
theorem Got.none_ {B : Nat} {a : Option Addr} {c : Nat} {w' : World} : Got B [] false (.returned (.tuple #[.slice a 0 c, .bool false])) w' := ⟨a, c, rfl, .inl rfl⟩

theorem sofar_step' (ys : List P2) (m : Nat) (q : P2) (h : ys[m]? = some q) (n : Nat) (hn : n ≤ ys.length * 2) (i : Nat) (hi : i < n) :
    (if i = m * 2 + 1 then Value.int .i64 q.2 else if i = m * 2 then Value.int .i64 q.1 else sofar ys (m * 2) i) = sofar ys ((m + 1) * 2) i := by
  obtain ⟨hlt, rfl⟩ := List.getElem?_eq_some_iff.1 h
  exact sofar_step ys m hlt i (by omega)
theorem owns_on {w w' : World} {B : Nat} {v : Value} {xs : List P2} (h : Owns w B v xs) (hb : Below w.heap.size w w') : Owns w' B v xs :=
  World.ownsRow.kept h (row := none) ⟨hb.os, hb.tape, hb.output, hb.size, fun k hk _ => hb.block k hk⟩ (by cases v.ownBlock <;> simp)
theorem owns_alloc {w : World} {B : Nat} {v : Value} {xs : List P2} (h : Owns w B v xs) (o : Obj) : Owns (w.alloc o) B v xs := World.ownsRow.alloc h o
theorem owns_drew {w : World} {B : Nat} {v : Value} {xs : List P2} (h : Owns w B v xs) : Owns w.drew B v xs := h
theorem below_call2 {B : Nat} {a b c : World} (h2 : Below b.heap.size b c) (h1 : Below B a b) (hB : B ≤ a.heap.size) : Below B a c := h1.trans (h2.mono (Nat.le_trans hB h1.size))
theorem map_take_succ (xs : List P2) (k : Int) (m : Nat) (p : P2) (h : xs[m]? = some p) : (xs.take (m + 1)).map (shear k) = (xs.take m).map (shear k) ++ [shear k p] := by
  rw [List.take_add_one, h]
  simp

theorem pair_news (w : World) (x y : Int) (t : TypeId) : ∀ (j : Nat) u, [Value.int .i64 x, Value.int .i64 y][j]? = some u → (w.alloc (.cells #[.int .i64 x, .int .i64 y] t)).cell? (Addr.add ⟨w.heap.size, 0, none⟩ j) = some u
  | 0, u, h => by
    rw [WideShapes.add_plain, Nat.add_zero, World.cell?_alloc_new]
    simpa using h
  | 1, u, h => by
    rw [WideShapes.add_plain, World.cell?_alloc_new]
    simpa using h
  | j + 2, u, h => by simp at h
theorem pair_one (x y : Int) : ∀ u ∈ [Value.int .i64 x, Value.int .i64 y], u.oneCell' = true := fun u hu => by
  simp only [List.mem_cons, List.not_mem_nil, or_false] at hu
  rcases hu with rfl | rfl <;> rfl
theorem owns_snoc {w : World} {B : Nat} {v : Value} {xs : List P2} {x y : Int} (h : w.ownsRow B 37 2 v (xs.length + 1) (ptCells xs ++ [.int .i64 x, .int .i64 y])) : Owns w B v (xs ++ [(x, y)]) := by
  unfold Owns
  rw [ptCells_append, List.length_append]
  exact h

end Go.Proofs.YticekiniljemeaaDoor.Pt
