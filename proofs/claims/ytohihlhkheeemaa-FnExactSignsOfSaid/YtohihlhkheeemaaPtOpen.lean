/- A law's point, or slice of points, as an argument: opened to its numbers and cells. -/
import Derived.Test.YtohihlhkheeemaaProg
import Derived.Test.YtohihlhkheeemaaPtMath
import Derived.WalkKit
import Derived.ProofKit
import Derived.OpenShut
import Derived.Below
import Derived.Deep.Slices
import Derived.Deep.Fields
import Derived.ChangeSame
import Derived.Lib.SmallJoins
namespace Go.Proofs.Ytohihlhkheeemaa.Pt
open Go.RowKit Go.ChangeShapes Go.WideShapes Go.Deep Go.Joins

/-- A pair of integers that fit. -/
def WfP (p : P2) : Prop := (-9223372036854775808 ≤ p.1 ∧ p.1 ≤ 9223372036854775807) ∧ (-9223372036854775808 ≤ p.2 ∧ p.2 ≤ 9223372036854775807)
/-- The cells from offset o of block b on hold the points xs. -/
def AtP (w : World) (b o : Nat) (xs : List P2) : Prop := ∀ (j : Nat) p, xs[j]? = some p → w.cell? ⟨b, o + j * 2, none⟩ = some (.int .i64 p.1) ∧ w.cell? ⟨b, o + j * 2 + 1, none⟩ = some (.int .i64 p.2)
/-- A slice of points as an argument: its cells, where it has any. -/
def PtsArg (w : World) (v : Value) (xs : List P2) : Prop :=
  ∃ (a : Option Addr) (c : Nat), v = .slice a xs.length c ∧ xs.length ≤ 9223372036854775807 ∧ (∀ p ∈ xs, WfP p) ∧
    (xs.length = 0 ∨ ∃ b o, a = some ⟨b, o, none⟩ ∧ AtP w b o xs ∧ b < w.heap.size ∧ xs.length ≤ c)

set_option maxRecDepth 100000 in
theorem open_pt {H : Type} {enc : TypeId × Value → H} {w : World} {base : Nat} {sp : Nat → Bool} {held : Bool} {r : Reach} {b0 : Nat} {v : Value} {d : DataW H} {ps : List MemPlace}
    (hval : Value.okWide Try.prog w r b0 62 v) (h : DataW.Trod enc Try.prog w base sp held 62 v d ps) : ∃ x y, v = .agg #[.int .i64 x, .int .i64 y] ∧ WfP (x, y) := by
  obtain ⟨v0, v1, y0, y1, n, rfl, -, -, h0, h1⟩ := open_agg2 Try.underlying62 (by kernel_rfl) (by kernel_rfl) hval h
  obtain ⟨x, hx, -, hw0⟩ := DataW.trod_int Try.underlying3 h0
  obtain ⟨y, hy, -, hw1⟩ := DataW.trod_int Try.underlying3 h1
  have e0 : v0 = .int .i64 x := by simpa using hx
  have e1 : v1 = .int .i64 y := by simpa using hy
  subst e0 e1
  exact ⟨x, y, rfl, bounds_i64 hw0, bounds_i64 hw1⟩

section
variable {H : Type} {enc : TypeId × Value → H} {P : Program} {w : World} {base : Nat} {spare : Nat → Bool} {held : Bool}
theorem open_slice_fields {t e : TypeId} {fs : Array Field} {fuel : Nat} {cs : List Value} {x : DataW H × List MemPlace} (ht : P.underlying t = some (.slice e)) (he : P.underlying e = some (.struct fs))
    (hone : oneCellFields P fs = true) (hC : P.cellsOf e = fs.size) (h : DataW.trod enc P w base spare held fuel t cs = some x) :
    (cs = [.slice none 0 0]) ∨
    ∃ (a : Addr) (len cap m : Nat), cs = [.slice (some a) len cap] ∧ len ≤ cap ∧ cap ≤ maxLen ∧ m = (if spare a.block then cap else len) ∧
      ∀ i, i < m → ∀ (j : Nat) (f : Field), fs[j]? = some f → ∃ (v : Value) (n : Nat) (y : DataW H × List MemPlace), w.cell? (a.add (i * fs.size + j)) = some v ∧ DataW.trod enc P w base spare held n f.type [v] = some y := by
  rcases open_slice ht h with h0 | ⟨a, len, cap, m, n, D, Pl, hcs, hb, hl, hm, hmm, hx, hi⟩
  · exact .inl h0.1
  · refine .inr ⟨a, len, cap, m, hcs, hl, hm, hmm, fun i him j f hj => ?_⟩
    obtain ⟨cs', hc, ht'⟩ := hi i him
    rw [hC] at hc
    obtain ⟨ys, n', hn', hy, hlen, hyl, hf⟩ := DataW.trod_struct he ht'
    obtain ⟨_, hcl, hat⟩ := World.cells?_some hc
    obtain ⟨ho, hk⟩ := hone_of hone j f hj
    have hjl : j < fs.size := (Array.getElem?_eq_some_iff.1 hj).1
    have hcell := hat j hjl
    have hv : cs'[j]? = some (cs'[j]'(by omega)) := List.getElem?_eq_getElem (by omega)
    have h1 := hf j f hj
    rw [ho, hk] at h1
    have hone' : (cs'.drop j).take 1 = [cs'[j]'(by omega)] := by
      rw [List.drop_eq_getElem_cons (by omega)]
      rfl
    rw [hone'] at h1
    have hys : ys[j]? = some (ys[j]'(by omega)) := List.getElem?_eq_getElem (by omega)
    refine ⟨_, _, _, ?_, h1.trans hys⟩
    rw [← Go.Deep.add_add, hcell, hv]
end

def ptRead (w : World) (a : Addr) (i : Nat) : P2 := match w.cell? (a.add (i * 2)), w.cell? (a.add (i * 2 + 1)) with
  | some (.int _ x), some (.int _ y) => (x, y)
  | _, _ => (0, 0)
set_option maxRecDepth 100000 in
theorem open_pts {H : Type} {enc : TypeId × Value → H} {w : World} {base : Nat} {sp : Nat → Bool} {held : Bool} {r : Reach} {b0 : Nat} {v : Value} {d : DataW H} {ps : List MemPlace}
    (hval : Value.okWide Try.prog w r b0 31 v) (h : DataW.Trod enc Try.prog w base sp held 31 v d ps) : ∃ xs, PtsArg w v xs := by
  obtain ⟨a0, len0, cap0, rfl⟩ := okWide_slice Try.underlying31 hval
  obtain ⟨fuel, hf⟩ := h
  have hM : (maxLen : Nat) = 9223372036854775807 := by decide
  rcases open_slice_fields Try.underlying31 Try.underlying62 (by kernel_rfl) (by kernel_rfl) hf with hcs | ⟨a, len, cap, m, hcs, hlc, hcm, hmm, hat⟩
  · simp [Value.cells] at hcs
    obtain ⟨rfl, rfl, rfl⟩ := hcs
    exact ⟨[], none, 0, rfl, by simp, by simp, Or.inl rfl⟩
  · simp [Value.cells] at hcs
    obtain ⟨rfl, rfl, rfl⟩ := hcs
    have hlen : len0 ≤ m := by rw [hmm]; split <;> omega
    have key : ∀ i, i < len0 → (w.cell? (a.add (i * 2)) = some (.int .i64 (ptRead w a i).1) ∧ w.cell? (a.add (i * 2 + 1)) = some (.int .i64 (ptRead w a i).2)) ∧ WfP (ptRead w a i) := by
      intro i hi
      obtain ⟨u, n, y, hu, hy⟩ := hat i (by omega) 0 _ rfl
      obtain ⟨u', n', y', hu', hy'⟩ := hat i (by omega) 1 _ rfl
      obtain ⟨x, hx, -, hw0⟩ := DataW.trod_int Try.underlying3 hy
      obtain ⟨x', hx', -, hw1⟩ := DataW.trod_int Try.underlying3 hy'
      have e0 : u = .int .i64 x := by simpa using hx
      have e1 : u' = .int .i64 x' := by simpa using hx'
      subst e0 e1
      have c0 : w.cell? (a.add (i * 2)) = some (.int .i64 x) := hu
      have c1 : w.cell? (a.add (i * 2 + 1)) = some (.int .i64 x') := hu'
      have er : ptRead w a i = (x, x') := by unfold ptRead; rw [c0, c1]
      rw [er]
      exact ⟨⟨c0, c1⟩, bounds_i64 hw0, bounds_i64 hw1⟩
    have e1 : ((List.range len0).map (ptRead w a)).length = len0 := by simp
    refine ⟨(List.range len0).map (ptRead w a), some a, cap0, by rw [e1], by rw [e1]; omega, fun p hp => ?_, ?_⟩
    · obtain ⟨i, hi, rfl⟩ := List.mem_map.1 hp
      exact (key i (by simpa using hi)).2
    · rw [e1]
      by_cases h0 : len0 = 0
      · exact Or.inl h0
      · right
        have hc0 := (key 0 (by omega)).1.1
        obtain ⟨b, off, spot⟩ := a
        have hspot : spot = none := by simpa [Addr.add] using World.cell?_spot hc0
        subst hspot
        refine ⟨b, off, rfl, fun j p hp => ?_, ?_, hlc⟩
        · obtain ⟨hj, rfl⟩ := List.getElem?_eq_some_iff.1 hp
          rw [e1] at hj
          have hk := (key j hj).1
          rw [add_plain, add_plain] at hk
          simp only [List.getElem_map, List.getElem_range]
          exact hk
        · rcases Nat.lt_or_ge b w.heap.size with h1 | h1
          · exact h1
          · simp [World.cell?, Addr.add, Array.getElem?_eq_none h1] at hc0
end Go.Proofs.Ytohihlhkheeemaa.Pt
