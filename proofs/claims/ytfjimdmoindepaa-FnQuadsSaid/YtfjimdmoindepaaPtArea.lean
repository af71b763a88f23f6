/- Areas and turns of three points by value, as impl and spec reckon them; a law's point as impl's. -/
import Derived.Test.YtfjimdmoindepaaPt
namespace Go.Proofs.Ytfjimdmoindepaa.Pt
open Go.RowKit

theorem below3 (w : World) (a b c : Obj) : Below w.heap.size w (((w.alloc a).alloc b).alloc c) := (((Below.refl _ _).alloc (Nat.le_refl _) _).alloc (by simp) _).alloc (by simp; omega) _
theorem below_then {B : Nat} {a b c : World} (h1 : Below B a b) (h2 : Below b.heap.size b c) (hB : B ≤ b.heap.size := by exact Below.size ‹_›) : Below B a c := h1.trans (h2.mono hB)

theorem below_call {a b c : World} (h2 : Below b.heap.size b c) (h1 : Below a.heap.size a b) : Below a.heap.size a c := h1.trans (h2.mono h1.size)
theorem below4 (w : World) (a b c d : Obj) : Below w.heap.size w ((((w.alloc a).alloc b).alloc c).alloc d) := (below3 w a b c).alloc (by simp; omega) _
/-- Block B holds a point. -/
def PtAt (w : World) (B o : Nat) (x y : Int) : Prop := w.cell? ⟨B, o, none⟩ = some (.int .i64 x) ∧ w.cell? ⟨B, o + 1, none⟩ = some (.int .i64 y)
theorem PtAt.on {w w' : World} {B o C : Nat} {x y : Int} (h : PtAt w B o x y) (hb : Below C w w') (hB : B < C) : PtAt w' B o x y := ⟨by rw [hb.cell hB]; exact h.1, by rw [hb.cell hB]; exact h.2⟩
/-- Three points in three blocks, and in a row behind them. -/
structure Tri (B : Nat) (ax ay bx by_ cx cy : Int) (w : World) : Prop where
  a : PtAt w B 0 ax ay
  b : PtAt w (B + 1) 0 bx by_
  c : PtAt w (B + 1 + 1) 0 cx cy
  ra : PtAt w (B + 1 + 1 + 1) 0 ax ay
  rb : PtAt w (B + 1 + 1 + 1) 2 bx by_
  rc : PtAt w (B + 1 + 1 + 1) 4 cx cy
  lt : B + 1 + 1 + 1 < w.heap.size
theorem Tri.on {B : Nat} {ax ay bx by_ cx cy : Int} {w w' : World} (h : Tri B ax ay bx by_ cx cy w) (hb : Below w.heap.size w w') : Tri B ax ay bx by_ cx cy w' :=
  have := h.lt
  ⟨h.a.on hb (by omega), h.b.on hb (by omega), h.c.on hb (by omega), h.ra.on hb (by omega), h.rb.on hb (by omega), h.rc.on hb (by omega), Nat.lt_of_lt_of_le h.lt hb.size⟩
structure FitTo (k : Nat) (ax ay bx by_ cx cy : Int) : Prop where
  a : 1 ≤ k → fitB ax ay 1000 = true
  b : 2 ≤ k → fitB bx by_ 1000 = true
  c : 3 ≤ k → fitB cx cy 1000 = true
theorem tri_made (w : World) (ax ay bx by_ cx cy : Int) (t : TypeId) : Tri w.heap.size ax ay bx by_ cx cy ((((w.alloc (Obj.cells #[Value.int IntKind.i64 ax, Value.int IntKind.i64 ay] t)).alloc (Obj.cells #[Value.int IntKind.i64 bx, Value.int IntKind.i64 by_] t)).alloc (Obj.cells #[Value.int IntKind.i64 cx, Value.int IntKind.i64 cy] t)).alloc
  (Obj.cells #[Value.int IntKind.i64 ax, Value.int IntKind.i64 ay, Value.int IntKind.i64 bx, Value.int IntKind.i64 by_, Value.int IntKind.i64 cx, Value.int IntKind.i64 cy] t)) := by
  constructor
  all_goals (try unfold PtAt)
  all_goals go_simp
  all_goals (try constructor)
end Go.Proofs.Ytfjimdmoindepaa.Pt
