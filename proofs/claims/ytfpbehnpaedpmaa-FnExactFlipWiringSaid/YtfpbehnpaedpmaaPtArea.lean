/- Areas and turns of three points by value, as impl and spec reckon them; a law's point as impl's. -/
import Derived.Test.YtfpbehnpaedpmaaPt
namespace Go.Proofs.Ytfpbehnpaedpmaa.Pt
open Go.RowKit

/-- Block B holds a point. -/
def PtAt (w : World) (B o : Nat) (x y : Int) : Prop := w.cell? ⟨B, o, none⟩ = some (.int .i64 x) ∧ w.cell? ⟨B, o + 1, none⟩ = some (.int .i64 y)
theorem PtAt.on {w w' : World} {B o C : Nat} {x y : Int} (h : PtAt w B o x y) (hb : Below C w w') (hB : B < C) : PtAt w' B o x y := ⟨by rw [hb.cell hB]; exact h.1, by rw [hb.cell hB]; exact h.2⟩
/-- Three points in three blocks, and in a row behind them. -/
structure Tri (B : Nat) (ax ay bx by_ cx cy : Int) (w : World) : Prop where
  a : PtAt w B 0 ax ay
  b : PtAt w (B + 1) 0 bx by_
  c : PtAt w (B + 1 + 1) 0 cx cy
  ra : PtAt w (B + 1 + 1 + 1) 0 ax ay
  rb : PtAt w (B + 1 + 1 + 1) 2 bx by_
  rc : PtAt w (B + 1 + 1 + 1) 4 cx cy
  lt : B + 1 + 1 + 1 < w.heap.size
theorem Tri.on {B : Nat} {ax ay bx by_ cx cy : Int} {w w' : World} (h : Tri B ax ay bx by_ cx cy w) (hb : Below w.heap.size w w') : Tri B ax ay bx by_ cx cy w' :=
  have := h.lt
  ⟨h.a.on hb (by omega), h.b.on hb (by omega), h.c.on hb (by omega), h.ra.on hb (by omega), h.rb.on hb (by omega), h.rc.on hb (by omega), Nat.lt_of_lt_of_le h.lt hb.size⟩
end Go.Proofs.Ytfpbehnpaedpmaa.Pt
