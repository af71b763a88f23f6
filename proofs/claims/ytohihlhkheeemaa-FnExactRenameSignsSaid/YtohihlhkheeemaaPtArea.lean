/- Areas and turns of three points by value, as impl and spec reckon them; a law's point as impl's. -/
import Derived.Test.YtohihlhkheeemaaPt
namespace Go.Proofs.Ytohihlhkheeemaa.Pt
open Go.RowKit

theorem below3 (w : World) (a b c : Obj) : Below w.heap.size w (((w.alloc a).alloc b).alloc c) := (((Below.refl _ _).alloc (Nat.le_refl _) _).alloc (by simp) _).alloc (by simp; omega) _
theorem below_then {B : Nat} {a b c : World} (h1 : Below B a b) (h2 : Below b.heap.size b c) (hB : B ≤ b.heap.size := by exact Below.size ‹_›) : Below B a c := h1.trans (h2.mono hB)

theorem below_call {a b c : World} (h2 : Below b.heap.size b c) (h1 : Below a.heap.size a b) : Below a.heap.size a c := h1.trans (h2.mono h1.size)
theorem below4 (w : World) (a b c d : Obj) : Below w.heap.size w ((((w.alloc a).alloc b).alloc c).alloc d) := (below3 w a b c).alloc (by simp; omega) _
/-- Block B holds a point. -/
def PtAt (w : World) (B o : Nat) (x y : Int) : Prop := w.cell? ⟨B, o, none⟩ = some (.int .i64 x) ∧ w.cell? ⟨B, o + 1, none⟩ = some (.int .i64 y)
theorem PtAt.on {w w' : World} {B o C : Nat} {x y : Int} (h : PtAt w B o x y) (hb : Below C w w') (hB : B < C) : PtAt w' B o x y := ⟨by rw [hb.cell hB]; exact h.1, by rw [hb.cell hB]; exact h.2⟩
/-- Three points in three blocks, and in a row behind them. -/
structure Tri (B : Nat) (ax ay bx by_ cx cy : Int) (w : World) : Prop where
  a : PtAt w B 0 ax ay
  b : PtAt w (B + 1) 0 bx by_
  c : PtAt w (B + 1 + 1) 0 cx cy
  ra : PtAt w (B + 1 + 1 + 1) 0 ax ay
  rb : PtAt w (B + 1 + 1 + 1) 2 bx by_
  rc : PtAt w (B + 1 + 1 + 1) 4 cx cy
  lt : B + 1 + 1 + 1 < w.heap.size
theorem Tri.on {B : Nat} {ax ay bx by_ cx cy : Int} {w w' : World} (h : Tri B ax ay bx by_ cx cy w) (hb : Below w.heap.size w w') : Tri B ax ay bx by_ cx cy w' :=
  have := h.lt
  ⟨h.a.on hb (by omega), h.b.on hb (by omega), h.c.on hb (by omega), h.ra.on hb (by omega), h.rb.on hb (by omega), h.rc.on hb (by omega), Nat.lt_of_lt_of_le h.lt hb.size⟩
structure FitTo (k : Nat) (ax ay bx by_ cx cy : Int) : Prop where
  a : 1 ≤ k → fitB ax ay 1000 = true
  b : 2 ≤ k → fitB bx by_ 1000 = true
  c : 3 ≤ k → fitB cx cy 1000 = true
theorem tri_made (w : World) (ax ay bx by_ cx cy : Int) (t : TypeId) : Tri w.heap.size ax ay bx by_ cx cy ((((w.alloc (Obj.cells #[Value.int IntKind.i64 ax, Value.int IntKind.i64 ay] t)).alloc (Obj.cells #[Value.int IntKind.i64 bx, Value.int IntKind.i64 by_] t)).alloc (Obj.cells #[Value.int IntKind.i64 cx, Value.int IntKind.i64 cy] t)).alloc
  (Obj.cells #[Value.int IntKind.i64 ax, Value.int IntKind.i64 ay, Value.int IntKind.i64 bx, Value.int IntKind.i64 by_, Value.int IntKind.i64 cx, Value.int IntKind.i64 cy] t)) := by
  constructor
  all_goals (try unfold PtAt)
  all_goals go_simp
  all_goals (try constructor)
set_option maxRecDepth 100000 in
set_option maxHeartbeats 400000 in
theorem implArea_any (ax ay bx by_ cx cy : Int) (w : World) :
    Calls Try.prog 62 #[.agg #[.int .i64 ax, .int .i64 ay], .agg #[.int .i64 bx, .int .i64 by_], .agg #[.int .i64 cx, .int .i64 cy]] w fun e w' => e = .returned (.int .i64 (areaB ax ay bx by_ cx cy)) ∧ Below w.heap.size w w' := by
  go_enter Try.func62, Try.ntmps62
  go_wp2
  go_loopw [14] (fun i wr => ∃ k : Nat, k ≤ 3 ∧ i = .int .i64 k ∧ Tri w.heap.size ax ay bx by_ cx cy wr ∧ Below w.heap.size w wr ∧ FitTo k ax ay bx by_ cx cy) (fun i _ => 3 - (intOf i).toNat)
  case atStart => exact ⟨0, Nat.zero_le _, rfl, tri_made _ _ _ _ _ _ _ _, below4 _ _ _ _ _, ⟨by omega, by omega, by omega⟩⟩
  case round =>
    obtain ⟨k, hk, rfl, hT, hb, hF⟩ := hrel
    have hlt := hT.lt
    rcases (by omega : k = 0 ∨ k = 1 ∨ k = 2 ∨ k = 3) with rfl | rfl | rfl | rfl
    · obtain ⟨hx, hy⟩ := hT.ra
      cases h1 : fitB ax ay 1000
      · have HE := Lib.hid (areaB_no (bx := bx) (by_ := by_) (cx := cx) (cy := cy) (.inl h1))
        go_wp2_with fail
        refine (isPointWithin_any _ _ _ (by omega) (by omega) _).mono ?_
        rintro e w1 ⟨rfl, hb1⟩
        have B1 : Below wr.heap.size wr w1 := below_call hb1 (by go_grown)
        have B2 := hb.trans (B1.mono hb.size)
        go_wp2
        go_ret
        exact ⟨ret_int HE.out.symm, B2⟩
      · go_wp2_with fail
        refine (isPointWithin_any _ _ _ (by omega) (by omega) _).mono ?_
        rintro e w1 ⟨rfl, hb1⟩
        have B1 : Below wr.heap.size wr w1 := below_call hb1 (by go_grown)
        have B2 := hb.trans (B1.mono hb.size)
        have T2 := hT.on B1
        go_wp2
        exact ⟨⟨1, by omega, by go_num, T2, B2, ⟨fun _ => h1, by omega, by omega⟩⟩, by simp only [intOf]; omega⟩
    · obtain ⟨hx, hy⟩ := hT.rb
      have h1 := hF.a (by omega)
      cases h2 : fitB bx by_ 1000
      · have HE := Lib.hid (areaB_no (ax := ax) (ay := ay) (cx := cx) (cy := cy) (.inr (.inl h2)))
        clear h1
        go_wp2_with fail
        refine (isPointWithin_any _ _ _ (by omega) (by omega) _).mono ?_
        rintro e w1 ⟨rfl, hb1⟩
        have B1 : Below wr.heap.size wr w1 := below_call hb1 (by go_grown)
        have B2 := hb.trans (B1.mono hb.size)
        go_wp2
        go_ret
        exact ⟨ret_int HE.out.symm, B2⟩
      · go_wp2_with fail
        refine (isPointWithin_any _ _ _ (by omega) (by omega) _).mono ?_
        rintro e w1 ⟨rfl, hb1⟩
        have B1 : Below wr.heap.size wr w1 := below_call hb1 (by go_grown)
        have B2 := hb.trans (B1.mono hb.size)
        have T2 := hT.on B1
        go_wp2
        exact ⟨⟨2, by omega, by go_num, T2, B2, ⟨fun _ => h1, fun _ => h2, by omega⟩⟩, by simp only [intOf]; omega⟩
    · obtain ⟨hx, hy⟩ := hT.rc
      have h1 := hF.a (by omega)
      have h2 := hF.b (by omega)
      cases h3 : fitB cx cy 1000
      · have HE := Lib.hid (areaB_no (ax := ax) (ay := ay) (bx := bx) (by_ := by_) (.inr (.inr h3)))
        clear h1 h2
        go_wp2_with fail
        refine (isPointWithin_any _ _ _ (by omega) (by omega) _).mono ?_
        rintro e w1 ⟨rfl, hb1⟩
        have B1 : Below wr.heap.size wr w1 := below_call hb1 (by go_grown)
        have B2 := hb.trans (B1.mono hb.size)
        go_wp2
        go_ret
        exact ⟨ret_int HE.out.symm, B2⟩
      · go_wp2_with fail
        refine (isPointWithin_any _ _ _ (by omega) (by omega) _).mono ?_
        rintro e w1 ⟨rfl, hb1⟩
        have B1 : Below wr.heap.size wr w1 := below_call hb1 (by go_grown)
        have B2 := hb.trans (B1.mono hb.size)
        have T2 := hT.on B1
        go_wp2
        exact ⟨⟨3, by omega, by go_num, T2, B2, ⟨fun _ => h1, fun _ => h2, fun _ => h3⟩⟩, by simp only [intOf]; omega⟩
    · have h1 := hF.a (by omega)
      have h2 := hF.b (by omega)
      have h3 := hF.c (by omega)
      have HE := Lib.hid (areaB_yes h1 h2 h3)
      obtain ⟨ax1, ay1⟩ := hT.a
      obtain ⟨bx1, by1⟩ := hT.b
      obtain ⟨cx1, cy1⟩ := hT.c
      obtain ⟨⟨p1, p2⟩, p3, p4⟩ := crs_bound h1 h2 h3
      obtain ⟨a1, a2, a3, a4⟩ := fitB_mem h1
      obtain ⟨b1, b2, b3, b4⟩ := fitB_mem h2
      obtain ⟨c1, c2, c3, c4⟩ := fitB_mem h3
      clear h1 h2 h3 hF hT
      go_wp2
      go_ret
      exact ⟨ret_int HE.out.symm, hb⟩
end Go.Proofs.Ytohihlhkheeemaa.Pt
