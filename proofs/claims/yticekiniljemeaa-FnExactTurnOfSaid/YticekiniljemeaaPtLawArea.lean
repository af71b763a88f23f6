/- FnExactAreaOf, FnExactTurnOf: for any three points impl and spec answer alike. -/
import Derived.Test.YticekiniljemeaaPtTurn
import Derived.Test.YticekiniljemeaaPtOpen
import Derived.Deep.RegionHeld3
namespace Go.Proofs.Yticekiniljemeaa.Pt
open Go.RowKit

/-- Three points in three blocks of the call's own. -/
def Box3 (w0 : World) (ax ay bx by_ cx cy : Int) (W : World) : Prop :=
  W.cell? ⟨w0.heap.size, 0, none⟩ = some (.int .i64 ax) ∧ W.cell? ⟨w0.heap.size, 1, none⟩ = some (.int .i64 ay) ∧ W.cell? ⟨w0.heap.size + 1, 0, none⟩ = some (.int .i64 bx) ∧ W.cell? ⟨w0.heap.size + 1, 1, none⟩ = some (.int .i64 by_) ∧
  W.cell? ⟨w0.heap.size + 1 + 1, 0, none⟩ = some (.int .i64 cx) ∧ W.cell? ⟨w0.heap.size + 1 + 1, 1, none⟩ = some (.int .i64 cy) ∧ Below w0.heap.size w0 W
theorem box3_made (w : World) (ax ay bx by_ cx cy : Int) (t : TypeId) : Box3 w ax ay bx by_ cx cy (((w.alloc (Obj.cells #[Value.int IntKind.i64 ax, Value.int IntKind.i64 ay] t)).alloc (Obj.cells #[Value.int IntKind.i64 bx, Value.int IntKind.i64 by_] t)).alloc (Obj.cells #[Value.int IntKind.i64 cx, Value.int IntKind.i64 cy] t)) := by
  refine ⟨?_, ?_, ?_, ?_, ?_, ?_, below3 _ _ _ _⟩
  all_goals go_simp
theorem cell_lt' {w : World} {a : Addr} {v : Value} (h : w.cell? a = some v) : a.block < w.heap.size := by
  rcases Nat.lt_or_ge a.block w.heap.size with h1 | h1
  · exact h1
  · simp [World.cell?, Array.getElem?_eq_none h1] at h
theorem Box3.on {w0 : World} {ax ay bx by_ cx cy : Int} {w w' : World} (h : Box3 w0 ax ay bx by_ cx cy w) (hb : Below w.heap.size w w') : Box3 w0 ax ay bx by_ cx cy w' := by
  obtain ⟨h1, h2, h3, h4, h5, h6, h7⟩ := h
  exact ⟨by rw [hb.cell (cell_lt' h1)]; exact h1, by rw [hb.cell (cell_lt' h2)]; exact h2, by rw [hb.cell (cell_lt' h3)]; exact h3, by rw [hb.cell (cell_lt' h4)]; exact h4, by rw [hb.cell (cell_lt' h5)]; exact h5, by rw [hb.cell (cell_lt' h6)]; exact h6, h7.trans (hb.mono h7.size)⟩
theorem Box3.drew {w0 : World} {ax ay bx by_ cx cy : Int} {w : World} (h : Box3 w0 ax ay bx by_ cx cy w) : Box3 w0 ax ay bx by_ cx cy w.drew := ⟨h.1, h.2.1, h.2.2.1, h.2.2.2.1, h.2.2.2.2.1, h.2.2.2.2.2.1, h.2.2.2.2.2.2.drew⟩
theorem call_held (w0 : World) (ax ay bx by_ cx cy : Int) {f : FuncId} {args : Array Value} {W : World} {v : Value} (h : Calls Try.prog f args W fun e w' => e = .returned v ∧ Below W.heap.size W w') (hS : Box3 w0 ax ay bx by_ cx cy W) :
    Calls Try.prog f args W fun e w' => e = .returned v ∧ Box3 w0 ax ay bx by_ cx cy w' := h.mono fun _ _ ⟨he, hb⟩ => ⟨he, hS.on hb⟩

set_option maxRecDepth 100000 in
set_option maxHeartbeats 800000 in
theorem walkArea (ax ay : Int) (_ : WfP (ax, ay)) (bx by_ : Int) (_ : WfP (bx, by_)) (cx cy : Int) (_ : WfP (cx, cy)) (w : World) :
    Calls Try.prog 3 #[.agg #[.int .i64 ax, .int .i64 ay], .agg #[.int .i64 bx, .int .i64 by_], .agg #[.int .i64 cx, .int .i64 cy]] w fun e w' => e = .returned (.bool true) ∧ Below w.heap.size w w' := by
  have hself : (areaB ax ay bx by_ cx cy != areaB ax ay bx by_ cx cy) = false := by simp
  have HS := Lib.hid (fun t => box3_made w ax ay bx by_ cx cy t)
  go_enter Try.func3, Try.ntmps3
  go_wp2
  go_region_held3 (fun W => W.cell? ⟨w.heap.size, 0, none⟩ = some (.int .i64 ax) ∧ W.cell? ⟨w.heap.size, 1, none⟩ = some (.int .i64 ay) ∧ W.cell? ⟨w.heap.size + 1, 0, none⟩ = some (.int .i64 bx) ∧ W.cell? ⟨w.heap.size + 1, 1, none⟩ = some (.int .i64 by_) ∧ W.cell? ⟨w.heap.size + 1 + 1, 0, none⟩ = some (.int .i64 cx) ∧ W.cell? ⟨w.heap.size + 1 + 1, 1, none⟩ = some (.int .i64 cy) ∧ Below w.heap.size w W) (first | exact HS.out _ | exact (HS.out _).drew | assumption | exact Box3.drew ‹_› | (refine ⟨?_, ?_, ?_, ?_, ?_, ?_, ?_⟩ <;> assumption))
    (first | (go_at_call 10; refine (call_held w ax ay bx by_ cx cy (toPoint_any _ _ _) ?_).mono ?_; (first | exact HS.out _ | exact (HS.out _).drew | assumption | exact Box3.drew ‹_› | (refine ⟨?_, ?_, ?_, ?_, ?_, ?_, ?_⟩ <;> assumption)); rintro e w' ⟨rfl, c1, c2, c3, c4, c5, c6, c7⟩) | (go_at_call 9; refine (call_held w ax ay bx by_ cx cy (specArea_any _ _ _ _ _ _ _) ?_).mono ?_; (first | exact HS.out _ | exact (HS.out _).drew | assumption | exact Box3.drew ‹_› | (refine ⟨?_, ?_, ?_, ?_, ?_, ?_, ?_⟩ <;> assumption)); rintro e w' ⟨rfl, c1, c2, c3, c4, c5, c6, c7⟩))
  go_wp2
  go_region_held3 (fun W => W.cell? ⟨w.heap.size, 0, none⟩ = some (.int .i64 ax) ∧ W.cell? ⟨w.heap.size, 1, none⟩ = some (.int .i64 ay) ∧ W.cell? ⟨w.heap.size + 1, 0, none⟩ = some (.int .i64 bx) ∧ W.cell? ⟨w.heap.size + 1, 1, none⟩ = some (.int .i64 by_) ∧ W.cell? ⟨w.heap.size + 1 + 1, 0, none⟩ = some (.int .i64 cx) ∧ W.cell? ⟨w.heap.size + 1 + 1, 1, none⟩ = some (.int .i64 cy) ∧ Below w.heap.size w W) (first | exact HS.out _ | exact (HS.out _).drew | assumption | exact Box3.drew ‹_› | (refine ⟨?_, ?_, ?_, ?_, ?_, ?_, ?_⟩ <;> assumption))
    (first | (go_at_call 10; refine (call_held w ax ay bx by_ cx cy (toPoint_any _ _ _) ?_).mono ?_; (first | exact HS.out _ | exact (HS.out _).drew | assumption | exact Box3.drew ‹_› | (refine ⟨?_, ?_, ?_, ?_, ?_, ?_, ?_⟩ <;> assumption)); rintro e w' ⟨rfl, c1, c2, c3, c4, c5, c6, c7⟩) | (go_at_call 11; refine (call_held w ax ay bx by_ cx cy (implArea_any _ _ _ _ _ _ _) ?_).mono ?_; (first | exact HS.out _ | exact (HS.out _).drew | assumption | exact Box3.drew ‹_› | (refine ⟨?_, ?_, ?_, ?_, ?_, ?_, ?_⟩ <;> assumption)); rintro e w' ⟨rfl, c1, c2, c3, c4, c5, c6, c7⟩))
  go_wp2
  go_ret
  exact ⟨rfl, by assumption⟩
set_option maxRecDepth 100000 in
set_option maxHeartbeats 800000 in
theorem walkTurn (ax ay : Int) (_ : WfP (ax, ay)) (bx by_ : Int) (_ : WfP (bx, by_)) (cx cy : Int) (_ : WfP (cx, cy)) (w : World) :
    Calls Try.prog 4 #[.agg #[.int .i64 ax, .int .i64 ay], .agg #[.int .i64 bx, .int .i64 by_], .agg #[.int .i64 cx, .int .i64 cy]] w fun e w' => e = .returned (.bool true) ∧ Below w.heap.size w w' := by
  have hself : (turnB ax ay bx by_ cx cy != turnB ax ay bx by_ cx cy) = false := by simp
  have HS := Lib.hid (fun t => box3_made w ax ay bx by_ cx cy t)
  go_enter Try.func4, Try.ntmps4
  go_wp2
  go_region_held3 (fun W => W.cell? ⟨w.heap.size, 0, none⟩ = some (.int .i64 ax) ∧ W.cell? ⟨w.heap.size, 1, none⟩ = some (.int .i64 ay) ∧ W.cell? ⟨w.heap.size + 1, 0, none⟩ = some (.int .i64 bx) ∧ W.cell? ⟨w.heap.size + 1, 1, none⟩ = some (.int .i64 by_) ∧ W.cell? ⟨w.heap.size + 1 + 1, 0, none⟩ = some (.int .i64 cx) ∧ W.cell? ⟨w.heap.size + 1 + 1, 1, none⟩ = some (.int .i64 cy) ∧ Below w.heap.size w W) (first | exact HS.out _ | exact (HS.out _).drew | assumption | exact Box3.drew ‹_› | (refine ⟨?_, ?_, ?_, ?_, ?_, ?_, ?_⟩ <;> assumption))
    (first | (go_at_call 10; refine (call_held w ax ay bx by_ cx cy (toPoint_any _ _ _) ?_).mono ?_; (first | exact HS.out _ | exact (HS.out _).drew | assumption | exact Box3.drew ‹_› | (refine ⟨?_, ?_, ?_, ?_, ?_, ?_, ?_⟩ <;> assumption)); rintro e w' ⟨rfl, c1, c2, c3, c4, c5, c6, c7⟩) | (go_at_call 12; refine (call_held w ax ay bx by_ cx cy (specTurn_any _ _ _ _ _ _ _) ?_).mono ?_; (first | exact HS.out _ | exact (HS.out _).drew | assumption | exact Box3.drew ‹_› | (refine ⟨?_, ?_, ?_, ?_, ?_, ?_, ?_⟩ <;> assumption)); rintro e w' ⟨rfl, c1, c2, c3, c4, c5, c6, c7⟩))
  go_wp2
  go_region_held3 (fun W => W.cell? ⟨w.heap.size, 0, none⟩ = some (.int .i64 ax) ∧ W.cell? ⟨w.heap.size, 1, none⟩ = some (.int .i64 ay) ∧ W.cell? ⟨w.heap.size + 1, 0, none⟩ = some (.int .i64 bx) ∧ W.cell? ⟨w.heap.size + 1, 1, none⟩ = some (.int .i64 by_) ∧ W.cell? ⟨w.heap.size + 1 + 1, 0, none⟩ = some (.int .i64 cx) ∧ W.cell? ⟨w.heap.size + 1 + 1, 1, none⟩ = some (.int .i64 cy) ∧ Below w.heap.size w W) (first | exact HS.out _ | exact (HS.out _).drew | assumption | exact Box3.drew ‹_› | (refine ⟨?_, ?_, ?_, ?_, ?_, ?_, ?_⟩ <;> assumption))
    (first | (go_at_call 10; refine (call_held w ax ay bx by_ cx cy (toPoint_any _ _ _) ?_).mono ?_; (first | exact HS.out _ | exact (HS.out _).drew | assumption | exact Box3.drew ‹_› | (refine ⟨?_, ?_, ?_, ?_, ?_, ?_, ?_⟩ <;> assumption)); rintro e w' ⟨rfl, c1, c2, c3, c4, c5, c6, c7⟩) | (go_at_call 13; refine (call_held w ax ay bx by_ cx cy (implTurn_any _ _ _ _ _ _ _) ?_).mono ?_; (first | exact HS.out _ | exact (HS.out _).drew | assumption | exact Box3.drew ‹_› | (refine ⟨?_, ?_, ?_, ?_, ?_, ?_, ?_⟩ <;> assumption)); rintro e w' ⟨rfl, c1, c2, c3, c4, c5, c6, c7⟩))
  go_wp2
  go_ret
  exact ⟨rfl, by assumption⟩
end Go.Proofs.Yticekiniljemeaa.Pt
