/- SortPoints: what compares two points, in impl and spec. -/
import Derived.Test.YticekiniljemeaaPtNew
import Derived.Test.YticekiniljemeaaPtAre
import Derived.Test.YticekiniljemeaaPtSortMath
import Derived.RegionTactic
import Derived.BigRegion
import Derived.Deep.RegionHeld3
namespace Go.Proofs.Yticekiniljemeaa.Pt
open Go.RowKit
theorem befB_x {ax ay bx by_ : Int} (h : ax < bx) : befB ax ay bx by_ = true := by simp [befB, h]
theorem befB_y {ax ay by_ : Int} (h : ay < by_) : befB ax ay ax by_ = true := by simp [befB, h]
theorem befB_ny {ax ay by_ : Int} (h : by_ ≤ ay) : befB ax ay ax by_ = false := by simp [befB]; omega
theorem befB_nx {ax ay bx by_ : Int} (h : bx < ax) : befB ax ay bx by_ = false := by simp [befB]; omega
set_option maxRecDepth 100000 in
theorem before_any (ax ay bx by_ : Int) (w : World) :
    Calls Try.prog 35 #[.agg #[.int .i64 ax, .int .i64 ay], .agg #[.int .i64 bx, .int .i64 by_]] w fun e w' => e = .returned (.bool (befB ax ay bx by_)) ∧ Below w.heap.size w w' := by
  by_cases h1 : ax < bx
  · have HE := Lib.hid (befB_x (ay := ay) (by_ := by_) h1)
    go_enter Try.func35, Try.ntmps35
    go_wp2
    go_ret
    exact ⟨ret_bool (by rw [HE.out]), by go_grown⟩
  · by_cases h2 : ax = bx
    · subst h2
      have he : (ax == ax) = true := by simp
      by_cases h3 : ay < by_
      · have HE := Lib.hid (befB_y (ax := ax) h3)
        go_enter Try.func35, Try.ntmps35
        go_wp2
        go_ret
        exact ⟨ret_bool (by rw [HE.out]), by go_grown⟩
      · have HE := Lib.hid (befB_ny (ax := ax) (ay := ay) (by_ := by_) (by omega))
        go_enter Try.func35, Try.ntmps35
        go_wp2
        go_ret
        exact ⟨ret_bool (by rw [HE.out]), by go_grown⟩
    · have HE := Lib.hid (befB_nx (ax := ax) (ay := ay) (bx := bx) (by_ := by_) (by omega))
      have he : (ax == bx) = false := by simpa using h2
      go_enter Try.func35, Try.ntmps35
      go_wp2
      go_ret
      exact ⟨ret_bool (by rw [HE.out]), by go_grown⟩

/-- cmp.Or of two. -/
def orI (x y : Int) : Int := if x = 0 then y else x
theorem orI_no {x y : Int} (h : x ≠ 0) : orI x y = x := if_neg h
theorem orI_yes {x y : Int} (h : x = 0) : orI x y = y := if_pos h
set_option maxRecDepth 100000 in
theorem or_any (b c : Nat) (x y : Int) (w : World) (h0 : w.cell? ⟨b, 0, none⟩ = some (.int .i64 x)) (h1 : w.cell? ⟨b, 1, none⟩ = some (.int .i64 y)) :
    Calls Try.prog 39 #[.slice (some ⟨b, 0, none⟩) 2 c] w fun e w' => e = .returned (.int .i64 (orI x y)) ∧ w = w' := by
  by_cases hx : x = 0
  · have HE := Lib.hid (orI_yes (y := y) hx)
    subst hx
    by_cases hy : y = 0
    · subst hy
      go_enter Try.func39, Try.ntmps39
      go_wp2
      go_rounds 3
      all_goals go_ret
      all_goals exact ⟨ret_int HE.out.symm, rfl⟩
    · have hy0 : (y != 0) = true := by simpa using hy
      go_enter Try.func39, Try.ntmps39
      go_wp2
      go_rounds 3
      all_goals go_ret
      all_goals exact ⟨ret_int HE.out.symm, rfl⟩
  · have HE := Lib.hid (orI_no (y := y) hx)
    have hx0 : (x != 0) = true := by simpa using hx
    go_enter Try.func39, Try.ntmps39
    go_wp2
    go_rounds 3
    all_goals go_ret
    all_goals exact ⟨ret_int HE.out.symm, rfl⟩

/-- Two points in two blocks of the call's own. -/
def Box2 (w0 : World) (ax ay bx by_ : Int) (W : World) : Prop :=
  W.cell? ⟨w0.heap.size, 0, none⟩ = some (.int .i64 ax) ∧ W.cell? ⟨w0.heap.size, 1, none⟩ = some (.int .i64 ay) ∧ W.cell? ⟨w0.heap.size + 1, 0, none⟩ = some (.int .i64 bx) ∧ W.cell? ⟨w0.heap.size + 1, 1, none⟩ = some (.int .i64 by_) ∧ Below w0.heap.size w0 W
theorem box2_made (w : World) (ax ay bx by_ : Int) (t : TypeId) : Box2 w ax ay bx by_ ((w.alloc (Obj.cells #[Value.int IntKind.i64 ax, Value.int IntKind.i64 ay] t)).alloc (Obj.cells #[Value.int IntKind.i64 bx, Value.int IntKind.i64 by_] t)) := by
  refine ⟨?_, ?_, ?_, ?_, ((Below.refl _ _).alloc (Nat.le_refl _) _).alloc (by simp) _⟩
  all_goals go_simp
theorem Box2.drew {w0 : World} {ax ay bx by_ : Int} {w : World} (h : Box2 w0 ax ay bx by_ w) : Box2 w0 ax ay bx by_ w.drew := ⟨h.1, h.2.1, h.2.2.1, h.2.2.2.1, h.2.2.2.2.drew⟩
theorem Box2.alloc {w0 : World} {ax ay bx by_ : Int} {w : World} (h : Box2 w0 ax ay bx by_ w) (o : Obj) : Box2 w0 ax ay bx by_ (w.alloc o) := by
  obtain ⟨h1, h2, h3, h4, h5⟩ := h
  exact ⟨by rw [World.cell?_alloc_lt _ _ _ (lt_of_cell h1)]; exact h1, by rw [World.cell?_alloc_lt _ _ _ (lt_of_cell h2)]; exact h2, by rw [World.cell?_alloc_lt _ _ _ (lt_of_cell h3)]; exact h3, by rw [World.cell?_alloc_lt _ _ _ (lt_of_cell h4)]; exact h4, h5.alloc h5.size o⟩
set_option maxHeartbeats 800000 in
set_option maxRecDepth 100000 in
theorem less_any (ax ay bx by_ : Int) (w : World) :
    Calls Try.prog 38 #[.agg #[.int .i64 ax, .int .i64 ay], .agg #[.int .i64 bx, .int .i64 by_]] w fun e w' => e = .returned (.int .i64 (orI (cmpI ax bx) (cmpI ay by_))) ∧ Below w.heap.size w w' := by
  have HS := Lib.hid (fun t => box2_made w ax ay bx by_ t)
  go_enter Try.func38, Try.ntmps38
  go_wp2
  go_region_held3 (fun W => W.cell? ⟨w.heap.size, 0, none⟩ = some (.int .i64 ax) ∧ W.cell? ⟨w.heap.size, 1, none⟩ = some (.int .i64 ay) ∧ W.cell? ⟨w.heap.size + 1, 0, none⟩ = some (.int .i64 bx) ∧ W.cell? ⟨w.heap.size + 1, 1, none⟩ = some (.int .i64 by_) ∧ Below w.heap.size w W) (first | exact HS.out _ | exact (HS.out _).drew | exact (HS.out _).alloc _ | exact (HS.out _).drew.alloc _ | exact ((HS.out _).alloc _).drew)
    (first | (go_at_call 31; refine (compare_any _ _ _).mono ?_; rintro e w' ⟨rfl, rfl⟩) | (go_at_call 39; refine (or_any _ _ (cmpI ax bx) (cmpI ay by_) _ ?_ ?_).mono ?_; go_simp; go_simp; rintro e w' ⟨rfl, rfl⟩))
  all_goals go_wp2
  all_goals go_ret
  all_goals exact ⟨rfl, by first | exact (((HS.out _).drew).alloc _).2.2.2.2 | exact (((HS.out _).alloc _).drew).2.2.2.2 | exact ((HS.out _).alloc _).2.2.2.2 | assumption⟩
end Go.Proofs.Yticekiniljemeaa.Pt
