/- Points by value: bounds, areas and turns, as impl and spec reckon them. -/
import Derived.Test.YtfjimdmoindepaaProg
import Derived.Test.YtfjimdmoindepaaPtMath
import Derived.WalkKit
import Derived.Below
import Derived.Lib.Hide
import Derived.Handy
namespace Go.Proofs.Ytfjimdmoindepaa.Pt
open Go.RowKit
theorem ret_int {k : IntKind} {a b : Int} (h : a = b) : Ending.returned (.int k a) = .returned (.int k b) := by rw [h]
theorem ret_bool {a b : Bool} (h : a = b) : Ending.returned (.bool a) = .returned (.bool b) := by rw [h]

set_option maxRecDepth 100000 in
theorem l1In_any (x lo hi : Int) (w : World) :
    Calls Try.prog 56 #[.int .i64 x, .int .i64 lo, .int .i64 hi] w fun e w' => e = .returned (.bool (inB x lo hi)) ∧ w = w' := by
  by_cases h1 : lo ≤ x
  · by_cases h2 : x ≤ hi
    · have HE := Lib.hid (inB_yes h1 h2)
      go_enter Try.func56, Try.ntmps56
      go_wp2
      go_ret
      exact ⟨ret_bool (by rw [HE.out]), rfl⟩
    · have HE := Lib.hid (inB_hi (lo := lo) (x := x) (hi := hi) (by omega))
      go_enter Try.func56, Try.ntmps56
      go_wp2
      go_ret
      exact ⟨ret_bool (by rw [HE.out]), rfl⟩
  · have HE := Lib.hid (inB_lo (lo := lo) (x := x) (hi := hi) (by omega))
    go_enter Try.func56, Try.ntmps56
    go_wp2
    go_ret
    exact ⟨ret_bool (by rw [HE.out]), rfl⟩

/-- A point in a new block. -/
theorem bcell {W w1 : World} (hb : Below W.heap.size W w1) : (∀ b o, b < W.heap.size → w1.cell? ⟨b, o, none⟩ = W.cell? ⟨b, o, none⟩) ∧ (∀ b o, b < W.heap.size → w1.frozen? ⟨b, o, none⟩ = W.frozen? ⟨b, o, none⟩) :=
  ⟨fun b o h => hb.cell (p := ⟨b, o, none⟩) h, fun b o h => hb.frozen (p := ⟨b, o, none⟩) h⟩

set_option maxRecDepth 100000 in
theorem l2Fits_any (x y m : Int) (hm : 0 ≤ m) (hm2 : m ≤ 1000000) (w : World) :
    Calls Try.prog 85 #[.agg #[.int .i64 x, .int .i64 y], .int .i64 m] w fun e w' => e = .returned (.bool (fitB x y m)) ∧ Below w.heap.size w w' := by
  cases h1 : inB x (-m) m
  · have HE : Hid (fitB x y m = false) := Lib.hid (by simp [fitB, h1])
    go_enter Try.func85, Try.ntmps85
    go_wp2_with (go_at_call 56; refine (l1In_any _ _ _ _).mono ?_; rintro e w' ⟨rfl, rfl⟩)
    go_ret
    exact ⟨ret_bool (by rw [HE.out]), (Below.refl _ _).alloc (Nat.le_refl _) _⟩
  · have HE : Hid (fitB x y m = inB y (-m) m) := Lib.hid (by simp [fitB, h1])
    go_enter Try.func85, Try.ntmps85
    go_wp2_with (go_at_call 56; refine (l1In_any _ _ _ _).mono ?_; rintro e w' ⟨rfl, rfl⟩)
    go_ret
    exact ⟨ret_bool (by rw [HE.out]), (Below.refl _ _).alloc (Nat.le_refl _) _⟩

set_option maxRecDepth 100000 in
theorem l2Area_any (ax ay bx by_ cx cy : Int) (ha : fitB ax ay 1000 = true) (hb : fitB bx by_ 1000 = true) (hc : fitB cx cy 1000 = true) (w : World) :
    Calls Try.prog 76 #[.agg #[.int .i64 ax, .int .i64 ay], .agg #[.int .i64 bx, .int .i64 by_], .agg #[.int .i64 cx, .int .i64 cy]] w fun e w' => e = .returned (.int .i64 (crs ax ay bx by_ cx cy)) ∧ Below w.heap.size w w' := by
  have hbd := crs_bound ha hb hc
  have h1 := fitB_mem ha
  have h2 := fitB_mem hb
  have h3 := fitB_mem hc
  obtain ⟨⟨p1, p2⟩, p3, p4⟩ := hbd
  obtain ⟨a1, a2, a3, a4⟩ := h1
  obtain ⟨b1, b2, b3, b4⟩ := h2
  obtain ⟨c1, c2, c3, c4⟩ := h3
  clear ha hb hc
  go_enter Try.func76, Try.ntmps76
  go_wp2
  go_ret
  exact ⟨ret_int rfl, by go_grown⟩
end Go.Proofs.Ytfjimdmoindepaa.Pt
