/- Points by value: bounds, areas and turns, as impl and spec reckon them. -/
import Derived.Test.YtfpbehnpaedpmaaProg
import Derived.Test.YtfpbehnpaedpmaaPtMath
import Derived.WalkKit
import Derived.Below
import Derived.Lib.Hide
import Derived.Handy
namespace Go.Proofs.Ytfpbehnpaedpmaa.Pt
open Go.RowKit
theorem ret_bool {a b : Bool} (h : a = b) : Ending.returned (.bool a) = .returned (.bool b) := by rw [h]

set_option maxRecDepth 100000 in
theorem l1In_any (x lo hi : Int) (w : World) :
    Calls Try.prog 30 #[.int .i64 x, .int .i64 lo, .int .i64 hi] w fun e w' => e = .returned (.bool (inB x lo hi)) ∧ w = w' := by
  by_cases h1 : lo ≤ x
  · by_cases h2 : x ≤ hi
    · have HE := Lib.hid (inB_yes h1 h2)
      go_enter Try.func30, Try.ntmps30
      go_wp2
      go_ret
      exact ⟨ret_bool (by rw [HE.out]), rfl⟩
    · have HE := Lib.hid (inB_hi (lo := lo) (x := x) (hi := hi) (by omega))
      go_enter Try.func30, Try.ntmps30
      go_wp2
      go_ret
      exact ⟨ret_bool (by rw [HE.out]), rfl⟩
  · have HE := Lib.hid (inB_lo (lo := lo) (x := x) (hi := hi) (by omega))
    go_enter Try.func30, Try.ntmps30
    go_wp2
    go_ret
    exact ⟨ret_bool (by rw [HE.out]), rfl⟩

end Go.Proofs.Ytfpbehnpaedpmaa.Pt
