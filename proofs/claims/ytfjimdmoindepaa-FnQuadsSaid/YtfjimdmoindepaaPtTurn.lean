/- Turns of three points by value; a law's point as impl's. -/
import Derived.Test.YtfjimdmoindepaaPtArea
namespace Go.Proofs.Ytfjimdmoindepaa.Pt
open Go.RowKit
set_option maxRecDepth 100000 in
theorem bit_yes (w : World) : Calls Try.prog 46 #[.bool true] w fun e w' => e = .returned (.int .i64 1) ∧ w = w' := by
  go_enter Try.func46, Try.ntmps46
  go_wp2
  go_ret
  exact ⟨rfl, rfl⟩
set_option maxRecDepth 100000 in
theorem bit_no (w : World) : Calls Try.prog 46 #[.bool false] w fun e w' => e = .returned (.int .i64 0) ∧ w = w' := by
  go_enter Try.func46, Try.ntmps46
  go_wp2
  go_ret
  exact ⟨rfl, rfl⟩
/-- cmp.Compare of two integers. -/
def cmpI (x y : Int) : Int := if x < y then -1 else if y < x then 1 else 0
theorem cmpI_lt {x y : Int} (h : x < y) : cmpI x y = -1 := by simp [cmpI, h]
theorem cmpI_gt {x y : Int} (h : y < x) : cmpI x y = 1 := by unfold cmpI; rw [if_neg (by omega), if_pos h]
theorem cmpI_eq {x y : Int} (h : x = y) : cmpI x y = 0 := by subst h; simp [cmpI]
theorem cmpI_sgn (x : Int) : cmpI x 0 = sgn x := by
  rcases (by omega : 0 < x ∨ x < 0 ∨ x = 0) with h | h | h
  · rw [cmpI_gt h, sgn_pos h]
  · rw [cmpI_lt h, sgn_neg h]
  · rw [cmpI_eq h, sgn_zero h]
end Go.Proofs.Ytfjimdmoindepaa.Pt
