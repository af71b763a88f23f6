/- Several texts in one: HuExt, HuSpec. -/
import Derived.Test.YtinlnafkmoabbaaDoorMgPl
import Derived.Test.YtinlnafkmoabbaaDoorMgR
import Derived.Test.YtinlnafkmoabbaaDoorMgO
/- Hulls, as spec tells them: l6Extreme, l6List. -/
namespace Go.Proofs.YtinlnafkmoabbaaDoor.Sg
open Go.RowKit Pt NewI
theorem pow_le7 {p : Nat} (h : p ≤ 7) : 2 ^ p ≤ 128 := by
  have := Nat.pow_le_pow_right (n := 2) (by omega) h
  omega
end Go.Proofs.YtinlnafkmoabbaaDoor.Sg
/- Hulls, as spec tells them: IsExtreme, HullSize, InHull, l6Left. -/
namespace Go.Proofs.YtinlnafkmoabbaaDoor.Sg
open Go.RowKit Pt NewI
/-- How the set of all elements is reckoned. -/
structure AllS (m M : Nat) : Prop where
  le : 8 ≤ M ∧ M ≤ 128
  pw : IntKind.i64.wrap ((2 : Int) ^ m) = (M : Int)
  eq : 2 ^ m - 1 = M - 1
  cast : ((M - 1 : Nat) : Int) = (M : Int) - 1
theorem allS_of {m : Nat} (h3 : 3 ≤ m) (h7 : m ≤ 7) : ∃ M : Nat, AllS m M := by
  refine ⟨2 ^ m, ⟨Nat.pow_le_pow_right (n := 2) (by omega) h3, pow_le7 h7⟩, ?_, rfl, ?_⟩
  · have hcast : ((2 ^ m : Nat) : Int) = (2 : Int) ^ m := by push_cast; rfl
    have := pow_le7 h7
    rw [← hcast]
    clear hcast
    generalize 2 ^ m = M at this ⊢
    exact IntWalk.i64_in _ (by omega)
  · have := Nat.pow_le_pow_right (n := 2) (by omega) h3
    omega
end Go.Proofs.YtinlnafkmoabbaaDoor.Sg
