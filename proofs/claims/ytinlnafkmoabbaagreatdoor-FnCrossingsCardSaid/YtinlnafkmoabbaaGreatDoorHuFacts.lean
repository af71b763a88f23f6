/- Hulls on plain functions: what FnHulls asks of them. -/
import Derived.Test.YtinlnafkmoabbaaGreatDoorMgK
import Derived.Test.YtinlnafkmoabbaaGreatDoorMgPl
import Derived.Test.YtinlnafkmoabbaaGreatDoorMgO
namespace Go.Proofs.YtinlnafkmoabbaaGreatDoor.Sg
open NewII
/-- How many of n elements are to the left of two. -/
def leftN (F : Int → Int → Int → Int) (n i j : Nat) : Nat := (List.range n).countP fun k => k != i && (k != j && decide (0 < F i j k))
theorem two_out : ∀ n, n < 8 → ∀ i, i < n → ∀ j, j < n → i ≠ j → (List.range n).countP (fun k => k != i && k != j) = n - 2 := by decide +kernel
section
variable {n : Nat} {s : List UInt8}
theorem left_nxt (h : aciB n s = true) {i j : Nat} (hi : i < n) (hj : Nxt n s i j) : leftN (sgnF (lookS n s)) n i j = n - 2 := by
  have h7 := (aciB_n h).2
  obtain ⟨hjn, hne, hall⟩ := hj
  rw [← two_out n (by omega) i hi j hjn (fun e => hne e.symm)]
  unfold leftN
  refine List.countP_congr fun k hk => ?_
  have hkn := List.mem_range.1 hk
  by_cases e1 : k = i
  · simp [e1]
  · by_cases e2 : k = j
    · simp [e2]
    · have := hall k hkn e1 e2
      simp [e1, e2, this]
end
end Go.Proofs.YtinlnafkmoabbaaGreatDoor.Sg
