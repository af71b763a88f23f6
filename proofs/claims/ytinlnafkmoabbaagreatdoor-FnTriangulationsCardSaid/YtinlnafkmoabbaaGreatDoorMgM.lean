/- Several texts in one: HuLeft, LeSpec, LeCutSpec. -/
import Derived.Test.YtinlnafkmoabbaaGreatDoorHuFacts
import Derived.Test.YtinlnafkmoabbaaGreatDoorMgO
import Derived.Test.YtinlnafkmoabbaaGreatDoorMgL
/- LeftCount, as spec answers it of two different elements of order signs. -/
namespace Go.Proofs.YtinlnafkmoabbaaGreatDoor.Sg
open Go.RowKit Pt NewI
theorem difB2 {n a b : Int} (h0 : 0 ≤ a ∧ a < n) (h1 : 0 ≤ b ∧ b < n) (h2 : a ≠ b) : difB n [a, b] = true := by
  unfold difB
  rw [decide_eq_true_eq]
  intro i hi
  simp only [List.length_cons, List.length_nil] at hi
  rcases (by omega : i = 0 ∨ i = 1) with rfl | rfl
  · exact ⟨h0, fun j hj => by omega⟩
  · refine ⟨h1, fun j hj => ?_⟩
    obtain rfl : j = 0 := by omega
    exact fun e => h2 e.symm
end Go.Proofs.YtinlnafkmoabbaaGreatDoor.Sg
/- What lies left, as spec tells it: l7Bits, LeftCount, CrossingSum. -/
namespace Go.Proofs.YtinlnafkmoabbaaGreatDoor.Sg
open Go.RowKit Pt NewI
theorem difB2_iff {n a b : Int} : difB n [a, b] = true ↔ (0 ≤ a ∧ a < n) ∧ (0 ≤ b ∧ b < n) ∧ a ≠ b := by
  constructor
  · intro h
    unfold difB at h
    rw [decide_eq_true_eq] at h
    have h0 := h 0 (by simp)
    have h1 := h 1 (by simp)
    have e10 := h1.2 0 (by omega)
    have q0 := h0.1
    have q1 := h1.1
    simp at q0 q1 e10
    exact ⟨q0, q1, fun e => e10 e.symm⟩
  · rintro ⟨h0, h1, h2⟩
    exact difB2 h0 h1 h2
end Go.Proofs.YtinlnafkmoabbaaGreatDoor.Sg
/- What lies left, as spec tells it: CutSets. -/
namespace Go.Proofs.YtinlnafkmoabbaaGreatDoor.Sg
open Go.RowKit Pt NewI
theorem new_low {w : World} {lo lo' hi n : Nat} {a : Option Addr} {f : Nat → Value} (h : New w lo hi a n f) (hl : lo' ≤ lo) : New w lo' hi a n f := by
  rcases h with h | ⟨b, h1, h2, h3, h4⟩
  · exact .inl h
  · exact .inr ⟨b, h1, Nat.le_trans hl h2, h3, h4⟩
end Go.Proofs.YtinlnafkmoabbaaGreatDoor.Sg
