/- Convex sets, on plain functions: what is inside a triangle of a set is inside one of its extreme elements; the convex sets that hold no other element inside have an alternating sum. -/
import Derived.Test.YtinlnafkmoabbaaGreatDoorMgL
import Derived.Test.YtinlnafkmoabbaaGreatDoorMgK
namespace Go.Proofs.YtinlnafkmoabbaaGreatDoor.Sg
/-- Is p inside a triangle of these? -/
def Tri (n : Nat) (s : List UInt8) (X : Nat → Prop) (p : Nat) : Prop := ∃ a b c, X a ∧ X b ∧ X c ∧ In n s p a b c
section
variable {n : Nat} {s : List UInt8}
theorem Tri.mono {X Y : Nat → Prop} {p : Nat} (h : Tri n s X p) (hs : ∀ x, X x → Y x) : Tri n s Y p := by
  obtain ⟨a, b, c, ha, hb, hc, hi⟩ := h
  exact ⟨a, b, c, hs a ha, hs b hb, hs c hc, hi⟩
end
end Go.Proofs.YtinlnafkmoabbaaGreatDoor.Sg
