/- Several texts in one: LeMath, LeCut, LeApart, LeCross. -/
import Derived.Test.YtinlnafkmoabbaaGreatDoorHuFacts
import Derived.Test.YtinlnafkmoabbaaGreatDoorMgR
import Derived.Test.YtinlnafkmoabbaaGreatDoorRuCount
/- What lies left, on plain functions: signs with elements reversed; each line cuts off a set that leaves no circuit of one kind. -/
namespace Go.Proofs.YtinlnafkmoabbaaGreatDoor.Sg
/-- Signs of three elements that keep the rule. -/
structure Om (n : Nat) (G : Nat → Nat → Nat → Int) : Prop where
  one : ∀ {a b c : Nat}, a < n → b < n → c < n → a ≠ b → a ≠ c → b ≠ c → ∃ x, G a b c = sg1 x
  s1 : ∀ {a b c : Nat}, a ≠ b → a ≠ c → b ≠ c → G b a c = -(G a b c)
  s2 : ∀ {a b c : Nat}, a ≠ b → a ≠ c → b ≠ c → G a c b = -(G a b c)
  rule : ∀ {a b c d e : Nat}, Dif5 n a b c d e → brkV (G a b c) (G a d e) (G a b e) (G a c d) (G a b d) (G a c e) = false
def sgS (n : Nat) (s : List UInt8) (a b c : Nat) : Int := sgnF (lookS n s) a b c
theorem om_sgn {n : Nat} {s : List UInt8} (h : aciB n s = true) : Om n (sgS n s) :=
  ⟨fun ha hb hc h1 h2 h3 => one (matB_ar (aciB_mat h)) ha hb hc h1 h2 h3, fun h1 h2 h3 => sgnF_s1 _ (by omega) (by omega) (by omega), fun h1 h2 h3 => sgnF_s2 _ (by omega) (by omega) (by omega), fun hd => (brk_v (f := sgnF (lookS n s)) rfl rfl rfl rfl rfl rfl).symm.trans (brk_any h hd)⟩
/-- A circuit of one kind. -/
def Pos (G : Nat → Nat → Nat → Int) (a b c d : Nat) : Prop := G a c d = -(G b c d) ∧ G a b d = G b c d ∧ G a b c = -(G b c d)
section
variable {n : Nat} {G : Nat → Nat → Nat → Int}
end
end Go.Proofs.YtinlnafkmoabbaaGreatDoor.Sg
/- What lies left, on plain functions: the sets that a line cuts off are as many as the pairs with one element less to the left. -/
namespace Go.Proofs.YtinlnafkmoabbaaGreatDoor.Sg
/-- A set by what is in it. -/
def setN (p : Nat → Bool) : Nat → Nat
  | 0 => 0
  | k + 1 => setN p k + (if p k = true then 2 ^ k else 0)
theorem setN_lt (p : Nat → Bool) : ∀ k, setN p k < 2 ^ k
  | 0 => by unfold setN; omega
  | k + 1 => by
    have := setN_lt p k
    unfold setN
    rw [Nat.pow_succ]
    split <;> omega
theorem setN_bit (p : Nat → Bool) : ∀ k j, (setN p k).testBit j = (decide (j < k) && p j)
  | 0, j => by unfold setN; simp
  | k + 1, j => by
    have hlt := setN_lt p k
    have ih := setN_bit p k j
    unfold setN
    by_cases hc : p k = true
    · rw [if_pos hc, Nat.add_comm]
      rcases Nat.lt_trichotomy j k with h | h | h
      · rw [Nat.testBit_two_pow_add_gt h, ih]
        simp [h, Nat.lt_succ_of_lt h]
      · subst h
        rw [Nat.testBit_two_pow_add_eq, ih, hc]
        simp
      · rw [Nat.testBit_lt_two_pow (Nat.lt_of_lt_of_le (show 2 ^ k + setN p k < 2 ^ (k + 1) by rw [Nat.pow_succ]; omega) (Nat.pow_le_pow_right (by omega) (by omega)))]
        simp; omega
    · rw [if_neg hc, Nat.add_zero, ih]
      by_cases h : j = k
      · subst h; simp at hc ⊢; exact hc
      · have : decide (j < k + 1) = decide (j < k) := by simp; omega
        rw [this]
section
variable {n : Nat} {s : List UInt8}
end
end Go.Proofs.YtinlnafkmoabbaaGreatDoor.Sg
/- What lies left, on plain functions: a set can be cut off, as spec's l7Apart tells it, if it leaves no circuit of one kind. -/
namespace Go.Proofs.YtinlnafkmoabbaaGreatDoor.Sg
section
variable {n : Nat} {G : Nat → Nat → Nat → Int}
end
section
variable {n : Nat} {s : List UInt8}
theorem in_bits (h : aciB n s = true) {p a b c : Nat} (hd : Dis n p a b c) : ∃ w x y z : Bool, sgS n s a b c = sg1 w ∧ sgS n s p b c = sg1 x ∧ sgS n s p a c = sg1 y ∧ sgS n s p a b = sg1 z ∧ (In n s p a b c ↔ x = w ∧ y = !w ∧ z = w) := by
  obtain ⟨hp, ha, hb, hc, d1, d2, d3, d4, d5, d6⟩ := hd
  have O := om_sgn h
  obtain ⟨w, e0⟩ := O.one ha hb hc d4 d5 d6
  obtain ⟨x, e1⟩ := O.one hp hb hc d2 d3 d6
  obtain ⟨y, e2⟩ := O.one hp ha hc d1 d3 d5
  obtain ⟨z, e3⟩ := O.one hp ha hb d1 d2 d4
  refine ⟨w, x, y, z, e0, e1, e2, e3, ?_⟩
  unfold sgS at e0 e1 e2 e3
  have hv := isIn_v w x y z
  unfold cv4 at hv
  unfold In
  rw [cir_of e0 e1 e2 e3, hv]
  simp only [Bool.and_eq_true, beq_iff_eq, and_assoc]
end
end Go.Proofs.YtinlnafkmoabbaaGreatDoor.Sg
/- What lies left, on plain functions: three times the fours less the crossing sum are the convex fours. -/
namespace Go.Proofs.YtinlnafkmoabbaaGreatDoor.Sg
/-- The pairs of n elements in order. -/
def pairsU (n : Nat) : List (Nat × Nat) := (List.range n).flatMap fun i => (List.range' (i + 1) (n - (i + 1))).map fun j => (i, j)
theorem mem_pairsU0 : ∀ n, n < 8 → ∀ p ∈ pairsU n, p.1 < p.2 ∧ p.2 < n := by decide +kernel
section
variable {n : Nat} {s : List UInt8}
end
end Go.Proofs.YtinlnafkmoabbaaGreatDoor.Sg
