/- Sets of four on plain functions: both sets of a circuit, the inner element, the elements inside a triangle, the fours without an inner one. -/
import Derived.Test.YtinlnafkmoabbaaDoorMgS
namespace Go.Proofs.YtinlnafkmoabbaaDoor.Sg
/-- Has a circuit no 0? -/
def full (x : Int × Int × Int × Int) : Bool := !(x.1 == 0) && (!(x.2.1 == 0) && (!(x.2.2.1 == 0) && !(x.2.2.2 == 0)))
/-- The set of one element. -/
def pw (e : Int) : Int := ((2 ^ e.toNat : Nat) : Int)
/-- Both sets of a circuit. -/
def sets4 (x : Int × Int × Int × Int) (a b c d : Int) : Int × Int :=
  if full x = true then
    ((if x.1 = 1 then pw a else 0) + (if x.2.1 = 1 then pw b else 0) + (if x.2.2.1 = 1 then pw c else 0) + (if x.2.2.2 = 1 then pw d else 0),
     (if x.1 = 1 then 0 else pw a) + (if x.2.1 = 1 then 0 else pw b) + (if x.2.2.1 = 1 then 0 else pw c) + (if x.2.2.2 = 1 then 0 else pw d))
  else (0, 0)
/-- The inner element by a circuit, or -1. -/
def inn4 (x : Int × Int × Int × Int) (a b c d : Int) : Int :=
  if x = (1, -1, -1, -1) then a else if x = (1, -1, 1, 1) then b else if x = (1, 1, -1, 1) then c else if x = (1, 1, 1, -1) then d else -1
/-- Is the first element the inner one? -/
def isIn (x : Int × Int × Int × Int) : Bool := x.1 == 1 && (x.2.1 == -1 && (x.2.2.1 == -1 && x.2.2.2 == -1))
/-- The only element of a set, or -1. -/
def only (m : Int) : Int := if m = 1 then 0 else if m = 2 then 1 else if m = 4 then 2 else if m = 8 then 3 else if m = 16 then 4 else if m = 32 then 5 else if m = 64 then 6 else -1
/-- A circuit by its signs. -/
theorem cir_of {f : Int → Int → Int → Int} {a b c d v0 v1 v2 v3 : Int} (h0 : f b c d = v0) (h1 : f a c d = v1) (h2 : f a b d = v2) (h3 : f a b c = v3) : cir f a b c d = (v0 * v0, -v1 * v0, v2 * v0, -v3 * v0) := by
  unfold cir; rw [h0, h1, h2, h3]
theorem full_iff {f : Int → Int → Int → Int} {a b c d : Int} : full (cir f a b c d) = true ↔ f b c d ≠ 0 ∧ f a c d ≠ 0 ∧ f a b d ≠ 0 ∧ f a b c ≠ 0 := by
  unfold full cir
  simp only [Bool.and_eq_true, Bool.not_eq_true', beq_eq_false_iff_ne, ne_eq, Int.mul_eq_zero, Int.neg_eq_zero, not_or]
  constructor
  · rintro ⟨⟨h1, -⟩, ⟨h2, -⟩, ⟨h3, -⟩, h4, -⟩
    exact ⟨h1, h2, h3, h4⟩
  · rintro ⟨h1, h2, h3, h4⟩
    exact ⟨⟨h1, h1⟩, ⟨h2, h1⟩, ⟨h3, h1⟩, h4, h1⟩
/-- A full circuit of signs is 1 and three signs. -/
theorem full_form {f : Int → Int → Int → Int} {a b c d : Int} (hf : ∀ x y z, -1 ≤ f x y z ∧ f x y z ≤ 1) (h : full (cir f a b c d) = true) :
    ∃ p q r : Bool, cir f a b c d = (1, if p then 1 else -1, if q then 1 else -1, if r then 1 else -1) := by
  obtain ⟨h0, h1, h2, h3⟩ := full_iff.1 h
  have b0 := hf b c d
  have b1 := hf a c d
  have b2 := hf a b d
  have b3 := hf a b c
  obtain ⟨v0, e0⟩ : ∃ v, f b c d = v := ⟨_, rfl⟩
  obtain ⟨v1, e1⟩ : ∃ v, f a c d = v := ⟨_, rfl⟩
  obtain ⟨v2, e2⟩ : ∃ v, f a b d = v := ⟨_, rfl⟩
  obtain ⟨v3, e3⟩ : ∃ v, f a b c = v := ⟨_, rfl⟩
  rw [cir_of e0 e1 e2 e3]
  rw [e0] at h0 b0; rw [e1] at h1 b1; rw [e2] at h2 b2; rw [e3] at h3 b3
  have s0 : v0 = 1 ∨ v0 = -1 := by omega
  have s1 : v1 = 1 ∨ v1 = -1 := by omega
  have s2 : v2 = 1 ∨ v2 = -1 := by omega
  have s3 : v3 = 1 ∨ v3 = -1 := by omega
  refine ⟨decide (-v1 * v0 = 1), decide (v2 * v0 = 1), decide (-v3 * v0 = 1), ?_⟩
  rcases s0 with rfl | rfl <;> rcases s1 with rfl | rfl <;> rcases s2 with rfl | rfl <;> rcases s3 with rfl | rfl <;> rfl
/-- Has a four an inner element? -/
def hasI (f : Int → Int → Int → Int) (t : T4) : Bool := !(inn4 (cir f t.1 t.2.1 t.2.2.1 t.2.2.2) t.1 t.2.1 t.2.2.1 t.2.2.2 == -1)
def quads (f : Int → Int → Int → Int) (n : Nat) : List T4 := (fours n).filter fun t => !hasI f t
def bit (b : Bool) : Nat := if b then 1 else 0
end Go.Proofs.YtinlnafkmoabbaaDoor.Sg
