/- Several texts in one: CvMath, CvFour. -/
import Derived.Test.YtinlnafkmoabbaaGreatDoorMgL
import Derived.Test.YtinlnafkmoabbaaGreatDoorMgK
import Derived.Test.YtinlnafkmoabbaaGreatDoorLeHit
/- Convex sets, on plain functions: what is inside a triangle of a set is inside one of its extreme elements; the convex sets that hold no other element inside have an alternating sum. -/
namespace Go.Proofs.YtinlnafkmoabbaaGreatDoor.Sg
/-- Is p inside a triangle of these? -/
def Tri (n : Nat) (s : List UInt8) (X : Nat → Prop) (p : Nat) : Prop := ∃ a b c, X a ∧ X b ∧ X c ∧ In n s p a b c
section
variable {n : Nat} {s : List UInt8}
theorem Tri.mono {X Y : Nat → Prop} {p : Nat} (h : Tri n s X p) (hs : ∀ x, X x → Y x) : Tri n s Y p := by
  obtain ⟨a, b, c, ha, hb, hc, hi⟩ := h
  exact ⟨a, b, c, hs a ha, hs b hb, hs c hc, hi⟩
end
end Go.Proofs.YtinlnafkmoabbaaGreatDoor.Sg
/- Convex sets, on plain functions: those of four elements; the largest one. -/
namespace Go.Proofs.YtinlnafkmoabbaaGreatDoor.Sg
section
variable {n : Nat} {s : List UInt8}
theorem in_bools (h : aciB n s = true) {a b c d : Nat} (h1 : a < b) (h2 : b < c) (h3 : c < d) (h4 : d < n) : ∃ w x y z : Bool, cir (sgnF (lookS n s)) a b c d = cv4 (sg1 w) (sg1 x) (sg1 y) (sg1 z) ∧
    (In n s a b c d ↔ ((x == w) && (y == !w) && (z == w)) = true) ∧ (In n s b a c d ↔ ((w == x) && ((!y) == !x) && ((!z) == x)) = true) ∧ (In n s c a b d ↔ (((!w) == y) && ((!x) == !y) && (z == y)) = true) ∧ (In n s d a b c ↔ ((w == z) && (x == !z) && (y == z)) = true) := by
  have O := om_sgn h
  obtain ⟨w, e0⟩ := O.one (a := b) (b := c) (c := d) (by omega) (by omega) h4 (by omega) (by omega) (by omega)
  obtain ⟨x, e1⟩ := O.one (a := a) (b := c) (c := d) (by omega) (by omega) h4 (by omega) (by omega) (by omega)
  obtain ⟨y, e2⟩ := O.one (a := a) (b := b) (c := d) (by omega) (by omega) h4 (by omega) (by omega) (by omega)
  obtain ⟨z, e3⟩ := O.one (a := a) (b := b) (c := c) (by omega) (by omega) (by omega) (by omega) (by omega) (by omega)
  have r1 := O.s1 (a := a) (b := b) (c := d) (by omega) (by omega) (by omega)
  have r2 := O.s1 (a := a) (b := b) (c := c) (by omega) (by omega) (by omega)
  have r3 := O.s1 (a := b) (b := c) (c := d) (by omega) (by omega) (by omega)
  have r4 := O.s1 (a := a) (b := c) (c := d) (by omega) (by omega) (by omega)
  have r5 := rot (lookS n s) (a := (a : Int)) (b := b) (c := c) (by omega) (by omega) (by omega)
  have r6 := rot (lookS n s) (a := (b : Int)) (b := c) (c := d) (by omega) (by omega) (by omega)
  have r7 := rot (lookS n s) (a := (a : Int)) (b := c) (c := d) (by omega) (by omega) (by omega)
  have r8 := rot (lookS n s) (a := (a : Int)) (b := b) (c := d) (by omega) (by omega) (by omega)
  unfold sgS at e0 e1 e2 e3 r1 r2 r3 r4
  rw [e2, sg1_neg] at r1
  rw [e3, sg1_neg] at r2
  rw [e0, sg1_neg] at r3
  rw [e1, sg1_neg] at r4
  rw [e3] at r5
  rw [e0] at r6
  rw [e1] at r7
  rw [e2] at r8
  refine ⟨w, x, y, z, cir_of e0 e1 e2 e3, ?_, ?_, ?_, ?_⟩
  · unfold In; rw [cir_of e0 e1 e2 e3]; exact (by rw [← isIn_v w x y z]; rfl)
  · unfold In; rw [cir_of e1 e0 r1 r2]; exact (by rw [← isIn_v x w (!y) (!z)]; rfl)
  · unfold In; rw [cir_of e2 r3 r4 r5]; exact (by rw [← isIn_v y (!w) (!x) z]; rfl)
  · unfold In; rw [cir_of e3 r6 r7 r8]; exact (by rw [← isIn_v z w x y]; rfl)
theorem hasI_bools : ∀ w x y z : Bool, patV (cv4 (sg1 w) (sg1 x) (sg1 y) (sg1 z)) = ((((x == w) && (y == !w) && (z == w)) || ((w == x) && ((!y) == !x) && ((!z) == x))) || ((((!w) == y) && ((!x) == !y) && (z == y)) || ((w == z) && (x == !z) && (y == z)))) := by decide +kernel
theorem hasI_yes {f : Int → Int → Int → Int} {a b c d : Nat} (h : patV (cir f a b c d) = true) : hasI f (a, b, c, d) = true := by
  unfold patV at h
  simp only [Bool.or_eq_true, beq_iff_eq] at h
  have na : ((a : Int) == -1) = false := beq_eq_false_iff_ne.2 (by omega)
  have nb : ((b : Int) == -1) = false := beq_eq_false_iff_ne.2 (by omega)
  have nc : ((c : Int) == -1) = false := beq_eq_false_iff_ne.2 (by omega)
  have nd : ((d : Int) == -1) = false := beq_eq_false_iff_ne.2 (by omega)
  unfold hasI
  rcases h with h | h | h | h <;> dsimp only <;> rw [h, inn4_eq] <;> simp <;> omega
theorem has_in (h : aciB n s = true) {a b c d : Nat} (h1 : a < b) (h2 : b < c) (h3 : c < d) (h4 : d < n) : hasI (sgnF (lookS n s)) (a, b, c, d) = true ↔ (In n s a b c d ∨ In n s b a c d) ∨ In n s c a b d ∨ In n s d a b c := by
  obtain ⟨w, x, y, z, e, i1, i2, i3, i4⟩ := in_bools h h1 h2 h3 h4
  have hp : hasI (sgnF (lookS n s)) (a, b, c, d) = patV (cir (sgnF (lookS n s)) a b c d) := by
    cases hc : patV (cir (sgnF (lookS n s)) a b c d)
    · exact hasI_pat hc
    · exact hasI_yes hc
  rw [hp, e, hasI_bools, i1, i2, i3, i4]
  simp only [Bool.or_eq_true]
end
section
variable {n : Nat} {s : List UInt8}
end
end Go.Proofs.YtinlnafkmoabbaaGreatDoor.Sg
