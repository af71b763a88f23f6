/- FnQuads: the facts of its answer: both sets of a circuit, five elements have a four without an inner one, the inner element and its triangle. -/
import Derived.Test.YtinlnafkmoabbaaGreatDoorMgO
namespace Go.Proofs.YtinlnafkmoabbaaGreatDoor.Sg
/-- Two elements exchanged turn the sign. -/
theorem sgnF_s1 (f : Int → Int → Int → Int) {a b c : Int} (h1 : a ≠ b) (h2 : a ≠ c) (h3 : b ≠ c) : sgnF f b a c = -(sgnF f a b c) := by
  unfold sgnF srt
  rcases (by omega : (a < b ∧ b < c) ∨ (a < c ∧ c < b) ∨ (b < a ∧ a < c) ∨ (b < c ∧ c < a) ∨ (c < a ∧ a < b) ∨ (c < b ∧ b < a)) with ⟨x, y⟩ | ⟨x, y⟩ | ⟨x, y⟩ | ⟨x, y⟩ | ⟨x, y⟩ | ⟨x, y⟩ <;>
    simp [x, y, Int.not_lt.2 (Int.le_of_lt x), Int.not_lt.2 (Int.le_of_lt y), Int.lt_trans x y, Int.not_lt.2 (Int.le_of_lt (Int.lt_trans x y))]
theorem sgnF_s2 (f : Int → Int → Int → Int) {a b c : Int} (h1 : a ≠ b) (h2 : a ≠ c) (h3 : b ≠ c) : sgnF f a c b = -(sgnF f a b c) := by
  unfold sgnF srt
  rcases (by omega : (a < b ∧ b < c) ∨ (a < c ∧ c < b) ∨ (b < a ∧ a < c) ∨ (b < c ∧ c < a) ∨ (c < a ∧ a < b) ∨ (c < b ∧ b < a)) with ⟨x, y⟩ | ⟨x, y⟩ | ⟨x, y⟩ | ⟨x, y⟩ | ⟨x, y⟩ | ⟨x, y⟩ <;>
    simp [x, y, Int.not_lt.2 (Int.le_of_lt x), Int.not_lt.2 (Int.le_of_lt y), Int.lt_trans x y, Int.not_lt.2 (Int.le_of_lt (Int.lt_trans x y))]
/-- A circuit by its four signs. -/
def cv4 (v0 v1 v2 v3 : Int) : Int × Int × Int × Int := (v0 * v0, -v1 * v0, v2 * v0, -v3 * v0)
def posV (x : Int × Int × Int × Int) : Bool := x.1 == 1 && (x.2.1 == 1 && (x.2.2.1 == 1 && x.2.2.2 == 1))
theorem posC_v {f : Int → Int → Int → Int} {a b c d v0 v1 v2 v3 : Int} (h0 : f b c d = v0) (h1 : f a c d = v1) (h2 : f a b d = v2) (h3 : f a b c = v3) : posC f a b c d = posV (cv4 v0 v1 v2 v3) := by
  unfold posC
  rw [cir_of h0 h1 h2 h3]
  rfl
theorem pos_swaps {v0 v1 v2 v3 : Int} (s0 : v0 = 1 ∨ v0 = -1) (s1 : v1 = 1 ∨ v1 = -1) (s2 : v2 = 1 ∨ v2 = -1) (s3 : v3 = 1 ∨ v3 = -1) :
    posV (cv4 v1 v0 (-v2) (-v3)) = posV (cv4 v0 v1 v2 v3) ∧ posV (cv4 (-v0) v2 v1 (-v3)) = posV (cv4 v0 v1 v2 v3) ∧ posV (cv4 (-v0) (-v1) v3 v2) = posV (cv4 v0 v1 v2 v3) := by
  rcases s0 with rfl | rfl <;> rcases s1 with rfl | rfl <;> rcases s2 with rfl | rfl <;> rcases s3 with rfl | rfl <;> exact ⟨by decide, by decide, by decide⟩
/-- Different elements below n. -/
def Dis (n a b c d : Nat) : Prop := a < n ∧ b < n ∧ c < n ∧ d < n ∧ a ≠ b ∧ a ≠ c ∧ a ≠ d ∧ b ≠ c ∧ b ≠ d ∧ c ≠ d
theorem pos_perm {n : Nat} {s : List UInt8} (h : arB n s = true) {a b c d : Nat} (hd : Dis n a b c d) :
    posC (sgnF (lookS n s)) b a c d = posC (sgnF (lookS n s)) a b c d ∧ posC (sgnF (lookS n s)) a c b d = posC (sgnF (lookS n s)) a b c d ∧ posC (sgnF (lookS n s)) a b d c = posC (sgnF (lookS n s)) a b c d := by
  obtain ⟨ha, hb, hc, hd, d1, d2, d3, d4, d5, d6⟩ := hd
  have s0 := sgn_one h hb hc hd d4 d6 d5
  have s1 := sgn_one h ha hc hd d2 d6 d3
  have s2 := sgn_one h ha hb hd d1 d5 d3
  have s3 := sgn_one h ha hb hc d1 d4 d2
  have t := pos_swaps s0 s1 s2 s3
  refine ⟨?_, ?_, ?_⟩
  · rw [posC_v rfl rfl (sgnF_s1 _ (by omega) (by omega) (by omega)) (sgnF_s1 _ (by omega) (by omega) (by omega)), t.1, posC_v rfl rfl rfl rfl]
  · rw [posC_v (sgnF_s1 _ (by omega) (by omega) (by omega)) rfl rfl (sgnF_s2 _ (by omega) (by omega) (by omega)), t.2.1, posC_v rfl rfl rfl rfl]
  · rw [posC_v (sgnF_s2 _ (by omega) (by omega) (by omega)) (sgnF_s2 _ (by omega) (by omega) (by omega)) rfl rfl, t.2.2, posC_v rfl rfl rfl rfl]
/-- Acyclic signs have no circuit of one kind, in whatever order the elements come. -/
theorem pos_any {n : Nat} {s : List UInt8} (h : aciB n s = true) {a b c d : Nat} (hd : Dis n a b c d) : posC (sgnF (lookS n s)) a b c d = false := by
  have h' := h
  unfold aciB at h'
  obtain ⟨hm, hac⟩ := Bool.and_eq_true_iff.1 h'
  have har := matB_ar hm
  obtain ⟨-, h7, -⟩ := arB_yes har
  rw [Int.toNat_natCast] at hac
  have S1 := (acB_iff (f := sgnF (lookS n s)) (show n ≤ 7 by omega)).1 hac
  have sw := fun {a b c d : Nat} (hd : Dis n a b c d) => pos_perm har hd
  clear h h' hm hac
  have S2 : ∀ a b c d : Nat, Dis n a b c d → a < b → b < c → b < d → posC (sgnF (lookS n s)) a b c d = false := fun a b c d hd h1 h2 h3 => by
    rcases (by unfold Dis at hd; omega : c < d ∨ d < c) with h4 | h4
    · exact S1 a b c d h1 h2 h4 hd.2.2.2.1
    · rw [← (sw hd).2.2]; exact S1 a b d c h1 h3 h4 hd.2.2.1
  have S3 : ∀ a b c d : Nat, Dis n a b c d → a < b → a < c → a < d → posC (sgnF (lookS n s)) a b c d = false := fun a b c d hd h1 h2 h3 => by
    rcases (by unfold Dis at hd; omega : (b < c ∧ b < d) ∨ (c < b ∧ c < d) ∨ (d < b ∧ d < c)) with ⟨h4, h5⟩ | ⟨h4, h5⟩ | ⟨h4, h5⟩
    · exact S2 a b c d hd h1 h4 h5
    · rw [← (sw hd).2.1]; exact S2 a c b d (by unfold Dis at hd ⊢; omega) h2 h4 h5
    · rw [← (sw hd).2.2, ← (sw (a := a) (b := b) (c := d) (d := c) (by unfold Dis at hd ⊢; omega)).2.1]; exact S2 a d b c (by unfold Dis at hd ⊢; omega) h3 h4 h5
  rcases (by unfold Dis at hd; omega : (a < b ∧ a < c ∧ a < d) ∨ (b < a ∧ b < c ∧ b < d) ∨ (c < a ∧ c < b ∧ c < d) ∨ (d < a ∧ d < b ∧ d < c)) with ⟨h1, h2, h3⟩ | ⟨h1, h2, h3⟩ | ⟨h1, h2, h3⟩ | ⟨h1, h2, h3⟩
  · exact S3 a b c d hd h1 h2 h3
  · rw [← (sw hd).1]; exact S3 b a c d (by unfold Dis at hd ⊢; omega) h1 h2 h3
  · rw [← (sw hd).2.1, ← (sw (a := a) (b := c) (c := b) (d := d) (by unfold Dis at hd ⊢; omega)).1]; exact S3 c a b d (by unfold Dis at hd ⊢; omega) h1 h2 h3
  · rw [← (sw hd).2.2, ← (sw (a := a) (b := b) (c := d) (d := c) (by unfold Dis at hd ⊢; omega)).2.1, ← (sw (a := a) (b := d) (c := b) (d := c) (by unfold Dis at hd ⊢; omega)).1]; exact S3 d a b c (by unfold Dis at hd ⊢; omega) h1 h2 h3
/-- Five elements without a circuit of one kind have a four without an inner one. -/
def patV (x : Int × Int × Int × Int) : Bool := x == (1, -1, -1, -1) || (x == (1, -1, 1, 1) || (x == (1, 1, -1, 1) || x == (1, 1, 1, -1)))
theorem hasI_pat {f : Int → Int → Int → Int} {a b c d : Nat} (h : patV (cir f a b c d) = false) : hasI f (a, b, c, d) = false := by
  unfold patV at h
  simp only [Bool.or_eq_false_iff, beq_eq_false_iff_ne] at h
  unfold hasI inn4
  rw [if_neg h.1, if_neg h.2.1, if_neg h.2.2.1, if_neg h.2.2.2]
  rfl
theorem sg1_of {x : Int} (h : x = 1 ∨ x = -1) : ∃ b, x = sg1 b := by
  rcases h with rfl | rfl
  · exact ⟨true, rfl⟩
  · exact ⟨false, rfl⟩
end Go.Proofs.YtinlnafkmoabbaaGreatDoor.Sg
