/- Several texts in one: HuMath, HuSortMath. -/
import Derived.Test.YtinlnafkmoabbaaGreatDoorQuFacts
import Derived.Test.YtinlnafkmoabbaaGreatDoorMgP
/- Hulls on plain functions: acyclic signs that keep the rule leave an element outside all triangles in each set that is not empty. -/
namespace Go.Proofs.YtinlnafkmoabbaaGreatDoor.Sg
/-- The rule on six signs. -/
def brkV (x1 x2 x3 x4 x5 x6 : Int) : Bool := (x1 * x2 == x3 * x4) && (x1 * x2 == -x5 * x6)
theorem brk_v {f : Int → Int → Int → Int} {a b c d e : Nat} {x1 x2 x3 x4 x5 x6 : Int} (h1 : f a b c = x1) (h2 : f a d e = x2) (h3 : f a b e = x3) (h4 : f a c d = x4) (h5 : f a b d = x5) (h6 : f a c e = x6) : brk f a b c d e = brkV x1 x2 x3 x4 x5 x6 := by
  unfold brk brkV; rw [h1, h2, h3, h4, h5, h6]
theorem brk_bools2 : ∀ b1 b2 b3 b4 b5 b6 : Bool,
    ((brkV (-(sg1 b1)) (sg1 b2) (sg1 b6) (sg1 b5) (sg1 b4) (sg1 b3) == brkV (sg1 b1) (sg1 b2) (sg1 b3) (sg1 b4) (sg1 b5) (sg1 b6)) &&
    (brkV (sg1 b5) (sg1 b6) (sg1 b3) (-(sg1 b4)) (sg1 b1) (sg1 b2) == brkV (sg1 b1) (sg1 b2) (sg1 b3) (sg1 b4) (sg1 b5) (sg1 b6)) &&
    (brkV (sg1 b1) (-(sg1 b2)) (sg1 b5) (sg1 b6) (sg1 b3) (sg1 b4) == brkV (sg1 b1) (sg1 b2) (sg1 b3) (sg1 b4) (sg1 b5) (sg1 b6))) = true := by decide +kernel
/-- Different elements below n: five of them. -/
def Dif5 (n a b c d e : Nat) : Prop := a < n ∧ b < n ∧ c < n ∧ d < n ∧ e < n ∧ a ≠ b ∧ a ≠ c ∧ a ≠ d ∧ a ≠ e ∧ b ≠ c ∧ b ≠ d ∧ b ≠ e ∧ c ≠ d ∧ c ≠ e ∧ d ≠ e
section
variable {n : Nat} {s : List UInt8}
theorem one (h : arB n s = true) {a b c : Nat} (ha : a < n) (hb : b < n) (hc : c < n) (h1 : a ≠ b) (h2 : a ≠ c) (h3 : b ≠ c) : ∃ x, sgnF (lookS n s) a b c = sg1 x :=
  sg1_of (sgn_one h ha hb hc h1 h3 h2)
theorem rot (f : Int → Int → Int → Int) {a b c : Int} (h1 : a ≠ b) (h2 : a ≠ c) (h3 : b ≠ c) : sgnF f c a b = sgnF f a b c := by
  rw [sgnF_s1 f h2 h1 (fun e => h3 e.symm), sgnF_s2 f h1 h2 h3, Int.neg_neg]
theorem brk_perm (h : arB n s = true) {a b c d e : Nat} (hd : Dif5 n a b c d e) :
    brk (sgnF (lookS n s)) a c b d e = brk (sgnF (lookS n s)) a b c d e ∧ brk (sgnF (lookS n s)) a b d c e = brk (sgnF (lookS n s)) a b c d e ∧ brk (sgnF (lookS n s)) a b c e d = brk (sgnF (lookS n s)) a b c d e := by
  obtain ⟨ha, hb, hc, hd, he, d1, d2, d3, d4, d5, d6, d7, d8, d9, d10⟩ := hd
  obtain ⟨b1, e1⟩ := one h ha hb hc d1 d2 d5
  obtain ⟨b2, e2⟩ := one h ha hd he d3 d4 d10
  obtain ⟨b3, e3⟩ := one h ha hb he d1 d4 d7
  obtain ⟨b4, e4⟩ := one h ha hc hd d2 d3 d8
  obtain ⟨b5, e5⟩ := one h ha hb hd d1 d3 d6
  obtain ⟨b6, e6⟩ := one h ha hc he d2 d4 d9
  have key := brk_bools2 b1 b2 b3 b4 b5 b6
  simp only [Bool.and_eq_true, beq_iff_eq] at key
  obtain ⟨⟨k1, k2⟩, k3⟩ := key
  have r1 : sgnF (lookS n s) a c b = -(sg1 b1) := by rw [sgnF_s2 _ (by omega) (by omega) (by omega), e1]
  have r2 : sgnF (lookS n s) a d c = -(sg1 b4) := by rw [sgnF_s2 _ (by omega) (by omega) (by omega), e4]
  have r3 : sgnF (lookS n s) a e d = -(sg1 b2) := by rw [sgnF_s2 _ (by omega) (by omega) (by omega), e2]
  rw [brk_v e1 e2 e3 e4 e5 e6]
  exact ⟨by rw [brk_v r1 e2 e6 e5 e4 e3]; exact k1, by rw [brk_v e5 e6 e3 r2 e1 e2]; exact k2, by rw [brk_v e1 r3 e5 e6 e3 e4]; exact k3⟩
/-- No five elements break the rule, in whatever order they come. -/
theorem brk_any (h : aciB n s = true) {a b c d e : Nat} (hd : Dif5 n a b c d e) : brk (sgnF (lookS n s)) a b c d e = false := by
  have hm := aciB_mat h
  have har := matB_ar hm
  obtain ⟨-, h7, -⟩ := arB_yes har
  have hok : okB (sgnF (lookS n s)) n = true := by
    unfold matB at hm
    have := (Bool.and_eq_true_iff.1 hm).2
    rwa [Int.toNat_natCast] at this
  have S0 := (okB_iff (f := sgnF (lookS n s)) (show n ≤ 7 by omega)).1 hok
  have sw := fun {b c d e : Nat} (hd : Dif5 n a b c d e) => brk_perm har hd
  clear h hm hok
  have S1 : ∀ b c d e : Nat, Dif5 n a b c d e → b < c → c < d → d < e → brk (sgnF (lookS n s)) a b c d e = false := fun b c d e hd h1 h2 h3 => S0 a b c d e (by unfold Dif5 at hd; unfold Val; omega)
  have S2 : ∀ b c d e : Nat, Dif5 n a b c d e → b < c → c < d → c < e → brk (sgnF (lookS n s)) a b c d e = false := fun b c d e hd h1 h2 h3 => by
    rcases (by unfold Dif5 at hd; omega : d < e ∨ e < d) with h4 | h4
    · exact S1 b c d e hd h1 h2 h4
    · rw [← (sw hd).2.2]; exact S1 b c e d (by unfold Dif5 at hd ⊢; omega) h1 h3 h4
  have S3 : ∀ b c d e : Nat, Dif5 n a b c d e → b < c → b < d → b < e → brk (sgnF (lookS n s)) a b c d e = false := fun b c d e hd h1 h2 h3 => by
    rcases (by unfold Dif5 at hd; omega : (c < d ∧ c < e) ∨ (d < c ∧ d < e) ∨ (e < c ∧ e < d)) with ⟨h4, h5⟩ | ⟨h4, h5⟩ | ⟨h4, h5⟩
    · exact S2 b c d e hd h1 h4 h5
    · rw [← (sw hd).2.1]; exact S2 b d c e (by unfold Dif5 at hd ⊢; omega) h2 h4 h5
    · rw [← (sw hd).2.2, ← (sw (b := b) (c := c) (d := e) (e := d) (by unfold Dif5 at hd ⊢; omega)).2.1]; exact S2 b e c d (by unfold Dif5 at hd ⊢; omega) h3 h4 h5
  rcases (by unfold Dif5 at hd; omega : (b < c ∧ b < d ∧ b < e) ∨ (c < b ∧ c < d ∧ c < e) ∨ (d < b ∧ d < c ∧ d < e) ∨ (e < b ∧ e < c ∧ e < d)) with ⟨h1, h2, h3⟩ | ⟨h1, h2, h3⟩ | ⟨h1, h2, h3⟩ | ⟨h1, h2, h3⟩
  · exact S3 b c d e hd h1 h2 h3
  · rw [← (sw hd).1]; exact S3 c b d e (by unfold Dif5 at hd ⊢; omega) h1 h2 h3
  · rw [← (sw hd).2.1, ← (sw (b := b) (c := d) (d := c) (e := e) (by unfold Dif5 at hd ⊢; omega)).1]; exact S3 d b c e (by unfold Dif5 at hd ⊢; omega) h1 h2 h3
  · rw [← (sw hd).2.2, ← (sw (b := b) (c := c) (d := e) (e := d) (by unfold Dif5 at hd ⊢; omega)).2.1, ← (sw (b := b) (c := e) (d := c) (e := d) (by unfold Dif5 at hd ⊢; omega)).1]; exact S3 e b c d (by unfold Dif5 at hd ⊢; omega) h1 h2 h3
end
/-- Is p inside the triangle? -/
def In (n : Nat) (s : List UInt8) (p a b c : Nat) : Prop := isIn (cir (sgnF (lookS n s)) p a b c) = true
/-- Around p, a, b, c go round. -/
def Cyc (F : Int → Int → Int → Int) (p a b c : Nat) : Prop := F p a b = F p b c ∧ F p a b = -(F p a c)
section
variable {n : Nat} {s : List UInt8}
theorem in_dis (h : aciB n s = true) {p a b c : Nat} (hi : In n s p a b c) : Dis n p a b c := by
  unfold In at hi
  have hf : full (cir (sgnF (lookS n s)) p a b c) = true := by
    cases hf : full (cir (sgnF (lookS n s)) p a b c)
    · rw [isIn_no hf] at hi; cases hi
    · rfl
  have := difB4.1 (dif_of_full (matB_ar (aciB_mat h)) hf)
  unfold Dis; omega
theorem isIn_v : ∀ w x y z : Bool, isIn (cv4 (sg1 w) (sg1 x) (sg1 y) (sg1 z)) = ((x == w) && (y == !w) && (z == w)) := by decide +kernel
theorem pos_v : ∀ w x y z : Bool, posV (cv4 (sg1 w) (sg1 x) (sg1 y) (sg1 z)) = ((x == !w) && (y == w) && (z == !w)) := by decide +kernel
theorem sg1_inj {a b : Bool} : sg1 a = sg1 b ↔ a = b := by cases a <;> cases b <;> simp [sg1]
theorem sg1_neg (a : Bool) : -(sg1 a) = sg1 (!a) := by cases a <;> rfl
theorem in_cyc (h : aciB n s = true) {p a b c : Nat} (hd : Dis n p a b c) : In n s p a b c ↔ Cyc (sgnF (lookS n s)) p a b c := by
  have har := matB_ar (aciB_mat h)
  have hpos := pos_any h hd
  obtain ⟨hp, ha, hb, hc, d1, d2, d3, d4, d5, d6⟩ := hd
  obtain ⟨w, e0⟩ := one har ha hb hc d4 d5 d6
  obtain ⟨x, e1⟩ := one har hp hb hc d2 d3 d6
  obtain ⟨y, e2⟩ := one har hp ha hc d1 d3 d5
  obtain ⟨z, e3⟩ := one har hp ha hb d1 d2 d4
  unfold In Cyc
  rw [posC_v e0 e1 e2 e3, pos_v] at hpos
  have hv := isIn_v w x y z
  unfold cv4 at hv
  rw [cir_of e0 e1 e2 e3, hv, e1, e2, e3, sg1_neg, sg1_inj, sg1_inj]
  cases w <;> cases x <;> cases y <;> cases z <;> simp_all
theorem cyc_s1 {F : Int → Int → Int → Int} {p a b c : Nat} (h1 : F p b a = -(F p a b)) (hc : Cyc F p a b c) : Cyc F p b a c := by
  unfold Cyc at hc ⊢
  rw [h1]
  obtain ⟨k1, k2⟩ := hc
  exact ⟨by omega, by omega⟩
theorem cyc_s2 {F : Int → Int → Int → Int} {p a b c : Nat} (h1 : F p c b = -(F p b c)) (hc : Cyc F p a b c) : Cyc F p a c b := by
  unfold Cyc at hc ⊢
  rw [h1]
  obtain ⟨k1, k2⟩ := hc
  exact ⟨by omega, by omega⟩
theorem in_s1 (h : aciB n s = true) {p a b c : Nat} (hi : In n s p a b c) : In n s p b a c := by
  have hd := in_dis h hi
  unfold Dis at hd
  exact (in_cyc h (by unfold Dis; omega)).2 (cyc_s1 (sgnF_s2 _ (by omega) (by omega) (by omega)) ((in_cyc h (by unfold Dis; omega)).1 hi))
theorem in_s2 (h : aciB n s = true) {p a b c : Nat} (hi : In n s p a b c) : In n s p a c b := by
  have hd := in_dis h hi
  unfold Dis at hd
  exact (in_cyc h (by unfold Dis; omega)).2 (cyc_s2 (sgnF_s2 _ (by omega) (by omega) (by omega)) ((in_cyc h (by unfold Dis; omega)).1 hi))
end
end Go.Proofs.YtinlnafkmoabbaaGreatDoor.Sg
/- Insertion from the right in a list of elements by any order: what a list becomes; it is sorted if the order is one. Plain mathematics. -/
namespace Go.Proofs.YtinlnafkmoabbaaGreatDoor.HuSort
def get0 (l : List Nat) (i : Nat) : Nat := l.getD i 0
/-- Where x goes among the first m of l, asked from the right. -/
def pos (bef : Nat → Nat → Bool) (x : Nat) (l : List Nat) : Nat → Nat
  | 0 => 0
  | m + 1 => if bef x (get0 l m) then pos bef x l m else m + 1
def put (x : Nat) (l : List Nat) (k : Nat) : List Nat := l.take k ++ x :: l.drop k
end Go.Proofs.YtinlnafkmoabbaaGreatDoor.HuSort
