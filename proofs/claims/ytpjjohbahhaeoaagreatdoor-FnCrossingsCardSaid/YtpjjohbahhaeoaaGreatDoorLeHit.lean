/- What lies left, on plain functions: a set is divided by no four elements' circuit just if it leaves no circuit of one kind; the orders in which impl goes through pairs. -/
import Derived.Test.YtpjjohbahhaeoaaGreatDoorMgM

namespace Go.Proofs.YtpjjohbahhaeoaaGreatDoor.Sg
/-- Does the set divide these sets' elements as they do? -/
def hitB (S x y : Nat) : Bool := S &&& (x ||| y) == x || S &&& (x ||| y) == y
def spX (p q r : Bool) (t : T4) : Nat := 2 ^ t.1 + (if p then 2 ^ t.2.1 else 0) + (if q then 2 ^ t.2.2.1 else 0) + (if r then 2 ^ t.2.2.2 else 0)
def spY (p q r : Bool) (t : T4) : Nat := 0 + (if p then 0 else 2 ^ t.2.1) + (if q then 0 else 2 ^ t.2.2.1) + (if r then 0 else 2 ^ t.2.2.2)
theorem hit_core0 : ((fours 7).all fun t => [false, true].all fun p => [false, true].all fun q => [false, true].all fun r => (List.range 128).all fun S =>
    hitB S (spX p q r t) (spY p q r t) == (((S.testBit t.1 == S.testBit t.2.1) == p) && (((S.testBit t.1 == S.testBit t.2.2.1) == q) && ((S.testBit t.1 == S.testBit t.2.2.2) == r)))) = true := by decide +kernel
theorem hit_core {a b c d : Nat} (h1 : a < b) (h2 : b < c) (h3 : c < d) (h4 : d < 7) (p q r : Bool) {S : Nat} (hS : S < 128) :
    hitB S (spX p q r (a, b, c, d)) (spY p q r (a, b, c, d)) = (((S.testBit a == S.testBit b) == p) && (((S.testBit a == S.testBit c) == q) && ((S.testBit a == S.testBit d) == r))) := by
  have key := hit_core0
  simp only [List.all_eq_true, List.mem_range, beq_iff_eq] at key
  have hb : ∀ x : Bool, x ∈ [false, true] := fun x => by cases x <;> simp
  exact key (a, b, c, d) (fours_has (by omega) h1 h2 h3 h4) p (hb p) q (hb q) r (hb r) S hS
/-- The two sets of four elements, as numbers. -/
def spA (F : Int → Int → Int → Int) (t : T4) : Nat := (sets4 (cir F t.1 t.2.1 t.2.2.1 t.2.2.2) t.1 t.2.1 t.2.2.1 t.2.2.2).1.toNat
def spB (F : Int → Int → Int → Int) (t : T4) : Nat := (sets4 (cir F t.1 t.2.1 t.2.2.1 t.2.2.2) t.1 t.2.1 t.2.2.1 t.2.2.2).2.toNat
section
variable {n : Nat} {s : List UInt8}
theorem sp_of (h : aciB n s = true) {a b c d : Nat} (h1 : a < b) (h2 : b < c) (h3 : c < d) (h4 : d < n) : ∃ w x y z : Bool, sgS n s b c d = sg1 w ∧ sgS n s a c d = sg1 x ∧ sgS n s a b d = sg1 y ∧ sgS n s a b c = sg1 z ∧
    sets4 (cir (sgnF (lookS n s)) a b c d) a b c d = (((spX (x == !w) (y == w) (z == !w) (a, b, c, d) : Nat) : Int), ((spY (x == !w) (y == w) (z == !w) (a, b, c, d) : Nat) : Int)) := by
  obtain ⟨w, x, y, z, e0, e1, e2, e3, -⟩ := in_bits h (p := a) (a := b) (b := c) (c := d) (by unfold Dis; omega)
  refine ⟨w, x, y, z, e0, e1, e2, e3, ?_⟩
  unfold sgS at e0 e1 e2 e3
  have key : cir (sgnF (lookS n s)) a b c d = (1, sg1 (x == !w), sg1 (y == w), sg1 (z == !w)) := by
    rw [cir_of e0 e1 e2 e3]
    cases w <;> cases x <;> cases y <;> cases z <;> rfl
  have hpw : ∀ t : Nat, pw (t : Int) = ((2 ^ t : Nat) : Int) := fun t => by unfold pw; simp
  rw [key, sets4_of, hpw, hpw, hpw, hpw]
  unfold spX spY
  generalize (x == !w) = p
  generalize (y == w) = q
  generalize (z == !w) = r
  cases p <;> cases q <;> cases r <;> simp
theorem two_le (a b c d : Nat) (p q r : Bool) (h1 : a < b) (h2 : b < c) (h3 : c < d) (h4 : d < 7) : spX p q r (a, b, c, d) < 128 ∧ spY p q r (a, b, c, d) < 128 := by
  have e0 : 2 ^ (a + 1) ≤ 2 ^ b := Nat.pow_le_pow_right (by omega) (by omega)
  have e1 : 2 ^ (b + 1) ≤ 2 ^ c := Nat.pow_le_pow_right (by omega) (by omega)
  have e2 : 2 ^ (c + 1) ≤ 2 ^ d := Nat.pow_le_pow_right (by omega) (by omega)
  have e3 : 2 ^ d ≤ 2 ^ 6 := Nat.pow_le_pow_right (by omega) (by omega)
  rw [Nat.pow_succ] at e0 e1 e2
  unfold spX spY
  cases p <;> cases q <;> cases r <;> simp <;> omega
theorem sp_eq (h : aciB n s = true) {t : T4} (ht : t ∈ fours n) : sets4 (cir (sgnF (lookS n s)) t.1 t.2.1 t.2.2.1 t.2.2.2) t.1 t.2.1 t.2.2.1 t.2.2.2 = (((spA (sgnF (lookS n s)) t : Nat) : Int), ((spB (sgnF (lookS n s)) t : Nat) : Int)) ∧ spA (sgnF (lookS n s)) t < 128 ∧ spB (sgnF (lookS n s)) t < 128 := by
  have h7 := (aciB_n h).2
  obtain ⟨h1, h2, h3, h4⟩ := fours_mem (show n ≤ 7 by omega) ht
  obtain ⟨w, x, y, z, -, -, -, -, e⟩ := sp_of h h1 h2 h3 h4
  have pa := two_le t.1 t.2.1 t.2.2.1 t.2.2.2 (x == !w) (y == w) (z == !w) h1 h2 h3 (show t.2.2.2 < 7 by omega)
  unfold spA spB
  rw [e]
  exact ⟨by simp, by simpa using pa.1, by simpa using pa.2⟩
theorem hit_pos (h : aciB n s = true) {a b c d : Nat} (h1 : a < b) (h2 : b < c) (h3 : c < d) (h4 : d < n) {S : Nat} (hS : S < 2 ^ n) :
    hitB S (spA (sgnF (lookS n s)) (a, b, c, d)) (spB (sgnF (lookS n s)) (a, b, c, d)) = true ↔ Pos (rvG S (sgS n s)) a b c d := by
  have h7 := (aciB_n h).2
  have h7 : n ≤ 7 := by omega
  have hS7 : S < 128 := Nat.lt_of_lt_of_le hS (Nat.pow_le_pow_right (by omega) h7 : 2 ^ n ≤ 2 ^ 7)
  obtain ⟨w, x, y, z, e0, e1, e2, e3, e⟩ := sp_of h h1 h2 h3 h4
  rw [pos_bits S e0 e1 e2 e3]
  unfold spA spB
  simp only
  rw [e]
  simp only [Int.toNat_natCast]
  rw [hit_core h1 h2 h3 (by omega) _ _ _ hS7]
  cases S.testBit a <;> cases S.testBit b <;> cases S.testBit c <;> cases S.testBit d <;> cases w <;> cases x <;> cases y <;> cases z <;> decide
/-- The sets of all fours. -/
def splL (F : Int → Int → Int → Int) (n : Nat) : List (Nat × Nat) := (fours n).map fun t => (spA F t, spB F t)
theorem cut_iff (h : aciB n s = true) {S : Nat} (hS : S < 2 ^ n) : ((splL (sgnF (lookS n s)) n).any fun p => hitB S p.1 p.2) = !acS n s S := by
  have h7 := (aciB_n h).2
  unfold splL
  rw [List.any_map]
  cases hc : acS n s S
  · show _ = true
    rw [List.any_eq_true]
    have hne : ¬ ∀ a b c d, a < b → b < c → c < d → d < n → ¬ Pos (rvG S (sgS n s)) a b c d := fun hall => by
      rw [(acS_iff h S).2 hall] at hc; cases hc
    obtain ⟨a, ha⟩ := Classical.not_forall.1 hne
    obtain ⟨b, ha⟩ := Classical.not_forall.1 ha
    obtain ⟨c, ha⟩ := Classical.not_forall.1 ha
    obtain ⟨d, ha⟩ := Classical.not_forall.1 ha
    obtain ⟨h1, ha⟩ := Classical.not_forall.1 ha
    obtain ⟨h2, ha⟩ := Classical.not_forall.1 ha
    obtain ⟨h3, ha⟩ := Classical.not_forall.1 ha
    obtain ⟨h4, ha⟩ := Classical.not_forall.1 ha
    exact ⟨(a, b, c, d), fours_has (by omega) h1 h2 h3 h4, (hit_pos h h1 h2 h3 h4 hS).2 (Classical.not_not.1 ha)⟩
  · show _ = false
    rw [List.any_eq_false]
    rintro ⟨a, b, c, d⟩ ht hh
    obtain ⟨h1, h2, h3, h4⟩ := fours_mem (show n ≤ 7 by omega) ht
    exact (acS_iff h S).1 hc a b c d h1 h2 h3 h4 ((hit_pos h h1 h2 h3 h4 hS).1 hh)
end
/-- Pairs by the greater element. -/
def pJ (j i : Nat) : List (Nat × Nat) := (List.range i).map fun a => (a, j)
def pG (j : Nat) : List (Nat × Nat) := (List.range j).flatMap fun b => pJ b b
def both (L : List (Nat × Nat)) : List (Nat × Nat) := L.flatMap fun p => [p, (p.2, p.1)]
theorem pJ_succ (j i : Nat) : pJ j (i + 1) = pJ j i ++ [(i, j)] := by unfold pJ; rw [List.range_succ, List.map_append]; rfl
theorem pG_succ (j : Nat) : pG (j + 1) = pG j ++ pJ j j := by unfold pG; rw [List.range_succ, List.flatMap_append]; simp
theorem both_snoc (L : List (Nat × Nat)) (p : Nat × Nat) : both (L ++ [p]) = both L ++ [p, (p.2, p.1)] := by unfold both; rw [List.flatMap_append]; simp
theorem pG_perm0 : ∀ n, n < 8 → (pG n).isPerm (pairsU n) = true := by decide +kernel
theorem pG_perm {n : Nat} (h : n ≤ 7) : (pG n).Perm (pairsU n) := List.isPerm_iff.1 (pG_perm0 n (by omega))
theorem both_perm0 : ∀ n, n < 8 → (both (pG n)).isPerm (pairsN n) = true := by decide +kernel
theorem both_perm {n : Nat} (h : n ≤ 7) : (both (pG n)).Perm (pairsN n) := List.isPerm_iff.1 (both_perm0 n (by omega))
theorem pairsU_len28 (j : Nat) (hj : j ≤ 7) : (pairsU j).length ≤ 28 := by
  rcases (by omega : j = 0 ∨ j = 1 ∨ j = 2 ∨ j = 3 ∨ j = 4 ∨ j = 5 ∨ j = 6 ∨ j = 7) with rfl | rfl | rfl | rfl | rfl | rfl | rfl | rfl <;> decide
/-- The crossing sum as impl adds it up. -/
def cr2 (q : Nat → Nat → Nat) (L : List (Nat × Nat)) : Nat := (L.map fun p => q p.1 p.2 * q p.2 p.1).sum
theorem cr2_snoc (q : Nat → Nat → Nat) (L : List (Nat × Nat)) (p : Nat × Nat) : cr2 q (L ++ [p]) = cr2 q L + q p.1 p.2 * q p.2 p.1 := by unfold cr2; rw [List.map_append, List.sum_append]; simp
theorem cr2_all (F : Int → Int → Int → Int) {n : Nat} (h : n ≤ 7) : cr2 (leftN F n) (pG n) = crossN F n := by
  unfold cr2 crossN
  exact ((pG_perm h).map _).sum_nat
theorem cr2_le {q : Nat → Nat → Nat} {b : Nat} : ∀ {L : List (Nat × Nat)}, (∀ p ∈ L, q p.1 p.2 * q p.2 p.1 ≤ b) → cr2 q L ≤ b * L.length
  | [], _ => by simp [cr2]
  | p :: L, h => by
    have ih := cr2_le (L := L) fun p hp => h p (List.mem_cons_of_mem _ hp)
    have h0 := h p List.mem_cons_self
    have e : cr2 q (p :: L) = q p.1 p.2 * q p.2 p.1 + cr2 q L := rfl
    rw [e, List.length_cons, Nat.mul_add, Nat.mul_one]
    omega
/-- How many of the pairs have x to the left, as impl counts them. -/
def cn2 (q : Nat → Nat → Nat) (L : List (Nat × Nat)) (x : Nat) : Nat := L.countP fun p => q p.1 p.2 == x
theorem cn2_snoc (q : Nat → Nat → Nat) (L : List (Nat × Nat)) (p : Nat × Nat) (x : Nat) : cn2 q (L ++ [p]) x = cn2 q L x + bit (q p.1 p.2 == x) := by
  unfold cn2
  rw [List.countP_append, List.countP_singleton]
  cases (q p.1 p.2 == x) <;> rfl
theorem cn2_le (q : Nat → Nat → Nat) (L : List (Nat × Nat)) (x : Nat) : cn2 q L x ≤ L.length := List.countP_le_length
theorem cn2_all (q : Nat → Nat → Nat) {n : Nat} (h : n ≤ 7) (x : Nat) : cn2 q (both (pG n)) x = (pairsN n).countP fun p => q p.1 p.2 == x := (both_perm h).countP_eq _
end Go.Proofs.YtpjjohbahhaeoaaGreatDoor.Sg
