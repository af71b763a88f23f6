/- Several texts in one: KrMath, KrHull, KrSpec, KrCross, KrPairs, KrSets. -/
import Derived.Test.YtinlnafkmoabbaaGreatDoorMgY
import Derived.Test.YtinlnafkmoabbaaGreatDoorMgM
import Derived.Test.YtinlnafkmoabbaaGreatDoorTakeH
/- Crossings, on plain functions: when two edges cross; that none crosses a hull edge; how many pairs cross. -/
namespace Go.Proofs.YtinlnafkmoabbaaGreatDoor.Sg
/-- Do two edges without a common element cross, as the sets of the circuit tell it? -/
def crA (F : Int → Int → Int → Int) (a b c d : Nat) : Bool := (sets4 (cir F a b c d) a b c d).1 == pw a + pw b
def crsF (F : Int → Int → Int → Int) (a b c d : Nat) : Bool := !(a == c || (a == d || (b == c || b == d))) && crA F a b c d
def crI (a b c d : Nat) (p q r : Bool) : Bool :=
  let x : Int × Int × Int × Int := (1, if p then 1 else -1, if q then 1 else -1, if r then 1 else -1)
  (a == b || a == c || a == d || b == c || b == d || c == d) || (((sets4 x a b c d).1 == pw a + pw b) == (p && (!q && !r)))
theorem crI_all : ((List.range 7).all fun a => (List.range 7).all fun b => (List.range 7).all fun c => (List.range 7).all fun d => [true, false].all fun p => [true, false].all fun q => [true, false].all fun r => crI a b c d p q r) = true := by decide +kernel
theorem cv4_bools : ∀ w x y z : Bool, cv4 (sg1 w) (sg1 x) (sg1 y) (sg1 z) = (1, if (x == !w) then 1 else -1, if (y == w) then 1 else -1, if (z == !w) then 1 else -1) := by decide
section
variable {n : Nat} {s : List UInt8}
/-- Opposite sides both ways. -/
def Opp (n : Nat) (s : List UInt8) (a b c d : Nat) : Prop := sgS n s a c d = -(sgS n s b c d) ∧ sgS n s a b d = -(sgS n s a b c)
theorem crA_iff (h : aciB n s = true) {a b c d : Nat} (hd : Dis n a b c d) : crA (sgnF (lookS n s)) a b c d = true ↔ Opp n s a b c d := by
  have h7 := (aciB_n h).2
  have hp := pos_any h hd
  have hd0 := hd
  unfold Dis at hd
  obtain ⟨w, x, y, z, e0, e1, e2, e3, -⟩ := in_bits h hd0
  unfold Opp
  rw [e0, e1, e2, e3, sg1_neg, sg1_neg, sg1_inj, sg1_inj]
  unfold sgS at e0 e1 e2 e3
  rw [posC_v e0 e1 e2 e3, pos_v] at hp
  have key := crI_all
  simp only [List.all_eq_true, List.mem_range] at key
  have k := key a (by omega) b (by omega) c (by omega) d (by omega) (x == !w) (by cases x <;> cases w <;> simp) (y == w) (by cases y <;> cases w <;> simp) (z == !w) (by cases z <;> cases w <;> simp)
  unfold crI at k
  have hc : cir (sgnF (lookS n s)) a b c d = cv4 (sg1 w) (sg1 x) (sg1 y) (sg1 z) := cir_of e0 e1 e2 e3
  unfold crA
  rw [hc, cv4_bools]
  have hne : (a == b || a == c || a == d || b == c || b == d || c == d) = false := by simp; omega
  rw [hne, Bool.false_or, beq_iff_eq] at k
  rw [k]
  revert hp
  cases w <;> cases x <;> cases y <;> cases z <;> decide
theorem opp_s1 (h : aciB n s = true) {a b c d : Nat} (hd : Dis n a b c d) : Opp n s b a c d ↔ Opp n s a b c d := by
  unfold Dis at hd
  have O := om_sgn h
  have q1 := O.s1 (a := a) (b := b) (c := c) (by omega) (by omega) (by omega)
  have q2 := O.s1 (a := a) (b := b) (c := d) (by omega) (by omega) (by omega)
  unfold Opp
  omega
theorem sg_rot (h : aciB n s = true) {a b c : Nat} (h1 : a ≠ b) (h2 : a ≠ c) (h3 : b ≠ c) : sgS n s c a b = sgS n s a b c := by
  have O := om_sgn h
  have q1 := O.s2 (a := a) (b := b) (c := c) h1 h2 h3
  have q2 := O.s1 (a := a) (b := c) (c := b) h2 h1 h3.symm
  omega
theorem opp_rot (h : aciB n s = true) {a b c d : Nat} (hd : Dis n a b c d) : Opp n s c d a b ↔ Opp n s a b c d := by
  unfold Dis at hd
  have q1 := sg_rot h (a := a) (b := b) (c := c) (by omega) (by omega) (by omega)
  have q2 := sg_rot h (a := a) (b := b) (c := d) (by omega) (by omega) (by omega)
  have q3 := sg_rot h (a := b) (b := c) (c := d) (by omega) (by omega) (by omega)
  have q4 := sg_rot h (a := a) (b := c) (c := d) (by omega) (by omega) (by omega)
  have q5 := sg_rot h (a := d) (b := b) (c := c) (by omega) (by omega) (by omega)
  have q6 := sg_rot h (a := d) (b := a) (c := c) (by omega) (by omega) (by omega)
  unfold Opp
  omega
theorem dis_s1 {n a b c d : Nat} (h : Dis n a b c d) : Dis n b a c d := by unfold Dis at h ⊢; omega
theorem dis_s2 {n a b c d : Nat} (h : Dis n a b c d) : Dis n a c b d := by unfold Dis at h ⊢; omega
theorem dis_s3 {n a b c d : Nat} (h : Dis n a b c d) : Dis n a b d c := by unfold Dis at h ⊢; omega
theorem dis_rot {n a b c d : Nat} (h : Dis n a b c d) : Dis n c d a b := by unfold Dis at h ⊢; omega
theorem crA_rot (h : aciB n s = true) {a b c d : Nat} (hd : Dis n a b c d) : crA (sgnF (lookS n s)) c d a b = crA (sgnF (lookS n s)) a b c d := by
  rw [Bool.eq_iff_iff, crA_iff h hd, crA_iff h (dis_rot hd), opp_rot h hd]
theorem crA_s1 (h : aciB n s = true) {a b c d : Nat} (hd : Dis n a b c d) : crA (sgnF (lookS n s)) b a c d = crA (sgnF (lookS n s)) a b c d := by
  rw [Bool.eq_iff_iff, crA_iff h hd, crA_iff h (dis_s1 hd), opp_s1 h hd]
/-- Edges that cross are the diagonals: the other pairs of the four don't cross. -/
theorem crA_not (h : aciB n s = true) {a b c d : Nat} (hd : Dis n a b c d) (hc : crA (sgnF (lookS n s)) a b c d = true) : crA (sgnF (lookS n s)) a c b d = false := by
  have hp := pos_any h hd
  have hc1 := (crA_iff h hd).1 hc
  rw [Bool.eq_false_iff, Ne, crA_iff h (dis_s2 hd)]
  intro hc2
  obtain ⟨w, x, y, z, e0, e1, e2, e3, -⟩ := in_bits h hd
  unfold Dis at hd
  have O := om_sgn h
  have q1 := O.s1 (a := b) (b := c) (c := d) (by omega) (by omega) (by omega)
  have q2 := O.s2 (a := a) (b := b) (c := c) (by omega) (by omega) (by omega)
  unfold Opp at hc1 hc2
  rw [q1, q2] at hc2
  rw [e0, e1, e2, e3, sg1_neg, sg1_neg, sg1_inj, sg1_inj] at hc1
  rw [e0, e1, e2, e3, sg1_neg, sg1_neg, sg1_neg, sg1_neg, sg1_inj, sg1_inj] at hc2
  unfold sgS at e0 e1 e2 e3
  rw [posC_v e0 e1 e2 e3, pos_v] at hp
  revert hp hc1 hc2
  cases w <;> cases x <;> cases y <;> cases z <;> decide
/-- The three pairs of edges of four, as the pairs of indices come. -/
def arr3 (t : T4) : List T4 := [(t.2.2.1, t.2.2.2, t.1, t.2.1), (t.2.1, t.2.2.2, t.1, t.2.2.1), (t.2.1, t.2.2.1, t.1, t.2.2.2)]
def crsT (F : Int → Int → Int → Int) (t : T4) : Bool := crsF F t.1 t.2.1 t.2.2.1 t.2.2.2
theorem three_bools : ∀ w x y z : Bool, ((x == !w) && (y == w) && (z == !w)) = false →
    bit ((x == !w) && (y == !z)) + (bit ((y == w) && (x == z)) + bit ((z == !w) && (x == !y))) = bit (!((((x == w) && (y == !w) && (z == w)) || ((w == x) && ((!y) == !x) && ((!z) == x))) || ((((!w) == y) && ((!x) == !y) && (z == y)) || ((w == z) && (x == !z) && (y == z))))) := by decide +kernel
theorem three_count (h : aciB n s = true) {t : T4} (ht : t ∈ fours n) : (arr3 t).countP (crsT (sgnF (lookS n s))) = bit (!hasI (sgnF (lookS n s)) t) := by
  obtain ⟨h3, h7⟩ := aciB_n h
  obtain ⟨a, b, c, d⟩ := t
  obtain ⟨k1, k2, k3, k4⟩ := fours_mem (by omega) ht
  dsimp only at k1 k2 k3 k4
  have hd : Dis n a b c d := by unfold Dis; omega
  have hd2 : Dis n a c b d := dis_s2 hd
  have hd3 : Dis n a d b c := dis_s2 (dis_s3 hd)
  have hp := pos_any h hd
  obtain ⟨w, x, y, z, e, i1, i2, i3, i4⟩ := in_bools h k1 k2 k3 k4
  have hI : hasI (sgnF (lookS n s)) (a, b, c, d) = ((((x == w) && (y == !w) && (z == w)) || ((w == x) && ((!y) == !x) && ((!z) == x))) || ((((!w) == y) && ((!x) == !y) && (z == y)) || ((w == z) && (x == !z) && (y == z)))) := by
    rw [Bool.eq_iff_iff, has_in h k1 k2 k3 k4, i1, i2, i3, i4]
    simp only [Bool.or_eq_true]
  obtain ⟨w', x', y', z', e0, e1, e2, e3, -⟩ := in_bits h hd
  have hw : cv4 (sg1 w') (sg1 x') (sg1 y') (sg1 z') = cv4 (sg1 w) (sg1 x) (sg1 y) (sg1 z) := by
    rw [← e]; unfold sgS at e0 e1 e2 e3; exact (cir_of e0 e1 e2 e3).symm
  have O := om_sgn h
  have q1 := O.s1 (a := b) (b := c) (c := d) (by omega) (by omega) (by omega)
  have q2 := O.s2 (a := a) (b := b) (c := c) (by omega) (by omega) (by omega)
  have q3 := sg_rot h (a := b) (b := c) (c := d) (by omega) (by omega) (by omega)
  have q4 := O.s2 (a := a) (b := c) (c := d) (by omega) (by omega) (by omega)
  have q5 := O.s2 (a := a) (b := b) (c := d) (by omega) (by omega) (by omega)
  have c1 : crsF (sgnF (lookS n s)) c d a b = ((x' == !w') && (y' == !z')) := by
    unfold crsF
    rw [crA_rot h hd, show (c == a || (c == b || (d == a || d == b))) = false by simp; omega, Bool.not_false, Bool.true_and, Bool.eq_iff_iff, crA_iff h hd]
    unfold Opp
    rw [e0, e1, e2, e3, sg1_neg, sg1_neg, sg1_inj, sg1_inj]
    simp
  have c2 : crsF (sgnF (lookS n s)) b d a c = ((y' == w') && (x' == z')) := by
    unfold crsF
    rw [crA_rot h hd2, show (b == a || (b == c || (d == a || d == c))) = false by simp; omega, Bool.not_false, Bool.true_and, Bool.eq_iff_iff, crA_iff h hd2]
    unfold Opp
    rw [q1, q2, e0, e1, e2, e3, sg1_neg, sg1_neg, sg1_neg, sg1_neg, sg1_inj, sg1_inj]
    simp
  have c3 : crsF (sgnF (lookS n s)) b c a d = ((z' == !w') && (x' == !y')) := by
    unfold crsF
    rw [crA_rot h hd3, show (b == a || (b == d || (c == a || c == d))) = false by simp; omega, Bool.not_false, Bool.true_and, Bool.eq_iff_iff, crA_iff h hd3]
    unfold Opp
    rw [q3, q4, q5, e0, e1, e2, e3, sg1_neg, sg1_neg, sg1_neg, sg1_neg, sg1_inj, sg1_inj]
    cases w' <;> cases x' <;> cases y' <;> cases z' <;> decide
  have hp' : ((x' == !w') && (y' == w') && (z' == !w')) = false := by
    unfold sgS at e0 e1 e2 e3
    rw [posC_v e0 e1 e2 e3, pos_v] at hp
    exact hp
  have hsame : (x' == w') = (x == w) ∧ (y' == w') = (y == w) ∧ (z' == w') = (z == w) := by
    rw [cv4_bools, cv4_bools] at hw
    revert hw
    cases w <;> cases x <;> cases y <;> cases z <;> cases w' <;> cases x' <;> cases y' <;> cases z' <;> decide
  rw [hI]
  show List.countP (crsT (sgnF (lookS n s))) [(c, d, a, b), (b, d, a, c), (b, c, a, d)] = _
  have cc : ∀ (P : T4 → Bool) (t1 t2 t3 : T4), List.countP P [t1, t2, t3] = bit (P t1) + (bit (P t2) + bit (P t3)) := fun P t1 t2 t3 => by
    rw [List.countP_cons, List.countP_cons, List.countP_cons, List.countP_nil]
    cases P t1 <;> cases P t2 <;> cases P t3 <;> rfl
  rw [cc]
  show bit (crsF (sgnF (lookS n s)) c d a b) + (bit (crsF (sgnF (lookS n s)) b d a c) + bit (crsF (sgnF (lookS n s)) b c a d)) = _
  rw [c1, c2, c3, three_bools w' x' y' z' hp']
  congr 1
  revert hsame
  clear hI e i1 i2 i3 i4 hw e0 e1 e2 e3 c1 c2 c3 hp' hp
  cases w <;> cases x <;> cases y <;> cases z <;> cases w' <;> cases x' <;> cases y' <;> cases z' <;> decide
/-- The edges, by their index; the pairs of indices. -/
def edL (n k : Nat) : Nat × Nat := (pairsU n).getD k (0, 0)
def eN (n : Nat) : Nat := n * (n - 1) / 2
def idxs (n : Nat) : List (Nat × Nat) := (List.range (eN n)).flatMap fun x => (List.range x).map fun y => (x, y)
def bigE (n : Nat) : List T4 := (idxs n).map fun p => ((edL n p.1).1, (edL n p.1).2, (edL n p.2).1, (edL n p.2).2)
def dj (t : T4) : Bool := !(t.1 == t.2.2.1 || (t.1 == t.2.2.2 || (t.2.1 == t.2.2.1 || t.2.1 == t.2.2.2)))
theorem bigE_perm0 : ∀ n, n < 8 → ((bigE n).filter dj).isPerm ((fours n).flatMap arr3) = true := by decide +kernel
theorem eN_len : ∀ n, n < 8 → (pairsU n).length = eN n := by decide +kernel
/-- How many pairs of a set of edges cross. -/
def crP (F : Int → Int → Int → Int) (n S : Nat) (p : Nat × Nat) : Bool := (S.testBit p.1 && S.testBit p.2) && crsF F (edL n p.1).1 (edL n p.1).2 (edL n p.2).1 (edL n p.2).2
def prN (F : Int → Int → Int → Int) (n S : Nat) : Nat := (idxs n).countP (crP F n S)
theorem countP_flat {α β : Type} (p : β → Bool) (f : α → List β) : ∀ L : List α, (L.flatMap f).countP p = (L.map fun a => (f a).countP p).sum
  | [] => rfl
  | a :: L => by rw [List.flatMap_cons, List.countP_append, countP_flat p f L]; rfl
theorem sum_bits {α : Type} (q : α → Bool) : ∀ L : List α, (L.map fun a => bit (q a)).sum = L.countP q
  | [] => rfl
  | a :: L => by
    rw [List.map_cons, List.sum_cons, sum_bits q L, List.countP_cons]
    cases q a
    · simp [bit]
    · simp [bit]; omega
theorem pr_all (h : aciB n s = true) : prN (sgnF (lookS n s)) n (2 ^ eN n - 1) = (quads (sgnF (lookS n s)) n).length := by
  have h7 := (aciB_n h).2
  have e1 : prN (sgnF (lookS n s)) n (2 ^ eN n - 1) = (bigE n).countP (crsT (sgnF (lookS n s))) := by
    unfold prN bigE
    rw [List.countP_map]
    refine List.countP_congr fun p hp => ?_
    unfold idxs at hp
    obtain ⟨x, hx, hp⟩ := List.mem_flatMap.1 hp
    obtain ⟨y, hy, rfl⟩ := List.mem_map.1 hp
    have hx := List.mem_range.1 hx
    have hy := List.mem_range.1 hy
    unfold crP
    rw [Nat.testBit_two_pow_sub_one, Nat.testBit_two_pow_sub_one, decide_eq_true (show x < eN n from hx), decide_eq_true (show y < eN n by omega)]
    rfl
  have e2 : (bigE n).countP (crsT (sgnF (lookS n s))) = ((bigE n).filter dj).countP (crsT (sgnF (lookS n s))) := by
    rw [List.countP_filter]
    refine List.countP_congr fun t _ => ?_
    unfold crsT crsF dj
    simp only [Bool.and_eq_true]
    constructor
    · rintro ⟨a, b⟩; exact ⟨⟨a, b⟩, a⟩
    · rintro ⟨a, -⟩; exact a
  rw [e1, e2, (List.isPerm_iff.1 (bigE_perm0 n (by omega))).countP_eq, countP_flat]
  have e3 : ((fours n).map fun t => (arr3 t).countP (crsT (sgnF (lookS n s)))) = (fours n).map fun t => bit (!hasI (sgnF (lookS n s)) t) := List.map_congr_left fun t ht => three_count h ht
  rw [e3, sum_bits]
  unfold quads
  rw [List.countP_eq_length_filter]
end
end Go.Proofs.YtinlnafkmoabbaaGreatDoor.Sg
/- Crossings, on plain functions: the hull's edges and the edges that no other crosses. -/
namespace Go.Proofs.YtinlnafkmoabbaaGreatDoor.Sg
def hB (F : Int → Int → Int → Int) (n k : Nat) : Bool := leftN F n (edL n k).1 (edL n k).2 == 0 || leftN F n (edL n k).2 (edL n k).1 == 0
def frB (F : Int → Int → Int → Int) (n i j : Nat) : Bool := (pairsU n).all fun q => !crsF F i j q.1 q.2
def fB (F : Int → Int → Int → Int) (n k : Nat) : Bool := frB F n (edL n k).1 (edL n k).2
def hullE (F : Int → Int → Int → Int) (n : Nat) : Nat := setN (hB F n) (eN n)
def freeE (F : Int → Int → Int → Int) (n : Nat) : Nat := setN (fB F n) (eN n)
theorem edL_mem {n k : Nat} (h7 : n ≤ 7) (hk : k < eN n) : edL n k ∈ pairsU n := by
  have hl := eN_len n (by omega)
  unfold edL
  rw [List.getD_eq_getElem?_getD, List.getElem?_eq_getElem (by omega)]
  exact List.getElem_mem _
theorem edL_lt {n k : Nat} (h7 : n ≤ 7) (hk : k < eN n) : (edL n k).1 < (edL n k).2 ∧ (edL n k).2 < n := mem_pairsU0 n (by omega) _ (edL_mem h7 hk)
section
variable {n : Nat} {s : List UInt8}
theorem left_zero {F : Int → Int → Int → Int} {i j x : Nat} (h : leftN F n i j = 0) (hx : x < n) (h1 : x ≠ i) (h2 : x ≠ j) : ¬ 0 < F i j x := by
  unfold leftN at h
  rw [List.countP_eq_zero] at h
  have := h x (List.mem_range.2 hx)
  intro hp
  exact this (by simp [h1, h2, hp])
/-- Nothing crosses a hull edge. -/
theorem hull_free (h : aciB n s = true) {k : Nat} (hk : k < eN n) (hh : hB (sgnF (lookS n s)) n k = true) : fB (sgnF (lookS n s)) n k = true := by
  have h7 := (aciB_n h).2
  obtain ⟨l1, l2⟩ := edL_lt (by omega) hk
  unfold fB frB
  rw [List.all_eq_true]
  rintro ⟨a, b⟩ hq
  obtain ⟨m1, m2⟩ := mem_pairsU0 n (by omega) _ hq
  dsimp only at m1 m2
  unfold hB at hh
  rw [Bool.or_eq_true, beq_iff_eq, beq_iff_eq] at hh
  generalize (edL n k).1 = i at *
  generalize (edL n k).2 = j at *
  rw [Bool.not_eq_true', Bool.eq_false_iff, Ne]
  intro hc
  unfold crsF at hc
  simp only [Bool.and_eq_true, Bool.not_eq_true', Bool.or_eq_false_iff, beq_eq_false_iff_ne] at hc
  obtain ⟨⟨n1, n2, n3, n4⟩, hc⟩ := hc
  have hd : Dis n i j a b := by unfold Dis; omega
  obtain ⟨-, ho⟩ := (crA_iff h hd).1 hc
  have O := om_sgn h
  have q1 := O.s1 (a := i) (b := j) (c := a) (by omega) (by omega) (by omega)
  have q2 := O.s1 (a := i) (b := j) (c := b) (by omega) (by omega) (by omega)
  obtain ⟨x, e1⟩ := O.one (a := i) (b := j) (c := a) (by omega) (by omega) (by omega) (by omega) (by omega) (by omega)
  obtain ⟨y, e2⟩ := O.one (a := i) (b := j) (c := b) (by omega) (by omega) (by omega) (by omega) (by omega) (by omega)
  rcases hh with hh | hh
  · have z1 := left_zero hh (x := a) (by omega) (by omega) (by omega)
    have z2 := left_zero hh (x := b) (by omega) (by omega) (by omega)
    have z1 : ¬ 0 < sgS n s i j a := z1
    have z2 : ¬ 0 < sgS n s i j b := z2
    rw [e1] at z1 ho
    rw [e2] at z2 ho
    revert z1 z2 ho
    cases x <;> cases y <;> decide
  · have z1 := left_zero hh (x := a) (by omega) (by omega) (by omega)
    have z2 := left_zero hh (x := b) (by omega) (by omega) (by omega)
    have z1 : ¬ 0 < sgS n s j i a := z1
    have z2 : ¬ 0 < sgS n s j i b := z2
    rw [q1, e1] at z1
    rw [q2, e2] at z2
    rw [e1, e2] at ho
    revert z1 z2 ho
    cases x <;> cases y <;> decide
theorem free_plane (F : Int → Int → Int → Int) (h7 : n ≤ 7) : prN F n (freeE F n) = 0 := by
  unfold prN
  rw [List.countP_eq_zero]
  intro p hp
  unfold idxs at hp
  obtain ⟨x, hx, hp⟩ := List.mem_flatMap.1 hp
  obtain ⟨y, hy, rfl⟩ := List.mem_map.1 hp
  have hx := List.mem_range.1 hx
  have hy := List.mem_range.1 hy
  unfold crP freeE
  rw [setN_bit]
  dsimp only
  cases hf : fB F n x
  · simp
  · unfold fB frB at hf
    have := List.all_eq_true.1 hf _ (edL_mem h7 (show y < eN n by omega))
    rw [Bool.not_eq_true'] at this
    rw [this]; simp
theorem pr_sub {F : Int → Int → Int → Int} {S T : Nat} (hs : ∀ k, S.testBit k = true → T.testBit k = true) : prN F n S ≤ prN F n T := by
  unfold prN
  refine List.countP_mono_left fun p _ hp => ?_
  unfold crP at hp ⊢
  simp only [Bool.and_eq_true] at hp ⊢
  exact ⟨⟨hs _ hp.1.1, hs _ hp.1.2⟩, hp.2⟩
theorem hull_sub (h : aciB n s = true) (k : Nat) (hk : (hullE (sgnF (lookS n s)) n).testBit k = true) : (freeE (sgnF (lookS n s)) n).testBit k = true := by
  unfold hullE at hk
  unfold freeE
  rw [setN_bit, Bool.and_eq_true, decide_eq_true_eq] at hk
  rw [setN_bit, Bool.and_eq_true, decide_eq_true_eq]
  exact ⟨hk.1, hull_free h hk.1 hk.2⟩
theorem hull_plane (h : aciB n s = true) : prN (sgnF (lookS n s)) n (hullE (sgnF (lookS n s)) n) = 0 := by
  have h7 := (aciB_n h).2
  have a := free_plane (n := n) (sgnF (lookS n s)) (by omega)
  have b := pr_sub (n := n) (F := sgnF (lookS n s)) (hull_sub h)
  omega
theorem pairs_perm0 : ∀ n, n < 8 → (pairsN n).isPerm (pairsU n ++ (pairsU n).map fun p => (p.2, p.1)) = true := by decide +kernel
theorem range_getD (L : List (Nat × Nat)) : (List.range L.length).map (fun k => L.getD k (0, 0)) = L := by
  refine List.ext_getElem (by simp) fun i h1 h2 => ?_
  rw [List.getElem_map, List.getElem_range, List.getD_eq_getElem?_getD, List.getElem?_eq_getElem h2]
  rfl
theorem countP_or {α : Type} (p q : α → Bool) : ∀ L : List α, (∀ x ∈ L, p x = true → q x = false) → L.countP (fun x => p x || q x) = L.countP p + L.countP q
  | [], _ => rfl
  | a :: L, h => by
    have ih := countP_or p q L fun x hx => h x (List.mem_cons_of_mem _ hx)
    have h1 := h a List.mem_cons_self
    rw [List.countP_cons, List.countP_cons, List.countP_cons, ih]
    cases hp : p a
    · cases q a <;> simp <;> omega
    · rw [h1 hp]; simp; omega
/-- The hull has as many edges as extreme elements. -/
theorem hull_count (h : aciB n s = true) : (((List.range (eN n)).countP (hB (sgnF (lookS n s)) n) : Nat) : Int) = hszZ n s := by
  obtain ⟨h3, h7⟩ := aciB_n h
  rw [← rowK_zero h]
  congr 1
  have e1 : (List.range (eN n)).countP (hB (sgnF (lookS n s)) n) = (pairsU n).countP fun p => (leftN (sgnF (lookS n s)) n p.1 p.2 == 0 || leftN (sgnF (lookS n s)) n p.2 p.1 == 0) := by
    conv => rhs; rw [← range_getD (pairsU n)]
    rw [List.countP_map, eN_len n (by omega)]
    rfl
  rw [e1]
  unfold rowK
  rw [(List.isPerm_iff.1 (pairs_perm0 n (by omega))).countP_eq, List.countP_append, List.countP_map]
  refine countP_or (fun p : Nat × Nat => leftN (sgnF (lookS n s)) n p.1 p.2 == 0) (fun p : Nat × Nat => leftN (sgnF (lookS n s)) n p.2 p.1 == 0) _ fun p hp hz => ?_
  obtain ⟨m1, m2⟩ := mem_pairsU0 n (by omega) p hp
  have hs := left_sum h (i := p.1) (j := p.2) (by omega) m2 (by omega)
  have hz := eq_of_beq hz
  exact beq_eq_false_iff_ne.2 (by omega)
end
end Go.Proofs.YtinlnafkmoabbaaGreatDoor.Sg
/- Edges and their numbers, as spec tells them: l9Index, EdgeIndex, EdgeAt, AllEdges. -/
namespace Go.Proofs.YtinlnafkmoabbaaGreatDoor.Sg
open Go.RowKit Pt NewI
/-- How many edges begin ahead of element a. -/
def ofs (n : Nat) : Nat → Nat
  | 0 => 0
  | a + 1 => ofs n a + (n - 1 - a)
/-- The number of an edge of two different elements. -/
def ixN (n i j : Nat) : Nat := ofs n (min i j) + (max i j - min i j - 1)
theorem ofs_bd : ∀ n, n < 8 → ∀ a, a < 8 → ofs n a ≤ 21 := by decide +kernel
theorem ofs_step {n a : Nat} (h : a < n) : ofs n (a + 1) + a + 1 = ofs n a + n := by
  show ofs n a + (n - 1 - a) + a + 1 = _
  omega
theorem ofs_all : ∀ n, n < 8 → ofs n n = eN n := by decide +kernel
theorem ix_swap (n i j : Nat) : ixN n i j = ixN n j i := by unfold ixN; rw [Nat.min_comm, Nat.max_comm]
theorem ix_lt {n i j : Nat} (h : i < j) : ixN n i j = ofs n i + (j - i - 1) := by
  unfold ixN
  rw [Nat.min_eq_left (by omega), Nat.max_eq_right (by omega)]
theorem ix_ed0 : ∀ n, n < 8 → ((List.range n).all fun j => (List.range j).all fun i => edL n (ixN n i j) == (i, j) && decide (ixN n i j < eN n)) = true := by decide +kernel
theorem ix_ed {n i j : Nat} (h7 : n ≤ 7) (h : i < j) (hj : j < n) : edL n (ixN n i j) = (i, j) ∧ ixN n i j < eN n := by
  have h0 := List.all_eq_true.1 (List.all_eq_true.1 (ix_ed0 n (by omega)) j (List.mem_range.2 hj)) i (List.mem_range.2 h)
  simpa using h0
theorem ed_ix0 : ∀ n, n < 8 → ((List.range (eN n)).all fun k => ixN n (edL n k).1 (edL n k).2 == k) = true := by decide +kernel
theorem ed_ix {n k : Nat} (h7 : n ≤ 7) (hk : k < eN n) : ixN n (edL n k).1 (edL n k).2 = k := by
  have h0 := List.all_eq_true.1 (ed_ix0 n (by omega)) k (List.mem_range.2 hk)
  simpa using h0
theorem eN_bd : ∀ n, n < 8 → eN n ≤ 21 := by decide +kernel
set_option maxHeartbeats 800000 in
set_option maxRecDepth 100000 in
theorem l9Index_any (n i j : Nat) (h7 : n ≤ 7) (hi : i < n) (hj : j < n) (hd : i ≠ j) (w : World) :
    Calls Tryz.prog 94 #[.int .i64 n, .int .i64 i, .int .i64 j] w fun e w' => e = .returned (.int .i64 (ixN n i j : Nat)) ∧ w = w' := by
  have HST := Lib.hid (fun a (h : a < n) => ofs_step h)
  have HLE := Lib.hid (fun a (h : a < 8) => ofs_bd n (by omega) a h)
  have H0 : Hid (ofs n 0 = 0) := Lib.hid rfl
  rcases Nat.lt_or_gt_of_ne hd with hlt | hlt
  · rw [ix_lt hlt]
    generalize ofs n = p at HST HLE H0 ⊢
    go_enter Tryz.func94, Tryz.ntmps94
    go_wp2
    go_loop [8, 9] (fun x sv => ∃ a t : Nat, x = .int .i64 t ∧ sv = .int .i64 a ∧ a ≤ i ∧ t ≤ 21 ∧ Hid (t = p a)) (fun _ c => i - (intOf c).toNat)
    case atStart => exact ⟨0, 0, rfl, rfl, by omega, by omega, Lib.hid H0.out.symm⟩
    case round =>
      obtain ⟨a, t, rfl, rfl, ha, ht, HT⟩ := hrel
      by_cases hz : a < i
      · have HT2 : Hid (t + n - 1 - a = p (a + 1)) := Lib.hid (by have := HT.out; have := HST.out a (by omega); omega)
        have hl : t + n - 1 - a ≤ 21 := by have := HT2.out; have := HLE.out (a + 1) (by omega); omega
        go_wp2
        go_round
        case rel => exact ⟨a + 1, t + n - 1 - a, by go_num, by go_num, by omega, hl, HT2⟩
        case measure => simp only [intOf]; omega
      · have he : a = i := by omega
        subst he
        have HE : Hid (p a + (j - a - 1) = t + j - a - 1) := Lib.hid (by have := HT.out; omega)
        go_wp2
        go_ret
        exact ⟨ret_int (by have := HE.out; omega), rfl⟩
  · rw [ix_swap, ix_lt hlt]
    generalize ofs n = p at HST HLE H0 ⊢
    go_enter Tryz.func94, Tryz.ntmps94
    go_wp2
    go_loop [8, 9] (fun x sv => ∃ a t : Nat, x = .int .i64 t ∧ sv = .int .i64 a ∧ a ≤ j ∧ t ≤ 21 ∧ Hid (t = p a)) (fun _ c => j - (intOf c).toNat)
    case atStart => exact ⟨0, 0, rfl, rfl, by omega, by omega, Lib.hid H0.out.symm⟩
    case round =>
      obtain ⟨a, t, rfl, rfl, ha, ht, HT⟩ := hrel
      by_cases hz : a < j
      · have HT2 : Hid (t + n - 1 - a = p (a + 1)) := Lib.hid (by have := HT.out; have := HST.out a (by omega); omega)
        have hl : t + n - 1 - a ≤ 21 := by have := HT2.out; have := HLE.out (a + 1) (by omega); omega
        go_wp2
        go_round
        case rel => exact ⟨a + 1, t + n - 1 - a, by go_num, by go_num, by omega, hl, HT2⟩
        case measure => simp only [intOf]; omega
      · have he : a = j := by omega
        subst he
        have HE : Hid (p a + (i - a - 1) = t + i - a - 1) := Lib.hid (by have := HT.out; omega)
        go_wp2
        go_ret
        exact ⟨ret_int (by have := HE.out; omega), rfl⟩
/-- What EdgeIndex answers. -/
def idxZ (n i j : Int) : Int := if inB n 3 7 = true ∧ difB n [i, j] = true then (ixN n.toNat i.toNat j.toNat : Nat) else -1
set_option maxHeartbeats 1600000 in
set_option maxRecDepth 100000 in
theorem specEdgeIndex (n i j : Int) (w : World) :
    Calls Tryz.prog 38 #[.int .i64 n, .int .i64 i, .int .i64 j] w fun e w' => e = .returned (.int .i64 (idxZ n i j)) ∧ Below w.heap.size w w' := by
  have HL := Lib.hid (fun W => l1In_any n 3 7 W)
  cases h : inB n 3 7
  · have HE : Hid (idxZ n i j = -1) := Lib.hid (by unfold idxZ; rw [h]; simp)
    rw [h] at HL
    clear h
    go_enter Tryz.func38, Tryz.ntmps38
    go_wp2_with fail
    refine (HL.out _).mono ?_
    rintro e w' ⟨rfl, rfl⟩
    go_wp2
    go_ret
    exact ⟨ret_int HE.out.symm, Below.refl _ _⟩
  · obtain ⟨h3, h7⟩ := inB_mem h
    obtain ⟨n, rfl⟩ : ∃ m : Nat, n = m := ⟨n.toNat, by omega⟩
    have HD : Hid (∀ g W, Cells W g 2 (zc [i, j]) → Calls Tryz.prog 99 #[.int .i64 n, .slice (some ⟨g, 0, none⟩) 2 2] W fun e w' => e = .returned (.bool (difB n [i, j])) ∧ Below W.heap.size W w') := Lib.hid (fun g W hW => l5Different_any n (by omega) [i, j] (by simp) g 2 W hW)
    have G1 := Lib.hid (cells2_made w i j 3)
    have B1 := Lib.hid ((Below.refl w.heap.size w).alloc (Nat.le_refl _) (.cells #[.int .i64 i, .int .i64 j] 3))
    cases hdf : difB n [i, j]
    · have HE : Hid (idxZ n i j = -1) := Lib.hid (by unfold idxZ; rw [hdf]; simp)
      rw [h] at HL
      rw [hdf] at HD
      clear h hdf
      go_enter Tryz.func38, Tryz.ntmps38
      go_wp2_with fail
      refine (HL.out _).mono ?_
      rintro e w' ⟨rfl, rfl⟩
      go_wp2_with fail
      refine (HD.out _ _ G1.out).mono ?_
      rintro e w2 ⟨rfl, hb2⟩
      have B2 := Lib.hid (B1.out.trans (hb2.mono B1.out.size))
      clear hb2
      go_wp2
      go_ret
      exact ⟨ret_int HE.out.symm, B2.out⟩
    · obtain ⟨⟨i0, i1⟩, ⟨j0, j1⟩, hij⟩ := difB2_iff.1 hdf
      obtain ⟨i, rfl⟩ : ∃ m : Nat, i = m := ⟨i.toNat, by omega⟩
      obtain ⟨j, rfl⟩ : ∃ m : Nat, j = m := ⟨j.toNat, by omega⟩
      have HE : Hid (idxZ n i j = (ixN n i j : Nat)) := Lib.hid (by unfold idxZ; rw [h, hdf]; simp)
      have HI := Lib.hid (fun W => l9Index_any n i j (by omega) (by omega) (by omega) (by omega) W)
      rw [HE.out]
      generalize ixN n i j = x at HI ⊢
      rw [h] at HL
      rw [hdf] at HD
      clear h hdf HE
      go_enter Tryz.func38, Tryz.ntmps38
      go_wp2_with fail
      refine (HL.out _).mono ?_
      rintro e w' ⟨rfl, rfl⟩
      go_wp2_with fail
      refine (HD.out _ _ G1.out).mono ?_
      rintro e w2 ⟨rfl, hb2⟩
      have B2 := Lib.hid (B1.out.trans (hb2.mono B1.out.size))
      clear hb2
      go_wp2_with fail
      refine (HI.out _).mono ?_
      rintro e w' ⟨rfl, rfl⟩
      go_wp2
      go_ret
      exact ⟨rfl, B2.out⟩
/-- What AllEdges answers. -/
def allZ (n : Int) : Int := if inB n 3 7 = true then ((2 ^ eN n.toNat - 1 : Nat) : Int) else 0
set_option maxHeartbeats 800000 in
set_option maxRecDepth 100000 in
theorem specAllEdges (n : Int) (w : World) :
    Calls Tryz.prog 43 #[.int .i64 n] w fun e w' => e = .returned (.int .i64 (allZ n)) ∧ w = w' := by
  have HL := Lib.hid (fun W => l1In_any n 3 7 W)
  cases h : inB n 3 7
  · have HE : Hid (allZ n = 0) := Lib.hid (by unfold allZ; rw [h]; rfl)
    rw [h] at HL
    clear h
    go_enter Tryz.func43, Tryz.ntmps43
    go_wp2_with fail
    refine (HL.out _).mono ?_
    rintro e w' ⟨rfl, rfl⟩
    go_wp2
    go_ret
    exact ⟨ret_int HE.out.symm, rfl⟩
  · obtain ⟨h3, h7⟩ := inB_mem h
    rw [h] at HL
    clear h
    rcases (by omega : n = 3 ∨ n = 4 ∨ n = 5 ∨ n = 6 ∨ n = 7) with rfl | rfl | rfl | rfl | rfl
    all_goals
      go_enter Tryz.func43, Tryz.ntmps43
      go_wp2_with fail
      refine (HL.out _).mono ?_
      rintro e w' ⟨rfl, rfl⟩
      go_wp2
      go_ret
      exact ⟨ret_int (by decide +kernel), rfl⟩
/-- What EdgeAt answers. -/
def edZ (n k : Int) : Int × Int := if inB n 3 7 = true ∧ 0 ≤ k ∧ k < (eN n.toNat : Nat) then (((edL n.toNat k.toNat).1 : Nat), ((edL n.toNat k.toNat).2 : Nat)) else (-1, -1)
theorem edZ_hit {n i j : Nat} {k : Int} (h : inB n 3 7 = true) (hij : i < j) (hj : j < n) (hk : ((ixN n i j : Nat) : Int) = k) : edZ n k = ((i : Int), (j : Int)) := by
  obtain ⟨h3, h7⟩ := inB_mem h
  obtain ⟨h1, h2⟩ := ix_ed (by omega) hij hj
  subst hk
  unfold edZ
  rw [if_pos ⟨h, by omega, by rw [Int.toNat_natCast]; omega⟩, Int.toNat_natCast, Int.toNat_natCast, h1]
theorem edZ_miss {n : Nat} {k : Int} (h : inB n 3 7 = true) (hk : k < 0 ∨ ((ofs n n : Nat) : Int) ≤ k) : edZ n k = (-1, -1) := by
  obtain ⟨h3, h7⟩ := inB_mem h
  unfold edZ
  rw [if_neg]
  rw [Int.toNat_natCast, ← ofs_all n (by omega)]
  omega
set_option maxHeartbeats 1600000 in
set_option maxRecDepth 100000 in
theorem specEdgeAt (n k : Int) (w : World) :
    Calls Tryz.prog 32 #[.int .i64 n, .int .i64 k] w fun e w' => e = .returned (.tuple #[.int .i64 (edZ n k).1, .int .i64 (edZ n k).2]) ∧ w = w' := by
  have HL := Lib.hid (fun W => l1In_any n 3 7 W)
  cases h : inB n 3 7
  · have HE : Hid (edZ n k = (-1, -1)) := Lib.hid (by unfold edZ; rw [h]; simp)
    rw [h] at HL
    clear h
    go_enter Tryz.func32, Tryz.ntmps32
    go_wp2_with fail
    refine (HL.out _).mono ?_
    rintro e w' ⟨rfl, rfl⟩
    go_wp2
    go_ret2
    exact ⟨ret_two HE.out, rfl⟩
  · obtain ⟨h3, h7⟩ := inB_mem h
    obtain ⟨n, rfl⟩ : ∃ m : Nat, n = m := ⟨n.toNat, by omega⟩
    have HH := Lib.hid (fun (i j : Nat) (hij : i < j) (hj : j < n) => edZ_hit (k := k) h hij hj)
    have HM := Lib.hid (edZ_miss (k := k) h)
    have HI := Lib.hid (fun (i j : Nat) (hi : i < n) (hj : j < n) (hd : i ≠ j) W => l9Index_any n i j (by omega) hi hj hd W)
    have HX := Lib.hid (fun (i j : Nat) (hij : i < j) => ix_lt (n := n) hij)
    have HST := Lib.hid (fun a (h : a < n) => ofs_step h)
    have H0 : Hid (ofs n 0 = 0) := Lib.hid rfl
    rw [h] at HL
    generalize edZ n k = r at HH HM ⊢
    obtain ⟨r1, r2⟩ := r
    generalize ofs n = p at HM HX HST H0
    generalize ixN n = x at HH HI HX
    clear h
    go_enter Tryz.func32, Tryz.ntmps32
    go_wp2_with fail
    refine (HL.out _).mono ?_
    rintro e w' ⟨rfl, rfl⟩
    go_wp2
    go_loopw [6] (fun v wr => ∃ i : Nat, i ≤ n ∧ v = .int .i64 i ∧ Hid (k < 0 ∨ ((p i : Nat) : Int) ≤ k) ∧ wr = w) (fun v _ => n - (intOf v).toNat)
    case atStart => exact ⟨0, Nat.zero_le _, rfl, Lib.hid (by have := H0.out; omega), rfl⟩
    case round =>
      obtain ⟨i, hin, rfl, HK, rfl⟩ := hrel
      by_cases hlt : i < n
      · go_wp2
        go_loopw [7] (fun v wr' => ∃ j : Nat, i < j ∧ j ≤ n ∧ v = .int .i64 j ∧ Hid (k < 0 ∨ ((p i + (j - i - 1) : Nat) : Int) ≤ k) ∧ wr' = wr) (fun v _ => n - (intOf v).toNat)
        case atStart => exact ⟨i + 1, by omega, by omega, by go_num, Lib.hid (by have := HK.out; omega), rfl⟩
        case round =>
          obtain ⟨j, hij, hjn, rfl, HK2, rfl⟩ := hrel
          by_cases hlt2 : j < n
          · have HC := Lib.hid (HI.out i j hlt hlt2 (by omega))
            have HXJ := Lib.hid (HX.out i j hij)
            have HHJ := Lib.hid (HH.out i j hij hlt2)
            generalize x i j = y at HC HXJ HHJ
            cases he : (((y : Nat) : Int) == k)
            · have HK3 : Hid (k < 0 ∨ ((p i + (j + 1 - i - 1) : Nat) : Int) ≤ k) := Lib.hid (by have := HK2.out; have := HXJ.out; simp at he; omega)
              go_wp2_with fail
              refine (HC.out _).mono ?_
              rintro e w' ⟨rfl, rfl⟩
              go_wp2
              exact ⟨⟨j + 1, by omega, by omega, by go_num, HK3, by trivial⟩, by simp only [intOf]; omega⟩
            · have HR := Lib.hid (HHJ.out (by simpa using he))
              go_wp2_with fail
              refine (HC.out _).mono ?_
              rintro e w' ⟨rfl, rfl⟩
              go_wp2
              go_ret2
              exact ⟨ret_two HR.out, rfl⟩
          · have HK3 : Hid (k < 0 ∨ ((p (i + 1) : Nat) : Int) ≤ k) := Lib.hid (by have := HK2.out; have := HST.out i hlt; omega)
            go_wp2
            exact ⟨⟨i + 1, by omega, by go_num, HK3, by trivial⟩, by simp only [intOf]; omega⟩
      · have he : i = n := by omega
        subst he
        have HR := Lib.hid (HM.out HK.out)
        go_wp2
        go_ret2
        exact ⟨ret_two HR.out, rfl⟩
end Go.Proofs.YtinlnafkmoabbaaGreatDoor.Sg
/- Crossings, as spec tells them: l9Cross, DoCross, l6Has of a set of edges. -/
namespace Go.Proofs.YtinlnafkmoabbaaGreatDoor.Sg
open Go.RowKit Pt NewI
theorem bits_andH2 (a : Nat) (ha : a < 4194304) : bits BinOp.and IntKind.i64 (a : Int) 1 = ((a % 2 : Nat) : Int) := by
  show IntKind.i64.wrap ((BitVec.ofInt 64 a &&& BitVec.ofInt 64 (1 : Nat)).toNat : Int) = _
  rw [BitVec.toNat_and, BitVec.ofInt_natCast, BitVec.ofInt_natCast, BitVec.toNat_ofNat, BitVec.toNat_ofNat, Nat.mod_eq_of_lt (by omega), Nat.mod_eq_of_lt (by omega), Nat.and_one_is_mod, IntKind.wrap_i64]
  omega
theorem has_bits2 (set k : Nat) (hs : set < 4194304) : bits BinOp.and IntKind.i64 ((set : Int) / 2 ^ k) 1 = if set.testBit k = true then 1 else 0 := by
  rw [← shr_div, bits_andH2 _ (by rw [Nat.shiftRight_eq_div_pow]; exact Nat.lt_of_le_of_lt (Nat.div_le_self _ _) hs), Nat.shiftRight_eq_div_pow, Nat.testBit_eq_decide_div_mod_eq]
  by_cases h : set / 2 ^ k % 2 = 1
  · rw [h]; simp
  · have : set / 2 ^ k % 2 = 0 := by omega
    rw [this]; simp
set_option maxRecDepth 100000 in
theorem l6HasE_any (set k : Nat) (hs : set < 4194304) (hk : k < 64) (w : World) :
    Calls Tryz.prog 91 #[.int .i64 set, .int .i64 k] w fun e w' => e = .returned (.bool (set.testBit k)) ∧ w = w' := by
  have hb := has_bits2 set k hs
  cases ht : set.testBit k
  all_goals
    rw [ht] at hb
    simp only [if_true, Bool.false_eq_true, if_false] at hb
    clear ht
    go_enter Tryz.func91, Tryz.ntmps91
    go_wp2
    go_ret
    exact ⟨rfl, rfl⟩
theorem crs_same {F : Int → Int → Int → Int} {a b c d : Nat} (h : a = c ∨ a = d ∨ b = c ∨ b = d) : crsF F a b c d = false := by
  unfold crsF
  rcases h with rfl | rfl | rfl | rfl <;> simp
theorem crs_apart {F : Int → Int → Int → Int} {a b c d : Nat} (h1 : a ≠ c) (h2 : a ≠ d) (h3 : b ≠ c) (h4 : b ≠ d) : crsF F a b c d = ((sets4 (cir F a b c d) a b c d).1 == (2 : Int) ^ a + (2 : Int) ^ b) := by
  unfold crsF crA
  rw [pw_nat, pw_nat, beq_false_of_ne h1, beq_false_of_ne h2, beq_false_of_ne h3, beq_false_of_ne h4]
  rfl
set_option maxHeartbeats 3200000 in
set_option maxRecDepth 100000 in
theorem l9Cross_any (n : Nat) (s : ByteArray) (h : arB n s.data.toList = true) (a b c d : Nat) (ha : a < n) (hb : b < n) (hc : c < n) (hd : d < n) (d1 : a ≠ b) (d2 : c ≠ d) (w : World) :
    Calls Tryz.prog 102 #[sg n s, .int .i64 a, .int .i64 b, .int .i64 c, .int .i64 d] w fun e w' => e = .returned (.bool (crsF (sgnF (lookS n s.data.toList)) a b c d)) ∧ Below w.heap.size w w' := by
  obtain ⟨_, h7, -, -⟩ := arB_yes h
  have h7 : n ≤ 7 := by omega
  have HS := Lib.hid (box_made w n s 25)
  obtain ⟨x0, x1, B0⟩ := HS.out
  by_cases q1 : a = c
  · have HE := Lib.hid (crs_same (F := sgnF (lookS n s.data.toList)) (a := a) (b := b) (c := c) (d := d) (.inl q1))
    rw [HE.out]
    subst q1
    clear h HE
    go_enter Tryz.func102, Tryz.ntmps102
    go_wp2
    go_ret
    exact ⟨rfl, B0⟩
  · have t1 : ((a : Int) == (c : Int)) = false := by simp; omega
    by_cases q2 : a = d
    · have HE := Lib.hid (crs_same (F := sgnF (lookS n s.data.toList)) (a := a) (b := b) (c := c) (d := d) (.inr (.inl q2)))
      rw [HE.out]
      subst q2
      clear h HE q1
      go_enter Tryz.func102, Tryz.ntmps102
      go_wp2
      go_ret
      exact ⟨rfl, B0⟩
    · have t2 : ((a : Int) == (d : Int)) = false := by simp; omega
      by_cases q3 : b = c
      · have HE := Lib.hid (crs_same (F := sgnF (lookS n s.data.toList)) (a := a) (b := b) (c := c) (d := d) (.inr (.inr (.inl q3))))
        rw [HE.out]
        subst q3
        clear h HE q1 q2
        go_enter Tryz.func102, Tryz.ntmps102
        go_wp2
        go_ret
        exact ⟨rfl, B0⟩
      · have t3 : ((b : Int) == (c : Int)) = false := by simp; omega
        by_cases q4 : b = d
        · have HE := Lib.hid (crs_same (F := sgnF (lookS n s.data.toList)) (a := a) (b := b) (c := c) (d := d) (.inr (.inr (.inr q4))))
          rw [HE.out]
          subst q4
          clear h HE q1 q2 q3
          go_enter Tryz.func102, Tryz.ntmps102
          go_wp2
          go_ret
          exact ⟨rfl, B0⟩
        · have t4 : ((b : Int) == (d : Int)) = false := by simp; omega
          have HSP : Hid (∀ g W, Cells W g 4 (zc [(a : Int), (b : Int), (c : Int), (d : Int)]) → Calls Tryz.prog 145 #[sg n s, .slice (some ⟨g, 0, none⟩) 4 4] W fun e w' => e = .returned (.tuple #[.int .i64 (sets4 (cir (sgnF (lookS n s.data.toList)) a b c d) a b c d).1, .int .i64 (sets4 (cir (sgnF (lookS n s.data.toList)) a b c d) a b c d).2]) ∧ Below W.heap.size W w') := Lib.hid (fun g W hW => l5Split_any n s a b c d h ha hb hc hd d1 q1 q2 q3 q4 d2 g 4 W hW)
          rw [crs_apart q1 q2 q3 q4]
          generalize sets4 (cir (sgnF (lookS n s.data.toList)) a b c d) a b c d = x at HSP ⊢
          obtain ⟨x, y⟩ := x
          have ba := pow_bd (a := a) (by omega)
          have bb := pow_bd (a := b) (by omega)
          obtain ⟨A, hA⟩ : ∃ x, x = (2 : Int) ^ a := ⟨_, rfl⟩
          obtain ⟨B, hB⟩ : ∃ x, x = (2 : Int) ^ b := ⟨_, rfl⟩
          have wa : IntKind.i64.wrap ((2 : Int) ^ a) = A := by rw [hA]; exact IntWalk.i64_in _ (by omega)
          have wb : IntKind.i64.wrap ((2 : Int) ^ b) = B := by rw [hB]; exact IntWalk.i64_in _ (by omega)
          rw [← hA] at ba; rw [← hB] at bb
          rw [← hA, ← hB]
          have G0 := Lib.hid (cells4_made (w.alloc (.cells #[.int .i64 n, .string s] 25)) a b c d 3)
          have hsz : (w.alloc (.cells #[.int .i64 n, .string s] 25)).heap.size = w.heap.size + 1 := by simp
          rw [hsz] at G0
          have X0 := Lib.hid (HS.out.alloc (.cells #[.int .i64 a, .int .i64 b, .int .i64 c, .int .i64 d] 3))
          clear h hA hB q1 q2 q3 q4 d1 d2 B0
          go_enter Tryz.func102, Tryz.ntmps102
          go_wp2_with fail
          refine (HSP.out (w.heap.size + 1) _ G0.out).mono ?_
          rintro e w2 ⟨rfl, hb2⟩
          have B2 := Lib.hid (X0.out.on hb2).2.2
          clear hb2 x0 x1
          go_wp2
          go_ret
          exact ⟨ret_bool rfl, B2.out⟩
/-- What DoCross answers. -/
def dcB (n : Int) (s : List UInt8) (a b c d : Int) : Bool := aciB n s && (difB n [a, b, c, d] && crsF (sgnF (lookS n s)) a.toNat b.toNat c.toNat d.toNat)
set_option maxHeartbeats 1600000 in
set_option maxRecDepth 100000 in
theorem specDoCross (n : Int) (s : ByteArray) (hs : s.size ≤ 9223372036854775807) (a b c d : Int) (w : World) :
    Calls Tryz.prog 40 #[sg n s, .int .i64 a, .int .i64 b, .int .i64 c, .int .i64 d] w fun e w' => e = .returned (.bool (dcB n s.data.toList a b c d)) ∧ Below w.heap.size w w' := by
  have HA := Lib.hid (fun W => specAci n s hs W)
  have HS := Lib.hid (box_made w n s 25)
  obtain ⟨x0, x1, -⟩ := HS.out
  cases h : aciB n s.data.toList
  · have HE : Hid (dcB n s.data.toList a b c d = false) := Lib.hid (by unfold dcB; rw [h]; rfl)
    rw [h] at HA
    clear h
    go_enter Tryz.func40, Tryz.ntmps40
    go_wp2_with fail
    refine (HA.out _).mono ?_
    rintro e w1 ⟨rfl, hb1⟩
    have B1 := Lib.hid (HS.out.on hb1).2.2
    clear hb1 x0 x1
    go_wp2
    go_ret
    exact ⟨ret_bool HE.out.symm, B1.out⟩
  · obtain ⟨h3, h7⟩ := aciB_n h
    obtain ⟨m, rfl⟩ : ∃ m : Nat, n = m := ⟨n.toNat, by omega⟩
    have HD : Hid (∀ g W, Cells W g 4 (zc [a, b, c, d]) → Calls Tryz.prog 99 #[.int .i64 m, .slice (some ⟨g, 0, none⟩) 4 4] W fun e w' => e = .returned (.bool (difB m [a, b, c, d])) ∧ Below W.heap.size W w') := Lib.hid (fun g W hW => l5Different_any m (by omega) [a, b, c, d] (by simp) g 4 W hW)
    cases hdf : difB m [a, b, c, d]
    · have HE : Hid (dcB m s.data.toList a b c d = false) := Lib.hid (by unfold dcB; rw [hdf]; simp)
      rw [h] at HA
      rw [hdf] at HD
      clear h hdf
      go_enter Tryz.func40, Tryz.ntmps40
      go_wp2_with fail
      refine (HA.out _).mono ?_
      rintro e w1 ⟨rfl, hb1⟩
      have X1 := Lib.hid (HS.out.on hb1)
      clear hb1 x0 x1
      obtain ⟨x0, x1, B1⟩ := X1.out
      have G1 := Lib.hid (cells4_made w1 a b c d 3)
      have B1a := Lib.hid (B1.alloc B1.size (.cells #[.int .i64 a, .int .i64 b, .int .i64 c, .int .i64 d] 3))
      go_wp2_with fail
      refine (HD.out _ _ G1.out).mono ?_
      rintro e w2 ⟨rfl, hb2⟩
      have B2 := Lib.hid (B1a.out.trans (hb2.mono B1a.out.size))
      clear hb2 x0 x1
      go_wp2
      go_ret
      exact ⟨ret_bool HE.out.symm, B2.out⟩
    · have har := matB_ar (aciB_mat h)
      obtain ⟨ga, gb, gc, gd, n1, n2, n3, n4, n5, n6⟩ := difB4.1 hdf
      obtain ⟨a, rfl⟩ : ∃ x : Nat, a = x := ⟨a.toNat, by omega⟩
      obtain ⟨b, rfl⟩ : ∃ x : Nat, b = x := ⟨b.toNat, by omega⟩
      obtain ⟨c, rfl⟩ : ∃ x : Nat, c = x := ⟨c.toNat, by omega⟩
      obtain ⟨d, rfl⟩ : ∃ x : Nat, d = x := ⟨d.toNat, by omega⟩
      have HC := Lib.hid (fun W => l9Cross_any m s har a b c d (by omega) (by omega) (by omega) (by omega) (by omega) (by omega) W)
      have HE : Hid (dcB m s.data.toList a b c d = crsF (sgnF (lookS m s.data.toList)) a b c d) := Lib.hid (by unfold dcB; rw [h, hdf]; simp)
      rw [HE.out]
      generalize crsF (sgnF (lookS m s.data.toList)) a b c d = y at HC ⊢
      rw [h] at HA
      rw [hdf] at HD
      clear h hdf har HE n1 n2 n3 n4 n5 n6
      go_enter Tryz.func40, Tryz.ntmps40
      go_wp2_with fail
      refine (HA.out _).mono ?_
      rintro e w1 ⟨rfl, hb1⟩
      have X1 := Lib.hid (HS.out.on hb1)
      clear hb1 x0 x1
      obtain ⟨x0, x1, B1⟩ := X1.out
      have G1 := Lib.hid (cells4_made w1 a b c d 3)
      have X1a := Lib.hid (X1.out.alloc (.cells #[.int .i64 a, .int .i64 b, .int .i64 c, .int .i64 d] 3))
      go_wp2_with fail
      refine (HD.out _ _ G1.out).mono ?_
      rintro e w2 ⟨rfl, hb2⟩
      have X2 := Lib.hid (X1a.out.on hb2)
      clear hb2 x0 x1 B1
      obtain ⟨x0, x1, B2⟩ := X2.out
      go_wp2_with fail
      refine (HC.out _).mono ?_
      rintro e w3 ⟨rfl, hb3⟩
      have B3 := Lib.hid (B2.trans (hb3.mono B2.size))
      clear hb3 x0 x1
      go_wp2
      go_ret
      exact ⟨rfl, B3.out⟩
end Go.Proofs.YtinlnafkmoabbaaGreatDoor.Sg
/- Crossing pairs, as spec tells them: l9Pairs, CrossingPairs, IsPlane. -/
namespace Go.Proofs.YtinlnafkmoabbaaGreatDoor.Sg
open Go.RowKit Pt NewI
/-- The crossing pairs of which the greater number is x, with the lesser ones ahead of y; all of these ahead of x. -/
def prY (q : Nat × Nat → Bool) (x : Nat) : Nat → Nat
  | 0 => 0
  | y + 1 => prY q x y + bit (q (x, y))
def prX (q : Nat × Nat → Bool) : Nat → Nat
  | 0 => 0
  | x + 1 => prX q x + prY q x x
theorem prY_is (q : Nat × Nat → Bool) (x : Nat) : ∀ y, ((List.range y).map fun y => (x, y)).countP q = prY q x y
  | 0 => rfl
  | y + 1 => by
    rw [List.range_succ, List.map_append, List.countP_append, prY_is q x y]
    cases h : q (x, y) <;> simp [h, prY, bit]
theorem prX_is (q : Nat × Nat → Bool) : ∀ x, ((List.range x).flatMap fun x => (List.range x).map fun y => (x, y)).countP q = prX q x
  | 0 => rfl
  | x + 1 => by
    rw [List.range_succ, List.flatMap_append, List.countP_append, prX_is q x]
    have : ([x].flatMap fun x => (List.range x).map fun y => (x, y)) = (List.range x).map fun y => (x, y) := by simp
    rw [this, prY_is q x x]
    rfl
theorem prN_is (F : Int → Int → Int → Int) (n S : Nat) : prN F n S = prX (crP F n S) (eN n) := prX_is _ _
theorem prY_bd (q : Nat × Nat → Bool) (x : Nat) : ∀ y, prY q x y ≤ y
  | 0 => Nat.le_refl _
  | y + 1 => by
    have := prY_bd q x y
    have := bit_le (q (x, y))
    show prY q x y + bit (q (x, y)) ≤ _
    omega
theorem prX_bd (q : Nat × Nat → Bool) : ∀ x, prX q x ≤ 21 * x ∨ 21 < x
  | 0 => .inl (Nat.le_refl _)
  | x + 1 => by
    have := prY_bd q x x
    have := prX_bd q x
    show prX q x + prY q x x ≤ _ ∨ _
    omega
theorem edZ_in {n k : Nat} (h3 : 3 ≤ n) (h7 : n ≤ 7) (hk : k < eN n) : edZ n k = (((edL n k).1 : Int), ((edL n k).2 : Int)) := by
  unfold edZ
  rw [if_pos ⟨inB_yes (by omega) (by omega), by omega, by rw [Int.toNat_natCast]; omega⟩, Int.toNat_natCast, Int.toNat_natCast]
set_option maxHeartbeats 3200000 in
set_option maxRecDepth 100000 in
theorem l9Pairs_any (n : Nat) (s : ByteArray) (h : aciB n s.data.toList = true) (S : Nat) (hS : S < 4194304) (w : World) :
    Calls Tryz.prog 103 #[sg n s, .int .i64 S] w fun e w' => e = .returned (.int .i64 (prN (sgnF (lookS n s.data.toList)) n S : Nat)) ∧ Below w.heap.size w w' := by
  obtain ⟨h3, h7⟩ := aciB_n h
  have h3 : 3 ≤ n := by omega
  have h7 : n ≤ 7 := by omega
  have har := matB_ar (aciB_mat h)
  have HS := Lib.hid (box_made w n s 25)
  have hE := eN_bd n (by omega)
  have vP : IntKind.i64.wrap ((n : Int) * ((n : Int) - 1)) = ((2 * eN n : Nat) : Int) := by
    rcases (by omega : n = 3 ∨ n = 4 ∨ n = 5 ∨ n = 6 ∨ n = 7) with rfl | rfl | rfl | rfl | rfl <;> decide +kernel
  have HHA := Lib.hid (fun (k : Nat) (hk : k < 64) W => l6HasE_any S k hS hk W)
  have HED : Hid (∀ k : Nat, k < eN n → ∀ W, Calls Tryz.prog 32 #[.int .i64 n, .int .i64 k] W fun e w' => e = .returned (.tuple #[.int .i64 ((edL n k).1 : Nat), .int .i64 ((edL n k).2 : Nat)]) ∧ W = w') := Lib.hid (fun k hk W => by
    have := specEdgeAt n k W
    rw [edZ_in h3 h7 hk] at this
    exact this)
  have HCRF : Hid (∀ (x y : Nat), x < eN n → y < eN n → ∀ W, Calls Tryz.prog 102 #[sg n s, .int .i64 ((edL n x).1 : Nat), .int .i64 ((edL n x).2 : Nat), .int .i64 ((edL n y).1 : Nat), .int .i64 ((edL n y).2 : Nat)] W fun e w' => e = .returned (.bool (crsF (sgnF (lookS n s.data.toList)) (edL n x).1 (edL n x).2 (edL n y).1 (edL n y).2)) ∧ Below W.heap.size W w') := Lib.hid (fun x y hx hy W => by
    have hx := edL_lt h7 hx
    have hy := edL_lt h7 hy
    exact l9Cross_any n s har (edL n x).1 (edL n x).2 (edL n y).1 (edL n y).2 (by omega) (by omega) (by omega) (by omega) (by omega) (by omega) W)
  have HQ : Hid (∀ x y, crP (sgnF (lookS n s.data.toList)) n S (x, y) = ((S.testBit x && S.testBit y) && crsF (sgnF (lookS n s.data.toList)) (edL n x).1 (edL n x).2 (edL n y).1 (edL n y).2)) := Lib.hid (fun x y => rfl)
  rw [prN_is]
  generalize crP (sgnF (lookS n s.data.toList)) n S = q at HQ ⊢
  have HXB := Lib.hid (fun x => prX_bd q x)
  have HYB := Lib.hid (fun x y => prY_bd q x y)
  have HX0 : Hid (prX q 0 = 0) := Lib.hid rfl
  have HXS : Hid (∀ x, prX q (x + 1) = prX q x + prY q x x) := Lib.hid (fun _ => rfl)
  have HY0 : Hid (∀ x, prY q x 0 = 0) := Lib.hid (fun _ => rfl)
  have HYS : Hid (∀ x y, prY q x (y + 1) = prY q x y + bit (q (x, y))) := Lib.hid (fun _ _ => rfl)
  generalize prX q = pX at HXB HX0 HXS ⊢
  generalize prY q = pY at HYB HXS HY0 HYS
  generalize eN n = E at hE vP HED HCRF ⊢
  generalize crsF (sgnF (lookS n s.data.toList)) = cr at HCRF HQ
  generalize edL n = ed at HED HCRF HQ
  clear h har
  obtain ⟨x0, x1, -⟩ := HS.out
  go_enter Tryz.func103, Tryz.ntmps103
  go_wp2
  go_loopw [5, 6] (fun sv xv wr => ∃ x t : Nat, sv = .int .i64 t ∧ xv = .int .i64 x ∧ x ≤ E ∧ t ≤ 441 ∧ Hid (t = pX x) ∧ Hid (Box w n s wr)) (fun _ c _ => E - (intOf c).toNat)
  case atStart => exact ⟨0, 0, rfl, rfl, Nat.zero_le _, by omega, Lib.hid HX0.out.symm, HS⟩
  case round =>
    obtain ⟨x, t, rfl, rfl, hx, ht, HT, HB⟩ := hrel
    rename World => wA
    obtain ⟨c0, c1, B0⟩ := HB.out
    by_cases hlt : x < E
    · go_wp2
      go_loopw [5, 7] (fun sv yv wr => ∃ y t : Nat, sv = .int .i64 t ∧ yv = .int .i64 y ∧ y ≤ x ∧ t ≤ 441 ∧ Hid (t = pX x + pY x y) ∧ Hid (Box w n s wr)) (fun _ c _ => x - (intOf c).toNat)
      case atStart => exact ⟨0, t, rfl, rfl, Nat.zero_le _, ht, Lib.hid (by have := HT.out; have := HY0.out x; omega), HB⟩
      case round =>
        obtain ⟨y, t2, rfl, rfl, hy, ht2, HT2, HB2⟩ := hrel
        clear c0 c1 B0
        obtain ⟨c0, c1, B0⟩ := HB2.out
        by_cases hlt2 : y < x
        · have HA := Lib.hid (HHA.out x (by omega))
          have HBT := Lib.hid (HHA.out y (by omega))
          have HE1 := Lib.hid (HED.out x hlt)
          have HE2 := Lib.hid (HED.out y (by omega))
          have HC := Lib.hid (HCRF.out x y hlt (by omega))
          have HQP := Lib.hid (HQ.out x y)
          have HYP := Lib.hid (HYS.out x y)
          have hbd : t2 + 1 ≤ 441 := by
            have := HT2.out
            have := HXB.out x
            have := HYB.out x y
            omega
          generalize S.testBit x = bx at HA HQP
          generalize S.testBit y = by_ at HBT HQP
          generalize ed x = e1 at HE1 HC HQP
          generalize ed y = e2 at HE2 HC HQP
          obtain ⟨a, b⟩ := e1
          obtain ⟨c, d⟩ := e2
          cases bx
          · have HT3 : Hid (t2 = pX x + pY x (y + 1)) := Lib.hid (by have := HT2.out; have := HYP.out; rw [HQP.out] at this; simp [bit] at this; omega)
            go_wp2_with fail
            refine (HA.out _).mono ?_
            rintro e w' ⟨rfl, rfl⟩
            go_wp2
            exact ⟨⟨y + 1, t2, by trivial, by go_num, by omega, ht2, HT3, HB2⟩, by simp only [intOf]; omega⟩
          · cases by_
            · have HT3 : Hid (t2 = pX x + pY x (y + 1)) := Lib.hid (by have := HT2.out; have := HYP.out; rw [HQP.out] at this; simp [bit] at this; omega)
              go_wp2_with fail
              refine (HA.out _).mono ?_
              rintro e w' ⟨rfl, rfl⟩
              go_wp2_with fail
              refine (HBT.out _).mono ?_
              rintro e w' ⟨rfl, rfl⟩
              go_wp2
              exact ⟨⟨y + 1, t2, by trivial, by go_num, by omega, ht2, HT3, HB2⟩, by simp only [intOf]; omega⟩
            · dsimp only at HE1 HE2 HC HQP
              generalize cr a b c d = r at HC HQP
              have hbr := bit_le r
              have HT3 : Hid (t2 + bit r = pX x + pY x (y + 1)) := Lib.hid (by have := HT2.out; have := HYP.out; rw [HQP.out] at this; simp at this; omega)
              go_wp2_with fail
              refine (HA.out _).mono ?_
              rintro e w' ⟨rfl, rfl⟩
              go_wp2_with fail
              refine (HBT.out _).mono ?_
              rintro e w' ⟨rfl, rfl⟩
              go_wp2_with fail
              refine (HE1.out _).mono ?_
              rintro e w' ⟨rfl, rfl⟩
              go_wp2_with fail
              refine (HE2.out _).mono ?_
              rintro e w' ⟨rfl, rfl⟩
              go_wp2_with fail
              refine (HC.out _).mono ?_
              rintro e w5 ⟨rfl, hb5⟩
              have X5 := Lib.hid (HB2.out.on hb5)
              clear hb5 c0 c1 B0
              go_wp2_with fail
              refine (l1Bit_any _ _).mono ?_
              rintro e w' ⟨rfl, rfl⟩
              go_wp2
              exact ⟨⟨y + 1, t2 + bit r, by go_num, by go_num, by omega, by omega, HT3, X5⟩, by simp only [intOf]; omega⟩
        · have he : y = x := by omega
          subst he
          have HT3 : Hid (t2 = pX (y + 1)) := Lib.hid (by have := HT2.out; have := HXS.out y; omega)
          go_wp2
          exact ⟨⟨y + 1, t2, by trivial, by go_num, by omega, ht2, HT3, HB2⟩, by simp only [intOf]; omega⟩
    · have he : x = E := by omega
      subst he
      go_wp2
      go_ret
      exact ⟨ret_int (by have := HT.out; omega), B0⟩
/-- What CrossingPairs answers. -/
def cpZ (n : Int) (s : List UInt8) (S : Int) : Int := if aciB n s = true ∧ inB S 0 (allZ n) = true then (prN (sgnF (lookS n s)) n.toNat S.toNat : Nat) else -1
set_option maxHeartbeats 1600000 in
set_option maxRecDepth 100000 in
theorem specCrossings (n : Int) (s : ByteArray) (hs : s.size ≤ 9223372036854775807) (S : Int) (w : World) :
    Calls Tryz.prog 41 #[sg n s, .int .i64 S] w fun e w' => e = .returned (.int .i64 (cpZ n s.data.toList S)) ∧ Below w.heap.size w w' := by
  have HA := Lib.hid (fun W => specAci n s hs W)
  have HS := Lib.hid (box_made w n s 25)
  obtain ⟨x0, x1, -⟩ := HS.out
  cases h : aciB n s.data.toList
  · have HE : Hid (cpZ n s.data.toList S = -1) := Lib.hid (by unfold cpZ; rw [h]; simp)
    rw [h] at HA
    clear h
    go_enter Tryz.func41, Tryz.ntmps41
    go_wp2_with fail
    refine (HA.out _).mono ?_
    rintro e w1 ⟨rfl, hb1⟩
    have B1 := Lib.hid (HS.out.on hb1).2.2
    clear hb1 x0 x1
    go_wp2
    go_ret
    exact ⟨ret_int HE.out.symm, B1.out⟩
  · obtain ⟨h3, h7⟩ := aciB_n h
    obtain ⟨m, rfl⟩ : ∃ m : Nat, n = m := ⟨n.toNat, by omega⟩
    have HAE := Lib.hid (fun W => specAllEdges (m : Int) W)
    have HLB := Lib.hid (fun W => l1In_any S 0 (allZ m) W)
    cases hin : inB S 0 (allZ m)
    · have HE : Hid (cpZ m s.data.toList S = -1) := Lib.hid (by unfold cpZ; rw [hin]; simp)
      rw [h] at HA
      rw [hin] at HLB
      generalize allZ (m : Int) = al at HAE HLB
      clear h hin
      go_enter Tryz.func41, Tryz.ntmps41
      go_wp2_with fail
      refine (HA.out _).mono ?_
      rintro e w1 ⟨rfl, hb1⟩
      have X1 := Lib.hid (HS.out.on hb1)
      clear hb1 x0 x1
      obtain ⟨x0, x1, B1⟩ := X1.out
      go_wp2_with fail
      refine (HAE.out _).mono ?_
      rintro e w' ⟨rfl, rfl⟩
      go_wp2_with fail
      refine (HLB.out _).mono ?_
      rintro e w' ⟨rfl, rfl⟩
      go_wp2
      go_ret
      exact ⟨ret_int HE.out.symm, B1⟩
    · have hS := inB_mem hin
      have hal : allZ m ≤ 2097151 := by
        unfold allZ
        split
        · rw [Int.toNat_natCast]
          have := Nat.pow_le_pow_right (n := 2) (by omega) (eN_bd m (by omega))
          omega
        · omega
      obtain ⟨S, rfl⟩ : ∃ x : Nat, S = x := ⟨S.toNat, by omega⟩
      have HE : Hid (cpZ m s.data.toList S = (prN (sgnF (lookS m s.data.toList)) m S : Nat)) := Lib.hid (by unfold cpZ; rw [h, hin]; simp)
      have HP := Lib.hid (fun W => l9Pairs_any m s h S (by omega) W)
      rw [HE.out]
      generalize prN (sgnF (lookS m s.data.toList)) m S = r at HP ⊢
      rw [h] at HA
      rw [hin] at HLB
      generalize allZ (m : Int) = al at HAE HLB hal hS
      clear h hin HE
      go_enter Tryz.func41, Tryz.ntmps41
      go_wp2_with fail
      refine (HA.out _).mono ?_
      rintro e w1 ⟨rfl, hb1⟩
      have X1 := Lib.hid (HS.out.on hb1)
      clear hb1 x0 x1
      obtain ⟨x0, x1, B1⟩ := X1.out
      go_wp2_with fail
      refine (HAE.out _).mono ?_
      rintro e w' ⟨rfl, rfl⟩
      go_wp2_with fail
      refine (HLB.out _).mono ?_
      rintro e w' ⟨rfl, rfl⟩
      go_wp2_with fail
      refine (HP.out _).mono ?_
      rintro e w2 ⟨rfl, hb2⟩
      have B2 := Lib.hid (B1.trans (hb2.mono B1.size))
      clear hb2 x0 x1
      go_wp2
      go_ret
      exact ⟨rfl, B2.out⟩
end Go.Proofs.YtinlnafkmoabbaaGreatDoor.Sg
/- Edges of the hull and edges that no edge crosses, as spec tells them: HullEdges, FreeEdges. -/
namespace Go.Proofs.YtinlnafkmoabbaaGreatDoor.Sg
open Go.RowKit Pt NewI
theorem hB_ix (F : Int → Int → Int → Int) {n i j : Nat} (h7 : n ≤ 7) (h : i < j) (hj : j < n) : hB F n (ofs n i + (j - i - 1)) = (leftN F n i j == 0 || leftN F n j i == 0) := by
  unfold hB
  rw [← ix_lt h, (ix_ed h7 h hj).1]
theorem fB_ix (F : Int → Int → Int → Int) {n i j : Nat} (h7 : n ≤ 7) (h : i < j) (hj : j < n) : fB F n (ofs n i + (j - i - 1)) = frB F n i j := by
  unfold fB
  rw [← ix_lt h, (ix_ed h7 h hj).1]
theorem ix_bd {n i j : Nat} (h7 : n ≤ 7) (h : i < j) (hj : j < n) : ofs n i + (j - i - 1) ≤ 20 := by
  rw [← ix_lt h]
  have := (ix_ed h7 h hj).2
  have := eN_bd n (by omega)
  omega
theorem setN_step (q : Nat → Bool) (k : Nat) : setN q (k + 1) = setN q k + (if q k = true then 2 ^ k else 0) := rfl
theorem setN_bd (q : Nat → Bool) (k : Nat) (h : k ≤ 21) : setN q k < 2097152 := Nat.lt_of_lt_of_le (setN_lt q k) (Nat.pow_le_pow_right (n := 2) (by omega) h)
theorem pow_bdE {k : Nat} (h : k ≤ 20) : 2 ^ k ≤ 1048576 := Nat.pow_le_pow_right (n := 2) (by omega) h
/-- What HullEdges answers. -/
def huZ (n : Int) (s : List UInt8) : Int := if aciB n s = true then (hullE (sgnF (lookS n s)) n.toNat : Nat) else 0
set_option maxHeartbeats 3200000 in
set_option maxRecDepth 100000 in
theorem specHullEdges (n : Int) (s : ByteArray) (hs : s.size ≤ 9223372036854775807) (w : World) :
    Calls Tryz.prog 45 #[sg n s] w fun e w' => e = .returned (.int .i64 (huZ n s.data.toList)) ∧ Below w.heap.size w w' := by
  have HA := Lib.hid (fun W => specAci n s hs W)
  have HS := Lib.hid (box_made w n s 25)
  obtain ⟨x0, x1, xb⟩ := HS.out
  cases h : aciB n s.data.toList
  · have HE : Hid (huZ n s.data.toList = 0) := Lib.hid (by unfold huZ; rw [h]; rfl)
    rw [h] at HA
    clear h
    by_cases hn : 0 < n
    · clear xb
      go_enter Tryz.func45, Tryz.ntmps45
      go_wp2
      refine wp_loop_rounds 1 ?_
      rw [rounds_succ]
      go_wp2_with fail
      refine (HA.out _).mono ?_
      rintro e w1 ⟨rfl, hb1⟩
      have B1 := Lib.hid (HS.out.on hb1).2.2
      clear hb1 x0 x1
      go_wp2
      go_ret
      exact ⟨ret_int HE.out.symm, B1.out⟩
    · go_enter Tryz.func45, Tryz.ntmps45
      go_wp2
      refine wp_loop_rounds 1 ?_
      rw [rounds_succ]
      go_wp2
      go_ret
      exact ⟨ret_int HE.out.symm, xb⟩
  · obtain ⟨h3, h7⟩ := aciB_n h
    obtain ⟨m, rfl⟩ : ∃ m : Nat, n = m := ⟨n.toNat, by omega⟩
    have h7 : m ≤ 7 := by omega
    have har := matB_ar (aciB_mat h)
    have HE : Hid (huZ m s.data.toList = (setN (hB (sgnF (lookS m s.data.toList)) m) (ofs m m) : Nat)) := Lib.hid (by unfold huZ hullE; rw [if_pos h, Int.toNat_natCast, ofs_all m (by omega)])
    have HL : Hid (∀ i j : Nat, i < m → j < m → i ≠ j → ∀ W, Calls Tryz.prog 105 #[sg m s, .int .i64 i, .int .i64 j] W fun e w' => e = .returned (.int .i64 (leftN (sgnF (lookS m s.data.toList)) m i j : Nat)) ∧ Below W.heap.size W w') := Lib.hid (fun i j hi hj hij W => l7Left_any m s har i j hi hj hij W)
    have HIX : Hid (∀ i j : Nat, i < j → j < m → ∀ W, Calls Tryz.prog 94 #[.int .i64 m, .int .i64 i, .int .i64 j] W fun e w' => e = .returned (.int .i64 ((ofs m i + (j - i - 1) : Nat) : Int)) ∧ W = w') := Lib.hid (fun i j hij hj W => by
      have := l9Index_any m i j h7 (by omega) hj (by omega) W
      rw [ix_lt hij] at this
      exact this)
    have HQ := Lib.hid (fun (i j : Nat) (hij : i < j) (hj : j < m) => hB_ix (sgnF (lookS m s.data.toList)) h7 hij hj)
    have HBD := Lib.hid (fun (i j : Nat) (hij : i < j) (hj : j < m) => ix_bd h7 hij hj)
    have HPS := Lib.hid (fun a (h : a < m) => ofs_step h)
    have HPB := Lib.hid (fun a (h : a < 8) => ofs_bd m (by omega) a h)
    have HP0 : Hid (ofs m 0 = 0) := Lib.hid rfl
    rw [HE.out]
    rw [h] at HA
    generalize hB (sgnF (lookS m s.data.toList)) m = q at HQ ⊢
    generalize leftN (sgnF (lookS m s.data.toList)) m = L at HL HQ
    have HSS := Lib.hid (setN_step q)
    have HSB := Lib.hid (setN_bd q)
    have HS0 : Hid (setN q 0 = 0) := Lib.hid rfl
    generalize setN q = st at HSS HSB HS0 ⊢
    generalize ofs m = p at HIX HQ HBD HPS HPB HP0 ⊢
    clear h har HE xb
    go_enter Tryz.func45, Tryz.ntmps45
    go_wp2
    go_loopw [3, 4] (fun ov x wr => ∃ (i t : Nat), i ≤ m ∧ x = .int .i64 i ∧ ov = .int .i64 t ∧ t < 2097152 ∧ Hid (t = st (p i)) ∧ Hid (Box w m s wr)) (fun _ x _ => m - (intOf x).toNat)
    case atStart => exact ⟨0, 0, Nat.zero_le _, rfl, rfl, by omega, Lib.hid (by rw [HP0.out, HS0.out]), HS⟩
    case round =>
      obtain ⟨i, t, him, rfl, rfl, ht, HT, HB⟩ := hrel
      rename World => wA
      obtain ⟨c0, c1, B0⟩ := HB.out
      by_cases hlt : i < m
      · go_wp2_with fail
        refine (HA.out _).mono ?_
        rintro e w1 ⟨rfl, hb1⟩
        have X1 := Lib.hid (HB.out.on hb1)
        clear hb1 c0 c1 B0 HB
        obtain ⟨c0, c1, -⟩ := X1.out
        go_wp2
        go_loopw [3, 5] (fun ov x wr => ∃ (j t : Nat), i < j ∧ j ≤ m ∧ x = .int .i64 j ∧ ov = .int .i64 t ∧ t < 2097152 ∧ Hid (t = st (p i + (j - i - 1))) ∧ Hid (Box w m s wr)) (fun _ x _ => m - (intOf x).toNat)
        case atStart => exact ⟨i + 1, t, by omega, by omega, by go_num, rfl, ht, Lib.hid (by rw [show i + 1 - i - 1 = 0 by omega]; exact HT.out), X1⟩
        case round =>
          obtain ⟨j, t, hij, hjm, rfl, rfl, ht, HT2, HB⟩ := hrel
          clear c0 c1
          obtain ⟨c0, c1, B0⟩ := HB.out
          by_cases hlt2 : j < m
          · have HC1 := Lib.hid (HL.out i j hlt hlt2 (by omega))
            have HC2 := Lib.hid (HL.out j i hlt2 hlt (by omega))
            have HI := Lib.hid (HIX.out i j hij hlt2)
            have HQP := Lib.hid (HQ.out i j hij hlt2)
            have hk := HBD.out i j hij hlt2
            have HSK := Lib.hid (HSS.out (p i + (j - i - 1)))
            have HSE := Lib.hid (HSB.out (p i + (j - i - 1) + 1) (by omega))
            have HKE : Hid (p i + (j + 1 - i - 1) = p i + (j - i - 1) + 1) := Lib.hid (by omega)
            generalize p i + (j - i - 1) = k at HI HQP hk HSK HT2 HSE HKE
            generalize L i j = a at HC1 HQP
            generalize L j i = b at HC2 HQP
            have hpw := pow_bdE hk
            have e2 : ((2 : Int) ^ k) = ((2 ^ k : Nat) : Int) := by push_cast; rfl
            obtain ⟨A, hA⟩ : ∃ x : Nat, x = 2 ^ k := ⟨_, rfl⟩
            rw [← hA] at hpw
            have wa : IntKind.i64.wrap ((2 : Int) ^ k) = (A : Int) := by rw [e2, ← hA]; exact IntWalk.i64_in _ (by omega)
            have HAE := Lib.hid hA
            clear e2 hA
            cases ha : (((a : Nat) : Int) == 0)
            · have HCC : Hid (q k = (b == 0)) := Lib.hid (by rw [HQP.out, beq_false_of_ne (by simpa using ha)]; rfl)
              cases hb : (((b : Nat) : Int) == 0)
              · have HT3 : Hid (t = st (p i + (j + 1 - i - 1))) := Lib.hid (by rw [HKE.out, HSK.out, if_neg (by rw [HCC.out]; simpa using hb)]; exact HT2.out)
                go_wp2_with fail
                refine (HC1.out _).mono ?_
                rintro e w2 ⟨rfl, hb2⟩
                have X2 := Lib.hid (HB.out.on hb2)
                clear hb2 c0 c1 B0
                obtain ⟨c0, c1, -⟩ := X2.out
                go_wp2_with fail
                refine (HC2.out _).mono ?_
                rintro e w3 ⟨rfl, hb3⟩
                have X3 := Lib.hid (X2.out.on hb3)
                clear hb3 c0 c1
                go_wp2
                exact ⟨⟨j + 1, t, by omega, by omega, by go_num, by trivial, ht, HT3, X3⟩, by simp only [intOf]; omega⟩
              · have HT3 : Hid (t + A = st (p i + (j + 1 - i - 1))) := Lib.hid (by rw [HKE.out, HSK.out, if_pos (by rw [HCC.out]; simpa using hb), HAE.out, HT2.out])
                have ht3 : t + A < 2097152 := by have := HT3.out; have := HSE.out; rw [HKE.out] at *; omega
                go_wp2_with fail
                refine (HC1.out _).mono ?_
                rintro e w2 ⟨rfl, hb2⟩
                have X2 := Lib.hid (HB.out.on hb2)
                clear hb2 c0 c1 B0
                obtain ⟨c0, c1, -⟩ := X2.out
                go_wp2_with fail
                refine (HC2.out _).mono ?_
                rintro e w3 ⟨rfl, hb3⟩
                have X3 := Lib.hid (X2.out.on hb3)
                clear hb3 c0 c1
                obtain ⟨c0, c1, -⟩ := X3.out
                go_wp2_with fail
                refine (HI.out _).mono ?_
                rintro e w' ⟨rfl, rfl⟩
                go_wp2
                exact ⟨⟨j + 1, t + A, by omega, by omega, by go_num, by go_num, ht3, HT3, X3⟩, by simp only [intOf]; omega⟩
            · have HT3 : Hid (t + A = st (p i + (j + 1 - i - 1))) := Lib.hid (by rw [HKE.out, HSK.out, if_pos (by rw [HQP.out, show a = 0 by simpa using ha]; rfl), HAE.out, HT2.out])
              have ht3 : t + A < 2097152 := by have := HT3.out; have := HSE.out; rw [HKE.out] at *; omega
              go_wp2_with fail
              refine (HC1.out _).mono ?_
              rintro e w2 ⟨rfl, hb2⟩
              have X2 := Lib.hid (HB.out.on hb2)
              clear hb2 c0 c1 B0
              obtain ⟨c0, c1, -⟩ := X2.out
              go_wp2_with fail
              refine (HI.out _).mono ?_
              rintro e w' ⟨rfl, rfl⟩
              go_wp2
              exact ⟨⟨j + 1, t + A, by omega, by omega, by go_num, by go_num, ht3, HT3, X2⟩, by simp only [intOf]; omega⟩
          · have HT3 : Hid (t = st (p (i + 1))) := Lib.hid (by rw [show p (i + 1) = p i + (j - i - 1) by have := HPS.out i hlt; omega]; exact HT2.out)
            go_wp2
            exact ⟨⟨i + 1, t, by omega, by go_num, by trivial, ht, HT3, HB⟩, by simp only [intOf]; omega⟩
      · have he : i = m := by omega
        subst he
        go_wp2
        go_ret
        exact ⟨ret_int (by rw [HT.out]), B0⟩
/-- No pair of elements ahead of b with the lesser one a; none with the lesser one ahead of a. -/
def frJ (c : Nat → Nat → Bool) (a : Nat) : Nat → Bool
  | 0 => true
  | b + 1 => frJ c a b && !(decide (a < b) && c a b)
def frI (c : Nat → Nat → Bool) (n : Nat) : Nat → Bool
  | 0 => true
  | a + 1 => frI c n a && frJ c a n
theorem frJ_iff (c : Nat → Nat → Bool) (a : Nat) : ∀ b, frJ c a b = true ↔ ∀ x, a < x → x < b → c a x = false
  | 0 => by simp [frJ]
  | b + 1 => by
    unfold frJ
    rw [Bool.and_eq_true, frJ_iff c a b, Bool.not_eq_true', Bool.and_eq_false_iff, decide_eq_false_iff_not]
    constructor
    · rintro ⟨h1, h2⟩ x hx hb
      by_cases e : x = b
      · subst e; exact h2.resolve_left (by omega)
      · exact h1 x hx (by omega)
    · intro h
      refine ⟨fun x hx hb => h x hx (by omega), ?_⟩
      by_cases e : a < b
      · exact .inr (h b e (by omega))
      · exact .inl e
theorem frI_iff (c : Nat → Nat → Bool) (n : Nat) : ∀ a, frI c n a = true ↔ ∀ y, y < a → ∀ x, y < x → x < n → c y x = false
  | 0 => by simp [frI]
  | a + 1 => by
    unfold frI
    rw [Bool.and_eq_true, frI_iff c n a, frJ_iff]
    constructor
    · rintro ⟨h1, h2⟩ y hy
      by_cases e : y = a
      · subst e; exact h2
      · exact h1 y (by omega)
    · intro h
      exact ⟨fun y hy => h y (by omega), h a (by omega)⟩
theorem frJ_zero (c : Nat → Nat → Bool) (a b : Nat) (h : b ≤ a + 1) : frJ c a b = true := (frJ_iff c a b).2 fun x h1 h2 => by omega
theorem mem_pairsU {n : Nat} {p : Nat × Nat} : p ∈ pairsU n ↔ p.1 < p.2 ∧ p.2 < n := by
  obtain ⟨a, b⟩ := p
  unfold pairsU
  rw [List.mem_flatMap]
  constructor
  · rintro ⟨i, hi, hm⟩
    obtain ⟨j, hj, he⟩ := List.mem_map.1 hm
    obtain ⟨rfl, rfl⟩ := Prod.mk.inj he
    have := List.mem_range.1 hi
    have := List.mem_range'_1.1 hj
    show i < j ∧ j < n
    omega
  · rintro ⟨h1, h2⟩
    dsimp only at h1 h2
    exact ⟨a, List.mem_range.2 (by omega), List.mem_map.2 ⟨b, List.mem_range'_1.2 (by omega), rfl⟩⟩
theorem frB_is (F : Int → Int → Int → Int) (n i j : Nat) : frB F n i j = frI (crsF F i j) n n := by
  rw [Bool.eq_iff_iff, frI_iff]
  unfold frB
  rw [List.all_eq_true]
  constructor
  · intro h y hy x h1 h2
    have := h (y, x) (mem_pairsU.2 ⟨h1, h2⟩)
    simpa using this
  · rintro h ⟨a, b⟩ hq
    obtain ⟨h1, h2⟩ := mem_pairsU.1 hq
    dsimp only at h1 h2
    have := h a (by omega) b h1 h2
    simpa using this
/-- What FreeEdges answers. -/
def frZ (n : Int) (s : List UInt8) : Int := if aciB n s = true then (freeE (sgnF (lookS n s)) n.toNat : Nat) else 0
set_option maxHeartbeats 3200000 in
set_option maxRecDepth 100000 in
theorem specFreeEdges (n : Int) (s : ByteArray) (hs : s.size ≤ 9223372036854775807) (w : World) :
    Calls Tryz.prog 47 #[sg n s] w fun e w' => e = .returned (.int .i64 (frZ n s.data.toList)) ∧ Below w.heap.size w w' := by
  have HA := Lib.hid (fun W => specAci n s hs W)
  have HS := Lib.hid (box_made w n s 25)
  obtain ⟨x0, x1, xb⟩ := HS.out
  cases h : aciB n s.data.toList
  · have HE : Hid (frZ n s.data.toList = 0) := Lib.hid (by unfold frZ; rw [h]; rfl)
    rw [h] at HA
    clear h
    by_cases hn : 0 < n
    · clear xb
      go_enter Tryz.func47, Tryz.ntmps47
      go_wp2
      refine wp_loop_rounds 1 ?_
      rw [rounds_succ]
      go_wp2_with fail
      refine (HA.out _).mono ?_
      rintro e w1 ⟨rfl, hb1⟩
      have B1 := Lib.hid (HS.out.on hb1).2.2
      clear hb1 x0 x1
      go_wp2
      go_ret
      exact ⟨ret_int HE.out.symm, B1.out⟩
    · go_enter Tryz.func47, Tryz.ntmps47
      go_wp2
      refine wp_loop_rounds 1 ?_
      rw [rounds_succ]
      go_wp2
      go_ret
      exact ⟨ret_int HE.out.symm, xb⟩
  · obtain ⟨h3, h7⟩ := aciB_n h
    obtain ⟨m, rfl⟩ : ∃ m : Nat, n = m := ⟨n.toNat, by omega⟩
    have h7 : m ≤ 7 := by omega
    have har := matB_ar (aciB_mat h)
    have HE : Hid (frZ m s.data.toList = (setN (fB (sgnF (lookS m s.data.toList)) m) (ofs m m) : Nat)) := Lib.hid (by unfold frZ freeE; rw [if_pos h, Int.toNat_natCast, ofs_all m (by omega)])
    have HC : Hid (∀ i j a b : Nat, i < j → j < m → a < b → b < m → ∀ W, Calls Tryz.prog 102 #[sg m s, .int .i64 i, .int .i64 j, .int .i64 a, .int .i64 b] W fun e w' => e = .returned (.bool (crsF (sgnF (lookS m s.data.toList)) i j a b)) ∧ Below W.heap.size W w') := Lib.hid (fun i j a b hij hj hab hb W => l9Cross_any m s har i j a b (by omega) hj (by omega) hb (by omega) (by omega) W)
    have HIX : Hid (∀ i j : Nat, i < j → j < m → ∀ W, Calls Tryz.prog 94 #[.int .i64 m, .int .i64 i, .int .i64 j] W fun e w' => e = .returned (.int .i64 ((ofs m i + (j - i - 1) : Nat) : Int)) ∧ W = w') := Lib.hid (fun i j hij hj W => by
      have := l9Index_any m i j h7 (by omega) hj (by omega) W
      rw [ix_lt hij] at this
      exact this)
    have HQ := Lib.hid (fun (i j : Nat) (hij : i < j) (hj : j < m) => fB_ix (sgnF (lookS m s.data.toList)) h7 hij hj)
    have HBD := Lib.hid (fun (i j : Nat) (hij : i < j) (hj : j < m) => ix_bd h7 hij hj)
    have HPS := Lib.hid (fun a (h : a < m) => ofs_step h)
    have HPB := Lib.hid (fun a (h : a < 8) => ofs_bd m (by omega) a h)
    have HP0 : Hid (ofs m 0 = 0) := Lib.hid rfl
    rw [HE.out]
    rw [h] at HA
    generalize fB (sgnF (lookS m s.data.toList)) m = q at HQ ⊢
    have HFR : Hid (∀ i j, frB (sgnF (lookS m s.data.toList)) m i j = frI (crsF (sgnF (lookS m s.data.toList)) i j) m m) := Lib.hid (fun i j => frB_is _ _ i j)
    generalize frB (sgnF (lookS m s.data.toList)) m = fr at HQ HFR
    generalize crsF (sgnF (lookS m s.data.toList)) = cr at HC HFR
    have HSS := Lib.hid (setN_step q)
    have HSB := Lib.hid (setN_bd q)
    have HS0 : Hid (setN q 0 = 0) := Lib.hid rfl
    generalize setN q = st at HSS HSB HS0 ⊢
    generalize ofs m = p at HIX HQ HBD HPS HPB HP0 ⊢
    clear h har HE xb
    go_enter Tryz.func47, Tryz.ntmps47
    go_wp2
    go_loopw [3, 4] (fun ov x wr => ∃ (i t : Nat), i ≤ m ∧ x = .int .i64 i ∧ ov = .int .i64 t ∧ t < 2097152 ∧ Hid (t = st (p i)) ∧ Hid (Box w m s wr)) (fun _ x _ => m - (intOf x).toNat)
    case atStart => exact ⟨0, 0, Nat.zero_le _, rfl, rfl, by omega, Lib.hid (by rw [HP0.out, HS0.out]), HS⟩
    case round =>
      obtain ⟨i, t, him, rfl, rfl, ht, HT, HB⟩ := hrel
      rename World => wA
      obtain ⟨c0, c1, B0⟩ := HB.out
      by_cases hlt : i < m
      · go_wp2_with fail
        refine (HA.out _).mono ?_
        rintro e w1 ⟨rfl, hb1⟩
        have X1 := Lib.hid (HB.out.on hb1)
        clear hb1 c0 c1 B0 HB
        obtain ⟨c0, c1, -⟩ := X1.out
        go_wp2
        go_loopw [3, 5] (fun ov x wr => ∃ (j t : Nat), i < j ∧ j ≤ m ∧ x = .int .i64 j ∧ ov = .int .i64 t ∧ t < 2097152 ∧ Hid (t = st (p i + (j - i - 1))) ∧ Hid (Box w m s wr)) (fun _ x _ => m - (intOf x).toNat)
        case atStart => exact ⟨i + 1, t, by omega, by omega, by go_num, rfl, ht, Lib.hid (by rw [show i + 1 - i - 1 = 0 by omega]; exact HT.out), X1⟩
        case round =>
          obtain ⟨j, t, hij, hjm, rfl, rfl, ht, HT2, HB⟩ := hrel
          clear c0 c1
          obtain ⟨c0, c1, B0⟩ := HB.out
          by_cases hlt2 : j < m
          · have HC1 := Lib.hid (fun a b => HC.out i j a b hij hlt2)
            have HFP := Lib.hid (HFR.out i j)
            have HI := Lib.hid (HIX.out i j hij hlt2)
            have HQP := Lib.hid (HQ.out i j hij hlt2)
            have hk := HBD.out i j hij hlt2
            have HSK := Lib.hid (HSS.out (p i + (j - i - 1)))
            have HSE := Lib.hid (HSB.out (p i + (j - i - 1) + 1) (by omega))
            have HKE : Hid (p i + (j + 1 - i - 1) = p i + (j - i - 1) + 1) := Lib.hid (by omega)
            generalize p i + (j - i - 1) = k at HI HQP hk HSK HT2 HSE HKE
            generalize fr i j = f0 at HQP HFP
            generalize cr i j = c at HC1 HFP
            have hpw := pow_bdE hk
            have e2 : ((2 : Int) ^ k) = ((2 ^ k : Nat) : Int) := by push_cast; rfl
            obtain ⟨A, hA⟩ : ∃ x : Nat, x = 2 ^ k := ⟨_, rfl⟩
            rw [← hA] at hpw
            have wa : IntKind.i64.wrap ((2 : Int) ^ k) = (A : Int) := by rw [e2, ← hA]; exact IntWalk.i64_in _ (by omega)
            have HAE := Lib.hid hA
            clear e2 hA
            go_wp2
            go_loopw [6, 7] (fun fv x wr => ∃ (a : Nat) (f : Bool), a ≤ m ∧ x = .int .i64 a ∧ fv = .bool f ∧ Hid (f = frI c m a) ∧ Hid (Box w m s wr)) (fun _ x _ => m - (intOf x).toNat)
            case atStart => exact ⟨0, true, by omega, by go_num, rfl, Lib.hid rfl, HB⟩
            case round =>
              obtain ⟨a, f, ham, rfl, rfl, HF, HB⟩ := hrel
              rename World => wB
              clear c0 c1 B0
              obtain ⟨c0, c1, B0⟩ := HB.out
              by_cases hlt3 : a < m
              · go_wp2
                go_loopw [6, 8] (fun fv x wr => ∃ (b : Nat) (f : Bool), a < b ∧ b ≤ m ∧ x = .int .i64 b ∧ fv = .bool f ∧ Hid (f = (frI c m a && frJ c a b)) ∧ Hid (Box w m s wr)) (fun _ x _ => m - (intOf x).toNat)
                case atStart => exact ⟨a + 1, f, by omega, by omega, by go_num, rfl, Lib.hid (by rw [frJ_zero c a (a + 1) (by omega), Bool.and_true]; exact HF.out), HB⟩
                case round =>
                  obtain ⟨b, f, hab, hbm, rfl, rfl, HF2, HB⟩ := hrel
                  clear c0 c1 B0
                  obtain ⟨c0, c1, B0⟩ := HB.out
                  by_cases hlt4 : b < m
                  · have HCX := Lib.hid (HC1.out a b hab hlt4)
                    have HJ : Hid (frJ c a (b + 1) = (frJ c a b && !c a b)) := Lib.hid (by rw [show frJ c a (b + 1) = (frJ c a b && !(decide (a < b) && c a b)) from rfl, decide_eq_true hab, Bool.true_and])
                    generalize c a b = r at HCX HJ
                    cases f
                    · have HF3 : Hid (false = (frI c m a && frJ c a (b + 1))) := Lib.hid (by rw [HJ.out, ← Bool.and_assoc, ← HF2.out]; rfl)
                      go_wp2
                      exact ⟨⟨b + 1, false, by omega, by omega, by go_num, by trivial, HF3, HB⟩, by simp only [intOf]; omega⟩
                    · have HF3 : Hid ((!r) = (frI c m a && frJ c a (b + 1))) := Lib.hid (by rw [HJ.out, ← Bool.and_assoc, ← HF2.out]; rfl)
                      go_wp2_with fail
                      refine (HCX.out _).mono ?_
                      rintro e w2 ⟨rfl, hb2⟩
                      have X2 := Lib.hid (HB.out.on hb2)
                      clear hb2 c0 c1 B0
                      go_wp2
                      exact ⟨⟨b + 1, !r, by omega, by omega, by go_num, by trivial, HF3, X2⟩, by simp only [intOf]; omega⟩
                  · have he : b = m := by omega
                    subst he
                    have HF3 : Hid (f = frI c b (a + 1)) := HF2
                    go_wp2
                    exact ⟨⟨a + 1, f, by omega, by go_num, by trivial, HF3, HB⟩, by simp only [intOf]; omega⟩
              · have he : a = m := by omega
                subst he
                have HFQ : Hid (f = q k) := Lib.hid (by rw [HQP.out, HFP.out]; exact HF.out)
                cases f
                · have HT3 : Hid (t = st (p i + (j + 1 - i - 1))) := Lib.hid (by rw [HKE.out, HSK.out, if_neg (by rw [← HFQ.out]; decide)]; exact HT2.out)
                  go_wp2
                  exact ⟨⟨j + 1, t, by omega, by omega, by go_num, by trivial, ht, HT3, HB⟩, by simp only [intOf]; omega⟩
                · have HT3 : Hid (t + A = st (p i + (j + 1 - i - 1))) := Lib.hid (by rw [HKE.out, HSK.out, if_pos HFQ.out.symm, HAE.out, HT2.out])
                  have ht3 : t + A < 2097152 := by have := HT3.out; have := HSE.out; rw [HKE.out] at *; omega
                  go_wp2_with fail
                  refine (HI.out _).mono ?_
                  rintro e w' ⟨rfl, rfl⟩
                  go_wp2
                  exact ⟨⟨j + 1, t + A, by omega, by omega, by go_num, by go_num, ht3, HT3, HB⟩, by simp only [intOf]; omega⟩
          · have HT3 : Hid (t = st (p (i + 1))) := Lib.hid (by rw [show p (i + 1) = p i + (j - i - 1) by have := HPS.out i hlt; omega]; exact HT2.out)
            go_wp2
            exact ⟨⟨i + 1, t, by omega, by go_num, by trivial, ht, HT3, HB⟩, by simp only [intOf]; omega⟩
      · have he : i = m := by omega
        subst he
        go_wp2
        go_ret
        exact ⟨ret_int (by rw [HT.out]), B0⟩
end Go.Proofs.YtinlnafkmoabbaaGreatDoor.Sg
