/- Several texts in one: LeMath, LeCut, LeCount, LeTab, LeApart, LeCross. -/
import Derived.Test.YtinlnafkmoabbaaGreatDoorHuFacts
import Derived.Test.YtinlnafkmoabbaaGreatDoorMgR
import Derived.Test.YtinlnafkmoabbaaGreatDoorRuCount
/- What lies left, on plain functions: signs with elements reversed; each line cuts off a set that leaves no circuit of one kind. -/
namespace Go.Proofs.YtinlnafkmoabbaaGreatDoor.Sg
/-- Signs of three elements that keep the rule. -/
structure Om (n : Nat) (G : Nat → Nat → Nat → Int) : Prop where
  one : ∀ {a b c : Nat}, a < n → b < n → c < n → a ≠ b → a ≠ c → b ≠ c → ∃ x, G a b c = sg1 x
  s1 : ∀ {a b c : Nat}, a ≠ b → a ≠ c → b ≠ c → G b a c = -(G a b c)
  s2 : ∀ {a b c : Nat}, a ≠ b → a ≠ c → b ≠ c → G a c b = -(G a b c)
  rule : ∀ {a b c d e : Nat}, Dif5 n a b c d e → brkV (G a b c) (G a d e) (G a b e) (G a c d) (G a b d) (G a c e) = false
def sgS (n : Nat) (s : List UInt8) (a b c : Nat) : Int := sgnF (lookS n s) a b c
theorem om_sgn {n : Nat} {s : List UInt8} (h : aciB n s = true) : Om n (sgS n s) :=
  ⟨fun ha hb hc h1 h2 h3 => one (matB_ar (aciB_mat h)) ha hb hc h1 h2 h3, fun h1 h2 h3 => sgnF_s1 _ (by omega) (by omega) (by omega), fun h1 h2 h3 => sgnF_s2 _ (by omega) (by omega) (by omega), fun hd => (brk_v (f := sgnF (lookS n s)) rfl rfl rfl rfl rfl rfl).symm.trans (brk_any h hd)⟩
section
variable {n : Nat} {G : Nat → Nat → Nat → Int}
end
end Go.Proofs.YtinlnafkmoabbaaGreatDoor.Sg
/- What lies left, on plain functions: the sets that a line cuts off are as many as the pairs with one element less to the left. -/
namespace Go.Proofs.YtinlnafkmoabbaaGreatDoor.Sg
/-- A set by what is in it. -/
def setN (p : Nat → Bool) : Nat → Nat
  | 0 => 0
  | k + 1 => setN p k + (if p k = true then 2 ^ k else 0)
theorem setN_lt (p : Nat → Bool) : ∀ k, setN p k < 2 ^ k
  | 0 => by unfold setN; omega
  | k + 1 => by
    have := setN_lt p k
    unfold setN
    rw [Nat.pow_succ]
    split <;> omega
theorem setN_bit (p : Nat → Bool) : ∀ k j, (setN p k).testBit j = (decide (j < k) && p j)
  | 0, j => by unfold setN; simp
  | k + 1, j => by
    have hlt := setN_lt p k
    have ih := setN_bit p k j
    unfold setN
    by_cases hc : p k = true
    · rw [if_pos hc, Nat.add_comm]
      rcases Nat.lt_trichotomy j k with h | h | h
      · rw [Nat.testBit_two_pow_add_gt h, ih]
        simp [h, Nat.lt_succ_of_lt h]
      · subst h
        rw [Nat.testBit_two_pow_add_eq, ih, hc]
        simp
      · rw [Nat.testBit_lt_two_pow (Nat.lt_of_lt_of_le (show 2 ^ k + setN p k < 2 ^ (k + 1) by rw [Nat.pow_succ]; omega) (Nat.pow_le_pow_right (by omega) (by omega)))]
        simp; omega
    · rw [if_neg hc, Nat.add_zero, ih]
      by_cases h : j = k
      · subst h; simp at hc ⊢; exact hc
      · have : decide (j < k + 1) = decide (j < k) := by simp; omega
        rw [this]
section
variable {n : Nat} {s : List UInt8}
end
end Go.Proofs.YtinlnafkmoabbaaGreatDoor.Sg
/- What lies left, on plain functions: as many sets of k elements can be cut off as pairs have k - 1 elements to the left. -/
namespace Go.Proofs.YtinlnafkmoabbaaGreatDoor.Sg
/-- The pairs of n elements, in both orders. -/
def pairsN (n : Nat) : List (Nat × Nat) := (List.range n).flatMap fun i => ((List.range n).filter fun j => j != i).map fun j => (i, j)
theorem mem_pairs {n : Nat} {p : Nat × Nat} : p ∈ pairsN n ↔ p.1 < n ∧ p.2 < n ∧ p.1 ≠ p.2 := by
  unfold pairsN
  rw [List.mem_flatMap]
  constructor
  · rintro ⟨i, hi, hp⟩
    obtain ⟨j, hj, rfl⟩ := List.mem_map.1 hp
    obtain ⟨h1, h2⟩ := List.mem_filter.1 hj
    have h2 : ¬ j = i := by simpa using h2
    exact ⟨List.mem_range.1 hi, List.mem_range.1 h1, fun e => h2 e.symm⟩
  · rintro ⟨h1, h2, h3⟩
    exact ⟨p.1, List.mem_range.2 h1, List.mem_map.2 ⟨p.2, List.mem_filter.2 ⟨List.mem_range.2 h2, by simpa using fun e => h3 e.symm⟩, rfl⟩⟩
theorem pairs_nodup : ∀ n, n < 8 → (pairsN n).Nodup := by decide +kernel
theorem map_nodup {α : Type} {f : α → Nat} : ∀ L : List α, L.Nodup → (∀ a ∈ L, ∀ b ∈ L, f a = f b → a = b) → (L.map f).Nodup
  | [], _, _ => List.nodup_nil
  | a :: L, hn, hi => by
    obtain ⟨h1, h2⟩ := List.nodup_cons.1 hn
    rw [List.map_cons]
    refine List.nodup_cons.2 ⟨fun hm => ?_, map_nodup L h2 (fun x hx y hy => hi x (List.mem_cons_of_mem _ hx) y (List.mem_cons_of_mem _ hy))⟩
    obtain ⟨b, hb, he⟩ := List.mem_map.1 hm
    have := hi b (List.mem_cons_of_mem _ hb) a List.mem_cons_self he
    exact h1 (this ▸ hb)
section
variable {n : Nat} {s : List UInt8}
/-- How many pairs have m elements to the left. -/
def rowK (n : Nat) (s : List UInt8) (m : Nat) : Nat := (pairsN n).countP fun p => leftN (sgnF (lookS n s)) n p.1 p.2 == m
end
end Go.Proofs.YtinlnafkmoabbaaGreatDoor.Sg
/- What lies left, on plain functions: what the table and the row of left counts keep. -/
namespace Go.Proofs.YtinlnafkmoabbaaGreatDoor.Sg
section
variable {n : Nat} {s : List UInt8}
theorem left_sum (h : aciB n s = true) {i j : Nat} (hi : i < n) (hj : j < n) (hij : i ≠ j) : leftN (sgnF (lookS n s)) n i j + leftN (sgnF (lookS n s)) n j i = n - 2 := by
  have h7 := (aciB_n h).2
  rw [← two_out n (by omega) i hi j hj hij]
  unfold leftN
  have e : ∀ k, k ∈ List.range n → (k != i && k != j) = ((k != i && (k != j && decide (0 < sgnF (lookS n s) i j k))) || (k != j && (k != i && decide (0 < sgnF (lookS n s) j i k)))) ∧ ((k != i && (k != j && decide (0 < sgnF (lookS n s) i j k))) = true → (k != j && (k != i && decide (0 < sgnF (lookS n s) j i k))) = false) := fun k hk => by
    have hkn := List.mem_range.1 hk
    by_cases e1 : k = i
    · subst e1; simp
    · by_cases e2 : k = j
      · subst e2; simp
      · obtain ⟨b, hb⟩ := one (matB_ar (aciB_mat h)) (a := i) (b := j) (c := k) hi hj hkn hij (fun e => e1 e.symm) (fun e => e2 e.symm)
        have h2 := sgnF_s1 (lookS n s) (a := i) (b := j) (c := k) (by omega) (by omega) (by omega)
        rw [h2, hb]
        have b1 : (k != i) = true := by simpa using e1
        have b2 : (k != j) = true := by simpa using e2
        rw [b1, b2]
        cases b <;> simp [sg1]
  have go : ∀ L : List Nat, (∀ k ∈ L, k ∈ List.range n) → L.countP (fun k => k != i && (k != j && decide (0 < sgnF (lookS n s) i j k))) + L.countP (fun k => k != j && (k != i && decide (0 < sgnF (lookS n s) j i k))) = L.countP (fun k => k != i && k != j) := fun L => by
    induction L with
    | nil => exact fun _ => rfl
    | cons a L ih =>
      intro hm
      have ih := ih (fun k hk => hm k (List.mem_cons_of_mem _ hk))
      obtain ⟨e1, e2⟩ := e a (hm a List.mem_cons_self)
      rw [List.countP_cons, List.countP_cons, List.countP_cons, e1, ← ih]
      cases hq : (a != i && (a != j && decide (0 < sgnF (lookS n s) i j a)))
      · cases hr : (a != j && (a != i && decide (0 < sgnF (lookS n s) j i a)))
        · simp
        · simp; omega
      · rw [e2 hq]; simp; omega
  exact go _ (fun k hk => hk)
/-- As many pairs have none to the left as elements are extreme. -/
theorem rowK_zero (h : aciB n s = true) : ((rowK n s 0 : Nat) : Int) = hszZ n s := by
  obtain ⟨h3, h7⟩ := aciB_n h
  have hz : hszZ n s = (pcS (extS (sgnF (lookS n s)) n (2 ^ n - 1)) : Nat) := by
    unfold hszZ allS pcS
    rw [if_pos h, Int.toNat_natCast]
  rw [hz]
  have nx : ∀ p ∈ pairsN n, (leftN (sgnF (lookS n s)) n p.1 p.2 = 0 ↔ Nxt n s p.2 p.1) := fun p hp => by
    obtain ⟨h1, h2, h4⟩ := mem_pairs.1 hp
    constructor
    · intro hl
      refine ⟨h1, h4, fun x hx x1 x2 => ?_⟩
      unfold leftN at hl
      rw [List.countP_eq_zero] at hl
      have := hl x (List.mem_range.2 hx)
      obtain ⟨b, hb⟩ := one (matB_ar (aciB_mat h)) (a := p.1) (b := p.2) (c := x) h1 h2 hx h4 (fun e => x2 e.symm) (fun e => x1 e.symm)
      have hs := sgnF_s1 (lookS n s) (a := p.1) (b := p.2) (c := x) (by omega) (by omega) (by omega)
      rw [hb] at hs this
      cases b
      · rw [hs]; rfl
      · exfalso; exact this (by simp [x1, x2, sg1])
    · intro hn
      have := left_nxt h h2 hn
      have := left_sum h h1 h2 h4
      omega
  have hm : ∀ x, x ∈ (List.range 7).filter (extS (sgnF (lookS n s)) n (2 ^ n - 1)).testBit ↔ Ext n s x := fun x => by
    rw [List.mem_filter, List.mem_range, ext_iff h]
    exact ⟨fun hx => hx.2, fun hx => ⟨by have := hx.1; omega, hx⟩⟩
  have hfil : ∀ p, p ∈ (pairsN n).filter (fun p => leftN (sgnF (lookS n s)) n p.1 p.2 == 0) ↔ p ∈ pairsN n ∧ Nxt n s p.2 p.1 := fun p => by
    rw [List.mem_filter, beq_iff_eq]
    constructor
    · rintro ⟨h1, h2⟩; exact ⟨h1, (nx p h1).1 h2⟩
    · rintro ⟨h1, h2⟩; exact ⟨h1, (nx p h1).2 h2⟩
  have l1 := nodup_sub (((pairsN n).filter fun p => leftN (sgnF (lookS n s)) n p.1 p.2 == 0).map Prod.fst) ((List.range 7).filter (extS (sgnF (lookS n s)) n (2 ^ n - 1)).testBit) (map_nodup _ ((pairs_nodup n (by omega)).filter _) (fun p hp q hq he => by
      obtain ⟨p1, p2⟩ := (hfil p).1 hp
      obtain ⟨q1, q2⟩ := (hfil q).1 hq
      have hpp := mem_pairs.1 p1
      have hqq := mem_pairs.1 q1
      exact Prod.ext he (nxt_inj h hpp.2.1 hqq.2.1 p2 (he ▸ q2)))) (fun x hx => by
      obtain ⟨p, hp, rfl⟩ := List.mem_map.1 hx
      obtain ⟨p1, p2⟩ := (hfil p).1 hp
      exact (hm _).2 (nxt_ext h (mem_pairs.1 p1).2.1 p2))
  have l2 := nodup_sub ((List.range 7).filter (extS (sgnF (lookS n s)) n (2 ^ n - 1)).testBit) (((pairsN n).filter fun p => leftN (sgnF (lookS n s)) n p.1 p.2 == 0).map Prod.snd) ((List.nodup_range (n := 7)).filter _) (fun x hx => by
      have he := (hm x).1 hx
      obtain ⟨q, hq⟩ := nxt_some h he
      exact List.mem_map.2 ⟨(q, x), (hfil _).2 ⟨mem_pairs.2 ⟨hq.1, he.1, hq.2.1⟩, hq⟩, rfl⟩)
  rw [List.length_map] at l1 l2
  unfold rowK pcS setsTo
  rw [List.length_map, List.countP_eq_length_filter]
  omega
end
end Go.Proofs.YtinlnafkmoabbaaGreatDoor.Sg
/- What lies left, on plain functions: a set can be cut off, as spec's l7Apart tells it, if it leaves no circuit of one kind. -/
namespace Go.Proofs.YtinlnafkmoabbaaGreatDoor.Sg
section
variable {n : Nat} {G : Nat → Nat → Nat → Int}
end
section
variable {n : Nat} {s : List UInt8}
theorem in_bits (h : aciB n s = true) {p a b c : Nat} (hd : Dis n p a b c) : ∃ w x y z : Bool, sgS n s a b c = sg1 w ∧ sgS n s p b c = sg1 x ∧ sgS n s p a c = sg1 y ∧ sgS n s p a b = sg1 z ∧ (In n s p a b c ↔ x = w ∧ y = !w ∧ z = w) := by
  obtain ⟨hp, ha, hb, hc, d1, d2, d3, d4, d5, d6⟩ := hd
  have O := om_sgn h
  obtain ⟨w, e0⟩ := O.one ha hb hc d4 d5 d6
  obtain ⟨x, e1⟩ := O.one hp hb hc d2 d3 d6
  obtain ⟨y, e2⟩ := O.one hp ha hc d1 d3 d5
  obtain ⟨z, e3⟩ := O.one hp ha hb d1 d2 d4
  refine ⟨w, x, y, z, e0, e1, e2, e3, ?_⟩
  unfold sgS at e0 e1 e2 e3
  have hv := isIn_v w x y z
  unfold cv4 at hv
  unfold In
  rw [cir_of e0 e1 e2 e3, hv]
  simp only [Bool.and_eq_true, beq_iff_eq, and_assoc]
end
end Go.Proofs.YtinlnafkmoabbaaGreatDoor.Sg
/- What lies left, on plain functions: three times the fours less the crossing sum are the convex fours. -/
namespace Go.Proofs.YtinlnafkmoabbaaGreatDoor.Sg
/-- The pairs of n elements in order. -/
def pairsU (n : Nat) : List (Nat × Nat) := (List.range n).flatMap fun i => (List.range' (i + 1) (n - (i + 1))).map fun j => (i, j)
theorem mem_pairsU0 : ∀ n, n < 8 → ∀ p ∈ pairsU n, p.1 < p.2 ∧ p.2 < n := by decide +kernel
section
variable {n : Nat} {s : List UInt8}
end
end Go.Proofs.YtinlnafkmoabbaaGreatDoor.Sg
