/- FnQuads: the facts of its answer: both sets of a circuit, five elements have a four without an inner one, the inner element and its triangle. -/
import Derived.Test.YtpjjohbahhaeoaaGreatDoorMgO
namespace Go.Proofs.YtpjjohbahhaeoaaGreatDoor.Sg
/-- How many elements a set has: the first k bits. -/
def pcF : Nat → Nat → Nat
  | 0, _ => 0
  | k + 1, m => m % 2 + pcF k (m / 2)
def sz (m : Nat) : Nat := pcF 7 m
theorem pcF_zero : ∀ k, pcF k 0 = 0
  | 0 => rfl
  | k + 1 => by unfold pcF; rw [Nat.zero_div, pcF_zero k]
theorem pcF_le : ∀ k m, pcF k m ≤ k
  | 0, _ => Nat.le_refl _
  | k + 1, m => by unfold pcF; have := pcF_le k (m / 2); omega
/-- Both sets of a full circuit of different elements below 7. -/
def halfB (a b c d : Nat) (p q r : Bool) : Bool :=
  let l := 2 ^ a + (if p then 2 ^ b else 0) + (if q then 2 ^ c else 0) + (if r then 2 ^ d else 0)
  let m := 0 + (if p then 0 else 2 ^ b) + (if q then 0 else 2 ^ c) + (if r then 0 else 2 ^ d)
  (a == b || a == c || a == d || b == c || b == d || c == d || (p && q && r)) ||
  ((l &&& m == 0) && (sz l + sz m == 4) && decide (1 ≤ sz l) && decide (sz l ≤ 3) && decide (l < 128) && decide (m < 128) && decide (0 < l) &&
   (decide (inn4 (1, if p then 1 else -1, if q then 1 else -1, if r then 1 else -1) a b c d < 0) == decide (sz l = 2)))
theorem halfB_all : ((List.range 7).all fun a => (List.range 7).all fun b => (List.range 7).all fun c => (List.range 7).all fun d => [true, false].all fun p => [true, false].all fun q => [true, false].all fun r => halfB a b c d p q r) = true := by decide +kernel
/-- Two elements exchanged turn the sign. -/
theorem sgnF_s1 (f : Int → Int → Int → Int) {a b c : Int} (h1 : a ≠ b) (h2 : a ≠ c) (h3 : b ≠ c) : sgnF f b a c = -(sgnF f a b c) := by
  unfold sgnF srt
  rcases (by omega : (a < b ∧ b < c) ∨ (a < c ∧ c < b) ∨ (b < a ∧ a < c) ∨ (b < c ∧ c < a) ∨ (c < a ∧ a < b) ∨ (c < b ∧ b < a)) with ⟨x, y⟩ | ⟨x, y⟩ | ⟨x, y⟩ | ⟨x, y⟩ | ⟨x, y⟩ | ⟨x, y⟩ <;>
    simp [x, y, Int.not_lt.2 (Int.le_of_lt x), Int.not_lt.2 (Int.le_of_lt y), Int.lt_trans x y, Int.not_lt.2 (Int.le_of_lt (Int.lt_trans x y))]
theorem sgnF_s2 (f : Int → Int → Int → Int) {a b c : Int} (h1 : a ≠ b) (h2 : a ≠ c) (h3 : b ≠ c) : sgnF f a c b = -(sgnF f a b c) := by
  unfold sgnF srt
  rcases (by omega : (a < b ∧ b < c) ∨ (a < c ∧ c < b) ∨ (b < a ∧ a < c) ∨ (b < c ∧ c < a) ∨ (c < a ∧ a < b) ∨ (c < b ∧ b < a)) with ⟨x, y⟩ | ⟨x, y⟩ | ⟨x, y⟩ | ⟨x, y⟩ | ⟨x, y⟩ | ⟨x, y⟩ <;>
    simp [x, y, Int.not_lt.2 (Int.le_of_lt x), Int.not_lt.2 (Int.le_of_lt y), Int.lt_trans x y, Int.not_lt.2 (Int.le_of_lt (Int.lt_trans x y))]
/-- A circuit by its four signs. -/
def cv4 (v0 v1 v2 v3 : Int) : Int × Int × Int × Int := (v0 * v0, -v1 * v0, v2 * v0, -v3 * v0)
def posV (x : Int × Int × Int × Int) : Bool := x.1 == 1 && (x.2.1 == 1 && (x.2.2.1 == 1 && x.2.2.2 == 1))
theorem posC_v {f : Int → Int → Int → Int} {a b c d v0 v1 v2 v3 : Int} (h0 : f b c d = v0) (h1 : f a c d = v1) (h2 : f a b d = v2) (h3 : f a b c = v3) : posC f a b c d = posV (cv4 v0 v1 v2 v3) := by
  unfold posC
  rw [cir_of h0 h1 h2 h3]
  rfl
theorem pos_swaps {v0 v1 v2 v3 : Int} (s0 : v0 = 1 ∨ v0 = -1) (s1 : v1 = 1 ∨ v1 = -1) (s2 : v2 = 1 ∨ v2 = -1) (s3 : v3 = 1 ∨ v3 = -1) :
    posV (cv4 v1 v0 (-v2) (-v3)) = posV (cv4 v0 v1 v2 v3) ∧ posV (cv4 (-v0) v2 v1 (-v3)) = posV (cv4 v0 v1 v2 v3) ∧ posV (cv4 (-v0) (-v1) v3 v2) = posV (cv4 v0 v1 v2 v3) := by
  rcases s0 with rfl | rfl <;> rcases s1 with rfl | rfl <;> rcases s2 with rfl | rfl <;> rcases s3 with rfl | rfl <;> exact ⟨by decide, by decide, by decide⟩
/-- Different elements below n. -/
def Dis (n a b c d : Nat) : Prop := a < n ∧ b < n ∧ c < n ∧ d < n ∧ a ≠ b ∧ a ≠ c ∧ a ≠ d ∧ b ≠ c ∧ b ≠ d ∧ c ≠ d
theorem pos_perm {n : Nat} {s : List UInt8} (h : arB n s = true) {a b c d : Nat} (hd : Dis n a b c d) :
    posC (sgnF (lookS n s)) b a c d = posC (sgnF (lookS n s)) a b c d ∧ posC (sgnF (lookS n s)) a c b d = posC (sgnF (lookS n s)) a b c d ∧ posC (sgnF (lookS n s)) a b d c = posC (sgnF (lookS n s)) a b c d := by
  obtain ⟨ha, hb, hc, hd, d1, d2, d3, d4, d5, d6⟩ := hd
  have s0 := sgn_one h hb hc hd d4 d6 d5
  have s1 := sgn_one h ha hc hd d2 d6 d3
  have s2 := sgn_one h ha hb hd d1 d5 d3
  have s3 := sgn_one h ha hb hc d1 d4 d2
  have t := pos_swaps s0 s1 s2 s3
  refine ⟨?_, ?_, ?_⟩
  · rw [posC_v rfl rfl (sgnF_s1 _ (by omega) (by omega) (by omega)) (sgnF_s1 _ (by omega) (by omega) (by omega)), t.1, posC_v rfl rfl rfl rfl]
  · rw [posC_v (sgnF_s1 _ (by omega) (by omega) (by omega)) rfl rfl (sgnF_s2 _ (by omega) (by omega) (by omega)), t.2.1, posC_v rfl rfl rfl rfl]
  · rw [posC_v (sgnF_s2 _ (by omega) (by omega) (by omega)) (sgnF_s2 _ (by omega) (by omega) (by omega)) rfl rfl, t.2.2, posC_v rfl rfl rfl rfl]
/-- Acyclic signs have no circuit of one kind, in whatever order the elements come. -/
theorem pos_any {n : Nat} {s : List UInt8} (h : aciB n s = true) {a b c d : Nat} (hd : Dis n a b c d) : posC (sgnF (lookS n s)) a b c d = false := by
  have h' := h
  unfold aciB at h'
  obtain ⟨hm, hac⟩ := Bool.and_eq_true_iff.1 h'
  have har := matB_ar hm
  obtain ⟨-, h7, -⟩ := arB_yes har
  rw [Int.toNat_natCast] at hac
  have S1 := (acB_iff (f := sgnF (lookS n s)) (show n ≤ 7 by omega)).1 hac
  have sw := fun {a b c d : Nat} (hd : Dis n a b c d) => pos_perm har hd
  clear h h' hm hac
  have S2 : ∀ a b c d : Nat, Dis n a b c d → a < b → b < c → b < d → posC (sgnF (lookS n s)) a b c d = false := fun a b c d hd h1 h2 h3 => by
    rcases (by unfold Dis at hd; omega : c < d ∨ d < c) with h4 | h4
    · exact S1 a b c d h1 h2 h4 hd.2.2.2.1
    · rw [← (sw hd).2.2]; exact S1 a b d c h1 h3 h4 hd.2.2.1
  have S3 : ∀ a b c d : Nat, Dis n a b c d → a < b → a < c → a < d → posC (sgnF (lookS n s)) a b c d = false := fun a b c d hd h1 h2 h3 => by
    rcases (by unfold Dis at hd; omega : (b < c ∧ b < d) ∨ (c < b ∧ c < d) ∨ (d < b ∧ d < c)) with ⟨h4, h5⟩ | ⟨h4, h5⟩ | ⟨h4, h5⟩
    · exact S2 a b c d hd h1 h4 h5
    · rw [← (sw hd).2.1]; exact S2 a c b d (by unfold Dis at hd ⊢; omega) h2 h4 h5
    · rw [← (sw hd).2.2, ← (sw (a := a) (b := b) (c := d) (d := c) (by unfold Dis at hd ⊢; omega)).2.1]; exact S2 a d b c (by unfold Dis at hd ⊢; omega) h3 h4 h5
  rcases (by unfold Dis at hd; omega : (a < b ∧ a < c ∧ a < d) ∨ (b < a ∧ b < c ∧ b < d) ∨ (c < a ∧ c < b ∧ c < d) ∨ (d < a ∧ d < b ∧ d < c)) with ⟨h1, h2, h3⟩ | ⟨h1, h2, h3⟩ | ⟨h1, h2, h3⟩ | ⟨h1, h2, h3⟩
  · exact S3 a b c d hd h1 h2 h3
  · rw [← (sw hd).1]; exact S3 b a c d (by unfold Dis at hd ⊢; omega) h1 h2 h3
  · rw [← (sw hd).2.1, ← (sw (a := a) (b := c) (c := b) (d := d) (by unfold Dis at hd ⊢; omega)).1]; exact S3 c a b d (by unfold Dis at hd ⊢; omega) h1 h2 h3
  · rw [← (sw hd).2.2, ← (sw (a := a) (b := b) (c := d) (d := c) (by unfold Dis at hd ⊢; omega)).2.1, ← (sw (a := a) (b := d) (c := b) (d := c) (by unfold Dis at hd ⊢; omega)).1]; exact S3 d a b c (by unfold Dis at hd ⊢; omega) h1 h2 h3
/-- Both sets of the circuit with the first two elements exchanged. -/
theorem sets_swap {v0 v1 v2 v3 : Int} (s0 : v0 = 1 ∨ v0 = -1) (s1 : v1 = 1 ∨ v1 = -1) (s2 : v2 = 1 ∨ v2 = -1) (s3 : v3 = 1 ∨ v3 = -1) (a b c d : Int) :
    sets4 (cv4 v1 v0 (-v2) (-v3)) b a c d = sets4 (cv4 v0 v1 v2 v3) a b c d ∨ sets4 (cv4 v1 v0 (-v2) (-v3)) b a c d = ((sets4 (cv4 v0 v1 v2 v3) a b c d).2, (sets4 (cv4 v0 v1 v2 v3) a b c d).1) := by
  have e1 : ((-1 : Int) = 1) = False := by simp
  rcases s0 with rfl | rfl <;> rcases s1 with rfl | rfl <;> rcases s2 with rfl | rfl <;> rcases s3 with rfl | rfl <;> simp [sets4, cv4, full, e1] <;> omega
/-- What FnQuads asks of both sets. -/
theorem split_facts {n : Int} {s : List UInt8} {a b c d : Int} (hpos : 0 < (splitZ n s a b c d).1) :
    ∃ l m : Nat, splitZ n s a b c d = ((l : Int), (m : Int)) ∧ l < 128 ∧ m < 128 ∧ 0 < l ∧ l &&& m = 0 ∧ sz l + sz m = 4 ∧ 1 ≤ sz l ∧ sz l ≤ 3 ∧
      decide (inn4 (cir (sgnF (ordF n s)) a b c d) a b c d < 0) = decide (sz l = 2) ∧ (splitZ n s b a c d = ((l : Int), (m : Int)) ∨ splitZ n s b a c d = ((m : Int), (l : Int))) := by
  cases h : aciB n s
  · rw [splitZ_no h] at hpos; exact absurd hpos (by decide)
  · obtain ⟨h3, h7⟩ := aciB_n h
    obtain ⟨n, rfl⟩ : ∃ x : Nat, n = x := ⟨n.toNat, by omega⟩
    have har := matB_ar (aciB_mat h)
    have hfull : full (cir (sgnF (lookS n s)) a b c d) = true := by
      cases hf : full (cir (sgnF (lookS n s)) a b c d)
      · unfold splitZ at hpos
        rw [ordF_yes h, sets4_no hf] at hpos
        exact absurd hpos (by decide)
      · rfl
    obtain ⟨⟨a0, a1⟩, ⟨b0, b1⟩, ⟨c0, c1⟩, ⟨d0, d1⟩, k1, k2, k3, k4, k5, k6⟩ := difB4.1 (dif_of_full har hfull)
    obtain ⟨a, rfl⟩ : ∃ x : Nat, a = x := ⟨a.toNat, by omega⟩
    obtain ⟨b, rfl⟩ : ∃ x : Nat, b = x := ⟨b.toNat, by omega⟩
    obtain ⟨c, rfl⟩ : ∃ x : Nat, c = x := ⟨c.toNat, by omega⟩
    obtain ⟨d, rfl⟩ : ∃ x : Nat, d = x := ⟨d.toNat, by omega⟩
    have hdis : Dis n a b c d := by unfold Dis; omega
    have hpn := pos_any h hdis
    obtain ⟨p, q, r, hx⟩ := cir_form har (by omega) (by omega) (by omega) (by omega) (show a ≠ b by omega) (show a ≠ c by omega) (show a ≠ d by omega) (show b ≠ c by omega) (show b ≠ d by omega) (show c ≠ d by omega)
    have hnp : (p && q && r) = false := by
      unfold posC at hpn
      rw [hx] at hpn
      cases p <;> cases q <;> cases r <;> simp_all [sg1]
    have key := halfB_all
    simp only [List.all_eq_true, List.mem_range] at key
    have key := key a (by omega) b (by omega) c (by omega) d (by omega) p (by cases p <;> simp) q (by cases q <;> simp) r (by cases r <;> simp)
    have hsw : splitZ n s b a c d = splitZ n s a b c d ∨ splitZ n s b a c d = ((splitZ n s a b c d).2, (splitZ n s a b c d).1) := by
      have t := sets_swap (sgn_one har hdis.2.1 hdis.2.2.1 hdis.2.2.2.1 (by omega) (by omega) (by omega)) (sgn_one har hdis.1 hdis.2.2.1 hdis.2.2.2.1 (by omega) (by omega) (by omega)) (sgn_one har hdis.1 hdis.2.1 hdis.2.2.2.1 (by omega) (by omega) (by omega)) (sgn_one har hdis.1 hdis.2.1 hdis.2.2.1 (by omega) (by omega) (by omega)) (a : Int) b c d
      unfold splitZ
      rw [ordF_yes h, cir_of (f := sgnF (lookS n s)) (a := b) (b := a) rfl rfl (sgnF_s1 _ (by omega) (by omega) (by omega)) (sgnF_s1 _ (by omega) (by omega) (by omega)), cir_of (f := sgnF (lookS n s)) (a := a) (b := b) rfl rfl rfl rfl]
      exact t
    have hl : splitZ n s a b c d = (((2 ^ a + (if p then 2 ^ b else 0) + (if q then 2 ^ c else 0) + (if r then 2 ^ d else 0) : Nat) : Int), ((0 + (if p then 0 else 2 ^ b) + (if q then 0 else 2 ^ c) + (if r then 0 else 2 ^ d) : Nat) : Int)) := by
      unfold splitZ
      rw [ordF_yes h, hx, sets4_of]
      unfold pw
      simp only [Int.toNat_natCast]
      cases p <;> cases q <;> cases r <;> simp
    have hin : inn4 (cir (sgnF (ordF n s)) a b c d) a b c d = inn4 (1, if p then 1 else -1, if q then 1 else -1, if r then 1 else -1) a b c d := by
      rw [ordF_yes h, hx]; rfl
    unfold halfB at key
    rw [hnp] at key
    simp only [Bool.or_eq_true, Bool.and_eq_true, beq_iff_eq, decide_eq_true_eq, Bool.false_eq_true, or_false] at key
    rcases key with key | ⟨⟨⟨⟨⟨⟨⟨q1, q2⟩, q3⟩, q4⟩, q5⟩, q6⟩, q7⟩, q8⟩
    · exfalso; omega
    · rw [hl] at hsw
      exact ⟨_, _, hl, q5, q6, q7, q1, q2, q3, q4, by rw [hin]; exact q8, hsw⟩
/-- Five elements without a circuit of one kind have a four without an inner one. -/
def patV (x : Int × Int × Int × Int) : Bool := x == (1, -1, -1, -1) || (x == (1, -1, 1, 1) || (x == (1, 1, -1, 1) || x == (1, 1, 1, -1)))
theorem five0 : ∀ x0 x1 x2 x3 x4 x5 x6 x7 x8 x9 : Bool,
    ((posV (cv4 (sg1 x6) (sg1 x3) (sg1 x1) (sg1 x0)) || posV (cv4 (sg1 x7) (sg1 x4) (sg1 x2) (sg1 x0)) || posV (cv4 (sg1 x8) (sg1 x5) (sg1 x2) (sg1 x1)) || posV (cv4 (sg1 x9) (sg1 x5) (sg1 x4) (sg1 x3)) || posV (cv4 (sg1 x9) (sg1 x8) (sg1 x7) (sg1 x6))) ||
    (!patV (cv4 (sg1 x6) (sg1 x3) (sg1 x1) (sg1 x0)) || !patV (cv4 (sg1 x7) (sg1 x4) (sg1 x2) (sg1 x0)) || !patV (cv4 (sg1 x8) (sg1 x5) (sg1 x2) (sg1 x1)) || !patV (cv4 (sg1 x9) (sg1 x5) (sg1 x4) (sg1 x3)) || !patV (cv4 (sg1 x9) (sg1 x8) (sg1 x7) (sg1 x6)))) = true := by decide +kernel
theorem hasI_pat {f : Int → Int → Int → Int} {a b c d : Nat} (h : patV (cir f a b c d) = false) : hasI f (a, b, c, d) = false := by
  unfold patV at h
  simp only [Bool.or_eq_false_iff, beq_eq_false_iff_ne] at h
  unfold hasI inn4
  rw [if_neg h.1, if_neg h.2.1, if_neg h.2.2.1, if_neg h.2.2.2]
  rfl
theorem sg1_of {x : Int} (h : x = 1 ∨ x = -1) : ∃ b, x = sg1 b := by
  rcases h with rfl | rfl
  · exact ⟨true, rfl⟩
  · exact ⟨false, rfl⟩
theorem quads_five {n : Int} {s : List UInt8} (h : aciB n s = true) (h5 : 5 ≤ n) : quadsL n s ≠ [] := by
  obtain ⟨h3, h7⟩ := aciB_n h
  obtain ⟨n, rfl⟩ : ∃ x : Nat, n = x := ⟨n.toNat, by omega⟩
  have har := matB_ar (aciB_mat h)
  have one := fun (i j k : Nat) (h1 : i < j) (h2 : j < k) (h3 : k < 5) => sg1_of (sgn_one har (x := i) (y := j) (z := k) (by omega) (by omega) (by omega) (by omega) (by omega) (by omega))
  obtain ⟨x0, e0⟩ := one 0 1 2 (by omega) (by omega) (by omega)
  obtain ⟨x1, e1⟩ := one 0 1 3 (by omega) (by omega) (by omega)
  obtain ⟨x2, e2⟩ := one 0 1 4 (by omega) (by omega) (by omega)
  obtain ⟨x3, e3⟩ := one 0 2 3 (by omega) (by omega) (by omega)
  obtain ⟨x4, e4⟩ := one 0 2 4 (by omega) (by omega) (by omega)
  obtain ⟨x5, e5⟩ := one 0 3 4 (by omega) (by omega) (by omega)
  obtain ⟨x6, e6⟩ := one 1 2 3 (by omega) (by omega) (by omega)
  obtain ⟨x7, e7⟩ := one 1 2 4 (by omega) (by omega) (by omega)
  obtain ⟨x8, e8⟩ := one 1 3 4 (by omega) (by omega) (by omega)
  obtain ⟨x9, e9⟩ := one 2 3 4 (by omega) (by omega) (by omega)
  have p := fun (a b c d : Nat) (h1 : a < b) (h2 : b < c) (h3 : c < d) (h4 : d < 5) => pos_any h (a := a) (b := b) (c := c) (d := d) (by unfold Dis; omega)
  have p0 := p 0 1 2 3 (by omega) (by omega) (by omega) (by omega)
  have p1 := p 0 1 2 4 (by omega) (by omega) (by omega) (by omega)
  have p2 := p 0 1 3 4 (by omega) (by omega) (by omega) (by omega)
  have p3 := p 0 2 3 4 (by omega) (by omega) (by omega) (by omega)
  have p4 := p 1 2 3 4 (by omega) (by omega) (by omega) (by omega)
  rw [posC_v e6 e3 e1 e0] at p0
  rw [posC_v e7 e4 e2 e0] at p1
  rw [posC_v e8 e5 e2 e1] at p2
  rw [posC_v e9 e5 e4 e3] at p3
  rw [posC_v e9 e8 e7 e6] at p4
  have key := five0 x0 x1 x2 x3 x4 x5 x6 x7 x8 x9
  rw [p0, p1, p2, p3, p4] at key
  simp only [Bool.or_self, Bool.false_or, Bool.or_eq_true, Bool.not_eq_true'] at key
  have fin : ∀ a b c d : Nat, a < b → b < c → c < d → d < 5 → patV (cir (sgnF (lookS n s)) a b c d) = false → quadsL n s ≠ [] := fun a b c d h1 h2 h3 h4 hp he => by
    have hm : (a, b, c, d) ∈ quads (sgnF (lookS n s)) n := List.mem_filter.2 ⟨fours_has (by omega) h1 h2 h3 (by omega), by rw [hasI_pat hp]; rfl⟩
    unfold quadsL at he
    rw [if_pos h, Int.toNat_natCast] at he
    rw [he] at hm
    exact absurd hm (by simp)
  rcases key with (((k | k) | k) | k) | k
  · exact fin 0 1 2 3 (by omega) (by omega) (by omega) (by omega) (by rw [cir_of e6 e3 e1 e0]; exact k)
  · exact fin 0 1 2 4 (by omega) (by omega) (by omega) (by omega) (by rw [cir_of e7 e4 e2 e0]; exact k)
  · exact fin 0 1 3 4 (by omega) (by omega) (by omega) (by omega) (by rw [cir_of e8 e5 e2 e1]; exact k)
  · exact fin 0 2 3 4 (by omega) (by omega) (by omega) (by omega) (by rw [cir_of e9 e5 e4 e3]; exact k)
  · exact fin 1 2 3 4 (by omega) (by omega) (by omega) (by omega) (by rw [cir_of e9 e8 e7 e6]; exact k)
/-- A four of the list has no inner element. -/
theorem quads_inner {n : Int} {s : List UInt8} {t : T4} (h : t ∈ quadsL n s) : inn4 (cir (sgnF (ordF n s)) t.1 t.2.1 t.2.2.1 t.2.2.2) t.1 t.2.1 t.2.2.1 t.2.2.2 = -1 := by
  cases ha : aciB n s
  · rw [quadsL_no ha] at h; exact absurd h (by simp)
  · unfold quadsL at h
    rw [if_pos ha] at h
    have := (List.mem_filter.1 h).2
    rw [ordF_yes ha]
    unfold hasI at this
    simpa using this
/-- An element inside a triangle: none of the triangle's elements is inside the one with it, and the triangle has an inner element. -/
theorem in_facts {n : Int} {s : List UInt8} {p i j k : Int} (h : isIn (cir (sgnF (ordF n s)) p i j k) = true) :
    isIn (cir (sgnF (ordF n s)) i p j k) = false ∧ 1 ≤ insN n s i j k := by
  have hxv : cir (sgnF (ordF n s)) p i j k = (1, -1, -1, -1) := by
    unfold isIn at h
    simp only [Bool.and_eq_true, beq_iff_eq] at h
    obtain ⟨h1, h2, h3, h4⟩ := h
    exact Prod.ext h1 (Prod.ext h2 (Prod.ext h3 h4))
  have hf0 : full (cir (sgnF (ordF n s)) p i j k) = true := by rw [hxv]; decide
  cases ha : aciB n s
  · rw [full_no ha] at hf0; cases hf0
  · obtain ⟨h3, h7⟩ := aciB_n ha
    obtain ⟨n, rfl⟩ : ∃ x : Nat, n = x := ⟨n.toNat, by omega⟩
    have hfull := hf0
    rw [ordF_yes ha] at hfull
    obtain ⟨⟨a0, a1⟩, ⟨b0, b1⟩, ⟨c0, c1⟩, ⟨d0, d1⟩, k1, k2, k3, k4, k5, k6⟩ := difB4.1 (dif_of_full (matB_ar (aciB_mat ha)) hfull)
    have hne := (full_iff.1 hf0).1
    have hcx := hxv
    unfold cir at hcx
    simp only [Prod.mk.injEq] at hcx
    obtain ⟨q0, q1, q2, q3⟩ := hcx
    constructor
    · rw [cir_of (f := sgnF (ordF n s)) (a := i) (b := p) (c := j) (d := k) rfl rfl (sgnF_s1 _ k1 k3 k5) (sgnF_s1 _ k1 k2 k4)]
      have b0 := sgnO_bd n s i j k
      have b1 := sgnO_bd n s p j k
      have b2 := sgnO_bd n s p i k
      generalize sgnF (ordF n s) i j k = v0 at *
      generalize sgnF (ordF n s) p j k = v1 at *
      generalize sgnF (ordF n s) p i k = v2 at *
      generalize sgnF (ordF n s) p i j = v3 at *
      rcases (by omega : v0 = 1 ∨ v0 = -1 ∨ v0 = 0) with rfl | rfl | rfl
      · rcases (by omega : v1 = 1 ∨ v1 = -1 ∨ v1 = 0) with rfl | rfl | rfl <;> rcases (by omega : v2 = 1 ∨ v2 = -1 ∨ v2 = 0) with rfl | rfl | rfl <;> simp_all [isIn]
      · rcases (by omega : v1 = 1 ∨ v1 = -1 ∨ v1 = 0) with rfl | rfl | rfl <;> rcases (by omega : v2 = 1 ∨ v2 = -1 ∨ v2 = 0) with rfl | rfl | rfl <;> simp_all [isIn]
      · exact absurd rfl hne
    · unfold insN
      rw [if_neg hne]
      have hc : 0 < cntI (sgnF (ordF n s)) i j k (n : Int).toNat := by
        unfold cntI
        rw [List.countP_pos_iff]
        refine ⟨p.toNat, List.mem_range.2 (by omega), ?_⟩
        rw [Int.toNat_of_nonneg a0]
        exact h
      omega
end Go.Proofs.YtpjjohbahhaeoaaGreatDoor.Sg
