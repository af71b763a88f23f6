/- Several texts in one: LeMath, LeCut, LeCount, LeTab, LeApart, LeBad, LeCross. -/
import Derived.Test.YtpjjohbahhaeoaaGreatDoorHuFacts
import Derived.Test.YtpjjohbahhaeoaaGreatDoorRuLink
/- What lies left, on plain functions: signs with elements reversed; each line cuts off a set that leaves no circuit of one kind. -/
namespace Go.Proofs.YtpjjohbahhaeoaaGreatDoor.Sg
/-- Signs of three elements that keep the rule. -/
structure Om (n : Nat) (G : Nat → Nat → Nat → Int) : Prop where
  one : ∀ {a b c : Nat}, a < n → b < n → c < n → a ≠ b → a ≠ c → b ≠ c → ∃ x, G a b c = sg1 x
  s1 : ∀ {a b c : Nat}, a ≠ b → a ≠ c → b ≠ c → G b a c = -(G a b c)
  s2 : ∀ {a b c : Nat}, a ≠ b → a ≠ c → b ≠ c → G a c b = -(G a b c)
  rule : ∀ {a b c d e : Nat}, Dif5 n a b c d e → brkV (G a b c) (G a d e) (G a b e) (G a c d) (G a b d) (G a c e) = false
def sgS (n : Nat) (s : List UInt8) (a b c : Nat) : Int := sgnF (lookS n s) a b c
theorem om_sgn {n : Nat} {s : List UInt8} (h : aciB n s = true) : Om n (sgS n s) :=
  ⟨fun ha hb hc h1 h2 h3 => one (matB_ar (aciB_mat h)) ha hb hc h1 h2 h3, fun h1 h2 h3 => sgnF_s1 _ (by omega) (by omega) (by omega), fun h1 h2 h3 => sgnF_s2 _ (by omega) (by omega) (by omega), fun hd => (brk_v (f := sgnF (lookS n s)) rfl rfl rfl rfl rfl rfl).symm.trans (brk_any h hd)⟩
/-- A reversed element counts -1. -/
def sgx (S x : Nat) : Int := sg1 (!S.testBit x)
def rvG (S : Nat) (G : Nat → Nat → Nat → Int) (a b c : Nat) : Int := sgx S a * sgx S b * sgx S c * G a b c
theorem sgx_one (S x : Nat) : sgx S x = 1 ∨ sgx S x = -1 := by unfold sgx sg1; cases S.testBit x <;> simp
theorem brk_rev : ∀ a b c d e x1 x2 x3 x4 x5 x6 : Bool, brkV (sg1 a * sg1 b * sg1 c * sg1 x1) (sg1 a * sg1 d * sg1 e * sg1 x2) (sg1 a * sg1 b * sg1 e * sg1 x3) (sg1 a * sg1 c * sg1 d * sg1 x4) (sg1 a * sg1 b * sg1 d * sg1 x5) (sg1 a * sg1 c * sg1 e * sg1 x6) = brkV (sg1 x1) (sg1 x2) (sg1 x3) (sg1 x4) (sg1 x5) (sg1 x6) := by decide +kernel
theorem sg1_mul4 : ∀ a b c x : Bool, sg1 a * sg1 b * sg1 c * sg1 x = sg1 (a == (b == (c == x))) := by decide
theorem om_rev {n : Nat} {G : Nat → Nat → Nat → Int} (h : Om n G) (S : Nat) : Om n (rvG S G) := by
  refine ⟨fun ha hb hc h1 h2 h3 => ?_, fun h1 h2 h3 => ?_, fun h1 h2 h3 => ?_, fun hd => ?_⟩
  · obtain ⟨x, hx⟩ := h.one ha hb hc h1 h2 h3
    unfold rvG sgx
    rw [hx, sg1_mul4]
    exact ⟨_, rfl⟩
  · unfold rvG
    rw [h.s1 h1 h2 h3, Int.mul_neg]
    congr 2
    rw [Int.mul_comm (sgx S _) (sgx S _)]
  · unfold rvG
    rw [h.s2 h1 h2 h3, Int.mul_neg]
    congr 2
    rw [Int.mul_assoc, Int.mul_comm (sgx S _) (sgx S _), ← Int.mul_assoc]
  · have hr := h.rule hd
    obtain ⟨ha, hb, hc, hdd, he, d1, d2, d3, d4, d5, d6, d7, d8, d9, d10⟩ := hd
    obtain ⟨x1, e1⟩ := h.one ha hb hc d1 d2 d5
    obtain ⟨x2, e2⟩ := h.one ha hdd he d3 d4 d10
    obtain ⟨x3, e3⟩ := h.one ha hb he d1 d4 d7
    obtain ⟨x4, e4⟩ := h.one ha hc hdd d2 d3 d8
    obtain ⟨x5, e5⟩ := h.one ha hb hdd d1 d3 d6
    obtain ⟨x6, e6⟩ := h.one ha hc he d2 d4 d9
    rw [e1, e2, e3, e4, e5, e6] at hr
    unfold rvG sgx
    rw [e1, e2, e3, e4, e5, e6, brk_rev]
    exact hr
/-- A circuit of one kind. -/
def Pos (G : Nat → Nat → Nat → Int) (a b c d : Nat) : Prop := G a c d = -(G b c d) ∧ G a b d = G b c d ∧ G a b c = -(G b c d)
section
variable {n : Nat} {G : Nat → Nat → Nat → Int}
theorem pos_s1 (h : Om n G) {a b c d : Nat} (hd : Dis n a b c d) (hp : Pos G a b c d) : Pos G b a c d := by
  unfold Dis at hd
  obtain ⟨p1, p2, p3⟩ := hp
  have q1 := h.s1 (a := a) (b := b) (c := d) (by omega) (by omega) (by omega)
  have q2 := h.s1 (a := a) (b := b) (c := c) (by omega) (by omega) (by omega)
  exact ⟨by omega, by omega, by omega⟩
theorem pos_s2 (h : Om n G) {a b c d : Nat} (hd : Dis n a b c d) (hp : Pos G a b c d) : Pos G a c b d := by
  unfold Dis at hd
  obtain ⟨p1, p2, p3⟩ := hp
  have q1 := h.s1 (a := b) (b := c) (c := d) (by omega) (by omega) (by omega)
  have q2 := h.s2 (a := a) (b := b) (c := c) (by omega) (by omega) (by omega)
  exact ⟨by omega, by omega, by omega⟩
theorem pos_s3 (h : Om n G) {a b c d : Nat} (hd : Dis n a b c d) (hp : Pos G a b c d) : Pos G a b d c := by
  unfold Dis at hd
  obtain ⟨p1, p2, p3⟩ := hp
  have q1 := h.s2 (a := b) (b := c) (c := d) (by omega) (by omega) (by omega)
  have q2 := h.s2 (a := a) (b := c) (c := d) (by omega) (by omega) (by omega)
  exact ⟨by omega, by omega, by omega⟩
/-- One of four comes first. -/
theorem pos_front (h : Om n G) {a b c d : Nat} (hd : Dis n a b c d) (hp : Pos G a b c d) {i : Nat} (hi : i = a ∨ i = b ∨ i = c ∨ i = d) :
    ∃ x y z, Dis n i x y z ∧ Pos G i x y z ∧ ∀ j, (j = a ∨ j = b ∨ j = c ∨ j = d) ↔ (j = i ∨ j = x ∨ j = y ∨ j = z) := by
  have hd0 := hd
  unfold Dis at hd0
  rcases hi with rfl | rfl | rfl | rfl
  · exact ⟨b, c, d, hd, hp, fun j => Iff.rfl⟩
  · exact ⟨a, c, d, by unfold Dis; omega, pos_s1 h hd hp, fun j => by omega⟩
  · exact ⟨a, b, d, by unfold Dis; omega, pos_s1 h (by unfold Dis; omega) (pos_s2 h hd hp), fun j => by omega⟩
  · exact ⟨a, b, c, by unfold Dis; omega, pos_s1 h (by unfold Dis; omega) (pos_s2 h (by unfold Dis; omega) (pos_s3 h hd hp)), fun j => by omega⟩
theorem pos_second (h : Om n G) {a b c d : Nat} (hd : Dis n a b c d) (hp : Pos G a b c d) {j : Nat} (hj : j = b ∨ j = c ∨ j = d) : ∃ y z, Dis n a j y z ∧ Pos G a j y z := by
  have hd0 := hd
  unfold Dis at hd0
  rcases hj with rfl | rfl | rfl
  · exact ⟨c, d, hd, hp⟩
  · exact ⟨b, d, by unfold Dis; omega, pos_s2 h hd hp⟩
  · exact ⟨b, c, by unfold Dis; omega, pos_s2 h (by unfold Dis; omega) (pos_s3 h hd hp)⟩
theorem orth_bools : ∀ iab iac iad ibc ibd icd q : Bool,
    brkV (sg1 true) (sg1 ibc) (sg1 true) (sg1 iab) (sg1 true) (sg1 iac) = false →
    brkV (sg1 true) (sg1 ibd) (sg1 true) (sg1 iab) (sg1 true) (sg1 iad) = false →
    brkV (sg1 true) (sg1 icd) (sg1 true) (sg1 iac) (sg1 true) (sg1 iad) = false →
    brkV (sg1 (!iab)) (sg1 (!q)) (sg1 (!iad)) (sg1 (!q)) (sg1 (!iac)) (sg1 q) = false →
    brkV (sg1 iab) (sg1 q) (sg1 (!ibd)) (sg1 q) (sg1 (!ibc)) (sg1 (!q)) = false →
    brkV (sg1 iac) (sg1 (!q)) (sg1 (!icd)) (sg1 (!q)) (sg1 ibc) (sg1 q) = false → False := by decide +kernel
theorem orth5_bools : ∀ t icd ibc ibd q : Bool, brkV (sg1 t) (sg1 icd) (sg1 t) (sg1 ibc) (sg1 t) (sg1 ibd) = false → ¬ (icd = !q ∧ ibd = q ∧ ibc = !q) := by decide +kernel
set_option maxHeartbeats 1600000 in
/-- No circuit of one kind where all are on one side of a line. -/
theorem line_acyclic (h : Om n G) {i j : Nat} (hi : i < n) (hj : j < n) (hij : i ≠ j) (hl : ∀ x, x < n → x ≠ i → x ≠ j → G i j x = sg1 true) {a b c d : Nat} (hd : Dis n a b c d) : ¬ Pos G a b c d := fun hp => by
  have five : ∀ i j t x y z, i < n → j < n → i ≠ j → (∀ x, x < n → x ≠ i → x ≠ j → G i j x = sg1 t) → Dis n i x y z → j ≠ x → j ≠ y → j ≠ z → ¬ Pos G i x y z := fun i j t x y z hi hj hij hl hd n1 n2 n3 hp => by
    unfold Dis at hd
    obtain ⟨p1, p2, p3⟩ := hp
    have r := h.rule (a := i) (b := j) (c := x) (d := y) (e := z) (by unfold Dif5; omega)
    obtain ⟨q, eq⟩ := h.one (a := x) (b := y) (c := z) (by omega) (by omega) (by omega) (by omega) (by omega) (by omega)
    obtain ⟨b1, e1⟩ := h.one (a := i) (b := y) (c := z) (by omega) (by omega) (by omega) (by omega) (by omega) (by omega)
    obtain ⟨b2, e2⟩ := h.one (a := i) (b := x) (c := z) (by omega) (by omega) (by omega) (by omega) (by omega) (by omega)
    obtain ⟨b3, e3⟩ := h.one (a := i) (b := x) (c := y) (by omega) (by omega) (by omega) (by omega) (by omega) (by omega)
    rw [hl x (by omega) (by omega) (by omega), hl y (by omega) (by omega) (by omega), hl z (by omega) (by omega) (by omega), e1, e2, e3] at r
    rw [e1, eq, sg1_neg, sg1_inj] at p1
    rw [e2, eq, sg1_inj] at p2
    rw [e3, eq, sg1_neg, sg1_inj] at p3
    exact orth5_bools t b1 b3 b2 q r ⟨p1, p2, p3⟩
  have two : ∀ x y, Dis n i j x y → ¬ Pos G i j x y := fun x y hd hp => by
    unfold Dis at hd
    obtain ⟨p1, p2, p3⟩ := hp
    have h1 := hl x (by omega) (by omega) (by omega)
    have h2 := hl y (by omega) (by omega) (by omega)
    have e : sg1 true = 1 := rfl
    rw [e] at h1 h2
    omega
  by_cases ci : i = a ∨ i = b ∨ i = c ∨ i = d
  · obtain ⟨x, y, z, hd1, hp1, hm⟩ := pos_front h hd hp ci
    by_cases cj : j = x ∨ j = y ∨ j = z
    · obtain ⟨y, z, hd2, hp2⟩ := pos_second h hd1 hp1 cj
      exact two y z hd2 hp2
    · exact five i j true x y z hi hj hij hl hd1 (by omega) (by omega) (by omega) hp1
  · by_cases cj : j = a ∨ j = b ∨ j = c ∨ j = d
    · obtain ⟨x, y, z, hd1, hp1, hm⟩ := pos_front h hd hp cj
      have hmi := hm i
      refine five j i false x y z hj hi (fun e => hij e.symm) (fun x hx h1 h2 => ?_) hd1 (by omega) (by omega) (by omega) hp1
      have e1 := hl x hx h2 h1
      have e2 := h.s1 (a := i) (b := j) (c := x) hij (by omega) (by omega)
      rw [e2, e1]; rfl
    · obtain ⟨ha, hb, hc, hdd, ab, ac, ad, bc, bd, cd⟩ := hd
      obtain ⟨p1, p2, p3⟩ := hp
      have ia : i ≠ a := fun e => ci (.inl e)
      have ib : i ≠ b := fun e => ci (.inr (.inl e))
      have ic : i ≠ c := fun e => ci (.inr (.inr (.inl e)))
      have id : i ≠ d := fun e => ci (.inr (.inr (.inr e)))
      have ja : j ≠ a := fun e => cj (.inl e)
      have jb : j ≠ b := fun e => cj (.inr (.inl e))
      have jc : j ≠ c := fun e => cj (.inr (.inr (.inl e)))
      have jd : j ≠ d := fun e => cj (.inr (.inr (.inr e)))
      clear ci cj five two
      obtain ⟨iab, e1⟩ := h.one hi ha hb ia ib ab
      obtain ⟨iac, e2⟩ := h.one hi ha hc ia ic ac
      obtain ⟨iad, e3⟩ := h.one hi ha hdd ia id ad
      obtain ⟨ibc, e4⟩ := h.one hi hb hc ib ic bc
      obtain ⟨ibd, e5⟩ := h.one hi hb hdd ib id bd
      obtain ⟨icd, e6⟩ := h.one hi hc hdd ic id cd
      obtain ⟨q, e7⟩ := h.one hb hc hdd bc bd cd
      have ng : ∀ {a b c : Nat} {x : Bool}, G a b c = sg1 x → a ≠ b → a ≠ c → b ≠ c → G b a c = sg1 (!x) := fun {a b c x} e h1 h2 h3 => by rw [h.s1 h1 h2 h3, e, sg1_neg]
      have rt : ∀ {a b c : Nat} {x : Bool}, G a b c = sg1 x → a ≠ b → a ≠ c → b ≠ c → G c a b = sg1 x := fun {a b c x} e h1 h2 h3 => by
        rw [h.s1 (a := a) (b := c) (c := b) h2 h1 h3.symm, h.s2 h1 h2 h3, e, Int.neg_neg]
      have f1 : G a c d = sg1 (!q) := by rw [p1, e7, sg1_neg]
      have f2 : G a b d = sg1 q := by rw [p2, e7]
      have f3 : G a b c = sg1 (!q) := by rw [p3, e7, sg1_neg]
      have g1 := h.rule ⟨hi, hj, ha, hb, hc, hij, ia, ib, ic, ja, jb, jc, ab, ac, bc⟩
      have g2 := h.rule ⟨hi, hj, ha, hb, hdd, hij, ia, ib, id, ja, jb, jd, ab, ad, bd⟩
      have g3 := h.rule ⟨hi, hj, ha, hc, hdd, hij, ia, ic, id, ja, jc, jd, ac, ad, cd⟩
      have g4 := h.rule ⟨ha, hi, hb, hc, hdd, ia.symm, ab, ac, ad, ib, ic, id, bc, bd, cd⟩
      have g5 := h.rule ⟨hb, hi, ha, hc, hdd, ib.symm, ab.symm, bc, bd, ia, ic, id, ac, ad, cd⟩
      have g6 := h.rule ⟨hc, hi, ha, hb, hdd, ic.symm, ac.symm, bc.symm, cd, ia, ib, id, ab, ad, bd⟩
      have la := hl a ha ia.symm ja.symm
      have lb := hl b hb ib.symm jb.symm
      have lc := hl c hc ic.symm jc.symm
      have ld := hl d hdd id.symm jd.symm
      rw [la, lb, lc, e4, e1, e2] at g1
      rw [la, lb, ld, e5, e1, e3] at g2
      rw [la, lc, ld, e6, e2, e3] at g3
      rw [ng e1 ia ib ab, f1, ng e3 ia id ad, f3, ng e2 ia ic ac, f2] at g4
      rw [rt e1 ia ib ab, e7, ng e5 ib id bd, ng f3 ab ac bc, ng e4 ib ic bc, ng f2 ab ad bd, Bool.not_not] at g5
      rw [rt e2 ia ic ac, ng e7 bc bd cd, ng e6 ic id cd, rt f3 ab ac bc, rt e4 ib ic bc, ng f1 ac ad cd, Bool.not_not] at g6
      exact orth_bools iab iac iad ibc ibd icd q g1 g2 g3 g4 g5 g6
end
end Go.Proofs.YtpjjohbahhaeoaaGreatDoor.Sg
/- What lies left, on plain functions: the sets that a line cuts off are as many as the pairs with one element less to the left. -/
namespace Go.Proofs.YtpjjohbahhaeoaaGreatDoor.Sg
/-- A set by what is in it. -/
def setN (p : Nat → Bool) : Nat → Nat
  | 0 => 0
  | k + 1 => setN p k + (if p k = true then 2 ^ k else 0)
theorem setN_lt (p : Nat → Bool) : ∀ k, setN p k < 2 ^ k
  | 0 => by unfold setN; omega
  | k + 1 => by
    have := setN_lt p k
    unfold setN
    rw [Nat.pow_succ]
    split <;> omega
theorem setN_bit (p : Nat → Bool) : ∀ k j, (setN p k).testBit j = (decide (j < k) && p j)
  | 0, j => by unfold setN; simp
  | k + 1, j => by
    have hlt := setN_lt p k
    have ih := setN_bit p k j
    unfold setN
    by_cases hc : p k = true
    · rw [if_pos hc, Nat.add_comm]
      rcases Nat.lt_trichotomy j k with h | h | h
      · rw [Nat.testBit_two_pow_add_gt h, ih]
        simp [h, Nat.lt_succ_of_lt h]
      · subst h
        rw [Nat.testBit_two_pow_add_eq, ih, hc]
        simp
      · rw [Nat.testBit_lt_two_pow (Nat.lt_of_lt_of_le (show 2 ^ k + setN p k < 2 ^ (k + 1) by rw [Nat.pow_succ]; omega) (Nat.pow_le_pow_right (by omega) (by omega)))]
        simp; omega
    · rw [if_neg hc, Nat.add_zero, ih]
      by_cases h : j = k
      · subst h; simp at hc ⊢; exact hc
      · have : decide (j < k + 1) = decide (j < k) := by simp; omega
        rw [this]
theorem set_ext {n S T : Nat} (hS : S < 2 ^ n) (hT : T < 2 ^ n) (h : ∀ x, x < n → S.testBit x = T.testBit x) : S = T := Nat.eq_of_testBit_eq fun x => by
  rcases Nat.lt_or_ge x n with hx | hx
  · exact h x hx
  · rw [Nat.testBit_lt_two_pow (Nat.lt_of_lt_of_le hS (Nat.pow_le_pow_right (by omega) hx)), Nat.testBit_lt_two_pow (Nat.lt_of_lt_of_le hT (Nat.pow_le_pow_right (by omega) hx))]
/-- i and what is to the left of i and j. -/
def cutS (F : Nat → Nat → Nat → Int) (n i j : Nat) : Nat := setN (fun x => x == i || (x != j && decide (0 < F i j x))) n
section
variable {n : Nat} {s : List UInt8}
theorem cutS_bit (F : Nat → Nat → Nat → Int) {n i j x : Nat} (hx : x < n) : (cutS F n i j).testBit x = (x == i || (x != j && decide (0 < F i j x))) := by
  unfold cutS
  rw [setN_bit]
  simp [hx]
theorem cutS_lt (F : Nat → Nat → Nat → Int) (n i j : Nat) : cutS F n i j < 2 ^ n := setN_lt _ _
theorem prod_one : ∀ x y : Bool, sg1 x * sg1 y = 1 ↔ x = y := by decide
theorem prod_neg : ∀ x y : Bool, -(sg1 x) * sg1 y = 1 ↔ x = !y := by decide
/-- Sets that leave no circuit of one kind. -/
theorem acS_iff (h : aciB n s = true) (S : Nat) : acS n s S = true ↔ ∀ a b c d, a < b → b < c → c < d → d < n → ¬ Pos (rvG S (sgS n s)) a b c d := by
  have h7 := (aciB_n h).2
  have hO := om_rev (om_sgn h) S
  unfold acS
  rw [acB_iff (show n ≤ 7 by omega)]
  have key : ∀ {a b c : Nat}, a < b → b < c → sgnF (revF S (lookS n s)) a b c = rvG S (sgS n s) a b c := fun {a b c} h1 h2 => by
    rw [sgnF_rev h1 h2, odd3_bits]
    unfold rvG sgS sgx
    rw [sgnF_plain h1 h2]
    cases S.testBit a <;> cases S.testBit b <;> cases S.testBit c <;> simp [sg1]
  have each : ∀ a b c d : Nat, a < b → b < c → c < d → d < n → (posC (sgnF (revF S (lookS n s))) a b c d = true ↔ Pos (rvG S (sgS n s)) a b c d) := fun a b c d h1 h2 h3 h4 => by
    obtain ⟨w, e0⟩ := hO.one (a := b) (b := c) (c := d) (by omega) (by omega) h4 (by omega) (by omega) (by omega)
    obtain ⟨x, e1⟩ := hO.one (a := a) (b := c) (c := d) (by omega) (by omega) h4 (by omega) (by omega) (by omega)
    obtain ⟨y, e2⟩ := hO.one (a := a) (b := b) (c := d) (by omega) (by omega) h4 (by omega) (by omega) (by omega)
    obtain ⟨z, e3⟩ := hO.one (a := a) (b := b) (c := c) (by omega) (by omega) (by omega) (by omega) (by omega) (by omega)
    unfold posC cir Pos
    rw [key h2 h3, key (show a < c by omega) h3, key h1 (show b < d by omega), key h1 h2, e0, e1, e2, e3]
    simp only [Bool.and_eq_true, beq_iff_eq, sg1_neg, sg1_inj, prod_one]
    constructor
    · rintro ⟨-, p1, p2, p3⟩
      exact ⟨by rw [← p1]; simp, p2, by rw [← p3]; simp⟩
    · rintro ⟨p1, p2, p3⟩
      exact ⟨trivial, by rw [p1]; simp, p2, by rw [p3]; simp⟩
  constructor
  · intro hh a b c d h1 h2 h3 h4 hp
    have := hh a b c d h1 h2 h3 h4
    rw [(each a b c d h1 h2 h3 h4).2 hp] at this
    cases this
  · intro hh a b c d h1 h2 h3 h4
    cases hq : posC (sgnF (revF S (lookS n s))) a b c d
    · rfl
    · exact absurd ((each a b c d h1 h2 h3 h4).1 hq) (hh a b c d h1 h2 h3 h4)
theorem cut_ac (h : aciB n s = true) {i j : Nat} (hi : i < n) (hj : j < n) (hij : i ≠ j) : acS n s (cutS (sgS n s) n i j) = true := by
  rw [acS_iff h]
  intro a b c d h1 h2 h3 h4
  refine line_acyclic (om_rev (om_sgn h) _) hi hj hij (fun x hx x1 x2 => ?_) (by unfold Dis; omega)
  obtain ⟨b, hb⟩ := (om_sgn h).one hi hj hx hij (fun e => x1 e.symm) (fun e => x2 e.symm)
  have bi := cutS_bit (sgS n s) (i := i) (j := j) hi
  have bj := cutS_bit (sgS n s) (i := i) (j := j) hj
  have bx := cutS_bit (sgS n s) (i := i) (j := j) hx
  have ei : (i == i) = true := by simp
  have eji : (j == i) = false := by simpa using fun e => hij e.symm
  have ejj : (j != j) = false := by simp
  have exi : (x == i) = false := by simpa using x1
  have exj : (x != j) = true := by simpa using x2
  rw [ei] at bi
  rw [eji, ejj] at bj
  rw [exi, exj, hb] at bx
  unfold rvG sgx
  rw [bi, bj, bx, hb]
  cases b <;> simp [sg1]
theorem cut_in (F : Nat → Nat → Nat → Int) {i j : Nat} (hi : i < n) : (cutS F n i j).testBit i = true := by rw [cutS_bit F hi]; simp
theorem cut_out (F : Nat → Nat → Nat → Int) {i j : Nat} (hj : j < n) (hij : i ≠ j) : (cutS F n i j).testBit j = false := by
  rw [cutS_bit F hj]
  have : (j == i) = false := by simpa using fun e => hij e.symm
  rw [this]; simp
theorem cut_left (h : aciB n s = true) {i j x : Nat} (hi : i < n) (hj : j < n) (hij : i ≠ j) (hx : x < n) (x1 : x ≠ i) (x2 : x ≠ j) : (cutS (sgS n s) n i j).testBit x = true ↔ sgS n s i j x = 1 := by
  obtain ⟨b, hb⟩ := (om_sgn h).one hi hj hx hij (fun e => x1 e.symm) (fun e => x2 e.symm)
  rw [cutS_bit (sgS n s) hx, hb]
  have exi : (x == i) = false := by simpa using x1
  have exj : (x != j) = true := by simpa using x2
  rw [exi, exj]
  cases b <;> simp [sg1]
theorem cut_right (h : aciB n s = true) {i j x : Nat} (hi : i < n) (hj : j < n) (hij : i ≠ j) (hx : x < n) (x1 : x ≠ i) (x2 : x ≠ j) (hb : (cutS (sgS n s) n i j).testBit x = false) : sgS n s i j x = -1 := by
  have hc := cut_left h hi hj hij hx x1 x2
  obtain ⟨b, e⟩ := (om_sgn h).one hi hj hx hij (fun e => x1 e.symm) (fun e => x2 e.symm)
  cases b
  · rw [e]; rfl
  · exact absurd (hc.2 (by rw [e]; rfl)) (by rw [hb]; simp)
/-- Each pair cuts off a set of its own. -/
theorem cut_inj (h : aciB n s = true) {i j i' j' : Nat} (hi : i < n) (hj : j < n) (hij : i ≠ j) (hi' : i' < n) (hj' : j' < n) (hij' : i' ≠ j') (he : cutS (sgS n s) n i j = cutS (sgS n s) n i' j') : i = i' ∧ j = j' := by
  have O := om_sgn h
  have a1 := cut_in (sgS n s) (i := i) (j := j) hi
  have a2 := cut_out (sgS n s) (i := i) (j := j) hj hij
  have b1 := cut_in (sgS n s) (i := i') (j := j') hi'
  have b2 := cut_out (sgS n s) (i := i') (j := j') hj' hij'
  have a1' := a1
  have a2' := a2
  have b1' := b1
  have b2' := b2
  rw [he] at a1' a2'
  rw [← he] at b1' b2'
  have n1 : i ≠ j' := fun e => by rw [e, b2] at a1'; cases a1'
  have n2 : j ≠ i' := fun e => by rw [e, b1] at a2'; cases a2'
  by_cases c1 : i = i'
  · refine ⟨c1, ?_⟩
    subst c1
    by_cases c2 : j = j'
    · exact c2
    · exfalso
      have r1 := cut_right h hi hj hij hj' (fun e => n1 e.symm) (fun e => c2 e.symm) b2'
      have r2 := cut_right h hi hj' hij' hj n2 c2 a2'
      have := O.s2 (a := i) (b := j) (c := j') hij hij' c2
      omega
  · by_cases c2 : j = j'
    · exfalso
      subst c2
      have r1 := (cut_left h hi hj hij hi' (fun e => c1 e.symm) (fun e => n2 e.symm)).1 b1'
      have r2 := (cut_left h hi' hj hij' hi c1 n1).1 a1'
      have s1 := O.s1 (a := i) (b := j) (c := i') hij c1 n2
      have s2 := O.s2 (a := j) (b := i) (c := i') (fun e => hij e.symm) n2 c1
      have s3 := O.s1 (a := j) (b := i') (c := i) n2 (fun e => hij e.symm) (fun e => c1 e.symm)
      omega
    · exfalso
      have r1 := (cut_left h hi hj hij hi' (fun e => c1 e.symm) (fun e => n2 e.symm)).1 b1'
      have r2 := cut_right h hi hj hij hj' (fun e => n1 e.symm) (fun e => c2 e.symm) b2'
      have r3 := (cut_left h hi' hj' hij' hi c1 n1).1 a1'
      have r4 := cut_right h hi' hj' hij' hj n2 c2 a2'
      -- the circuit of i, j, i', j'
      have hd : Dis n i j i' j' := ⟨hi, hj, hi', hj', hij, c1, n1, n2, c2, hij'⟩
      have hp := pos_any h hd
      have e1 : sgS n s i i' j' = 1 := by
        have s1 := O.s2 (a := i') (b := j') (c := i) hij' (fun e => c1 e.symm) (fun e => n1 e.symm)
        have s2 := O.s1 (a := i') (b := i) (c := j') (fun e => c1 e.symm) hij' n1
        omega
      have e2 : sgS n s j i' j' = -1 := by
        have s1 := O.s2 (a := i') (b := j') (c := j) hij' (fun e => n2 e.symm) (fun e => c2 e.symm)
        have s2 := O.s1 (a := i') (b := j) (c := j') (fun e => n2 e.symm) hij' c2
        omega
      unfold sgS at r1 r2 e1 e2
      unfold posC cir at hp
      rw [r1, r2, e1, e2] at hp
      revert hp
      decide
end
end Go.Proofs.YtpjjohbahhaeoaaGreatDoor.Sg
/- What lies left, on plain functions: as many sets of k elements can be cut off as pairs have k - 1 elements to the left. -/
namespace Go.Proofs.YtpjjohbahhaeoaaGreatDoor.Sg
/-- The pairs of n elements, in both orders. -/
def pairsN (n : Nat) : List (Nat × Nat) := (List.range n).flatMap fun i => ((List.range n).filter fun j => j != i).map fun j => (i, j)
theorem mem_pairs {n : Nat} {p : Nat × Nat} : p ∈ pairsN n ↔ p.1 < n ∧ p.2 < n ∧ p.1 ≠ p.2 := by
  unfold pairsN
  rw [List.mem_flatMap]
  constructor
  · rintro ⟨i, hi, hp⟩
    obtain ⟨j, hj, rfl⟩ := List.mem_map.1 hp
    obtain ⟨h1, h2⟩ := List.mem_filter.1 hj
    have h2 : ¬ j = i := by simpa using h2
    exact ⟨List.mem_range.1 hi, List.mem_range.1 h1, fun e => h2 e.symm⟩
  · rintro ⟨h1, h2, h3⟩
    exact ⟨p.1, List.mem_range.2 h1, List.mem_map.2 ⟨p.2, List.mem_filter.2 ⟨List.mem_range.2 h2, by simpa using fun e => h3 e.symm⟩, rfl⟩⟩
theorem pairs_len : ∀ n, n < 8 → (pairsN n).length = n * (n - 1) := by decide +kernel
theorem pairs_nodup : ∀ n, n < 8 → (pairsN n).Nodup := by decide +kernel
/-- The sets that leave no circuit of one kind. -/
def setsA (n : Nat) (s : List UInt8) : List Nat := (List.range (2 ^ n)).filter (acS n s)
theorem mem_setsA {n : Nat} {s : List UInt8} {S : Nat} : S ∈ setsA n s ↔ S < 2 ^ n ∧ acS n s S = true := by unfold setsA; rw [List.mem_filter, List.mem_range]
theorem setsA_nodup (n : Nat) (s : List UInt8) : (setsA n s).Nodup := (List.nodup_range (n := 2 ^ n)).filter _
/-- Different members that are as many as a list are all of it. -/
theorem pigeon {L R : List Nat} (hn : L.Nodup) (hs : ∀ x ∈ L, x ∈ R) (hl : R.length ≤ L.length) : ∀ y ∈ R, y ∈ L := fun y hy => by
  by_cases hm : y ∈ L
  · exact hm
  · exfalso
    have := nodup_sub (y :: L) R (List.nodup_cons.2 ⟨hm, hn⟩) (fun x hx => by
      rcases List.mem_cons.1 hx with e | e
      · exact e ▸ hy
      · exact hs x e)
    simp only [List.length_cons] at this
    omega
theorem map_nodup {α : Type} {f : α → Nat} : ∀ L : List α, L.Nodup → (∀ a ∈ L, ∀ b ∈ L, f a = f b → a = b) → (L.map f).Nodup
  | [], _, _ => List.nodup_nil
  | a :: L, hn, hi => by
    obtain ⟨h1, h2⟩ := List.nodup_cons.1 hn
    rw [List.map_cons]
    refine List.nodup_cons.2 ⟨fun hm => ?_, map_nodup L h2 (fun x hx y hy => hi x (List.mem_cons_of_mem _ hx) y (List.mem_cons_of_mem _ hy))⟩
    obtain ⟨b, hb, he⟩ := List.mem_map.1 hm
    have := hi b (List.mem_cons_of_mem _ hb) a List.mem_cons_self he
    exact h1 (this ▸ hb)
theorem one_in : ∀ n, n < 8 → ∀ i, i < n → (List.range n).countP (fun x => x == i) = 1 := by decide +kernel
theorem pcS_n {n S : Nat} (h7 : n ≤ 7) (hS : S < 2 ^ n) : pcS S = (List.range n).countP S.testBit := by
  rw [pcS_eq, show (7 : Nat) = n + (7 - n) by omega, List.range_add, List.countP_append]
  have : ((List.range (7 - n)).map (n + ·)).countP S.testBit = 0 := by
    rw [List.countP_eq_zero]
    intro x hx
    obtain ⟨y, -, rfl⟩ := List.mem_map.1 hx
    rw [Nat.testBit_lt_two_pow (Nat.lt_of_lt_of_le hS (Nat.pow_le_pow_right (by omega) (by omega)))]
    simp
  omega
section
variable {n : Nat} {s : List UInt8}
theorem cut_size (h7 : n ≤ 7) {i j : Nat} (hi : i < n) : pcS (cutS (sgS n s) n i j) = leftN (sgnF (lookS n s)) n i j + 1 := by
  rw [pcS_n h7 (cutS_lt _ _ _ _)]
  have e : (List.range n).countP (cutS (sgS n s) n i j).testBit = (List.range n).countP fun x => x == i || (x != i && (x != j && decide (0 < sgnF (lookS n s) i j x))) := by
    refine List.countP_congr fun x hx => ?_
    rw [cutS_bit _ (List.mem_range.1 hx)]
    unfold sgS
    cases hxi : (x == i) <;> cases hxj : (x != j) <;> simp_all
  rw [e, countP_split _ (fun x => x == i) (fun x => x != i && (x != j && decide (0 < sgnF (lookS n s) i j x))) (fun x => rfl) (fun x hx => by simp at hx; simp [hx]), one_in n (by omega) i hi]
  unfold leftN
  omega
theorem ac_full (h : aciB n s = true) : acS n s (2 ^ n - 1) = true := by
  rw [acS_iff h]
  intro a b c d h1 h2 h3 h4 hp
  have O := om_sgn h
  have key : ∀ {x y z : Nat}, x < n → y < n → z < n → rvG (2 ^ n - 1) (sgS n s) x y z = -(sgS n s x y z) := fun {x y z} hx hy hz => by
    unfold rvG sgx
    rw [all_bit, all_bit, all_bit]
    simp [hx, hy, hz, sg1]
  unfold Pos at hp
  rw [key (x := a) (y := c) (z := d) (by omega) (by omega) h4, key (x := b) (y := c) (z := d) (by omega) (by omega) h4, key (x := a) (y := b) (z := d) (by omega) (by omega) h4, key (x := a) (y := b) (z := c) (by omega) (by omega) (by omega)] at hp
  obtain ⟨p1, p2, p3⟩ := hp
  have hq := pos_any h (a := a) (b := b) (c := c) (d := d) (by unfold Dis; omega)
  obtain ⟨w, e0⟩ := O.one (a := b) (b := c) (c := d) (by omega) (by omega) h4 (by omega) (by omega) (by omega)
  have e1 : sgS n s a c d = -(sg1 w) := by rw [← e0]; omega
  have e2 : sgS n s a b d = sg1 w := by rw [← e0]; omega
  have e3 : sgS n s a b c = -(sg1 w) := by rw [← e0]; omega
  unfold sgS at e0 e1 e2 e3
  unfold posC cir at hq
  rw [e0, e1, e2, e3] at hq
  cases w <;> revert hq <;> decide
theorem setsA_len (h : aciB n s = true) (h6 : n ≤ 6) : (setsA n s).length = n * (n - 1) + 2 := by
  have hm := aciB_mat h
  rw [← setsZ_many hm h6, setsZ_yes hm]
  unfold setsTo setsA
  rw [List.length_map]
/-- All sets that leave no circuit of one kind: none, all, and those that lines cut off. -/
theorem setsA_all (h : aciB n s = true) (h6 : n ≤ 6) {S : Nat} (hS : S ∈ setsA n s) : S = 0 ∨ S = 2 ^ n - 1 ∨ ∃ p ∈ pairsN n, S = cutS (sgS n s) n p.1 p.2 := by
  obtain ⟨h3, -⟩ := aciB_n h
  have h3 : 3 ≤ n := by omega
  have hp8 := Nat.pow_le_pow_right (n := 2) (i := 3) (j := n) (by omega) h3
  have har := matB_ar (aciB_mat h)
  have hac0 : acB (sgnF (lookS n s)) n = true := by
    have h' := h
    unfold aciB at h'
    have := (Bool.and_eq_true_iff.1 h').2
    rwa [Int.toNat_natCast] at this
  have hcut : ∀ p ∈ pairsN n, cutS (sgS n s) n p.1 p.2 ≠ 0 ∧ cutS (sgS n s) n p.1 p.2 ≠ 2 ^ n - 1 := fun p hp => by
    obtain ⟨h1, h2, h4⟩ := mem_pairs.1 hp
    have b1 := cut_in (sgS n s) (i := p.1) (j := p.2) h1
    have b2 := cut_out (sgS n s) (i := p.1) (j := p.2) h2 h4
    refine ⟨fun e => ?_, fun e => ?_⟩
    · rw [e] at b1; simp at b1
    · rw [e, all_bit] at b2; simp [h2] at b2
  have hnd : (0 :: (2 ^ n - 1) :: (pairsN n).map fun p => cutS (sgS n s) n p.1 p.2).Nodup := by
    refine List.nodup_cons.2 ⟨fun hm => ?_, List.nodup_cons.2 ⟨fun hm => ?_, map_nodup _ (pairs_nodup n (by omega)) (fun p hp q hq he => ?_)⟩⟩
    · rcases List.mem_cons.1 hm with e | e
      · omega
      · obtain ⟨p, hp, he⟩ := List.mem_map.1 e
        exact (hcut p hp).1 he
    · obtain ⟨p, hp, he⟩ := List.mem_map.1 hm
      exact (hcut p hp).2 he
    · obtain ⟨p1, p2, p3⟩ := mem_pairs.1 hp
      obtain ⟨q1, q2, q3⟩ := mem_pairs.1 hq
      obtain ⟨e1, e2⟩ := cut_inj h p1 p2 p3 q1 q2 q3 he
      exact Prod.ext e1 e2
  have hsub : ∀ x ∈ (0 :: (2 ^ n - 1) :: (pairsN n).map fun p => cutS (sgS n s) n p.1 p.2), x ∈ setsA n s := fun x hx => by
    rcases List.mem_cons.1 hx with rfl | hx
    · exact mem_setsA.2 ⟨by omega, by rw [acS_zero har]; exact hac0⟩
    · rcases List.mem_cons.1 hx with rfl | hx
      · exact mem_setsA.2 ⟨by omega, ac_full h⟩
      · obtain ⟨p, hp, rfl⟩ := List.mem_map.1 hx
        obtain ⟨h1, h2, h4⟩ := mem_pairs.1 hp
        exact mem_setsA.2 ⟨cutS_lt _ _ _ _, cut_ac h h1 h2 h4⟩
  have hl : (setsA n s).length ≤ (0 :: (2 ^ n - 1) :: (pairsN n).map fun p => cutS (sgS n s) n p.1 p.2).length := by
    rw [setsA_len h h6, List.length_cons, List.length_cons, List.length_map, pairs_len n (by omega)]
    exact Nat.le_refl _
  rcases List.mem_cons.1 (pigeon hnd hsub hl S hS) with e | e
  · exact .inl e
  · rcases List.mem_cons.1 e with e | e
    · exact .inr (.inl e)
    · obtain ⟨p, hp, he⟩ := List.mem_map.1 e
      exact .inr (.inr ⟨p, hp, he.symm⟩)
/-- How many pairs have m elements to the left. -/
def rowK (n : Nat) (s : List UInt8) (m : Nat) : Nat := (pairsN n).countP fun p => leftN (sgnF (lookS n s)) n p.1 p.2 == m
/-- How many sets of k elements can be cut off. -/
theorem kset_count (h : aciB n s = true) (h6 : n ≤ 6) {k : Nat} (h1 : 1 ≤ k) (h2 : k < n) : (setsA n s).countP (fun S => pcS S == k) = rowK n s (k - 1) := by
  unfold rowK
  rw [List.countP_eq_length_filter, List.countP_eq_length_filter]
  have hmn : (((pairsN n).filter fun p => leftN (sgnF (lookS n s)) n p.1 p.2 == k - 1).map fun p => cutS (sgS n s) n p.1 p.2).Nodup := by
    refine map_nodup _ ((pairs_nodup n (by omega)).filter _) (fun p hp q hq he => ?_)
    obtain ⟨p1, p2, p3⟩ := mem_pairs.1 (List.mem_filter.1 hp).1
    obtain ⟨q1, q2, q3⟩ := mem_pairs.1 (List.mem_filter.1 hq).1
    obtain ⟨e1, e2⟩ := cut_inj h p1 p2 p3 q1 q2 q3 he
    exact Prod.ext e1 e2
  have l1 := nodup_sub _ ((setsA n s).filter fun S => pcS S == k) hmn (fun x hx => by
    obtain ⟨p, hp, rfl⟩ := List.mem_map.1 hx
    obtain ⟨hm, hk⟩ := List.mem_filter.1 hp
    obtain ⟨p1, p2, p3⟩ := mem_pairs.1 hm
    refine List.mem_filter.2 ⟨mem_setsA.2 ⟨cutS_lt _ _ _ _, cut_ac h p1 p2 p3⟩, ?_⟩
    rw [cut_size (by omega) p1]
    simp at hk ⊢
    omega)
  have l2 := nodup_sub ((setsA n s).filter fun S => pcS S == k) (((pairsN n).filter fun p => leftN (sgnF (lookS n s)) n p.1 p.2 == k - 1).map fun p => cutS (sgS n s) n p.1 p.2) ((setsA_nodup n s).filter _) (fun x hx => by
    obtain ⟨hm, hk⟩ := List.mem_filter.1 hx
    have hk : pcS x = k := by simpa using hk
    rcases setsA_all h h6 hm with rfl | rfl | ⟨p, hp, rfl⟩
    · have : pcS 0 = 0 := rfl
      omega
    · rw [pcS_all n (by omega)] at hk; omega
    · obtain ⟨p1, p2, p3⟩ := mem_pairs.1 hp
      rw [cut_size (by omega) p1] at hk
      exact List.mem_map.2 ⟨p, List.mem_filter.2 ⟨hp, by simp; omega⟩, rfl⟩)
  rw [List.length_map] at l1 l2
  omega
end
end Go.Proofs.YtpjjohbahhaeoaaGreatDoor.Sg
/- What lies left, on plain functions: what the table and the row of left counts keep. -/
namespace Go.Proofs.YtpjjohbahhaeoaaGreatDoor.Sg
section
variable {n : Nat} {s : List UInt8}
theorem left_sum (h : aciB n s = true) {i j : Nat} (hi : i < n) (hj : j < n) (hij : i ≠ j) : leftN (sgnF (lookS n s)) n i j + leftN (sgnF (lookS n s)) n j i = n - 2 := by
  have h7 := (aciB_n h).2
  rw [← two_out n (by omega) i hi j hj hij]
  unfold leftN
  have e : ∀ k, k ∈ List.range n → (k != i && k != j) = ((k != i && (k != j && decide (0 < sgnF (lookS n s) i j k))) || (k != j && (k != i && decide (0 < sgnF (lookS n s) j i k)))) ∧ ((k != i && (k != j && decide (0 < sgnF (lookS n s) i j k))) = true → (k != j && (k != i && decide (0 < sgnF (lookS n s) j i k))) = false) := fun k hk => by
    have hkn := List.mem_range.1 hk
    by_cases e1 : k = i
    · subst e1; simp
    · by_cases e2 : k = j
      · subst e2; simp
      · obtain ⟨b, hb⟩ := one (matB_ar (aciB_mat h)) (a := i) (b := j) (c := k) hi hj hkn hij (fun e => e1 e.symm) (fun e => e2 e.symm)
        have h2 := sgnF_s1 (lookS n s) (a := i) (b := j) (c := k) (by omega) (by omega) (by omega)
        rw [h2, hb]
        have b1 : (k != i) = true := by simpa using e1
        have b2 : (k != j) = true := by simpa using e2
        rw [b1, b2]
        cases b <;> simp [sg1]
  have go : ∀ L : List Nat, (∀ k ∈ L, k ∈ List.range n) → L.countP (fun k => k != i && (k != j && decide (0 < sgnF (lookS n s) i j k))) + L.countP (fun k => k != j && (k != i && decide (0 < sgnF (lookS n s) j i k))) = L.countP (fun k => k != i && k != j) := fun L => by
    induction L with
    | nil => exact fun _ => rfl
    | cons a L ih =>
      intro hm
      have ih := ih (fun k hk => hm k (List.mem_cons_of_mem _ hk))
      obtain ⟨e1, e2⟩ := e a (hm a List.mem_cons_self)
      rw [List.countP_cons, List.countP_cons, List.countP_cons, e1, ← ih]
      cases hq : (a != i && (a != j && decide (0 < sgnF (lookS n s) i j a)))
      · cases hr : (a != j && (a != i && decide (0 < sgnF (lookS n s) j i a)))
        · simp
        · simp; omega
      · rw [e2 hq]; simp; omega
  exact go _ (fun k hk => hk)
theorem left_lt (h : aciB n s = true) {i j : Nat} (hi : i < n) (hj : j < n) (hij : i ≠ j) : leftN (sgnF (lookS n s)) n i j < n - 1 := by
  have := left_sum h hi hj hij
  have := (aciB_n h).1
  omega
/-- The row of left counts. -/
def rowL (n : Nat) (s : List UInt8) : List Nat := (List.range (n - 1)).map (rowK n s)
theorem rowL_len : (rowL n s).length = n - 1 := by unfold rowL; simp
theorem rowL_get {m : Nat} (hm : m < n - 1) : (rowL n s).getD m 0 = rowK n s m := by
  unfold rowL
  rw [List.getD_eq_getElem?_getD, List.getElem?_map, List.getElem?_range hm]
  rfl
/-- Counted by a number below a bound, all are counted once. -/
theorem sum_counts {α : Type} (f : α → Nat) : ∀ (m : Nat) (L : List α), ((List.range m).map fun k => L.countP fun p => f p == k).sum = L.countP fun p => decide (f p < m)
  | 0, L => by simp
  | m + 1, L => by
    rw [List.range_succ, List.map_append, List.sum_append, sum_counts f m L]
    simp only [List.map_cons, List.map_nil, List.sum_cons, List.sum_nil, Nat.add_zero]
    induction L with
    | nil => rfl
    | cons a L ih =>
      rw [List.countP_cons, List.countP_cons, List.countP_cons, ← ih]
      by_cases h1 : f a < m
      · have h2 : f a ≠ m := by omega
        have h3 : f a < m + 1 := by omega
        simp [h1, h2, h3]; omega
      · by_cases h2 : f a = m
        · simp [h2]; omega
        · have h3 : ¬ f a < m + 1 := by omega
          simp [h1, h2, h3]
theorem rowL_sum (h : aciB n s = true) : (rowL n s).sum = n * (n - 1) := by
  have h7 := (aciB_n h).2
  unfold rowL rowK
  rw [sum_counts (fun p : Nat × Nat => leftN (sgnF (lookS n s)) n p.1 p.2) (n - 1) (pairsN n), ← pairs_len n (by omega), List.countP_eq_length]
  intro p hp
  obtain ⟨h1, h2, h3⟩ := mem_pairs.1 hp
  simpa using left_lt h h1 h2 h3
/-- From both ends the row is the same. -/
theorem rowK_sym (h : aciB n s = true) {m : Nat} (hm : m < n - 1) : rowK n s m = rowK n s (n - 2 - m) := by
  have h7 := (aciB_n h).2
  have hperm : (pairsN n).map Prod.swap |>.Perm (pairsN n) := by
    have : ∀ n, n < 8 → ((pairsN n).map Prod.swap).isPerm (pairsN n) = true := by decide +kernel
    exact List.isPerm_iff.1 (this n (by omega))
  unfold rowK
  rw [← hperm.countP_eq (fun p => leftN (sgnF (lookS n s)) n p.1 p.2 == n - 2 - m), List.countP_map]
  refine List.countP_congr fun p hp => ?_
  obtain ⟨h1, h2, h3⟩ := mem_pairs.1 hp
  have hs := left_sum h h1 h2 h3
  simp only [Function.comp, Prod.fst_swap, Prod.snd_swap, beq_iff_eq]
  omega
/-- As many pairs have none to the left as elements are extreme. -/
theorem rowK_zero (h : aciB n s = true) : ((rowK n s 0 : Nat) : Int) = hszZ n s := by
  obtain ⟨h3, h7⟩ := aciB_n h
  have hz : hszZ n s = (pcS (extS (sgnF (lookS n s)) n (2 ^ n - 1)) : Nat) := by
    unfold hszZ allS pcS
    rw [if_pos h, Int.toNat_natCast]
  rw [hz]
  have nx : ∀ p ∈ pairsN n, (leftN (sgnF (lookS n s)) n p.1 p.2 = 0 ↔ Nxt n s p.2 p.1) := fun p hp => by
    obtain ⟨h1, h2, h4⟩ := mem_pairs.1 hp
    constructor
    · intro hl
      refine ⟨h1, h4, fun x hx x1 x2 => ?_⟩
      unfold leftN at hl
      rw [List.countP_eq_zero] at hl
      have := hl x (List.mem_range.2 hx)
      obtain ⟨b, hb⟩ := one (matB_ar (aciB_mat h)) (a := p.1) (b := p.2) (c := x) h1 h2 hx h4 (fun e => x2 e.symm) (fun e => x1 e.symm)
      have hs := sgnF_s1 (lookS n s) (a := p.1) (b := p.2) (c := x) (by omega) (by omega) (by omega)
      rw [hb] at hs this
      cases b
      · rw [hs]; rfl
      · exfalso; exact this (by simp [x1, x2, sg1])
    · intro hn
      have := left_nxt h h2 hn
      have := left_sum h h1 h2 h4
      omega
  have hm : ∀ x, x ∈ (List.range 7).filter (extS (sgnF (lookS n s)) n (2 ^ n - 1)).testBit ↔ Ext n s x := fun x => by
    rw [List.mem_filter, List.mem_range, ext_iff h]
    exact ⟨fun hx => hx.2, fun hx => ⟨by have := hx.1; omega, hx⟩⟩
  have hfil : ∀ p, p ∈ (pairsN n).filter (fun p => leftN (sgnF (lookS n s)) n p.1 p.2 == 0) ↔ p ∈ pairsN n ∧ Nxt n s p.2 p.1 := fun p => by
    rw [List.mem_filter, beq_iff_eq]
    constructor
    · rintro ⟨h1, h2⟩; exact ⟨h1, (nx p h1).1 h2⟩
    · rintro ⟨h1, h2⟩; exact ⟨h1, (nx p h1).2 h2⟩
  have l1 := nodup_sub (((pairsN n).filter fun p => leftN (sgnF (lookS n s)) n p.1 p.2 == 0).map Prod.fst) ((List.range 7).filter (extS (sgnF (lookS n s)) n (2 ^ n - 1)).testBit) (map_nodup _ ((pairs_nodup n (by omega)).filter _) (fun p hp q hq he => by
      obtain ⟨p1, p2⟩ := (hfil p).1 hp
      obtain ⟨q1, q2⟩ := (hfil q).1 hq
      have hpp := mem_pairs.1 p1
      have hqq := mem_pairs.1 q1
      exact Prod.ext he (nxt_inj h hpp.2.1 hqq.2.1 p2 (he ▸ q2)))) (fun x hx => by
      obtain ⟨p, hp, rfl⟩ := List.mem_map.1 hx
      obtain ⟨p1, p2⟩ := (hfil p).1 hp
      exact (hm _).2 (nxt_ext h (mem_pairs.1 p1).2.1 p2))
  have l2 := nodup_sub ((List.range 7).filter (extS (sgnF (lookS n s)) n (2 ^ n - 1)).testBit) (((pairsN n).filter fun p => leftN (sgnF (lookS n s)) n p.1 p.2 == 0).map Prod.snd) ((List.nodup_range (n := 7)).filter _) (fun x hx => by
      have he := (hm x).1 hx
      obtain ⟨q, hq⟩ := nxt_some h he
      exact List.mem_map.2 ⟨(q, x), (hfil _).2 ⟨mem_pairs.2 ⟨hq.1, he.1, hq.2.1⟩, hq⟩, rfl⟩)
  rw [List.length_map] at l1 l2
  unfold rowK pcS setsTo
  rw [List.length_map, List.countP_eq_length_filter]
  omega
/-- A line through an extreme element halves the others. -/
theorem halving_some (h : aciB n s = true) : ∃ i j, i < j ∧ j < n ∧ (leftN (sgnF (lookS n s)) n i j + 1 = leftN (sgnF (lookS n s)) n j i ∨ leftN (sgnF (lookS n s)) n i j = leftN (sgnF (lookS n s)) n j i ∨ leftN (sgnF (lookS n s)) n i j = leftN (sgnF (lookS n s)) n j i + 1) := by
  obtain ⟨h3, h7⟩ := aciB_n h
  obtain ⟨hp, -⟩ := first_ext h
  generalize firstS (extS (sgnF (lookS n s)) n (2 ^ n - 1)) = p at hp
  have hpn := hp.1
  have hmem : ∀ x, x ∈ (List.range n).filter (fun x => x != p) ↔ x < n ∧ x ≠ p := fun x => by
    rw [List.mem_filter, List.mem_range]; simp
  have hlen : ((List.range n).filter (fun x => x != p)).length = n - 1 := by
    have : ∀ n, n < 8 → ∀ p, p < n → ((List.range n).filter (fun x => x != p)).length = n - 1 := by decide +kernel
    exact this n (by omega) p hpn
  have hlt : ∀ x y, x < n → y < n → x ≠ p → y ≠ p → x ≠ y → sgnF (lookS n s) p x y = 1 → leftN (sgnF (lookS n s)) n p y < leftN (sgnF (lookS n s)) n p x := fun x y hx hy x1 y1 hxy hs => by
    unfold leftN
    have sub : ∀ L : List Nat, (∀ k ∈ L, k < n) → L.countP (fun k => k != p && (k != y && decide (0 < sgnF (lookS n s) p y k))) + L.countP (fun k => k == y) ≤ L.countP (fun k => k != p && (k != x && decide (0 < sgnF (lookS n s) p x k))) := fun L => by
      induction L with
      | nil => exact fun _ => Nat.le_refl _
      | cons a L ih =>
        intro hm
        have ih := ih (fun k hk => hm k (List.mem_cons_of_mem _ hk))
        have han := hm a List.mem_cons_self
        rw [List.countP_cons, List.countP_cons, List.countP_cons]
        by_cases e1 : a = y
        · subst e1
          have e2 : a ≠ x := fun e => hxy e.symm
          simp [y1, e2, hs]; omega
        · by_cases hc : (a != p && (a != y && decide (0 < sgnF (lookS n s) p y a))) = true
          · have hc2 : (a != p && (a != x && decide (0 < sgnF (lookS n s) p x a))) = true := by
              simp at hc ⊢
              obtain ⟨c1, c2, c3⟩ := hc
              have c4 : a ≠ x := fun e => by
                subst e
                have := sgnF_s2 (lookS n s) (a := p) (b := y) (c := a) (by omega) (by omega) (by omega)
                omega
              have c5 : sgnF (lookS n s) p y a = 1 := by
                obtain ⟨b, hb⟩ := one (matB_ar (aciB_mat h)) (a := p) (b := y) (c := a) hpn hy han (fun e => y1 e.symm) (fun e => c1 e.symm) (fun e => c2 e.symm)
                cases b
                · rw [hb] at c3; simp [sg1] at c3
                · exact hb
              have := ext_trans h hp (a := x) (b := y) (c := a) (by unfold Dis; omega) hs c5
              exact ⟨c1, c4, by omega⟩
            rw [hc, hc2]
            simp [e1]; omega
          · have hc : (a != p && (a != y && decide (0 < sgnF (lookS n s) p y a))) = false := by simpa using hc
            rw [hc]
            simp [e1]; omega
    have := sub (List.range n) (fun k hk => List.mem_range.1 hk)
    rw [one_in n (by omega) y hy] at this
    omega
  have hinj : ∀ a ∈ (List.range n).filter (fun x => x != p), ∀ b ∈ (List.range n).filter (fun x => x != p), leftN (sgnF (lookS n s)) n p a = leftN (sgnF (lookS n s)) n p b → a = b := fun a ha b hb he => by
    obtain ⟨a1, a2⟩ := (hmem a).1 ha
    obtain ⟨b1, b2⟩ := (hmem b).1 hb
    rcases Nat.decEq a b with hne | he2
    · rcases one_or h hpn a1 b1 (fun e => a2 e.symm) (fun e => b2 e.symm) hne with e | e
      · have := hlt a b a1 b1 a2 b2 hne e; omega
      · have := hlt b a b1 a1 b2 a2 (fun e => hne e.symm) e; omega
    · exact he2
  have hpig := pigeon (R := List.range (n - 1)) (map_nodup _ ((List.nodup_range (n := n)).filter _) hinj) (fun x hx => by
    obtain ⟨y, hy, rfl⟩ := List.mem_map.1 hx
    obtain ⟨y1, y2⟩ := (hmem y).1 hy
    exact List.mem_range.2 (left_lt h hpn y1 (fun e => y2 e.symm))) (by rw [List.length_map, hlen, List.length_range]; exact Nat.le_refl _) ((n - 2) / 2) (List.mem_range.2 (by omega))
  obtain ⟨q, hq, he⟩ := List.mem_map.1 hpig
  obtain ⟨q1, q2⟩ := (hmem q).1 hq
  have hs := left_sum h hpn q1 (fun e => q2 e.symm)
  rcases Nat.lt_or_gt_of_ne q2 with hc | hc
  · exact ⟨q, p, hc, hpn, by omega⟩
  · exact ⟨p, q, hc, q1, by omega⟩
end
end Go.Proofs.YtpjjohbahhaeoaaGreatDoor.Sg
/- What lies left, on plain functions: a set can be cut off, as spec's l7Apart tells it, if it leaves no circuit of one kind. -/
namespace Go.Proofs.YtpjjohbahhaeoaaGreatDoor.Sg
/-- An element of a set inside its rest, or one of the rest inside the set. -/
def apP (F : Int → Int → Int → Int) (n S p : Nat) : Bool := (S.testBit p && inT F n (2 ^ n - 1 - S) p) || ((2 ^ n - 1 - S).testBit p && inT F n S p)
/-- Two elements of a set and two others that are both sides of their circuit. -/
def apQ (F : Int → Int → Int → Int) (S a b c d : Nat) : Bool := S.testBit a && (S.testBit b && (!S.testBit c && (!S.testBit d && (sets4 (cir F a b c d) a b c d).1 == ((2 ^ a + 2 ^ b : Nat) : Int))))
def Bad (F : Int → Int → Int → Int) (n S : Nat) : Prop := (∃ p, p < n ∧ apP F n S p = true) ∨ ∃ a b c d, a < b ∧ b < n ∧ c < d ∧ d < n ∧ apQ F S a b c d = true
theorem rest_bit {n S : Nat} (hS : S < 2 ^ n) (x : Nat) : (2 ^ n - 1 - S).testBit x = (decide (x < n) && !S.testBit x) := by
  rw [show 2 ^ n - 1 - S = 2 ^ n - (S + 1) by omega]
  exact Nat.testBit_two_pow_sub_succ hS x
section
variable {n : Nat} {G : Nat → Nat → Nat → Int}
/-- Where no four in order are of one kind, no four are. -/
theorem pos_sort (h : Om n G) (hs : ∀ a b c d, a < b → b < c → c < d → d < n → ¬ Pos G a b c d) : ∀ a b c d, Dis n a b c d → ¬ Pos G a b c d := by
  have S1 : ∀ a b c d, Dis n a b c d → a < b → b < c → b < d → ¬ Pos G a b c d := fun a b c d hd h1 h2 h3 hp => by
    have hd0 := hd
    unfold Dis at hd0
    rcases (by omega : c < d ∨ d < c) with h4 | h4
    · exact hs a b c d h1 h2 h4 (by omega) hp
    · exact hs a b d c h1 h3 h4 (by omega) (pos_s3 h hd hp)
  have S2 : ∀ a b c d, Dis n a b c d → a < b → a < c → a < d → ¬ Pos G a b c d := fun a b c d hd h1 h2 h3 hp => by
    have hd0 := hd
    unfold Dis at hd0
    rcases (by omega : (b < c ∧ b < d) ∨ (c < b ∧ c < d) ∨ (d < b ∧ d < c)) with ⟨h4, h5⟩ | ⟨h4, h5⟩ | ⟨h4, h5⟩
    · exact S1 a b c d hd h1 h4 h5 hp
    · exact S1 a c b d (by unfold Dis; omega) h2 h4 h5 (pos_s2 h hd hp)
    · exact S1 a d b c (by unfold Dis; omega) h3 h4 h5 (pos_s2 h (by unfold Dis; omega) (pos_s3 h hd hp))
  intro a b c d hd hp
  have hd0 := hd
  unfold Dis at hd0
  rcases (by omega : (a < b ∧ a < c ∧ a < d) ∨ (b < a ∧ b < c ∧ b < d) ∨ (c < a ∧ c < b ∧ c < d) ∨ (d < a ∧ d < b ∧ d < c)) with ⟨h1, h2, h3⟩ | ⟨h1, h2, h3⟩ | ⟨h1, h2, h3⟩ | ⟨h1, h2, h3⟩
  · exact S2 a b c d hd h1 h2 h3 hp
  · exact S2 b a c d (by unfold Dis; omega) h1 h2 h3 (pos_s1 h hd hp)
  · exact S2 c a b d (by unfold Dis; omega) h1 h2 h3 (pos_s1 h (by unfold Dis; omega) (pos_s2 h hd hp))
  · exact S2 d a b c (by unfold Dis; omega) h1 h2 h3 (pos_s1 h (by unfold Dis; omega) (pos_s2 h (by unfold Dis; omega) (pos_s3 h hd hp)))
end
/-- Pos of reversed signs by the four signs and the four bits. -/
theorem pos_bits (S : Nat) {F : Nat → Nat → Nat → Int} {a b c d : Nat} {w x y z : Bool} (e0 : F b c d = sg1 w) (e1 : F a c d = sg1 x) (e2 : F a b d = sg1 y) (e3 : F a b c = sg1 z) :
    Pos (rvG S F) a b c d ↔ ((S.testBit a == (S.testBit c == (S.testBit d == x))) = !(S.testBit b == (S.testBit c == (S.testBit d == w))) ∧ (S.testBit a == (S.testBit b == (S.testBit d == y))) = (S.testBit b == (S.testBit c == (S.testBit d == w))) ∧ (S.testBit a == (S.testBit b == (S.testBit c == z))) = !(S.testBit b == (S.testBit c == (S.testBit d == w)))) := by
  unfold Pos rvG sgx
  rw [e0, e1, e2, e3, sg1_mul4, sg1_mul4, sg1_mul4, sg1_mul4, sg1_neg, sg1_inj, sg1_inj, sg1_inj]
  cases S.testBit a <;> cases S.testBit b <;> cases S.testBit c <;> cases S.testBit d <;> cases w <;> cases x <;> cases y <;> cases z <;> decide
theorem two_pows : ∀ b, b < 7 → ∀ c, c < 7 → ∀ d, d < 7 → c ≠ d → 2 ^ c + 2 ^ d ≠ 2 ^ b := by decide +kernel
theorem pow_ne7 : ∀ c, c < 7 → ∀ b, b < 7 → c ≠ b → 2 ^ c ≠ 2 ^ b := by decide +kernel
section
variable {n : Nat} {s : List UInt8}
theorem in_bits (h : aciB n s = true) {p a b c : Nat} (hd : Dis n p a b c) : ∃ w x y z : Bool, sgS n s a b c = sg1 w ∧ sgS n s p b c = sg1 x ∧ sgS n s p a c = sg1 y ∧ sgS n s p a b = sg1 z ∧ (In n s p a b c ↔ x = w ∧ y = !w ∧ z = w) := by
  obtain ⟨hp, ha, hb, hc, d1, d2, d3, d4, d5, d6⟩ := hd
  have O := om_sgn h
  obtain ⟨w, e0⟩ := O.one ha hb hc d4 d5 d6
  obtain ⟨x, e1⟩ := O.one hp hb hc d2 d3 d6
  obtain ⟨y, e2⟩ := O.one hp ha hc d1 d3 d5
  obtain ⟨z, e3⟩ := O.one hp ha hb d1 d2 d4
  refine ⟨w, x, y, z, e0, e1, e2, e3, ?_⟩
  unfold sgS at e0 e1 e2 e3
  have hv := isIn_v w x y z
  unfold cv4 at hv
  unfold In
  rw [cir_of e0 e1 e2 e3, hv]
  simp only [Bool.and_eq_true, beq_iff_eq, and_assoc]
theorem quad_bits (h : aciB n s = true) {S a b c d : Nat} (hd : Dis n a b c d) (ha : S.testBit a = true) (hb : S.testBit b = true) (hc : S.testBit c = false) (hdd : S.testBit d = false) : Pos (rvG S (sgS n s)) a b c d ↔ (sets4 (cir (sgnF (lookS n s)) a b c d) a b c d).1 = ((2 ^ a + 2 ^ b : Nat) : Int) := by
  have h7 := (aciB_n h).2
  have hd0 := hd
  unfold Dis at hd0
  obtain ⟨w, x, y, z, e0, e1, e2, e3, -⟩ := in_bits h hd
  rw [pos_bits S e0 e1 e2 e3, ha, hb, hc, hdd]
  unfold sgS at e0 e1 e2 e3
  have key : cir (sgnF (lookS n s)) a b c d = (1, sg1 (x == !w), sg1 (y == w), sg1 (z == !w)) := by
    rw [cir_of e0 e1 e2 e3]
    cases w <;> cases x <;> cases y <;> cases z <;> rfl
  rw [key, sets4_of]
  have p1 := two_pows b (by omega) c (by omega) d (by omega) (by omega)
  have q1 := Nat.pow_pos (n := b) (show 0 < 2 by omega)
  have q2 := Nat.pow_pos (n := c) (show 0 < 2 by omega)
  have q3 := Nat.pow_pos (n := d) (show 0 < 2 by omega)
  have q4 : 2 ^ c ≠ 2 ^ b := pow_ne7 c (by omega) b (by omega) (by omega)
  have q5 : 2 ^ d ≠ 2 ^ b := pow_ne7 d (by omega) b (by omega) (by omega)
  have hpw : ∀ t : Nat, pw (t : Int) = ((2 ^ t : Nat) : Int) := fun t => by unfold pw; simp
  simp only [hpw]
  generalize 2 ^ a = A
  generalize 2 ^ b = B at p1 q1 q4 q5 ⊢
  generalize 2 ^ c = C at p1 q2 q4 ⊢
  generalize 2 ^ d = D at p1 q3 q5 ⊢
  cases w <;> cases x <;> cases y <;> cases z <;> simp <;> omega
end
end Go.Proofs.YtpjjohbahhaeoaaGreatDoor.Sg
/- What lies left, on plain functions: a set can be cut off, as spec's l7Apart tells it, just if it leaves no circuit of one kind. -/
namespace Go.Proofs.YtpjjohbahhaeoaaGreatDoor.Sg
section
variable {n : Nat} {s : List UInt8}
theorem ac_iff (h : aciB n s = true) (S : Nat) : acS n s S = true ↔ ∀ a b c d, Dis n a b c d → ¬ Pos (rvG S (sgS n s)) a b c d := by
  rw [acS_iff h]
  constructor
  · exact fun hh => pos_sort (om_rev (om_sgn h) S) hh
  · exact fun hh a b c d h1 h2 h3 h4 => hh a b c d (by unfold Dis; omega)
/-- One inside three: their circuit is of one kind once the one is reversed, or the three are. -/
theorem in_pos (h : aciB n s = true) {S p a b c : Nat} {t : Bool} (hd : Dis n p a b c) (hp : S.testBit p = !t) (ha : S.testBit a = t) (hb : S.testBit b = t) (hc : S.testBit c = t) : In n s p a b c ↔ Pos (rvG S (sgS n s)) p a b c := by
  obtain ⟨w, x, y, z, e0, e1, e2, e3, hi⟩ := in_bits h hd
  rw [hi, pos_bits S e0 e1 e2 e3, hp, ha, hb, hc]
  cases t <;> cases w <;> cases x <;> cases y <;> cases z <;> decide
theorem same_pos (h : aciB n s = true) {S a b c d : Nat} {t : Bool} (hd : Dis n a b c d) (ha : S.testBit a = t) (hb : S.testBit b = t) (hc : S.testBit c = t) (hdd : S.testBit d = t) : ¬ Pos (rvG S (sgS n s)) a b c d := by
  have hq := pos_any h hd
  obtain ⟨w, x, y, z, e0, e1, e2, e3, -⟩ := in_bits h hd
  rw [pos_bits S e0 e1 e2 e3, ha, hb, hc, hdd]
  unfold sgS at e0 e1 e2 e3
  unfold posC at hq
  rw [cir_of e0 e1 e2 e3] at hq
  revert hq
  cases t <;> cases w <;> cases x <;> cases y <;> cases z <;> decide
theorem bad_one (h : aciB n s = true) {S p a b c : Nat} {t : Bool} (hS : S < 2 ^ n) (hd : Dis n p a b c) (hq : Pos (rvG S (sgS n s)) p a b c) (hp : S.testBit p = !t) (ha : S.testBit a = t) (hb : S.testBit b = t) (hc : S.testBit c = t) : Bad (sgnF (lookS n s)) n S := by
  have hi := (in_pos h hd hp ha hb hc).2 hq
  have hd0 := hd
  unfold Dis at hd0
  refine .inl ⟨p, hd0.1, ?_⟩
  unfold apP
  have r : ∀ x, x < n → (2 ^ n - 1 - S).testBit x = !S.testBit x := fun x hx => by rw [rest_bit hS]; simp [hx]
  cases t
  · have := (inT_iff h (2 ^ n - 1 - S) p).2 ⟨a, b, c, by rw [r a hd0.2.1, ha]; rfl, by rw [r b hd0.2.2.1, hb]; rfl, by rw [r c hd0.2.2.2.1, hc]; rfl, hi⟩
    rw [this, hp]; rfl
  · have := (inT_iff h S p).2 ⟨a, b, c, ha, hb, hc, hi⟩
    rw [this, r p hd0.1, hp]; simp
theorem bad_two (h : aciB n s = true) {S a b c d : Nat} (hd : Dis n a b c d) (hq : Pos (rvG S (sgS n s)) a b c d) (ha : S.testBit a = true) (hb : S.testBit b = true) (hc : S.testBit c = false) (hdd : S.testBit d = false) : Bad (sgnF (lookS n s)) n S := by
  have O := om_rev (om_sgn h) S
  have mk : ∀ a b c d, Dis n a b c d → Pos (rvG S (sgS n s)) a b c d → S.testBit a = true → S.testBit b = true → S.testBit c = false → S.testBit d = false → a < b → c < d → Bad (sgnF (lookS n s)) n S := fun a b c d hd hq ha hb hc hdd h1 h2 => by
    have k := (quad_bits h hd ha hb hc hdd).1 hq
    unfold Dis at hd
    refine .inr ⟨a, b, c, d, h1, hd.2.1, h2, hd.2.2.2.1, ?_⟩
    unfold apQ
    rw [ha, hb, hc, hdd, k]
    simp
  have hd0 := hd
  unfold Dis at hd0
  have n1 : a ≠ b := hd0.2.2.2.2.1
  have n2 : c ≠ d := hd0.2.2.2.2.2.2.2.2.2
  rcases Nat.lt_or_gt_of_ne n1 with h1 | h1 <;> rcases Nat.lt_or_gt_of_ne n2 with h2 | h2
  · exact mk a b c d hd hq ha hb hc hdd h1 h2
  · exact mk a b d c (by unfold Dis; omega) (pos_s3 O hd hq) ha hb hdd hc h1 h2
  · exact mk b a c d (by unfold Dis; omega) (pos_s1 O hd hq) hb ha hc hdd h1 h2
  · exact mk b a d c (by unfold Dis; omega) (pos_s1 O (by unfold Dis; omega) (pos_s3 O hd hq)) hb ha hdd hc h1 h2
/-- A circuit of one kind tells that a set can't be cut off. -/
theorem bad_of (h : aciB n s = true) {S a b c d : Nat} (hS : S < 2 ^ n) (hd : Dis n a b c d) (hq : Pos (rvG S (sgS n s)) a b c d) : Bad (sgnF (lookS n s)) n S := by
  have O := om_rev (om_sgn h) S
  have q1 := pos_s1 O hd hq
  have q2 := pos_s2 O hd hq
  have q3 := pos_s3 O hd hq
  have d1 : Dis n b a c d := by unfold Dis at hd ⊢; omega
  have d2 : Dis n a c b d := by unfold Dis at hd ⊢; omega
  have d3 : Dis n a b d c := by unfold Dis at hd ⊢; omega
  -- c in front, d in front
  have q4 := pos_s1 O d2 q2
  have d4 : Dis n c a b d := by unfold Dis at hd ⊢; omega
  have q5 := pos_s2 O d3 q3
  have d5 : Dis n a d b c := by unfold Dis at hd ⊢; omega
  have q6 := pos_s1 O d5 q5
  have d6 : Dis n d a b c := by unfold Dis at hd ⊢; omega
  -- pairs: b c | a d, b d | a c, c d | a b
  have q7 := pos_s2 O d1 q1
  have d7 : Dis n b c a d := by unfold Dis at hd ⊢; omega
  have q8 := pos_s2 O d6 q6
  have d8 : Dis n d b a c := by unfold Dis at hd ⊢; omega
  have q9 := pos_s3 O d4 q4
  have d9 : Dis n c a d b := by unfold Dis at hd ⊢; omega
  have q10 := pos_s2 O d9 q9
  have d10 : Dis n c d a b := by unfold Dis at hd ⊢; omega
  cases ea : S.testBit a <;> cases eb : S.testBit b <;> cases ec : S.testBit c <;> cases ed : S.testBit d
  · exact absurd hq (same_pos h hd ea eb ec ed)
  · exact bad_one h (t := false) hS d6 q6 ed ea eb ec
  · exact bad_one h (t := false) hS d4 q4 ec ea eb ed
  · exact bad_two h d10 q10 ec ed ea eb
  · exact bad_one h (t := false) hS d1 q1 eb ea ec ed
  · exact bad_two h d8 q8 ed eb ea ec
  · exact bad_two h d7 q7 eb ec ea ed
  · exact bad_one h (t := true) hS hd hq ea eb ec ed
  · exact bad_one h (t := false) hS hd hq ea eb ec ed
  · exact bad_two h d5 q5 ea ed eb ec
  · exact bad_two h d2 q2 ea ec eb ed
  · exact bad_one h (t := true) hS d1 q1 eb ea ec ed
  · exact bad_two h hd hq ea eb ec ed
  · exact bad_one h (t := true) hS d4 q4 ec ea eb ed
  · exact bad_one h (t := true) hS d6 q6 ed ea eb ec
  · exact absurd hq (same_pos h hd ea eb ec ed)
theorem bad_iff (h : aciB n s = true) {S : Nat} (hS : S < 2 ^ n) : Bad (sgnF (lookS n s)) n S ↔ acS n s S = false := by
  constructor
  · intro hb
    cases hac : acS n s S
    · rfl
    · exfalso
      have hh := (ac_iff h S).1 hac
      rcases hb with ⟨p, hp, hb⟩ | ⟨a, b, c, d, h1, h2, h3, h4, hb⟩
      · unfold apP at hb
        rcases Bool.or_eq_true_iff.1 hb with hb | hb
        · obtain ⟨k1, k2⟩ := Bool.and_eq_true_iff.1 hb
          obtain ⟨a, b, c, ha, hb, hc, hi⟩ := (inT_iff h _ p).1 k2
          rw [rest_bit hS] at ha hb hc
          simp at ha hb hc
          have hd := in_dis h hi
          exact hh p a b c hd ((in_pos h (t := false) hd k1 ha.2 hb.2 hc.2).1 hi)
        · obtain ⟨k1, k2⟩ := Bool.and_eq_true_iff.1 hb
          obtain ⟨a, b, c, ha, hb, hc, hi⟩ := (inT_iff h _ p).1 k2
          rw [rest_bit hS] at k1
          simp at k1
          have hd := in_dis h hi
          exact hh p a b c hd ((in_pos h (t := true) hd k1.2 ha hb hc).1 hi)
      · unfold apQ at hb
        simp only [Bool.and_eq_true, Bool.not_eq_true', beq_iff_eq] at hb
        obtain ⟨ha, hb, hc, hdd, he⟩ := hb
        have hd : Dis n a b c d := by
          refine ⟨by omega, h2, by omega, h4, by omega, ?_, ?_, ?_, ?_, by omega⟩
          · intro e; rw [e, hc] at ha; cases ha
          · intro e; rw [e, hdd] at ha; cases ha
          · intro e; rw [e, hc] at hb; cases hb
          · intro e; rw [e, hdd] at hb; cases hb
        exact hh a b c d hd ((quad_bits h hd ha hb hc hdd).2 he)
  · intro hac
    have hn : ¬ ∀ a b c d, Dis n a b c d → ¬ Pos (rvG S (sgS n s)) a b c d := fun hh => by
      rw [(ac_iff h S).2 hh] at hac; cases hac
    rcases Classical.em (Bad (sgnF (lookS n s)) n S) with hb | hb
    · exact hb
    · exact absurd (fun a b c d hd hq => hb (bad_of h hS hd hq)) hn
end
end Go.Proofs.YtpjjohbahhaeoaaGreatDoor.Sg
/- What lies left, on plain functions: three times the fours less the crossing sum are the convex fours. -/
namespace Go.Proofs.YtpjjohbahhaeoaaGreatDoor.Sg
/-- The pairs of n elements in order. -/
def pairsU (n : Nat) : List (Nat × Nat) := (List.range n).flatMap fun i => (List.range' (i + 1) (n - (i + 1))).map fun j => (i, j)
theorem mem_pairsU0 : ∀ n, n < 8 → ∀ p ∈ pairsU n, p.1 < p.2 ∧ p.2 < n := by decide +kernel
/-- The crossing sum. -/
def crossN (F : Int → Int → Int → Int) (n : Nat) : Nat := ((pairsU n).map fun p => leftN F n p.1 p.2 * leftN F n p.2 p.1).sum
/-- Two elements are on both sides of two. -/
def sepF (F : Int → Int → Int → Int) (t : T4) : Bool := (t.2.2.1 != t.1 && (t.2.2.1 != t.2.1 && decide (0 < F t.1 t.2.1 t.2.2.1))) && (t.2.2.2 != t.2.1 && (t.2.2.2 != t.1 && decide (0 < F t.2.1 t.1 t.2.2.2)))
theorem mul_count {α β : Type} (p : α → Bool) (q : β → Bool) (M : List β) : ∀ L : List α, L.countP p * M.countP q = (L.map fun a => M.countP fun b => p a && q b).sum
  | [] => by simp
  | a :: L => by
    rw [List.map_cons, List.sum_cons, ← mul_count p q M L, List.countP_cons, Nat.add_mul]
    cases hp : p a
    · simp
    · simp only [if_pos, Nat.one_mul, Bool.true_and]
      exact Nat.add_comm _ _
def bigL (n : Nat) : List T4 := (pairsU n).flatMap fun p => (List.range n).flatMap fun k => (List.range n).map fun l => (p.1, p.2, k, l)
def dif4 (t : T4) : Bool := t.2.2.1 != t.1 && (t.2.2.1 != t.2.1 && (t.2.2.2 != t.1 && (t.2.2.2 != t.2.1 && t.2.2.1 != t.2.2.2)))
/-- A four split into two and two, in twelve ways. -/
def arr (t : T4) : List T4 := [(t.1, t.2.1, t.2.2.1, t.2.2.2), (t.1, t.2.1, t.2.2.2, t.2.2.1), (t.1, t.2.2.1, t.2.1, t.2.2.2), (t.1, t.2.2.1, t.2.2.2, t.2.1), (t.1, t.2.2.2, t.2.1, t.2.2.1), (t.1, t.2.2.2, t.2.2.1, t.2.1), (t.2.1, t.2.2.1, t.1, t.2.2.2), (t.2.1, t.2.2.1, t.2.2.2, t.1), (t.2.1, t.2.2.2, t.1, t.2.2.1), (t.2.1, t.2.2.2, t.2.2.1, t.1), (t.2.2.1, t.2.2.2, t.1, t.2.1), (t.2.2.1, t.2.2.2, t.2.1, t.1)]
theorem big_perm0 : ∀ n, n < 8 → ((bigL n).filter dif4).isPerm ((fours n).flatMap arr) = true := by decide +kernel
theorem cross_count (F : Int → Int → Int → Int) (n : Nat) : crossN F n = (bigL n).countP (sepF F) := by
  unfold crossN bigL
  rw [List.countP_flatMap]
  congr 1
  refine List.map_congr_left fun p _ => ?_
  unfold leftN
  rw [mul_count]
  show _ = List.countP _ (List.flatMap _ _)
  rw [List.countP_flatMap]
  congr 1
  refine List.map_congr_left fun k _ => ?_
  show _ = List.countP _ (List.map _ _)
  rw [List.countP_map]
  rfl
section
variable {n : Nat} {s : List UInt8}
theorem sep_dif (h : aciB n s = true) {t : T4} (ht : t ∈ bigL n) (hs : sepF (sgnF (lookS n s)) t = true) : dif4 t = true := by
  have h7 := (aciB_n h).2
  unfold bigL at ht
  obtain ⟨p, hp, ht⟩ := List.mem_flatMap.1 ht
  obtain ⟨k, hk, ht⟩ := List.mem_flatMap.1 ht
  obtain ⟨l, hl, rfl⟩ := List.mem_map.1 ht
  obtain ⟨p1, p2⟩ := mem_pairsU0 n (by omega) p hp
  have hk := List.mem_range.1 hk
  have hl := List.mem_range.1 hl
  unfold sepF at hs
  simp only [Bool.and_eq_true, bne_iff_ne, ne_eq, decide_eq_true_eq] at hs
  obtain ⟨⟨a1, a2, a3⟩, b1, b2, b3⟩ := hs
  unfold dif4
  simp only [Bool.and_eq_true, bne_iff_ne, ne_eq]
  refine ⟨a1, a2, b2, b1, fun e => ?_⟩
  subst e
  have := sgnF_s1 (lookS n s) (a := p.1) (b := p.2) (c := k) (by omega) (by omega) (by omega)
  omega
theorem six_of {F : Int → Int → Int → Int} (s1 : ∀ {a b c : Nat}, a ≠ b → a ≠ c → b ≠ c → F b a c = -(F a b c)) (s2 : ∀ {a b c : Nat}, a ≠ b → a ≠ c → b ≠ c → F a c b = -(F a b c)) {a b c : Nat} {v : Bool} (h1 : a ≠ b) (h2 : a ≠ c) (h3 : b ≠ c) (e : F a b c = sg1 v) :
    decide (0 < F a b c) = v ∧ decide (0 < F b a c) = !v ∧ decide (0 < F a c b) = !v ∧ decide (0 < F c a b) = v ∧ decide (0 < F b c a) = v ∧ decide (0 < F c b a) = !v := by
  have e1 := s1 h1 h2 h3
  have e2 := s2 h1 h2 h3
  have e3 := s1 (a := a) (b := c) (c := b) h2 h1 h3.symm
  have e4 := s2 (a := b) (b := a) (c := c) h1.symm h3 h2
  have e5 := s1 (a := b) (b := c) (c := a) h3 h1.symm h2.symm
  rw [e5, e4, e3, e2, e1, e]
  cases v <;> decide
/-- Two splits of four part them if none is inside the others, else three. -/
theorem four_count (h : aciB n s = true) {t : T4} (ht : t ∈ fours n) : (arr t).countP (sepF (sgnF (lookS n s))) = if hasI (sgnF (lookS n s)) t = true then 3 else 2 := by
  obtain ⟨h3, h7⟩ := aciB_n h
  obtain ⟨a, b, c, d⟩ := t
  obtain ⟨k1, k2, k3, k4⟩ := fours_mem (by omega) ht
  dsimp only at k1 k2 k3 k4
  have hd : Dis n a b c d := by unfold Dis; omega
  obtain ⟨w, x, y, z, e0, e1, e2, e3, -⟩ := in_bits h hd
  have hq := pos_any h hd
  unfold sgS at e0 e1 e2 e3
  have s1 : ∀ {a b c : Nat}, a ≠ b → a ≠ c → b ≠ c → sgnF (lookS n s) b a c = -(sgnF (lookS n s) a b c) := fun h1 h2 h3 => sgnF_s1 _ (by omega) (by omega) (by omega)
  have s2 : ∀ {a b c : Nat}, a ≠ b → a ≠ c → b ≠ c → sgnF (lookS n s) a c b = -(sgnF (lookS n s) a b c) := fun h1 h2 h3 => sgnF_s2 _ (by omega) (by omega) (by omega)
  obtain ⟨w1, w2, w3, w4, w5, w6⟩ := six_of s1 s2 (show b ≠ c by omega) (show b ≠ d by omega) (show c ≠ d by omega) e0
  obtain ⟨x1, x2, x3, x4, x5, x6⟩ := six_of s1 s2 (show a ≠ c by omega) (show a ≠ d by omega) (show c ≠ d by omega) e1
  obtain ⟨y1, y2, y3, y4, y5, y6⟩ := six_of s1 s2 (show a ≠ b by omega) (show a ≠ d by omega) (show b ≠ d by omega) e2
  obtain ⟨z1, z2, z3, z4, z5, z6⟩ := six_of s1 s2 (show a ≠ b by omega) (show a ≠ c by omega) (show b ≠ c by omega) e3
  have hne : ∀ x y : Nat, x ≠ y → (x != y) = true := fun x y h => by simpa using h
  have n1 := hne a b (by omega)
  have n2 := hne a c (by omega)
  have n3 := hne a d (by omega)
  have n4 := hne b c (by omega)
  have n5 := hne b d (by omega)
  have n6 := hne c d (by omega)
  have m1 := hne b a (by omega)
  have m2 := hne c a (by omega)
  have m3 := hne d a (by omega)
  have m4 := hne c b (by omega)
  have m5 := hne d b (by omega)
  have m6 := hne d c (by omega)
  unfold posC at hq
  unfold hasI
  dsimp only
  rw [cir_of e0 e1 e2 e3] at hq ⊢
  unfold arr sepF
  simp only [List.countP_cons, List.countP_nil, n1, n2, n3, n4, n5, n6, m1, m2, m3, m4, m5, m6, Bool.true_and, w1, w2, w3, w4, w5, w6, x1, x2, x3, x4, x5, x6, y1, y2, y3, y4, y5, y6, z1, z2, z3, z4, z5, z6]
  clear e0 e1 e2 e3 s1 s2 w1 w2 w3 w4 w5 w6 x1 x2 x3 x4 x5 x6 y1 y2 y3 y4 y5 y6 z1 z2 z3 z4 z5 z6
  have hneg : ∀ x : Nat, ((x : Int) == -1) = false := fun x => by simp
  unfold inn4
  revert hq
  cases w <;> cases x <;> cases y <;> cases z <;> simp [sg1, hneg]
theorem sum_if {α : Type} (p : α → Bool) (f : α → Nat) : ∀ L : List α, (∀ t ∈ L, f t = if p t = true then 3 else 2) → (L.map f).sum + (L.filter fun t => !p t).length = 3 * L.length
  | [], _ => rfl
  | a :: L, h => by
    have ih := sum_if p f L (fun t ht => h t (List.mem_cons_of_mem _ ht))
    have ha := h a List.mem_cons_self
    rw [List.map_cons, List.sum_cons, List.filter_cons, List.length_cons, ha]
    cases hp : p a
    · simp []; omega
    · simp []; omega
theorem fours_many : ∀ n, n < 8 → (fours n).length = n * (n - 1) * (n - 2) * (n - 3) / 24 := by decide +kernel
/-- Three times the fours are the crossing sum and the convex fours. -/
theorem cross_sum (h : aciB n s = true) : crossN (sgnF (lookS n s)) n + (quads (sgnF (lookS n s)) n).length = 3 * (n * (n - 1) * (n - 2) * (n - 3) / 24) := by
  obtain ⟨h3, h7⟩ := aciB_n h
  rw [← fours_many n (by omega), ← sum_if (hasI (sgnF (lookS n s))) (fun t => (arr t).countP (sepF (sgnF (lookS n s)))) (fours n) (fun t ht => four_count h ht)]
  unfold quads
  congr 1
  rw [cross_count]
  have e : (bigL n).countP (sepF (sgnF (lookS n s))) = ((bigL n).filter dif4).countP (sepF (sgnF (lookS n s))) := by
    rw [List.countP_filter]
    refine List.countP_congr fun t ht => ?_
    constructor
    · intro hs; rw [hs, sep_dif h ht hs]; rfl
    · intro hs; exact (Bool.and_eq_true_iff.1 hs).1
  rw [e, (List.isPerm_iff.1 (big_perm0 n (by omega))).countP_eq, List.countP_flatMap]
  rfl
end
end Go.Proofs.YtpjjohbahhaeoaaGreatDoor.Sg
