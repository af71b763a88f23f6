/- Sets of four on plain functions: both sets of a circuit, the inner element, the elements inside a triangle, the fours without an inner one. -/
import Derived.Test.YtinlnafkmoabbaaGreatDoorMgS
namespace Go.Proofs.YtinlnafkmoabbaaGreatDoor.Sg
/-- Has a circuit no 0? -/
def full (x : Int × Int × Int × Int) : Bool := !(x.1 == 0) && (!(x.2.1 == 0) && (!(x.2.2.1 == 0) && !(x.2.2.2 == 0)))
/-- The set of one element. -/
def pw (e : Int) : Int := ((2 ^ e.toNat : Nat) : Int)
/-- Both sets of a circuit. -/
def sets4 (x : Int × Int × Int × Int) (a b c d : Int) : Int × Int :=
  if full x = true then
    ((if x.1 = 1 then pw a else 0) + (if x.2.1 = 1 then pw b else 0) + (if x.2.2.1 = 1 then pw c else 0) + (if x.2.2.2 = 1 then pw d else 0),
     (if x.1 = 1 then 0 else pw a) + (if x.2.1 = 1 then 0 else pw b) + (if x.2.2.1 = 1 then 0 else pw c) + (if x.2.2.2 = 1 then 0 else pw d))
  else (0, 0)
/-- The inner element by a circuit, or -1. -/
def inn4 (x : Int × Int × Int × Int) (a b c d : Int) : Int :=
  if x = (1, -1, -1, -1) then a else if x = (1, -1, 1, 1) then b else if x = (1, 1, -1, 1) then c else if x = (1, 1, 1, -1) then d else -1
/-- Is the first element the inner one? -/
def isIn (x : Int × Int × Int × Int) : Bool := x.1 == 1 && (x.2.1 == -1 && (x.2.2.1 == -1 && x.2.2.2 == -1))
/-- The only element of a set, or -1. -/
def only (m : Int) : Int := if m = 1 then 0 else if m = 2 then 1 else if m = 4 then 2 else if m = 8 then 3 else if m = 16 then 4 else if m = 32 then 5 else if m = 64 then 6 else -1
/-- A circuit by its signs. -/
theorem cir_of {f : Int → Int → Int → Int} {a b c d v0 v1 v2 v3 : Int} (h0 : f b c d = v0) (h1 : f a c d = v1) (h2 : f a b d = v2) (h3 : f a b c = v3) : cir f a b c d = (v0 * v0, -v1 * v0, v2 * v0, -v3 * v0) := by
  unfold cir; rw [h0, h1, h2, h3]
theorem full_iff {f : Int → Int → Int → Int} {a b c d : Int} : full (cir f a b c d) = true ↔ f b c d ≠ 0 ∧ f a c d ≠ 0 ∧ f a b d ≠ 0 ∧ f a b c ≠ 0 := by
  unfold full cir
  simp only [Bool.and_eq_true, Bool.not_eq_true', beq_eq_false_iff_ne, ne_eq, Int.mul_eq_zero, Int.neg_eq_zero, not_or]
  constructor
  · rintro ⟨⟨h1, -⟩, ⟨h2, -⟩, ⟨h3, -⟩, h4, -⟩
    exact ⟨h1, h2, h3, h4⟩
  · rintro ⟨h1, h2, h3, h4⟩
    exact ⟨⟨h1, h1⟩, ⟨h2, h1⟩, ⟨h3, h1⟩, h4, h1⟩
/-- Different elements below 7 on both sides: the inner one is the only one of its set. -/
def innB (a b c d : Nat) (p q r : Bool) : Bool :=
  let x : Int × Int × Int × Int := (1, if p then 1 else -1, if q then 1 else -1, if r then 1 else -1)
  (a == b || a == c || a == d || b == c || b == d || c == d) || (max (only (sets4 x a b c d).1) (only (sets4 x a b c d).2) == inn4 x a b c d)
theorem innB_all : ((List.range 7).all fun a => (List.range 7).all fun b => (List.range 7).all fun c => (List.range 7).all fun d => [true, false].all fun p => [true, false].all fun q => [true, false].all fun r => innB a b c d p q r) = true := by decide +kernel
theorem sets4_no {x : Int × Int × Int × Int} (h : full x = false) (a b c d : Int) : sets4 x a b c d = (0, 0) := by unfold sets4; rw [h]; rfl
theorem inn4_no {x : Int × Int × Int × Int} (h : full x = false) (a b c d : Int) : inn4 x a b c d = -1 := by
  unfold inn4
  rw [if_neg (fun e => by rw [e] at h; exact absurd h (by decide)), if_neg (fun e => by rw [e] at h; exact absurd h (by decide)), if_neg (fun e => by rw [e] at h; exact absurd h (by decide)), if_neg (fun e => by rw [e] at h; exact absurd h (by decide))]
/-- A full circuit of signs is 1 and three signs. -/
theorem full_form {f : Int → Int → Int → Int} {a b c d : Int} (hf : ∀ x y z, -1 ≤ f x y z ∧ f x y z ≤ 1) (h : full (cir f a b c d) = true) :
    ∃ p q r : Bool, cir f a b c d = (1, if p then 1 else -1, if q then 1 else -1, if r then 1 else -1) := by
  obtain ⟨h0, h1, h2, h3⟩ := full_iff.1 h
  have b0 := hf b c d
  have b1 := hf a c d
  have b2 := hf a b d
  have b3 := hf a b c
  obtain ⟨v0, e0⟩ : ∃ v, f b c d = v := ⟨_, rfl⟩
  obtain ⟨v1, e1⟩ : ∃ v, f a c d = v := ⟨_, rfl⟩
  obtain ⟨v2, e2⟩ : ∃ v, f a b d = v := ⟨_, rfl⟩
  obtain ⟨v3, e3⟩ : ∃ v, f a b c = v := ⟨_, rfl⟩
  rw [cir_of e0 e1 e2 e3]
  rw [e0] at h0 b0; rw [e1] at h1 b1; rw [e2] at h2 b2; rw [e3] at h3 b3
  have s0 : v0 = 1 ∨ v0 = -1 := by omega
  have s1 : v1 = 1 ∨ v1 = -1 := by omega
  have s2 : v2 = 1 ∨ v2 = -1 := by omega
  have s3 : v3 = 1 ∨ v3 = -1 := by omega
  refine ⟨decide (-v1 * v0 = 1), decide (v2 * v0 = 1), decide (-v3 * v0 = 1), ?_⟩
  rcases s0 with rfl | rfl <;> rcases s1 with rfl | rfl <;> rcases s2 with rfl | rfl <;> rcases s3 with rfl | rfl <;> rfl
/-- The greater one of both sets' only elements is the inner one. -/
theorem max_only {f : Int → Int → Int → Int} {a b c d : Int} (hf : ∀ x y z, -1 ≤ f x y z ∧ f x y z ≤ 1)
    (hd : full (cir f a b c d) = true → (0 ≤ a ∧ a < 7) ∧ (0 ≤ b ∧ b < 7) ∧ (0 ≤ c ∧ c < 7) ∧ (0 ≤ d ∧ d < 7) ∧ a ≠ b ∧ a ≠ c ∧ a ≠ d ∧ b ≠ c ∧ b ≠ d ∧ c ≠ d) :
    max (only (sets4 (cir f a b c d) a b c d).1) (only (sets4 (cir f a b c d) a b c d).2) = inn4 (cir f a b c d) a b c d := by
  cases h : full (cir f a b c d)
  · rw [sets4_no h, inn4_no h]; rfl
  · obtain ⟨p, q, r, hx⟩ := full_form hf h
    obtain ⟨ha, hb, hc, hd, n1, n2, n3, n4, n5, n6⟩ := hd h
    rw [hx]
    obtain ⟨a, rfl⟩ : ∃ x : Nat, a = x := ⟨a.toNat, by omega⟩
    obtain ⟨b, rfl⟩ : ∃ x : Nat, b = x := ⟨b.toNat, by omega⟩
    obtain ⟨c, rfl⟩ : ∃ x : Nat, c = x := ⟨c.toNat, by omega⟩
    obtain ⟨d, rfl⟩ : ∃ x : Nat, d = x := ⟨d.toNat, by omega⟩
    have key := innB_all
    simp only [List.all_eq_true, List.mem_range] at key
    have := key a (by omega) b (by omega) c (by omega) d (by omega) p (by cases p <;> simp) q (by cases q <;> simp) r (by cases r <;> simp)
    unfold innB at this
    simp only [Bool.or_eq_true, beq_iff_eq] at this
    rcases this with h | h
    · exfalso; omega
    · exact h
/-- Has a four an inner element? -/
def hasI (f : Int → Int → Int → Int) (t : T4) : Bool := !(inn4 (cir f t.1 t.2.1 t.2.2.1 t.2.2.2) t.1 t.2.1 t.2.2.1 t.2.2.2 == -1)
def quads (f : Int → Int → Int → Int) (n : Nat) : List T4 := (fours n).filter fun t => !hasI f t
def bit (b : Bool) : Nat := if b then 1 else 0
/-- The fours ahead of four elements. -/
def upto4 (n a b c d : Nat) : List T4 := (fours n).filter fun t => decide (Lt4 t.1 t.2.1 t.2.2.1 t.2.2.2 a b c d)
theorem upto4_zero0 : ∀ n, n < 8 → upto4 n 0 1 2 3 = [] := by decide +kernel
theorem upto4_step0 : ((List.range 8).all fun n => (List.range n).all fun d => (List.range d).all fun c => (List.range c).all fun b => (List.range b).all fun a => upto4 n a b c (d + 1) == upto4 n a b c d ++ [(a, b, c, d)]) = true := by decide +kernel
theorem upto4_step {n a b c d : Nat} (hn : n ≤ 7) (h1 : a < b) (h2 : b < c) (h3 : c < d) (h4 : d < n) : upto4 n a b c (d + 1) = upto4 n a b c d ++ [(a, b, c, d)] := by simpa using all_lt (all_lt (all_lt (all_lt (all_lt upto4_step0 (show n < 8 by omega)) h4) h3) h2) h1
theorem upto4_d0 : ((List.range 8).all fun n => (List.range n).all fun c => (List.range c).all fun b => (List.range b).all fun a => upto4 n a b c n == upto4 n a b (c + 1) (c + 1 + 1)) = true := by decide +kernel
theorem upto4_d {n a b c : Nat} (hn : n ≤ 7) (h1 : a < b) (h2 : b < c) (h3 : c < n) : upto4 n a b c n = upto4 n a b (c + 1) (c + 1 + 1) := by simpa using all_lt (all_lt (all_lt (all_lt upto4_d0 (show n < 8 by omega)) h3) h2) h1
theorem upto4_c0 : ((List.range 8).all fun n => (List.range n).all fun b => (List.range b).all fun a => upto4 n a b n (n + 1) == upto4 n a (b + 1) (b + 1 + 1) (b + 1 + 1 + 1)) = true := by decide +kernel
theorem upto4_c {n a b : Nat} (hn : n ≤ 7) (h1 : a < b) (h2 : b < n) : upto4 n a b n (n + 1) = upto4 n a (b + 1) (b + 1 + 1) (b + 1 + 1 + 1) := by simpa using all_lt (all_lt (all_lt upto4_c0 (show n < 8 by omega)) h2) h1
theorem upto4_b0 : ((List.range 8).all fun n => (List.range n).all fun a => upto4 n a n (n + 1) (n + 1 + 1) == upto4 n (a + 1) (a + 1 + 1) (a + 1 + 1 + 1) (a + 1 + 1 + 1 + 1)) = true := by decide +kernel
theorem upto4_b {n a : Nat} (hn : n ≤ 7) (h1 : a < n) : upto4 n a n (n + 1) (n + 1 + 1) = upto4 n (a + 1) (a + 1 + 1) (a + 1 + 1 + 1) (a + 1 + 1 + 1 + 1) := by simpa using all_lt (all_lt upto4_b0 (show n < 8 by omega)) h1
theorem upto4_end0 : ∀ n, n < 8 → upto4 n n (n + 1) (n + 1 + 1) (n + 1 + 1 + 1) = fours n := by decide +kernel
theorem upto4_end {n : Nat} (hn : n ≤ 7) : upto4 n n (n + 1) (n + 1 + 1) (n + 1 + 1 + 1) = fours n := upto4_end0 n (by omega)
theorem upto4_zero {n : Nat} (hn : n ≤ 7) : upto4 n 0 (0 + 1) (0 + 1 + 1) (0 + 1 + 1 + 1) = [] := upto4_zero0 n (by omega)
/-- The fours without an inner one ahead of four elements. -/
def quadsU (f : Int → Int → Int → Int) (n a b c d : Nat) : List T4 := (upto4 n a b c d).filter fun t => !hasI f t
theorem quadsU_hit {f : Int → Int → Int → Int} {n a b c d : Nat} (hn : n ≤ 7) (h1 : a < b) (h2 : b < c) (h3 : c < d) (h4 : d < n) (h : hasI f (a, b, c, d) = false) : quadsU f n a b c (d + 1) = quadsU f n a b c d ++ [(a, b, c, d)] := by
  unfold quadsU; rw [upto4_step hn h1 h2 h3 h4, List.filter_append]; simp [h]
theorem quadsU_miss {f : Int → Int → Int → Int} {n a b c d : Nat} (hn : n ≤ 7) (h1 : a < b) (h2 : b < c) (h3 : c < d) (h4 : d < n) (h : hasI f (a, b, c, d) = true) : quadsU f n a b c (d + 1) = quadsU f n a b c d := by
  unfold quadsU; rw [upto4_step hn h1 h2 h3 h4, List.filter_append]; simp [h]
theorem quadsU_end {n : Nat} (hn : n ≤ 7) (f : Int → Int → Int → Int) : quadsU f n n (n + 1) (n + 1 + 1) (n + 1 + 1 + 1) = quads f n := by unfold quadsU quads; rw [upto4_end hn]
theorem quadsU_len {f : Int → Int → Int → Int} {n a b c d : Nat} (h7 : n ≤ 7) : (quadsU f n a b c d).length ≤ 35 := by
  unfold quadsU upto4
  exact Nat.le_trans (List.length_filter_le _ _) (Nat.le_trans (List.length_filter_le _ _) (fours_len h7))
/-- Only the first one is inner. -/
theorem inn4_isIn {f : Int → Int → Int → Int} {a b c d : Int} (h1 : a ≠ b) (h2 : a ≠ c) (h3 : a ≠ d) (h0 : 0 ≤ a) : (inn4 (cir f a b c d) a b c d == a) = isIn (cir f a b c d) := by
  obtain ⟨x0, x1, x2, x3, hx⟩ : ∃ x0 x1 x2 x3, cir f a b c d = (x0, x1, x2, x3) := ⟨_, _, _, _, rfl⟩
  rw [hx]
  unfold inn4 isIn
  by_cases e : (x0, x1, x2, x3) = ((1 : Int), (-1 : Int), (-1 : Int), (-1 : Int))
  · rw [if_pos e]
    simp only [Prod.mk.injEq] at e
    obtain ⟨rfl, rfl, rfl, rfl⟩ := e
    simp
  · rw [if_neg e]
    have hr : (x0 == 1 && (x1 == -1 && (x2 == -1 && x3 == -1))) = false := by
      simp only [Prod.mk.injEq] at e
      cases h : (x0 == 1 && (x1 == -1 && (x2 == -1 && x3 == -1)))
      · rfl
      · simp only [Bool.and_eq_true, beq_iff_eq] at h
        exact absurd h e
    rw [hr]
    have hne : ∀ y : Int, y ≠ a → (y == a) = false := fun y hy => by simpa using hy
    split
    · exact hne _ (fun e => h1 e.symm)
    · split
      · exact hne _ (fun e => h2 e.symm)
      · split
        · exact hne _ (fun e => h3 e.symm)
        · exact hne _ (by omega)
end Go.Proofs.YtinlnafkmoabbaaGreatDoor.Sg
