/- Plain facts on signs: the threes of n elements in their order, where each stands, the sign of any three. -/
import Derived.WalkKit
namespace Go.Proofs.Ytfjimdmoindepaa.Sg
abbrev T3 := Nat × Nat × Nat
/-- The threes of n elements, in their order. -/
def threes (n : Nat) : List T3 := (List.range n).flatMap fun i => (List.range n).flatMap fun j => (List.range n).filterMap fun k => if i < j && j < k then some (i, j, k) else none
def ahead (t : T3) (i j k : Nat) : Bool := decide (t.1 < i) || (t.1 == i && (decide (t.2.1 < j) || (t.2.1 == j && decide (t.2.2 < k))))
/-- Those that stand before i, j, k. -/
def upto (n i j k : Nat) : List T3 := (threes n).filter (fun t => ahead t i j k)
theorem all_lt {n : Nat} {p : Nat → Bool} (h : (List.range n).all p = true) {i : Nat} (hi : i < n) : p i = true := List.all_eq_true.1 h i (List.mem_range.2 hi)
theorem upto_zero : ∀ n, n < 8 → upto n 0 1 2 = [] := by decide +kernel
theorem upto_step0 : ((List.range 8).all fun n => (List.range n).all fun k => (List.range k).all fun j => (List.range j).all fun i => upto n i j (k + 1) == upto n i j k ++ [(i, j, k)]) = true := by decide +kernel
theorem upto_step {n i j k : Nat} (hn : n ≤ 7) (h1 : i < j) (h2 : j < k) (h3 : k < n) : upto n i j (k + 1) = upto n i j k ++ [(i, j, k)] := by simpa using all_lt (all_lt (all_lt (all_lt upto_step0 (show n < 8 by omega)) h3) h2) h1
theorem upto_inner0 : ((List.range 8).all fun n => (List.range n).all fun j => (List.range j).all fun i => upto n i j n == upto n i (j + 1) (j + 2)) = true := by decide +kernel
theorem upto_inner {n i j : Nat} (hn : n ≤ 7) (h1 : i < j) (h2 : j < n) : upto n i j n = upto n i (j + 1) (j + 2) := by simpa using all_lt (all_lt (all_lt upto_inner0 (show n < 8 by omega)) h2) h1
theorem upto_mid0 : ∀ n, n < 8 → ∀ i, i < n → upto n i n (n + 1) = upto n (i + 1) (i + 2) (i + 3) := by decide +kernel
theorem upto_mid {n i : Nat} (hn : n ≤ 7) (h1 : i < n) : upto n i n (n + 1) = upto n (i + 1) (i + 2) (i + 3) := upto_mid0 n (by omega) i h1
theorem upto_end0 : ∀ n, n < 8 → upto n n (n + 1) (n + 2) = threes n := by decide +kernel
theorem upto_end {n : Nat} (hn : n ≤ 7) : upto n n (n + 1) (n + 2) = threes n := upto_end0 n (by omega)
theorem upto_length (n i j k : Nat) : (upto n i j k).length ≤ (threes n).length := List.length_filter_le _ _
/-- How many threes there are. -/
def cnt (n : Nat) : Nat := n * (n - 1) * (n - 2) / 6
theorem threes_length0 : ∀ n, n < 8 → (threes n).length = cnt n := by decide +kernel
theorem threes_length {n : Nat} (hn : n ≤ 7) : (threes n).length = cnt n := threes_length0 n (by omega)
theorem cnt_le0 : ∀ n, n < 8 → cnt n ≤ 35 := by decide +kernel
theorem cnt_le {n : Nat} (hn : n ≤ 7) : cnt n ≤ 35 := cnt_le0 n (by omega)
theorem threes_mem0 : ∀ n, n < 8 → ∀ t ∈ threes n, t.1 < t.2.1 ∧ t.2.1 < t.2.2 ∧ t.2.2 < n := by decide +kernel
theorem threes_mem {n : Nat} (hn : n ≤ 7) {t : T3} (h : t ∈ threes n) : t.1 < t.2.1 ∧ t.2.1 < t.2.2 ∧ t.2.2 < n := threes_mem0 n (by omega) t h
/-- Where three stand. -/
def sA (n : Nat) : Nat → Nat
  | 0 => 0
  | a + 1 => sA n a + (n - 1 - a) * (n - 2 - a) / 2
def sB (n i : Nat) : Nat → Nat
  | 0 => 0
  | m + 1 => sB n i m + (n - 1 - (i + 1 + m))
def idx (n i j k : Nat) : Nat := sA n i + sB n i (j - i - 1) + (k - j - 1)
theorem idx_get0 : ((List.range 8).all fun n => (List.range n).all fun k => (List.range k).all fun j => (List.range j).all fun i => (threes n)[idx n i j k]? == some (i, j, k)) = true := by decide +kernel
theorem idx_get {n i j k : Nat} (hn : n ≤ 7) (h1 : i < j) (h2 : j < k) (h3 : k < n) : (threes n)[idx n i j k]? = some (i, j, k) := by simpa using all_lt (all_lt (all_lt (all_lt idx_get0 (show n < 8 by omega)) h3) h2) h1
theorem idx_lt {n i j k : Nat} (hn : n ≤ 7) (h1 : i < j) (h2 : j < k) (h3 : k < n) : idx n i j k < cnt n := by
  have h := idx_get hn h1 h2 h3
  rw [← threes_length hn]
  exact (List.getElem?_eq_some_iff.1 h).1
theorem get_idx0 : ∀ n, n < 8 → ∀ p, p < 35 → ∀ t ∈ (threes n)[p]?, idx n t.1 t.2.1 t.2.2 = p := by decide +kernel
theorem get_idx {n p : Nat} {t : T3} (hn : n ≤ 7) (h : (threes n)[p]? = some t) : idx n t.1 t.2.1 t.2.2 = p :=
  get_idx0 n (by omega) p (by have := (List.getElem?_eq_some_iff.1 h).1; rw [threes_length hn] at this; have := cnt_le hn; omega) t h
theorem sA_le0 : ∀ n, n < 8 → ∀ a, a < 8 → sA n a ≤ 35 ∧ (n - 1 - a) * (n - 2 - a) ≤ 42 := by decide +kernel
theorem sB_le0 : ∀ n, n < 8 → ∀ i, i < 8 → ∀ m, m < 8 → sB n i m ≤ 35 := by decide +kernel

/-- A byte of a sign, a sign of a byte. -/
def sgn1 (b : UInt8) : Int := if b == 43 then 1 else -1
def byteOf (x : Int) : UInt8 := if 0 < x then 43 else 45
theorem byteOf_sgn1 (b : UInt8) (h : b = 43 ∨ b = 45) : byteOf (sgn1 b) = b := by rcases h with rfl | rfl <;> decide
/-- The sign that stands at an ascending three of numbers; 0 if there is none. -/
def look (n : Nat) (s : List UInt8) (a b c : Int) : Int := if 0 ≤ a ∧ a < b ∧ b < c ∧ c < n then sgn1 (s.getD (idx n a.toNat b.toNat c.toNat) 0) else 0
/-- Three numbers in order, and whether an odd number of exchanges was made. -/
def srt (i j k : Int) : Int × Int × Int × Int :=
  let s1 := if i > j then (j, i, k, (-1 : Int)) else (i, j, k, 1)
  let s2 := if s1.2.1 > s1.2.2.1 then (s1.1, s1.2.2.1, s1.2.1, -s1.2.2.2) else s1
  if s2.1 > s2.2.1 then (s2.2.1, s2.1, s2.2.2.1, -s2.2.2.2) else s2
def sgnAt (n : Nat) (s : List UInt8) (i j k : Int) : Int := (srt i j k).2.2.2 * look n s (srt i j k).1 (srt i j k).2.1 (srt i j k).2.2.1
/-- Are they signs? -/
def arB (n : Int) (s : List UInt8) : Bool := decide (3 ≤ n) && decide (n ≤ 7) && decide (s.length = cnt n.toNat) && s.all (fun b => b == 43 || b == 45)
theorem arB_yes {n : Int} {s : List UInt8} (h : arB n s = true) : 3 ≤ n ∧ n ≤ 7 ∧ s.length = cnt n.toNat ∧ ∀ b ∈ s, b = 43 ∨ b = 45 := by
  unfold arB at h
  simp only [Bool.and_eq_true, decide_eq_true_eq, List.all_eq_true, Bool.or_eq_true, beq_iff_eq] at h
  exact ⟨h.1.1.1, h.1.1.2, h.1.2, h.2⟩
theorem arB_of {n : Int} {s : List UInt8} (h1 : 3 ≤ n) (h2 : n ≤ 7) (h3 : s.length = cnt n.toNat) (h4 : ∀ b ∈ s, b = 43 ∨ b = 45) : arB n s = true := by
  unfold arB
  simp only [Bool.and_eq_true, decide_eq_true_eq, List.all_eq_true, Bool.or_eq_true, beq_iff_eq]
  exact ⟨⟨⟨h1, h2⟩, h3⟩, h4⟩
theorem arB_no {n : Int} {s : List UInt8} (h : ¬ (3 ≤ n ∧ n ≤ 7) ∨ s.length ≠ cnt n.toNat ∨ ∃ b ∈ s, b ≠ 43 ∧ b ≠ 45) : arB n s = false := by
  cases hb : arB n s
  · rfl
  · obtain ⟨h1, h2, h3, h4⟩ := arB_yes hb
    rcases h with h | h | ⟨b, hm, h5, h6⟩
    · exact absurd ⟨h1, h2⟩ h
    · exact absurd h3 h
    · rcases h4 b hm with h | h
      · exact absurd h h5
      · exact absurd h h6
/-- Counting the two bytes. -/
theorem count_two : ∀ s : List UInt8, s.countP (· == 43) + s.countP (· == 45) ≤ s.length ∧ (s.countP (· == 43) + s.countP (· == 45) = s.length ↔ ∀ b ∈ s, b = 43 ∨ b = 45)
  | [] => by simp
  | b :: r => by
    obtain ⟨h1, h2⟩ := count_two r
    simp only [List.countP_cons, List.length_cons, List.mem_cons, forall_eq_or_imp]
    by_cases e1 : b = 43
    · subst e1
      refine ⟨by simp; omega, ?_⟩
      simp only [show ((43 : UInt8) == 43) = true by decide, show ((43 : UInt8) == 45) = false by decide, if_true, true_or, true_and]
      rw [← h2]; simp; omega
    · by_cases e2 : b = 45
      · subst e2
        refine ⟨by simp; omega, ?_⟩
        simp only [show ((45 : UInt8) == 43) = false by decide, show ((45 : UInt8) == 45) = true by decide, if_true, or_true, true_and]
        rw [← h2]; simp; omega
      · have f1 : (b == 43) = false := by simpa using e1
        have f2 : (b == 45) = false := by simpa using e2
        simp only [f1, f2, e1, e2]
        refine ⟨by simp; omega, ?_⟩
        simp
        omega
end Go.Proofs.Ytfjimdmoindepaa.Sg
