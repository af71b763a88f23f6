/- The exchange rule on plain functions: the fours of n elements in their order, breaks, the first break, circuits, reversed signs. -/
import Derived.Test.YtfpbehnpaedpmaaSgMath
namespace Go.Proofs.Ytfpbehnpaedpmaa.Sg
abbrev T4 := Nat × Nat × Nat × Nat
/-- The first m fours that begin with three elements. -/
def row4 (t : T3) (m : Nat) : List T4 := (List.range' (t.2.2 + 1) m).map fun l => (t.1, t.2.1, t.2.2, l)
def fours (n : Nat) : List T4 := (threes n).flatMap fun t => row4 t (n - (t.2.2 + 1))
theorem fours_mem0 : ∀ n, n < 8 → ∀ t ∈ fours n, t.1 < t.2.1 ∧ t.2.1 < t.2.2.1 ∧ t.2.2.1 < t.2.2.2 ∧ t.2.2.2 < n := by decide +kernel
theorem fours_mem {n : Nat} (hn : n ≤ 7) {t : T4} (h : t ∈ fours n) : t.1 < t.2.1 ∧ t.2.1 < t.2.2.1 ∧ t.2.2.1 < t.2.2.2 ∧ t.2.2.2 < n := fours_mem0 n (by omega) t h
theorem fours_has0 : ((List.range 8).all fun n => (List.range n).all fun l => (List.range l).all fun k => (List.range k).all fun j => (List.range j).all fun i => (fours n).contains (i, j, k, l)) = true := by decide +kernel
theorem fours_has {n i j k l : Nat} (hn : n ≤ 7) (h1 : i < j) (h2 : j < k) (h3 : k < l) (h4 : l < n) : (i, j, k, l) ∈ fours n := by
  simpa using all_lt (all_lt (all_lt (all_lt (all_lt fours_has0 (show n < 8 by omega)) h4) h3) h2) h1
/-- Is a four ahead of another one? -/
def Lt4 (b c d e b' c' d' e' : Nat) : Prop := b < b' ∨ b = b' ∧ (c < c' ∨ c = c' ∧ (d < d' ∨ d = d' ∧ e < e'))
instance (b c d e b' c' d' e' : Nat) : Decidable (Lt4 b c d e b' c' d' e') := by unfold Lt4; infer_instance
/-- Do five break the rule? -/
def brk (f : Int → Int → Int → Int) (a b c d e : Nat) : Bool := (f a b c * f a d e == f a b e * f a c d) && (f a b c * f a d e == -(f a b d) * f a c e)
def Val (n a b c d e : Nat) : Prop := a < n ∧ b < c ∧ c < d ∧ d < e ∧ e < n ∧ a ≠ b ∧ a ≠ c ∧ a ≠ d ∧ a ≠ e
/-- No five ahead of these break the rule. -/
def NoB (f : Int → Int → Int → Int) (n a b c d e : Nat) : Prop := ∀ a' b' c' d' e', Val n a' b' c' d' e' → (a' < a ∨ a' = a ∧ Lt4 b' c' d' e' b c d e) → brk f a' b' c' d' e' = false
/-- The first five that break the rule. -/
def IsF (f : Int → Int → Int → Int) (n : Nat) (xs : List Int) : Prop :=
  (xs = [] ∧ NoB f n n 0 0 0 0) ∨ ∃ a b c d e : Nat, xs = [(a : Int), (b : Int), (c : Int), (d : Int), (e : Int)] ∧ Val n a b c d e ∧ brk f a b c d e = true ∧ NoB f n a b c d e
/-- Does no five break the rule? -/
def okB (f : Int → Int → Int → Int) (n : Nat) : Bool := (List.range n).all fun a => (fours n).all fun t => (a == t.1 || a == t.2.1 || a == t.2.2.1 || a == t.2.2.2) || !brk f a t.1 t.2.1 t.2.2.1 t.2.2.2
theorem okB_iff {f : Int → Int → Int → Int} {n : Nat} (hn : n ≤ 7) : okB f n = true ↔ ∀ a b c d e, Val n a b c d e → brk f a b c d e = false := by
  unfold okB
  simp only [List.all_eq_true, List.mem_range, Bool.or_eq_true, beq_iff_eq, Bool.not_eq_true']
  constructor
  · rintro h a b c d e ⟨h1, h2, h3, h4, h5, h6, h7, h8, h9⟩
    rcases h a h1 _ (fours_has hn h2 h3 h4 h5) with h | h
    · simp only at h; omega
    · exact h
  · intro h a ha t ht
    obtain ⟨h1, h2, h3, h4⟩ := fours_mem hn ht
    by_cases e : ((a = t.1 ∨ a = t.2.1) ∨ a = t.2.2.1) ∨ a = t.2.2.2
    · exact Or.inl e
    · exact Or.inr (h _ _ _ _ _ ⟨ha, h1, h2, h3, h4, by omega, by omega, by omega, by omega⟩)
theorem IsF.ok {f : Int → Int → Int → Int} {n : Nat} {xs : List Int} (hn : n ≤ 7) (h : IsF f n xs) : okB f n = xs.isEmpty := by
  rcases h with ⟨rfl, h⟩ | ⟨a, b, c, d, e, rfl, v, b1, -⟩
  · exact (okB_iff hn).2 fun a b c d e v => h a b c d e v (Or.inl v.1)
  · cases ho : okB f n
    · rfl
    · rw [(okB_iff hn).1 ho a b c d e v] at b1; cases b1
end Go.Proofs.Ytfpbehnpaedpmaa.Sg
