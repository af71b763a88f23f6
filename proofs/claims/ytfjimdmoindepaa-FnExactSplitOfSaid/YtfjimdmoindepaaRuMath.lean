/- The exchange rule on plain functions: the fours of n elements in their order, breaks, the first break, circuits, reversed signs. -/
import Derived.Test.YtfjimdmoindepaaSgMath
namespace Go.Proofs.Ytfjimdmoindepaa.Sg
abbrev T4 := Nat × Nat × Nat × Nat
/-- The first m fours that begin with three elements. -/
def row4 (t : T3) (m : Nat) : List T4 := (List.range' (t.2.2 + 1) m).map fun l => (t.1, t.2.1, t.2.2, l)
/-- The fours that begin with the threes before number p. -/
def foursB (n p : Nat) : List T4 := ((threes n).take p).flatMap fun t => row4 t (n - (t.2.2 + 1))
def fours (n : Nat) : List T4 := (threes n).flatMap fun t => row4 t (n - (t.2.2 + 1))
theorem row4_succ (t : T3) (m : Nat) : row4 t (m + 1) = row4 t m ++ [(t.1, t.2.1, t.2.2, t.2.2 + 1 + m)] := by
  unfold row4; rw [List.range'_concat]; simp
theorem row4_length (t : T3) (m : Nat) : (row4 t m).length = m := by unfold row4; simp
theorem foursB_zero (n : Nat) : foursB n 0 = [] := by unfold foursB; simp
theorem foursB_succ {n p : Nat} {t : T3} (ht : (threes n)[p]? = some t) : foursB n (p + 1) = foursB n p ++ row4 t (n - (t.2.2 + 1)) := by
  unfold foursB; rw [List.take_add_one, ht]; simp
theorem foursB_all {n : Nat} (h7 : n ≤ 7) : foursB n (cnt n) = fours n := by
  unfold foursB fours; rw [List.take_of_length_le (by rw [threes_length h7]; omega)]
theorem foursB_len0 : ∀ n, n < 8 → ∀ p, p < 36 → (foursB n p).length ≤ 35 := by decide +kernel
theorem foursB_len {n p : Nat} (h7 : n ≤ 7) (hp : p ≤ cnt n) : (foursB n p).length ≤ 35 := foursB_len0 n (by omega) p (by have := cnt_le h7; omega)
theorem fours_len {n : Nat} (h7 : n ≤ 7) : (fours n).length ≤ 35 := by rw [← foursB_all h7]; exact foursB_len h7 (Nat.le_refl _)
theorem fours_mem0 : ∀ n, n < 8 → ∀ t ∈ fours n, t.1 < t.2.1 ∧ t.2.1 < t.2.2.1 ∧ t.2.2.1 < t.2.2.2 ∧ t.2.2.2 < n := by decide +kernel
theorem fours_mem {n : Nat} (hn : n ≤ 7) {t : T4} (h : t ∈ fours n) : t.1 < t.2.1 ∧ t.2.1 < t.2.2.1 ∧ t.2.2.1 < t.2.2.2 ∧ t.2.2.2 < n := fours_mem0 n (by omega) t h
theorem fours_has0 : ((List.range 8).all fun n => (List.range n).all fun l => (List.range l).all fun k => (List.range k).all fun j => (List.range j).all fun i => (fours n).contains (i, j, k, l)) = true := by decide +kernel
theorem fours_has {n i j k l : Nat} (hn : n ≤ 7) (h1 : i < j) (h2 : j < k) (h3 : k < l) (h4 : l < n) : (i, j, k, l) ∈ fours n := by
  simpa using all_lt (all_lt (all_lt (all_lt (all_lt fours_has0 (show n < 8 by omega)) h4) h3) h2) h1
/-- Is a four ahead of another one? -/
def Lt4 (b c d e b' c' d' e' : Nat) : Prop := b < b' ∨ b = b' ∧ (c < c' ∨ c = c' ∧ (d < d' ∨ d = d' ∧ e < e'))
instance (b c d e b' c' d' e' : Nat) : Decidable (Lt4 b c d e b' c' d' e') := by unfold Lt4; infer_instance
theorem fours_sorted0 : ∀ n, n < 8 → (fours n).Pairwise (fun t u => Lt4 t.1 t.2.1 t.2.2.1 t.2.2.2 u.1 u.2.1 u.2.2.1 u.2.2.2) := by decide +kernel
theorem fours_sorted {n p q : Nat} {t u : T4} (hn : n ≤ 7) (hp : (fours n)[p]? = some t) (hq : (fours n)[q]? = some u) (h : p < q) : Lt4 t.1 t.2.1 t.2.2.1 t.2.2.2 u.1 u.2.1 u.2.2.1 u.2.2.2 := by
  obtain ⟨h1, e1⟩ := List.getElem?_eq_some_iff.1 hp
  obtain ⟨h2, e2⟩ := List.getElem?_eq_some_iff.1 hq
  have := List.pairwise_iff_getElem.1 (fours_sorted0 n (by omega)) p q h1 h2 h
  rw [e1, e2] at this
  exact this
/-- Do five break the rule? -/
def brk (f : Int → Int → Int → Int) (a b c d e : Nat) : Bool := (f a b c * f a d e == f a b e * f a c d) && (f a b c * f a d e == -(f a b d) * f a c e)
def Val (n a b c d e : Nat) : Prop := a < n ∧ b < c ∧ c < d ∧ d < e ∧ e < n ∧ a ≠ b ∧ a ≠ c ∧ a ≠ d ∧ a ≠ e
/-- No five ahead of these break the rule. -/
def NoB (f : Int → Int → Int → Int) (n a b c d e : Nat) : Prop := ∀ a' b' c' d' e', Val n a' b' c' d' e' → (a' < a ∨ a' = a ∧ Lt4 b' c' d' e' b c d e) → brk f a' b' c' d' e' = false
/-- The first five that break the rule. -/
def IsF (f : Int → Int → Int → Int) (n : Nat) (xs : List Int) : Prop :=
  (xs = [] ∧ NoB f n n 0 0 0 0) ∨ ∃ a b c d e : Nat, xs = [(a : Int), (b : Int), (c : Int), (d : Int), (e : Int)] ∧ Val n a b c d e ∧ brk f a b c d e = true ∧ NoB f n a b c d e
theorem IsF.unique {f : Int → Int → Int → Int} {n : Nat} {xs ys : List Int} (hx : IsF f n xs) (hy : IsF f n ys) : xs = ys := by
  rcases hx with ⟨rfl, h1⟩ | ⟨a, b, c, d, e, rfl, v1, b1, n1⟩ <;> rcases hy with ⟨rfl, h2⟩ | ⟨a', b', c', d', e', rfl, v2, b2, n2⟩
  · rfl
  · rw [h1 a' b' c' d' e' v2 (Or.inl v2.1)] at b2; cases b2
  · rw [h2 a b c d e v1 (Or.inl v1.1)] at b1; cases b1
  · by_cases q1 : a < a' ∨ a = a' ∧ Lt4 b c d e b' c' d' e'
    · rw [n2 a b c d e v1 q1] at b1; cases b1
    · by_cases q2 : a' < a ∨ a' = a ∧ Lt4 b' c' d' e' b c d e
      · rw [n1 a' b' c' d' e' v2 q2] at b2; cases b2
      · unfold Lt4 at q1 q2
        have : a = a' ∧ b = b' ∧ c = c' ∧ d = d' ∧ e = e' := by omega
        obtain ⟨rfl, rfl, rfl, rfl, rfl⟩ := this
        rfl
/-- Does no five break the rule? -/
def okB (f : Int → Int → Int → Int) (n : Nat) : Bool := (List.range n).all fun a => (fours n).all fun t => (a == t.1 || a == t.2.1 || a == t.2.2.1 || a == t.2.2.2) || !brk f a t.1 t.2.1 t.2.2.1 t.2.2.2
theorem okB_iff {f : Int → Int → Int → Int} {n : Nat} (hn : n ≤ 7) : okB f n = true ↔ ∀ a b c d e, Val n a b c d e → brk f a b c d e = false := by
  unfold okB
  simp only [List.all_eq_true, List.mem_range, Bool.or_eq_true, beq_iff_eq, Bool.not_eq_true']
  constructor
  · rintro h a b c d e ⟨h1, h2, h3, h4, h5, h6, h7, h8, h9⟩
    rcases h a h1 _ (fours_has hn h2 h3 h4 h5) with h | h
    · simp only at h; omega
    · exact h
  · intro h a ha t ht
    obtain ⟨h1, h2, h3, h4⟩ := fours_mem hn ht
    by_cases e : ((a = t.1 ∨ a = t.2.1) ∨ a = t.2.2.1) ∨ a = t.2.2.2
    · exact Or.inl e
    · exact Or.inr (h _ _ _ _ _ ⟨ha, h1, h2, h3, h4, by omega, by omega, by omega, by omega⟩)
theorem IsF.ok {f : Int → Int → Int → Int} {n : Nat} {xs : List Int} (hn : n ≤ 7) (h : IsF f n xs) : okB f n = xs.isEmpty := by
  rcases h with ⟨rfl, h⟩ | ⟨a, b, c, d, e, rfl, v, b1, -⟩
  · exact (okB_iff hn).2 fun a b c d e v => h a b c d e v (Or.inl v.1)
  · cases ho : okB f n
    · rfl
    · rw [(okB_iff hn).1 ho a b c d e v] at b1; cases b1
/-- A circuit's four signs, the first one 1. -/
def cir (f : Int → Int → Int → Int) (a b c d : Int) : Int × Int × Int × Int := (f b c d * f b c d, -(f a c d) * f b c d, f a b d * f b c d, -(f a b c) * f b c d)
def posC (f : Int → Int → Int → Int) (a b c d : Int) : Bool := (cir f a b c d).1 == 1 && ((cir f a b c d).2.1 == 1 && ((cir f a b c d).2.2.1 == 1 && (cir f a b c d).2.2.2 == 1))
/-- Is no circuit of one kind? -/
def acB (f : Int → Int → Int → Int) (n : Nat) : Bool := (fours n).all fun t => !posC f t.1 t.2.1 t.2.2.1 t.2.2.2
theorem acB_iff {f : Int → Int → Int → Int} {n : Nat} (hn : n ≤ 7) : acB f n = true ↔ ∀ a b c d : Nat, a < b → b < c → c < d → d < n → posC f a b c d = false := by
  unfold acB
  simp only [List.all_eq_true, Bool.not_eq_true']
  exact ⟨fun h a b c d h1 h2 h3 h4 => h _ (fours_has hn h1 h2 h3 h4), fun h t ht => by obtain ⟨h1, h2, h3, h4⟩ := fours_mem hn ht; exact h _ _ _ _ h1 h2 h3 h4⟩
theorem posC_congr {f g : Int → Int → Int → Int} {a b c d : Int} (h1 : f b c d = g b c d) (h2 : f a c d = g a c d) (h3 : f a b d = g a b d) (h4 : f a b c = g a b c) : posC f a b c d = posC g a b c d := by
  unfold posC cir; rw [h1, h2, h3, h4]
theorem acB_congr {f g : Int → Int → Int → Int} {n : Nat} (hn : n ≤ 7) (h : ∀ i j k : Nat, i < j → j < k → k < n → f i j k = g i j k) : acB f n = acB g n := by
  have : ∀ {f g : Int → Int → Int → Int}, (∀ i j k : Nat, i < j → j < k → k < n → f i j k = g i j k) → acB f n = true → acB g n = true := fun {f g} h hf => by
    refine (acB_iff hn).2 fun a b c d h1 h2 h3 h4 => ?_
    rw [← (acB_iff hn).1 hf a b c d h1 h2 h3 h4]
    exact posC_congr (h _ _ _ (by omega) (by omega) (by omega)).symm (h _ _ _ (by omega) (by omega) (by omega)).symm (h _ _ _ (by omega) (by omega) (by omega)).symm (h _ _ _ (by omega) (by omega) (by omega)).symm
  cases hf : acB f n
  · cases hg : acB g n
    · rfl
    · rw [this (fun i j k a b c => (h i j k a b c).symm) hg] at hf; cases hf
  · exact (this h hf).symm
/-- Is an odd number of three elements in a set? -/
def odd3 (set : Nat) (i j k : Nat) : Bool := ((set >>> i) + (set >>> j) + (set >>> k)) % 2 == 1
/-- The signs after the elements of a set are reversed. -/
def revF (set : Nat) (f : Int → Int → Int → Int) (i j k : Int) : Int := if odd3 set i.toNat j.toNat k.toNat then -(f i j k) else f i j k
end Go.Proofs.Ytfjimdmoindepaa.Sg
