/- Points as pairs of integers: turns, areas, general position. Plain mathematics, nothing of the program. -/
namespace Go.Proofs.Ytfjimdmoindepaa.Pt
abbrev P2 := Int × Int
def inB (x lo hi : Int) : Bool := decide (lo ≤ x ∧ x ≤ hi)
theorem inB_yes {x lo hi : Int} (h1 : lo ≤ x) (h2 : x ≤ hi) : inB x lo hi = true := by simp [inB, h1, h2]
theorem inB_lo {x lo hi : Int} (h : x < lo) : inB x lo hi = false := by simp [inB]; omega
theorem inB_hi {x lo hi : Int} (h : hi < x) : inB x lo hi = false := by simp [inB]; omega
theorem inB_mem {x lo hi : Int} (h : inB x lo hi = true) : lo ≤ x ∧ x ≤ hi := by simpa [inB] using h
/-- Both coordinates are within a bound. -/
def fitB (x y m : Int) : Bool := inB x (-m) m && inB y (-m) m
def fit (p : P2) (m : Int) : Bool := fitB p.1 p.2 m
theorem fitB_mem {x y m : Int} (h : fitB x y m = true) : -m ≤ x ∧ x ≤ m ∧ -m ≤ y ∧ y ≤ m := by
  simp only [fitB, Bool.and_eq_true] at h
  have h1 := inB_mem h.1
  have h2 := inB_mem h.2
  omega
theorem fit_mem {p : P2} {m : Int} (h : fit p m = true) : -m ≤ p.1 ∧ p.1 ≤ m ∧ -m ≤ p.2 ∧ p.2 ≤ m := fitB_mem h
theorem fit_mono {p : P2} {m n : Int} (h : fit p m = true) (hmn : m ≤ n) : fit p n = true := by
  have := fit_mem h
  unfold fit fitB
  rw [inB_yes (by omega) (by omega), inB_yes (by omega) (by omega)]; rfl
/-- Twice the area of a triangle, with its sign. -/
def crs (ax ay bx by_ cx cy : Int) : Int := (bx - ax) * (cy - ay) - (by_ - ay) * (cx - ax)
def cross (a b c : P2) : Int := crs a.1 a.2 b.1 b.2 c.1 c.2
def areaB (ax ay bx by_ cx cy : Int) : Int := if fitB ax ay 1000 = true ∧ fitB bx by_ 1000 = true ∧ fitB cx cy 1000 = true then crs ax ay bx by_ cx cy else 0
def area (a b c : P2) : Int := areaB a.1 a.2 b.1 b.2 c.1 c.2
theorem mul_bound {a b m : Int} (h1 : -m ≤ a) (h2 : a ≤ m) (h3 : -m ≤ b) (h4 : b ≤ m) : -(m * m) ≤ a * b ∧ a * b ≤ m * m := by
  have e1 : 0 ≤ (m - a) * (m + b) := Int.mul_nonneg (by omega) (by omega)
  have e2 : 0 ≤ (m + a) * (m - b) := Int.mul_nonneg (by omega) (by omega)
  have e3 : 0 ≤ (m - a) * (m - b) := Int.mul_nonneg (by omega) (by omega)
  have e4 : 0 ≤ (m + a) * (m + b) := Int.mul_nonneg (by omega) (by omega)
  simp only [Int.sub_mul, Int.add_mul, Int.mul_sub, Int.mul_add] at e1 e2 e3 e4
  have c1 : m * b = b * m := Int.mul_comm _ _
  have c2 : m * a = a * m := Int.mul_comm _ _
  omega
theorem crs_bound {ax ay bx by_ cx cy : Int} (ha : fitB ax ay 1000 = true) (hb : fitB bx by_ 1000 = true) (hc : fitB cx cy 1000 = true) :
    (-4000000 ≤ (bx - ax) * (cy - ay) ∧ (bx - ax) * (cy - ay) ≤ 4000000) ∧ (-4000000 ≤ (by_ - ay) * (cx - ax) ∧ (by_ - ay) * (cx - ax) ≤ 4000000) := by
  have := fitB_mem ha
  have := fitB_mem hb
  have := fitB_mem hc
  exact ⟨mul_bound (m := 2000) (by omega) (by omega) (by omega) (by omega), mul_bound (m := 2000) (by omega) (by omega) (by omega) (by omega)⟩
theorem crs_le {ax ay bx by_ cx cy : Int} (ha : fitB ax ay 1000 = true) (hb : fitB bx by_ 1000 = true) (hc : fitB cx cy 1000 = true) : -8000000 ≤ crs ax ay bx by_ cx cy ∧ crs ax ay bx by_ cx cy ≤ 8000000 := by
  have := crs_bound ha hb hc
  unfold crs
  omega
theorem areaB_yes {ax ay bx by_ cx cy : Int} (ha : fitB ax ay 1000 = true) (hb : fitB bx by_ 1000 = true) (hc : fitB cx cy 1000 = true) : areaB ax ay bx by_ cx cy = crs ax ay bx by_ cx cy := by
  unfold areaB; rw [if_pos ⟨ha, hb, hc⟩]
theorem areaB_no {ax ay bx by_ cx cy : Int} (h : fitB ax ay 1000 = false ∨ fitB bx by_ 1000 = false ∨ fitB cx cy 1000 = false) : areaB ax ay bx by_ cx cy = 0 := by
  unfold areaB; rw [if_neg]; rintro ⟨h1, h2, h3⟩; rcases h with h | h | h <;> simp_all
theorem areaB_le (ax ay bx by_ cx cy : Int) : -8000000 ≤ areaB ax ay bx by_ cx cy ∧ areaB ax ay bx by_ cx cy ≤ 8000000 := by
  unfold areaB
  split
  · rename_i h; exact crs_le h.1 h.2.1 h.2.2
  · omega
def sgn (x : Int) : Int := if 0 < x then 1 else if x < 0 then -1 else 0
theorem sgn_pos {x : Int} (h : 0 < x) : sgn x = 1 := by simp [sgn, h]
theorem sgn_neg {x : Int} (h : x < 0) : sgn x = -1 := by unfold sgn; rw [if_neg (by omega), if_pos h]
theorem sgn_zero {x : Int} (h : x = 0) : sgn x = 0 := by subst h; rfl
theorem sgn_eq_zero {x : Int} : sgn x = 0 ↔ x = 0 := by
  unfold sgn
  constructor
  · intro h; split at h; · simp at h
    split at h; · simp at h
    omega
  · rintro rfl; rfl
theorem sgn_le (x : Int) : -1 ≤ sgn x ∧ sgn x ≤ 1 := by unfold sgn; split; · omega
                                                        split <;> omega
def turnB (ax ay bx by_ cx cy : Int) : Int := sgn (areaB ax ay bx by_ cx cy)
def turn (a b c : P2) : Int := sgn (area a b c)
/-- Points: three to seven, within 50, no three on a line. -/
def ok (xs : List P2) : Prop := (3 ≤ xs.length ∧ xs.length ≤ 7) ∧ (∀ p ∈ xs, fit p 50 = true) ∧ ∀ (i j k : Nat) (a b c : P2), i < j → j < k → xs[i]? = some a → xs[j]? = some b → xs[k]? = some c → cross a b c ≠ 0
open Classical in
noncomputable def okB (xs : List P2) : Bool := decide (ok xs)
theorem okB_yes {xs : List P2} (h : ok xs) : okB xs = true := by simp [okB, h]
theorem okB_no {xs : List P2} (h : ¬ ok xs) : okB xs = false := by simp [okB, h]
theorem okB_ok {xs : List P2} (h : okB xs = true) : ok xs := by simpa [okB] using h
theorem okB_not {xs : List P2} (h : okB xs = false) : ¬ ok xs := by simpa [okB] using h
theorem okB_len {xs : List P2} (h : ¬ (3 ≤ xs.length ∧ xs.length ≤ 7)) : okB xs = false := okB_no (fun hk => h hk.1)
theorem okB_fit {xs : List P2} {p : P2} (hm : p ∈ xs) (h : fit p 50 = false) : okB xs = false := okB_no (fun hk => by have := hk.2.1 p hm; rw [h] at this; cases this)
theorem okB_line {xs : List P2} {i j k : Nat} {a b c : P2} (h1 : i < j) (h2 : j < k) (ha : xs[i]? = some a) (hb : xs[j]? = some b) (hc : xs[k]? = some c) (h : cross a b c = 0) : okB xs = false := okB_no (fun hk => hk.2.2 i j k a b c h1 h2 ha hb hc h)
/-- No three of the first k elements (the third below k; or the third k and the second below j; or the third k, the second j and the first below i) are on a line. -/
def noLine (xs : List P2) (k j i : Nat) : Prop := ∀ (i' j' k' : Nat) (a b c : P2), i' < j' → j' < k' → (k' < k ∨ k' = k ∧ (j' < j ∨ j' = j ∧ i' < i)) → xs[i']? = some a → xs[j']? = some b → xs[k']? = some c → cross a b c ≠ 0
theorem noLine_zero (xs : List P2) : noLine xs 0 0 0 := fun i' j' k' a b c h1 h2 h => by omega
theorem noLine_step {xs : List P2} {k j i : Nat} {a b c : P2} (h : noLine xs k j i) (ha : xs[i]? = some a) (hb : xs[j]? = some b) (hc : xs[k]? = some c) (hne : cross a b c ≠ 0) : noLine xs k j (i + 1) := fun i' j' k' a' b' c' h1 h2 h3 ha' hb' hc' => by
  by_cases e : k' = k ∧ j' = j ∧ i' = i
  · obtain ⟨rfl, rfl, rfl⟩ := e
    rw [ha] at ha'; rw [hb] at hb'; rw [hc] at hc'
    cases ha'; cases hb'; cases hc'
    exact hne
  · exact h i' j' k' a' b' c' h1 h2 (by omega) ha' hb' hc'
theorem noLine_inner {xs : List P2} {k j : Nat} (h : noLine xs k j j) : noLine xs k (j + 1) 0 := fun i' j' k' a b c h1 h2 h3 ha hb hc => h i' j' k' a b c h1 h2 (by omega) ha hb hc
theorem noLine_outer {xs : List P2} {k : Nat} (h : noLine xs k k 0) : noLine xs (k + 1) 0 0 := fun i' j' k' a b c h1 h2 h3 ha hb hc => h i' j' k' a b c h1 h2 (by omega) ha hb hc
theorem noLine_all {xs : List P2} (h : noLine xs xs.length 0 0) : ∀ (i j k : Nat) (a b c : P2), i < j → j < k → xs[i]? = some a → xs[j]? = some b → xs[k]? = some c → cross a b c ≠ 0 := fun i j k a b c h1 h2 ha hb hc =>
  h i j k a b c h1 h2 (Or.inl (List.getElem?_eq_some_iff.1 hc).1) ha hb hc
open Classical in
/-- There are three on a line. -/
noncomputable def lineB (xs : List P2) : Bool := decide (¬ noLine xs xs.length 0 0)
theorem lineB_yes {xs : List P2} {i j k : Nat} {a b c : P2} (h1 : i < j) (h2 : j < k) (ha : xs[i]? = some a) (hb : xs[j]? = some b) (hc : xs[k]? = some c) (h : cross a b c = 0) : lineB xs = true := by
  have hn : ¬ noLine xs xs.length 0 0 := fun hn => noLine_all hn i j k a b c h1 h2 ha hb hc h
  simp [lineB, hn]
theorem lineB_no {xs : List P2} (h : noLine xs xs.length 0 0) : lineB xs = false := by simp [lineB, h]
theorem okB_line_eq {xs : List P2} (h : 3 ≤ xs.length ∧ xs.length ≤ 7) (hf : ∀ p ∈ xs, fit p 50 = true) : okB xs = !lineB xs := by
  by_cases hn : noLine xs xs.length 0 0
  · rw [lineB_no hn, okB_yes ⟨h, hf, noLine_all hn⟩]; rfl
  · have h1 : lineB xs = true := by simp [lineB, hn]
    rw [h1, okB_no]; · rfl
    rintro ⟨-, -, h3⟩
    exact hn (fun i j k a b c h1 h2 _ ha hb hc => h3 i j k a b c h1 h2 ha hb hc)
theorem turn_zero {a b c : P2} (ha : fit a 50 = true) (hb : fit b 50 = true) (hc : fit c 50 = true) (h : cross a b c = 0) : turnB a.1 a.2 b.1 b.2 c.1 c.2 = 0 := by
  unfold turnB
  rw [areaB_yes (fit_mono ha (by omega)) (fit_mono hb (by omega)) (fit_mono hc (by omega))]
  exact sgn_zero h
theorem turn_ne {a b c : P2} (ha : fit a 50 = true) (hb : fit b 50 = true) (hc : fit c 50 = true) (h : cross a b c ≠ 0) : turnB a.1 a.2 b.1 b.2 c.1 c.2 ≠ 0 := by
  unfold turnB
  rw [areaB_yes (fit_mono ha (by omega)) (fit_mono hb (by omega)) (fit_mono hc (by omega))]
  exact fun hs => h (sgn_eq_zero.1 hs)
end Go.Proofs.Ytfjimdmoindepaa.Pt
