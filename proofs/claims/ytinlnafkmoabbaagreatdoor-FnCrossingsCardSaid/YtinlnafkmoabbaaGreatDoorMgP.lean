/- Several texts in one: PtMath, Pt, SgMath, Sg, SgAre, PtArea, PtTurn. -/
import Derived.Test.YtinlnafkmoabbaaGreatDoorProg
import Derived.WalkKit
import Derived.Below
import Derived.Lib.Hide
import Derived.Handy
import Derived.Laws.MakeOwn
import Derived.Laws.Entries
import Derived.Deep.QuietTactic
import Derived.BigQuiet
import Derived.RegionTactic
import Derived.Outline
/- Points as pairs of integers: turns, areas, general position. Plain mathematics, nothing of the program. -/
namespace Go.Proofs.YtinlnafkmoabbaaGreatDoor.Pt
abbrev P2 := Int × Int
def inB (x lo hi : Int) : Bool := decide (lo ≤ x ∧ x ≤ hi)
theorem inB_yes {x lo hi : Int} (h1 : lo ≤ x) (h2 : x ≤ hi) : inB x lo hi = true := by simp [inB, h1, h2]
theorem inB_lo {x lo hi : Int} (h : x < lo) : inB x lo hi = false := by simp [inB]; omega
theorem inB_hi {x lo hi : Int} (h : hi < x) : inB x lo hi = false := by simp [inB]; omega
theorem inB_mem {x lo hi : Int} (h : inB x lo hi = true) : lo ≤ x ∧ x ≤ hi := by simpa [inB] using h
/-- Both coordinates are within a bound. -/
def fitB (x y m : Int) : Bool := inB x (-m) m && inB y (-m) m
def fit (p : P2) (m : Int) : Bool := fitB p.1 p.2 m
theorem fitB_mem {x y m : Int} (h : fitB x y m = true) : -m ≤ x ∧ x ≤ m ∧ -m ≤ y ∧ y ≤ m := by
  simp only [fitB, Bool.and_eq_true] at h
  have h1 := inB_mem h.1
  have h2 := inB_mem h.2
  omega
theorem fit_mem {p : P2} {m : Int} (h : fit p m = true) : -m ≤ p.1 ∧ p.1 ≤ m ∧ -m ≤ p.2 ∧ p.2 ≤ m := fitB_mem h
theorem fit_mono {p : P2} {m n : Int} (h : fit p m = true) (hmn : m ≤ n) : fit p n = true := by
  have := fit_mem h
  unfold fit fitB
  rw [inB_yes (by omega) (by omega), inB_yes (by omega) (by omega)]; rfl
/-- Twice the area of a triangle, with its sign. -/
def crs (ax ay bx by_ cx cy : Int) : Int := (bx - ax) * (cy - ay) - (by_ - ay) * (cx - ax)
def cross (a b c : P2) : Int := crs a.1 a.2 b.1 b.2 c.1 c.2
def areaB (ax ay bx by_ cx cy : Int) : Int := if fitB ax ay 1000 = true ∧ fitB bx by_ 1000 = true ∧ fitB cx cy 1000 = true then crs ax ay bx by_ cx cy else 0
def area (a b c : P2) : Int := areaB a.1 a.2 b.1 b.2 c.1 c.2
theorem mul_bound {a b m : Int} (h1 : -m ≤ a) (h2 : a ≤ m) (h3 : -m ≤ b) (h4 : b ≤ m) : -(m * m) ≤ a * b ∧ a * b ≤ m * m := by
  have e1 : 0 ≤ (m - a) * (m + b) := Int.mul_nonneg (by omega) (by omega)
  have e2 : 0 ≤ (m + a) * (m - b) := Int.mul_nonneg (by omega) (by omega)
  have e3 : 0 ≤ (m - a) * (m - b) := Int.mul_nonneg (by omega) (by omega)
  have e4 : 0 ≤ (m + a) * (m + b) := Int.mul_nonneg (by omega) (by omega)
  simp only [Int.sub_mul, Int.add_mul, Int.mul_sub, Int.mul_add] at e1 e2 e3 e4
  have c1 : m * b = b * m := Int.mul_comm _ _
  have c2 : m * a = a * m := Int.mul_comm _ _
  omega
theorem crs_bound {ax ay bx by_ cx cy : Int} (ha : fitB ax ay 1000 = true) (hb : fitB bx by_ 1000 = true) (hc : fitB cx cy 1000 = true) :
    (-4000000 ≤ (bx - ax) * (cy - ay) ∧ (bx - ax) * (cy - ay) ≤ 4000000) ∧ (-4000000 ≤ (by_ - ay) * (cx - ax) ∧ (by_ - ay) * (cx - ax) ≤ 4000000) := by
  have := fitB_mem ha
  have := fitB_mem hb
  have := fitB_mem hc
  exact ⟨mul_bound (m := 2000) (by omega) (by omega) (by omega) (by omega), mul_bound (m := 2000) (by omega) (by omega) (by omega) (by omega)⟩
theorem areaB_yes {ax ay bx by_ cx cy : Int} (ha : fitB ax ay 1000 = true) (hb : fitB bx by_ 1000 = true) (hc : fitB cx cy 1000 = true) : areaB ax ay bx by_ cx cy = crs ax ay bx by_ cx cy := by
  unfold areaB; rw [if_pos ⟨ha, hb, hc⟩]
def sgn (x : Int) : Int := if 0 < x then 1 else if x < 0 then -1 else 0
def turnB (ax ay bx by_ cx cy : Int) : Int := sgn (areaB ax ay bx by_ cx cy)
def turn (a b c : P2) : Int := sgn (area a b c)
/-- Points: three to seven, within 50, no three on a line. -/
def ok (xs : List P2) : Prop := (3 ≤ xs.length ∧ xs.length ≤ 7) ∧ (∀ p ∈ xs, fit p 50 = true) ∧ ∀ (i j k : Nat) (a b c : P2), i < j → j < k → xs[i]? = some a → xs[j]? = some b → xs[k]? = some c → cross a b c ≠ 0
open Classical in
noncomputable def okB (xs : List P2) : Bool := decide (ok xs)
theorem okB_yes {xs : List P2} (h : ok xs) : okB xs = true := by simp [okB, h]
theorem okB_no {xs : List P2} (h : ¬ ok xs) : okB xs = false := by simp [okB, h]
theorem okB_ok {xs : List P2} (h : okB xs = true) : ok xs := by simpa [okB] using h
theorem okB_len {xs : List P2} (h : ¬ (3 ≤ xs.length ∧ xs.length ≤ 7)) : okB xs = false := okB_no (fun hk => h hk.1)
theorem okB_fit {xs : List P2} {p : P2} (hm : p ∈ xs) (h : fit p 50 = false) : okB xs = false := okB_no (fun hk => by have := hk.2.1 p hm; rw [h] at this; cases this)
theorem okB_line {xs : List P2} {i j k : Nat} {a b c : P2} (h1 : i < j) (h2 : j < k) (ha : xs[i]? = some a) (hb : xs[j]? = some b) (hc : xs[k]? = some c) (h : cross a b c = 0) : okB xs = false := okB_no (fun hk => hk.2.2 i j k a b c h1 h2 ha hb hc h)
/-- No three of the first k elements (the third below k; or the third k and the second below j; or the third k, the second j and the first below i) are on a line. -/
def noLine (xs : List P2) (k j i : Nat) : Prop := ∀ (i' j' k' : Nat) (a b c : P2), i' < j' → j' < k' → (k' < k ∨ k' = k ∧ (j' < j ∨ j' = j ∧ i' < i)) → xs[i']? = some a → xs[j']? = some b → xs[k']? = some c → cross a b c ≠ 0
theorem noLine_zero (xs : List P2) : noLine xs 0 0 0 := fun i' j' k' a b c h1 h2 h => by omega
theorem noLine_step {xs : List P2} {k j i : Nat} {a b c : P2} (h : noLine xs k j i) (ha : xs[i]? = some a) (hb : xs[j]? = some b) (hc : xs[k]? = some c) (hne : cross a b c ≠ 0) : noLine xs k j (i + 1) := fun i' j' k' a' b' c' h1 h2 h3 ha' hb' hc' => by
  by_cases e : k' = k ∧ j' = j ∧ i' = i
  · obtain ⟨rfl, rfl, rfl⟩ := e
    rw [ha] at ha'; rw [hb] at hb'; rw [hc] at hc'
    cases ha'; cases hb'; cases hc'
    exact hne
  · exact h i' j' k' a' b' c' h1 h2 (by omega) ha' hb' hc'
theorem noLine_inner {xs : List P2} {k j : Nat} (h : noLine xs k j j) : noLine xs k (j + 1) 0 := fun i' j' k' a b c h1 h2 h3 ha hb hc => h i' j' k' a b c h1 h2 (by omega) ha hb hc
theorem noLine_outer {xs : List P2} {k : Nat} (h : noLine xs k k 0) : noLine xs (k + 1) 0 0 := fun i' j' k' a b c h1 h2 h3 ha hb hc => h i' j' k' a b c h1 h2 (by omega) ha hb hc
theorem noLine_all {xs : List P2} (h : noLine xs xs.length 0 0) : ∀ (i j k : Nat) (a b c : P2), i < j → j < k → xs[i]? = some a → xs[j]? = some b → xs[k]? = some c → cross a b c ≠ 0 := fun i j k a b c h1 h2 ha hb hc =>
  h i j k a b c h1 h2 (Or.inl (List.getElem?_eq_some_iff.1 hc).1) ha hb hc
end Go.Proofs.YtinlnafkmoabbaaGreatDoor.Pt
/- Points by value: bounds, areas and turns, as impl and spec reckon them. -/
namespace Go.Proofs.YtinlnafkmoabbaaGreatDoor.Pt
open Go.RowKit
theorem ret_int {k : IntKind} {a b : Int} (h : a = b) : Ending.returned (.int k a) = .returned (.int k b) := by rw [h]
theorem ret_bool {a b : Bool} (h : a = b) : Ending.returned (.bool a) = .returned (.bool b) := by rw [h]

set_option maxRecDepth 100000 in
theorem l1In_any (x lo hi : Int) (w : World) :
    Calls Tryz.prog 87 #[.int .i64 x, .int .i64 lo, .int .i64 hi] w fun e w' => e = .returned (.bool (inB x lo hi)) ∧ w = w' := by
  by_cases h1 : lo ≤ x
  · by_cases h2 : x ≤ hi
    · have HE := Lib.hid (inB_yes h1 h2)
      go_enter Tryz.func87, Tryz.ntmps87
      go_wp2
      go_ret
      exact ⟨ret_bool (by rw [HE.out]), rfl⟩
    · have HE := Lib.hid (inB_hi (lo := lo) (x := x) (hi := hi) (by omega))
      go_enter Tryz.func87, Tryz.ntmps87
      go_wp2
      go_ret
      exact ⟨ret_bool (by rw [HE.out]), rfl⟩
  · have HE := Lib.hid (inB_lo (lo := lo) (x := x) (hi := hi) (by omega))
    go_enter Tryz.func87, Tryz.ntmps87
    go_wp2
    go_ret
    exact ⟨ret_bool (by rw [HE.out]), rfl⟩

set_option maxRecDepth 100000 in
theorem l2Fits_any (x y m : Int) (hm : 0 ≤ m) (hm2 : m ≤ 1000000) (w : World) :
    Calls Tryz.prog 184 #[.agg #[.int .i64 x, .int .i64 y], .int .i64 m] w fun e w' => e = .returned (.bool (fitB x y m)) ∧ Below w.heap.size w w' := by
  cases h1 : inB x (-m) m
  · have HE : Hid (fitB x y m = false) := Lib.hid (by simp [fitB, h1])
    go_enter Tryz.func184, Tryz.ntmps184
    go_wp2_with (go_at_call 87; refine (l1In_any _ _ _ _).mono ?_; rintro e w' ⟨rfl, rfl⟩)
    go_ret
    exact ⟨ret_bool (by rw [HE.out]), (Below.refl _ _).alloc (Nat.le_refl _) _⟩
  · have HE : Hid (fitB x y m = inB y (-m) m) := Lib.hid (by simp [fitB, h1])
    go_enter Tryz.func184, Tryz.ntmps184
    go_wp2_with (go_at_call 87; refine (l1In_any _ _ _ _).mono ?_; rintro e w' ⟨rfl, rfl⟩)
    go_ret
    exact ⟨ret_bool (by rw [HE.out]), (Below.refl _ _).alloc (Nat.le_refl _) _⟩

set_option maxRecDepth 100000 in
theorem l2Area_any (ax ay bx by_ cx cy : Int) (ha : fitB ax ay 1000 = true) (hb : fitB bx by_ 1000 = true) (hc : fitB cx cy 1000 = true) (w : World) :
    Calls Tryz.prog 162 #[.agg #[.int .i64 ax, .int .i64 ay], .agg #[.int .i64 bx, .int .i64 by_], .agg #[.int .i64 cx, .int .i64 cy]] w fun e w' => e = .returned (.int .i64 (crs ax ay bx by_ cx cy)) ∧ Below w.heap.size w w' := by
  have hbd := crs_bound ha hb hc
  have h1 := fitB_mem ha
  have h2 := fitB_mem hb
  have h3 := fitB_mem hc
  obtain ⟨⟨p1, p2⟩, p3, p4⟩ := hbd
  obtain ⟨a1, a2, a3, a4⟩ := h1
  obtain ⟨b1, b2, b3, b4⟩ := h2
  obtain ⟨c1, c2, c3, c4⟩ := h3
  clear ha hb hc
  go_enter Tryz.func162, Tryz.ntmps162
  go_wp2
  go_ret
  exact ⟨ret_int rfl, by go_grown⟩
end Go.Proofs.YtinlnafkmoabbaaGreatDoor.Pt
/- Plain facts on signs: the threes of n elements in their order, where each stands, the sign of any three. -/
namespace Go.Proofs.YtinlnafkmoabbaaGreatDoor.Sg
abbrev T3 := Nat × Nat × Nat
/-- The threes of n elements, in their order. -/
def threes (n : Nat) : List T3 := (List.range n).flatMap fun i => (List.range n).flatMap fun j => (List.range n).filterMap fun k => if i < j && j < k then some (i, j, k) else none
def ahead (t : T3) (i j k : Nat) : Bool := decide (t.1 < i) || (t.1 == i && (decide (t.2.1 < j) || (t.2.1 == j && decide (t.2.2 < k))))
/-- Those that stand before i, j, k. -/
def upto (n i j k : Nat) : List T3 := (threes n).filter (fun t => ahead t i j k)
theorem all_lt {n : Nat} {p : Nat → Bool} (h : (List.range n).all p = true) {i : Nat} (hi : i < n) : p i = true := List.all_eq_true.1 h i (List.mem_range.2 hi)
theorem upto_zero : ∀ n, n < 8 → upto n 0 1 2 = [] := by decide +kernel
theorem upto_step0 : ((List.range 8).all fun n => (List.range n).all fun k => (List.range k).all fun j => (List.range j).all fun i => upto n i j (k + 1) == upto n i j k ++ [(i, j, k)]) = true := by decide +kernel
theorem upto_step {n i j k : Nat} (hn : n ≤ 7) (h1 : i < j) (h2 : j < k) (h3 : k < n) : upto n i j (k + 1) = upto n i j k ++ [(i, j, k)] := by simpa using all_lt (all_lt (all_lt (all_lt upto_step0 (show n < 8 by omega)) h3) h2) h1
theorem upto_inner0 : ((List.range 8).all fun n => (List.range n).all fun j => (List.range j).all fun i => upto n i j n == upto n i (j + 1) (j + 2)) = true := by decide +kernel
theorem upto_inner {n i j : Nat} (hn : n ≤ 7) (h1 : i < j) (h2 : j < n) : upto n i j n = upto n i (j + 1) (j + 2) := by simpa using all_lt (all_lt (all_lt upto_inner0 (show n < 8 by omega)) h2) h1
theorem upto_mid0 : ∀ n, n < 8 → ∀ i, i < n → upto n i n (n + 1) = upto n (i + 1) (i + 2) (i + 3) := by decide +kernel
theorem upto_mid {n i : Nat} (hn : n ≤ 7) (h1 : i < n) : upto n i n (n + 1) = upto n (i + 1) (i + 2) (i + 3) := upto_mid0 n (by omega) i h1
theorem upto_end0 : ∀ n, n < 8 → upto n n (n + 1) (n + 2) = threes n := by decide +kernel
theorem upto_end {n : Nat} (hn : n ≤ 7) : upto n n (n + 1) (n + 2) = threes n := upto_end0 n (by omega)
theorem upto_length (n i j k : Nat) : (upto n i j k).length ≤ (threes n).length := List.length_filter_le _ _
/-- How many threes there are. -/
def cnt (n : Nat) : Nat := n * (n - 1) * (n - 2) / 6
theorem threes_length0 : ∀ n, n < 8 → (threes n).length = cnt n := by decide +kernel
theorem threes_length {n : Nat} (hn : n ≤ 7) : (threes n).length = cnt n := threes_length0 n (by omega)
theorem cnt_le0 : ∀ n, n < 8 → cnt n ≤ 35 := by decide +kernel
theorem cnt_le {n : Nat} (hn : n ≤ 7) : cnt n ≤ 35 := cnt_le0 n (by omega)
theorem threes_mem0 : ∀ n, n < 8 → ∀ t ∈ threes n, t.1 < t.2.1 ∧ t.2.1 < t.2.2 ∧ t.2.2 < n := by decide +kernel
theorem threes_mem {n : Nat} (hn : n ≤ 7) {t : T3} (h : t ∈ threes n) : t.1 < t.2.1 ∧ t.2.1 < t.2.2 ∧ t.2.2 < n := threes_mem0 n (by omega) t h
/-- Where three stand. -/
def sA (n : Nat) : Nat → Nat
  | 0 => 0
  | a + 1 => sA n a + (n - 1 - a) * (n - 2 - a) / 2
def sB (n i : Nat) : Nat → Nat
  | 0 => 0
  | m + 1 => sB n i m + (n - 1 - (i + 1 + m))
def idx (n i j k : Nat) : Nat := sA n i + sB n i (j - i - 1) + (k - j - 1)
theorem idx_get0 : ((List.range 8).all fun n => (List.range n).all fun k => (List.range k).all fun j => (List.range j).all fun i => (threes n)[idx n i j k]? == some (i, j, k)) = true := by decide +kernel
theorem idx_get {n i j k : Nat} (hn : n ≤ 7) (h1 : i < j) (h2 : j < k) (h3 : k < n) : (threes n)[idx n i j k]? = some (i, j, k) := by simpa using all_lt (all_lt (all_lt (all_lt idx_get0 (show n < 8 by omega)) h3) h2) h1
theorem idx_lt {n i j k : Nat} (hn : n ≤ 7) (h1 : i < j) (h2 : j < k) (h3 : k < n) : idx n i j k < cnt n := by
  have h := idx_get hn h1 h2 h3
  rw [← threes_length hn]
  exact (List.getElem?_eq_some_iff.1 h).1
theorem get_idx0 : ∀ n, n < 8 → ∀ p, p < 35 → ∀ t ∈ (threes n)[p]?, idx n t.1 t.2.1 t.2.2 = p := by decide +kernel
theorem get_idx {n p : Nat} {t : T3} (hn : n ≤ 7) (h : (threes n)[p]? = some t) : idx n t.1 t.2.1 t.2.2 = p :=
  get_idx0 n (by omega) p (by have := (List.getElem?_eq_some_iff.1 h).1; rw [threes_length hn] at this; have := cnt_le hn; omega) t h
theorem sA_le0 : ∀ n, n < 8 → ∀ a, a < 8 → sA n a ≤ 35 ∧ (n - 1 - a) * (n - 2 - a) ≤ 42 := by decide +kernel
theorem sB_le0 : ∀ n, n < 8 → ∀ i, i < 8 → ∀ m, m < 8 → sB n i m ≤ 35 := by decide +kernel

/-- A byte of a sign, a sign of a byte. -/
def sgn1 (b : UInt8) : Int := if b == 43 then 1 else -1
def byteOf (x : Int) : UInt8 := if 0 < x then 43 else 45
/-- The sign that stands at an ascending three of numbers; 0 if there is none. -/
def look (n : Nat) (s : List UInt8) (a b c : Int) : Int := if 0 ≤ a ∧ a < b ∧ b < c ∧ c < n then sgn1 (s.getD (idx n a.toNat b.toNat c.toNat) 0) else 0
/-- Three numbers in order, and whether an odd number of exchanges was made. -/
def srt (i j k : Int) : Int × Int × Int × Int :=
  let s1 := if i > j then (j, i, k, (-1 : Int)) else (i, j, k, 1)
  let s2 := if s1.2.1 > s1.2.2.1 then (s1.1, s1.2.2.1, s1.2.1, -s1.2.2.2) else s1
  if s2.1 > s2.2.1 then (s2.2.1, s2.1, s2.2.2.1, -s2.2.2.2) else s2
/-- Are they signs? -/
def arB (n : Int) (s : List UInt8) : Bool := decide (3 ≤ n) && decide (n ≤ 7) && decide (s.length = cnt n.toNat) && s.all (fun b => b == 43 || b == 45)
theorem arB_yes {n : Int} {s : List UInt8} (h : arB n s = true) : 3 ≤ n ∧ n ≤ 7 ∧ s.length = cnt n.toNat ∧ ∀ b ∈ s, b = 43 ∨ b = 45 := by
  unfold arB at h
  simp only [Bool.and_eq_true, decide_eq_true_eq, List.all_eq_true, Bool.or_eq_true, beq_iff_eq] at h
  exact ⟨h.1.1.1, h.1.1.2, h.1.2, h.2⟩
theorem arB_of {n : Int} {s : List UInt8} (h1 : 3 ≤ n) (h2 : n ≤ 7) (h3 : s.length = cnt n.toNat) (h4 : ∀ b ∈ s, b = 43 ∨ b = 45) : arB n s = true := by
  unfold arB
  simp only [Bool.and_eq_true, decide_eq_true_eq, List.all_eq_true, Bool.or_eq_true, beq_iff_eq]
  exact ⟨⟨⟨h1, h2⟩, h3⟩, h4⟩
theorem arB_no {n : Int} {s : List UInt8} (h : ¬ (3 ≤ n ∧ n ≤ 7) ∨ s.length ≠ cnt n.toNat ∨ ∃ b ∈ s, b ≠ 43 ∧ b ≠ 45) : arB n s = false := by
  cases hb : arB n s
  · rfl
  · obtain ⟨h1, h2, h3, h4⟩ := arB_yes hb
    rcases h with h | h | ⟨b, hm, h5, h6⟩
    · exact absurd ⟨h1, h2⟩ h
    · exact absurd h3 h
    · rcases h4 b hm with h | h
      · exact absurd h h5
      · exact absurd h h6
/-- Counting the two bytes. -/
theorem count_two : ∀ s : List UInt8, s.countP (· == 43) + s.countP (· == 45) ≤ s.length ∧ (s.countP (· == 43) + s.countP (· == 45) = s.length ↔ ∀ b ∈ s, b = 43 ∨ b = 45)
  | [] => by simp
  | b :: r => by
    obtain ⟨h1, h2⟩ := count_two r
    simp only [List.countP_cons, List.length_cons, List.mem_cons, forall_eq_or_imp]
    by_cases e1 : b = 43
    · subst e1
      refine ⟨by simp; omega, ?_⟩
      simp only [show ((43 : UInt8) == 43) = true by decide, show ((43 : UInt8) == 45) = false by decide, if_true, true_or, true_and]
      rw [← h2]; simp; omega
    · by_cases e2 : b = 45
      · subst e2
        refine ⟨by simp; omega, ?_⟩
        simp only [show ((45 : UInt8) == 43) = false by decide, show ((45 : UInt8) == 45) = true by decide, if_true, or_true, true_and]
        rw [← h2]; simp; omega
      · have f1 : (b == 43) = false := by simpa using e1
        have f2 : (b == 45) = false := by simpa using e2
        simp only [f1, f2, e1, e2]
        refine ⟨by simp; omega, ?_⟩
        simp
        omega
end Go.Proofs.YtinlnafkmoabbaaGreatDoor.Sg
/- Signs by value: what the laws' helpers make of them; where three stand (spec.l3Index). -/
namespace Go.Proofs.YtinlnafkmoabbaaGreatDoor.Sg
open Go.RowKit Pt
abbrev sg (n : Int) (s : ByteArray) : Value := .agg #[.int .i64 n, .string s]
theorem cast_a {n a : Nat} (_ : n ≤ 7) (h : a + 2 < n) : ((n : Int) - 1 - a) * ((n : Int) - 2 - a) = ((n - 1 - a) * (n - 2 - a) : Nat) := by
  rw [Int.natCast_mul]
  congr 1 <;> omega
theorem bound_a {n a : Nat} (hn : n ≤ 7) (h : a + 2 < n) : 0 ≤ ((n : Int) - 1 - a) * ((n : Int) - 2 - a) ∧ ((n : Int) - 1 - a) * ((n : Int) - 2 - a) ≤ 42 := by
  rw [cast_a hn h]
  have := (sA_le0 n (by omega) a (by omega)).2
  omega
theorem sA_succ {n a : Nat} (hn : n ≤ 7) (h : a + 2 < n) : (sA n a : Int) + ((n : Int) - 1 - a) * ((n : Int) - 2 - a) / 2 = sA n (a + 1) := by
  rw [cast_a hn h]
  simp only [sA]
  omega
theorem sB_succ {n i b : Nat} (h : i < b) (h2 : b < n) (c : Nat) : ((c + sB n i (b - (i + 1)) : Nat) : Int) + n - 1 - b = ((c + sB n i (b + 1 - (i + 1)) : Nat) : Int) := by
  rw [show b + 1 - (i + 1) = (b - (i + 1)) + 1 by omega]
  simp only [sB]
  omega
theorem sB_zero (n i : Nat) : sB n i (i + 1 - (i + 1)) = 0 := by rw [Nat.sub_self]; rfl
theorem idx_last {n i j k : Nat} (_ : i < j) (_ : j < k) : ((sA n i + sB n i (j - (i + 1)) : Nat) : Int) + k - j - 1 = (idx n i j k : Nat) := by
  unfold idx
  rw [show j - i - 1 = j - (i + 1) by omega]
  omega
theorem sAB_le {n i m : Nat} (hn : n ≤ 7) (hi : i < 8) (hm : m < 8) : sA n i ≤ 35 ∧ sA n i + sB n i m ≤ 70 := by
  have h1 := (sA_le0 n (by omega) i hi).1
  have h2 := sB_le0 n (by omega) i hi m hm
  omega
set_option maxHeartbeats 800000 in
set_option maxRecDepth 100000 in
theorem index_any (n i j k : Nat) (hn : n ≤ 7) (h1 : i < j) (h2 : j < k) (h3 : k < n) (w : World) :
    Calls Tryz.prog 173 #[.int .i64 n, .int .i64 i, .int .i64 j, .int .i64 k] w fun e w' => e = .returned (.int .i64 (idx n i j k : Nat)) ∧ w = w' := by
  have HL := Lib.hid (idx_last (n := n) h1 h2)
  have HZ := Lib.hid (sB_zero n i)
  have HS := Lib.hid (fun m => sAB_le (n := n) (i := i) (m := m) hn (by omega))
  go_enter Tryz.func173, Tryz.ntmps173
  go_wp2
  go_loop [9, 10] (fun at' a => ∃ x : Nat, x ≤ i ∧ a = .int .i64 x ∧ at' = .int .i64 (sA n x : Nat)) (fun _ a => i - (intOf a).toNat)
  case atStart => exact ⟨0, Nat.zero_le _, rfl, rfl⟩
  case round =>
    obtain ⟨x, hx, rfl, rfl⟩ := hrel
    have hx35 := (sA_le0 n (by omega) x (by omega)).1
    by_cases hlt : x < i
    · obtain ⟨q1, q2⟩ := bound_a hn (show x + 2 < n by omega)
      have HE := Lib.hid (sA_succ hn (show x + 2 < n by omega))
      go_wp2
      go_round
      case rel => exact ⟨x + 1, by omega, by go_num, by rw [← HE.out]⟩
      case measure => simp only [intOf]; omega
    · obtain rfl : x = i := by omega
      go_wp2
      go_loop [9, 11] (fun at' b => ∃ y : Nat, x < y ∧ y ≤ j ∧ b = .int .i64 y ∧ at' = .int .i64 (sA n x + sB n x (y - (x + 1)) : Nat)) (fun _ b => j - (intOf b).toNat)
      case atStart => exact ⟨x + 1, by omega, by omega, by go_num, by rw [HZ.out]; rfl⟩
      case round =>
        obtain ⟨y, hy0, hy, rfl, rfl⟩ := hrel
        have hs := (HS.out (y - (x + 1)) (by omega)).2
        by_cases hlt2 : y < j
        · have HE := Lib.hid (sB_succ (n := n) hy0 (by omega) (sA n x))
          generalize sA n x + sB n x (y - (x + 1)) = z at hs HE
          go_wp2
          go_round
          case rel => exact ⟨y + 1, by omega, by omega, by go_num, by rw [← HE.out]⟩
          case measure => simp only [intOf]; omega
        · obtain rfl : y = j := by omega
          have HE := HL
          generalize sA n x + sB n x (y - (x + 1)) = z at hs HE
          go_wp2
          go_ret
          exact ⟨ret_int HE.out, rfl⟩
end Go.Proofs.YtinlnafkmoabbaaGreatDoor.Sg
/- AreSigns, as spec asks it. -/
namespace Go.Proofs.YtinlnafkmoabbaaGreatDoor.Sg
open Go.RowKit Pt
def okTo (s : ByteArray) (k : Nat) : Prop := ∀ b ∈ s.data.toList.take k, b = 43 ∨ b = 45
theorem okTo_zero (s : ByteArray) : okTo s 0 := fun b hb => by simp at hb
theorem okTo_step {s : ByteArray} {k : Nat} (h : okTo s k) (hk : k < s.size) (hb : s[k] = 43 ∨ s[k] = 45) : okTo s (k + 1) := fun b hm => by
  have hl : k < s.data.toList.length := by simpa using hk
  rw [List.take_succ_eq_append_getElem hl, List.mem_append] at hm
  rcases hm with hm | hm
  · exact h b hm
  · simp only [List.mem_singleton] at hm
    subst hm
    exact hb
theorem okTo_all {s : ByteArray} (h : okTo s s.size) : ∀ b ∈ s.data.toList, b = 43 ∨ b = 45 := fun b hb => h b (by rw [List.take_of_length_le (by simp)]; exact hb)
theorem byte_mem {s : ByteArray} {k : Nat} (hk : k < s.size) : s[k] ∈ s.data.toList := by
  have : s[k] = s.data.toList[k]'(by simpa using hk) := rfl
  rw [this]
  exact List.getElem_mem _
theorem neI {a b : UInt8} (h : a ≠ b) : ((a.toNat : Int) != (b.toNat : Int)) = true := by
  have : (a.toNat : Int) ≠ (b.toNat : Int) := fun e => h (UInt8.toNat_inj.1 (by omega))
  simpa using this
theorem cnt_eq {n : Nat} (h3 : 3 ≤ n) (h7 : n ≤ 7) : (n : Int) * ((n : Int) - 1) * ((n : Int) - 2) / 6 = (cnt n : Nat) ∧ (0 ≤ (n : Int) * ((n : Int) - 1) ∧ (n : Int) * ((n : Int) - 1) ≤ 42) ∧ 0 ≤ (n : Int) * ((n : Int) - 1) * ((n : Int) - 2) ∧ (n : Int) * ((n : Int) - 1) * ((n : Int) - 2) ≤ 210 := by
  rcases (by omega : n = 3 ∨ n = 4 ∨ n = 5 ∨ n = 6 ∨ n = 7) with rfl | rfl | rfl | rfl | rfl <;> decide
set_option maxRecDepth 100000 in
theorem specAre_out (n : Int) (s : ByteArray) (h : inB n 3 7 = false) (w : World) :
    Calls Tryz.prog 137 #[sg n s] w fun e w' => e = .returned (.bool false) ∧ Below w.heap.size w w' := by
  go_enter Tryz.func137, Tryz.ntmps137
  go_wp2_with fail
  refine (l1In_any _ _ _ _).mono ?_
  rintro e w' ⟨rfl, rfl⟩
  go_wp2
  go_ret
  exact ⟨rfl, by go_grown⟩
set_option maxRecDepth 100000 in
theorem specAre_len (n : Nat) (s : ByteArray) (h3 : 3 ≤ n) (h7 : n ≤ 7) (_ : s.size ≤ 9223372036854775807) (hl : s.size ≠ cnt n) (w : World) :
    Calls Tryz.prog 137 #[sg n s] w fun e w' => e = .returned (.bool false) ∧ Below w.heap.size w w' := by
  obtain ⟨hq, ⟨q1, q2⟩, q3, q4⟩ := cnt_eq h3 h7
  have hB : inB n 3 7 = true := inB_yes (by omega) (by omega)
  have hne : ((s.size : Int) != (n : Int) * ((n : Int) - 1) * ((n : Int) - 2) / 6) = true := by rw [hq]; simp; omega
  go_enter Tryz.func137, Tryz.ntmps137
  go_wp2_with fail
  refine (l1In_any _ _ _ _).mono ?_
  rintro e w' ⟨rfl, rfl⟩
  go_wp2
  go_ret
  exact ⟨rfl, by go_grown⟩
set_option maxHeartbeats 400000 in
set_option maxRecDepth 100000 in
theorem specAre_good (n : Nat) (s : ByteArray) (h3 : 3 ≤ n) (h7 : n ≤ 7) (hl : s.size = cnt n) (w : World) :
    Calls Tryz.prog 137 #[sg n s] w fun e w' => e = .returned (.bool (arB n s.data.toList)) ∧ Below w.heap.size w w' := by
  obtain ⟨hq, ⟨q1, q2⟩, q3, q4⟩ := cnt_eq h3 h7
  have hB : inB n 3 7 = true := inB_yes (by omega) (by omega)
  have hne : ((s.size : Int) != (n : Int) * ((n : Int) - 1) * ((n : Int) - 2) / 6) = false := by rw [hq]; simp; omega
  have hs35 : s.size ≤ 35 := by rw [hl]; exact cnt_le h7
  have HY : Hid (okTo s s.size → arB n s.data.toList = true) := Lib.hid (fun h => arB_of (by omega) (by omega) (by simpa using hl) (okTo_all h))
  have HN : Hid (∀ k (hk : k < s.size), s[k] ≠ 43 → s[k] ≠ 45 → arB n s.data.toList = false) := Lib.hid (fun k hk h1 h2 => arB_no (.inr (.inr ⟨_, byte_mem hk, h1, h2⟩)))
  go_enter Tryz.func137, Tryz.ntmps137
  go_wp2_with fail
  refine (l1In_any _ _ _ _).mono ?_
  rintro e w' ⟨rfl, rfl⟩
  go_wp2
  clear hq q1 q2 q3 q4 hne hB hl
  go_loop [3] (fun i => ∃ k : Nat, k ≤ s.size ∧ i = .int .i64 k ∧ Hid (okTo s k)) (fun i => s.size - (intOf i).toNat)
  case atStart => exact ⟨0, Nat.zero_le _, rfl, Lib.hid (okTo_zero s)⟩
  case round =>
    obtain ⟨k, hk, rfl, HK⟩ := hrel
    by_cases hlt : k < s.size
    · by_cases c1 : s[k] = 43
      · have HS := Lib.hid (okTo_step HK.out hlt (.inl c1))
        have ht : ((s[k].toNat : Int) != 43) = false := by rw [c1]; rfl
        clear c1
        go_wp2
        go_round
        case rel => exact ⟨k + 1, by omega, by go_num, HS⟩
        case measure => simp only [intOf]; omega
      · have ht : ((s[k].toNat : Int) != 43) = true := neI (b := 43) c1
        by_cases c2 : s[k] = 45
        · have HS := Lib.hid (okTo_step HK.out hlt (.inr c2))
          have ht2 : ((s[k].toNat : Int) != 45) = false := by rw [c2]; rfl
          clear c1 c2
          go_wp2
          go_round
          case rel => exact ⟨k + 1, by omega, by go_num, HS⟩
          case measure => simp only [intOf]; omega
        · have ht2 : ((s[k].toNat : Int) != 45) = true := neI (b := 45) c2
          have HE := Lib.hid (HN.out k hlt c1 c2)
          clear c1 c2
          go_wp2
          go_ret
          exact ⟨ret_bool HE.out.symm, by go_grown⟩
    · obtain rfl : k = s.size := by omega
      have HE := Lib.hid (HY.out HK.out)
      go_wp2
      go_ret
      exact ⟨ret_bool HE.out.symm, by go_grown⟩
theorem specAre_sg (n : Int) (s : ByteArray) (hs : s.size ≤ 9223372036854775807) (w : World) :
    Calls Tryz.prog 137 #[sg n s] w fun e w' => e = .returned (.bool (arB n s.data.toList)) ∧ Below w.heap.size w w' := by
  by_cases h : 3 ≤ n ∧ n ≤ 7
  · obtain ⟨m, rfl⟩ : ∃ m : Nat, n = m := ⟨n.toNat, by omega⟩
    by_cases hl : s.size = cnt m
    · exact specAre_good m s (by omega) (by omega) hl w
    · rw [arB_no (.inr (.inl (by simpa using hl)))]
      exact specAre_len m s (by omega) (by omega) hs hl w
  · rw [arB_no (.inl h)]
    exact specAre_out n s (by unfold inB; simp; omega) w
end Go.Proofs.YtinlnafkmoabbaaGreatDoor.Sg
/- Areas and turns of three points by value, as impl and spec reckon them; a law's point as impl's. -/
namespace Go.Proofs.YtinlnafkmoabbaaGreatDoor.Pt
open Go.RowKit

/-- Block B holds a point. -/
def PtAt (w : World) (B o : Nat) (x y : Int) : Prop := w.cell? ⟨B, o, none⟩ = some (.int .i64 x) ∧ w.cell? ⟨B, o + 1, none⟩ = some (.int .i64 y)
theorem PtAt.on {w w' : World} {B o C : Nat} {x y : Int} (h : PtAt w B o x y) (hb : Below C w w') (hB : B < C) : PtAt w' B o x y := ⟨by rw [hb.cell hB]; exact h.1, by rw [hb.cell hB]; exact h.2⟩
/-- Three points in three blocks, and in a row behind them. -/
structure Tri (B : Nat) (ax ay bx by_ cx cy : Int) (w : World) : Prop where
  a : PtAt w B 0 ax ay
  b : PtAt w (B + 1) 0 bx by_
  c : PtAt w (B + 1 + 1) 0 cx cy
  ra : PtAt w (B + 1 + 1 + 1) 0 ax ay
  rb : PtAt w (B + 1 + 1 + 1) 2 bx by_
  rc : PtAt w (B + 1 + 1 + 1) 4 cx cy
  lt : B + 1 + 1 + 1 < w.heap.size
theorem Tri.on {B : Nat} {ax ay bx by_ cx cy : Int} {w w' : World} (h : Tri B ax ay bx by_ cx cy w) (hb : Below w.heap.size w w') : Tri B ax ay bx by_ cx cy w' :=
  have := h.lt
  ⟨h.a.on hb (by omega), h.b.on hb (by omega), h.c.on hb (by omega), h.ra.on hb (by omega), h.rb.on hb (by omega), h.rc.on hb (by omega), Nat.lt_of_lt_of_le h.lt hb.size⟩
end Go.Proofs.YtinlnafkmoabbaaGreatDoor.Pt
/- Turns of three points by value; a law's point as impl's. -/
namespace Go.Proofs.YtinlnafkmoabbaaGreatDoor.Pt
open Go.RowKit
set_option maxRecDepth 100000 in
theorem bit_yes (w : World) : Calls Tryz.prog 82 #[.bool true] w fun e w' => e = .returned (.int .i64 1) ∧ w = w' := by
  go_enter Tryz.func82, Tryz.ntmps82
  go_wp2
  go_ret
  exact ⟨rfl, rfl⟩
set_option maxRecDepth 100000 in
theorem bit_no (w : World) : Calls Tryz.prog 82 #[.bool false] w fun e w' => e = .returned (.int .i64 0) ∧ w = w' := by
  go_enter Tryz.func82, Tryz.ntmps82
  go_wp2
  go_ret
  exact ⟨rfl, rfl⟩
end Go.Proofs.YtinlnafkmoabbaaGreatDoor.Pt
