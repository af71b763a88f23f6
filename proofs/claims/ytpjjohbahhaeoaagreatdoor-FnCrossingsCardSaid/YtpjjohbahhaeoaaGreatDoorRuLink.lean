/- What the promise on the exchange rule says, on plain signs: reversing keeps the rule; so many sets leave no circuit of one kind. -/
import Derived.Test.YtpjjohbahhaeoaaGreatDoorMgR
import Derived.Test.YtpjjohbahhaeoaaGreatDoorRuCount
namespace Go.Proofs.YtpjjohbahhaeoaaGreatDoor.Sg
open Go.RowKit Pt Rul
def sgB (b : Bool) : Int := if b then -1 else 1
def tOf (n : Nat) (s : List UInt8) (i j k : Nat) : Bool := decide (sgnF (lookS n s) i j k = -1)
theorem sg_tOf {n : Nat} {s : List UInt8} (h : arB n s = true) {i j k : Nat} (h1 : i < j) (h2 : j < k) (hk : k < n) : sgnF (lookS n s) i j k = sgB (tOf n s i j k) := by
  unfold sgB tOf
  rcases sgn_one h (show i < n by omega) (show j < n by omega) hk (show i ≠ j by omega) (show j ≠ k by omega) (show i ≠ k by omega) with e | e <;> rw [e] <;> rfl
def par (a b : Nat) : Bool := decide (b < a)
/-- The sign of three of which the last two are in order, by the three in order. -/
theorem sgnF_sort (f : Int → Int → Int → Int) {a b c : Nat} (hbc : b < c) (h1 : a ≠ b) (h2 : a ≠ c) : sgnF f a b c = sgB (par a b) * sgB (par a c) * f (lo a b c : Nat) (a + b + c - lo a b c - hi a b c : Nat) (hi a b c : Nat) := by
  rcases (by omega : a < b ∨ (b < a ∧ a < c) ∨ c < a) with h | ⟨h, h'⟩ | h
  · have e1 : lo a b c = a := by unfold lo; omega
    have e3 : hi a b c = c := by unfold hi; omega
    have e2 : a + b + c - lo a b c - hi a b c = b := by rw [e1, e3]; omega
    rw [e2, e1, e3, sgnF_of (srt_asc (i := a) (j := b) (k := c) (by omega) (by omega))]
    have p1 : par a b = false := by unfold par; simp; omega
    have p2 : par a c = false := by unfold par; simp; omega
    rw [p1, p2]; unfold sgB; simp
  · have e1 : lo a b c = b := by unfold lo; omega
    have e3 : hi a b c = c := by unfold hi; omega
    have e2 : a + b + c - lo a b c - hi a b c = a := by rw [e1, e3]; omega
    have hs : srt (a : Int) b c = ((b : Int), (a : Int), (c : Int), -1) := by
      unfold srt
      have g1 : (b : Int) < a := by omega
      have g2 : ¬ (c : Int) < a := by omega
      have g3 : ¬ (a : Int) < b := by omega
      simp [g1, g2, g3]
    rw [e2, e1, e3, sgnF_of hs]
    have p1 : par a b = true := by unfold par; simp; omega
    have p2 : par a c = false := by unfold par; simp; omega
    rw [p1, p2]; unfold sgB; simp
  · have e1 : lo a b c = b := by unfold lo; omega
    have e3 : hi a b c = a := by unfold hi; omega
    have e2 : a + b + c - lo a b c - hi a b c = c := by rw [e1, e3]; omega
    have hs : srt (a : Int) b c = ((b : Int), (c : Int), (a : Int), 1) := by
      unfold srt
      have g1 : (b : Int) < a := by omega
      have g2 : (c : Int) < a := by omega
      have g3 : ¬ (c : Int) < b := by omega
      simp [g1, g2, g3]
    rw [e2, e1, e3, sgnF_of hs]
    have p1 : par a b = true := by unfold par; simp; omega
    have p2 : par a c = true := by unfold par; simp; omega
    rw [p1, p2]; unfold sgB; simp
theorem sgnF_par {n : Nat} {s : List UInt8} (h : arB n s = true) {a b c : Nat} (ha : a < n) (hbc : b < c) (hc : c < n) (h1 : a ≠ b) (h2 : a ≠ c) : sgnF (lookS n s) a b c = sgB (par a b) * sgB (par a c) * sgB (tS (tOf n s) a b c) := by
  have e1 : lo a b c < a + b + c - lo a b c - hi a b c ∧ a + b + c - lo a b c - hi a b c < hi a b c ∧ hi a b c < n := by unfold lo hi; omega
  rw [sgnF_sort _ hbc h1 h2, ← sgnF_plain (f := lookS n s) e1.1 e1.2.1, sg_tOf h e1.1 e1.2.1 e1.2.2]
  rfl
theorem brk_bools : ∀ p q r s x1 x2 x3 x4 x5 x6 : Bool, (((sgB p * sgB q * sgB x1) * (sgB r * sgB s * sgB x2) == (sgB p * sgB s * sgB x3) * (sgB q * sgB r * sgB x4)) && ((sgB p * sgB q * sgB x1) * (sgB r * sgB s * sgB x2) == -(sgB p * sgB r * sgB x5) * (sgB q * sgB s * sgB x6))) = (((x1 ^^ x2) == (x3 ^^ x4)) && ((x1 ^^ x2) == !(x5 ^^ x6))) := by decide +kernel
theorem brk_viol {n : Nat} {s : List UInt8} (h : arB n s = true) {a b c d e : Nat} (hv : Val n a b c d e) : brk (sgnF (lookS n s)) a b c d e = violT (tOf n s) a b c d e := by
  obtain ⟨h1, h2, h3, h4, h5, h6, h7, h8, h9⟩ := hv
  unfold brk violT
  rw [sgnF_par h h1 h2 (by omega) h6 h7, sgnF_par h h1 h4 (by omega) h8 h9, sgnF_par h h1 (show b < e by omega) (by omega) h6 h9, sgnF_par h h1 h3 (by omega) h7 h8, sgnF_par h h1 (show b < d by omega) (by omega) h6 h8, sgnF_par h h1 (show c < e by omega) (by omega) h7 h9]
  exact brk_bools _ _ _ _ _ _ _ _ _ _
theorem ok_keeps {n : Nat} {s : List UInt8} (h : arB n s = true) : okB (sgnF (lookS n s)) n = true ↔ Keeps n (tOf n s) := by
  obtain ⟨_, h7, -, -⟩ := arB_yes h
  rw [okB_iff (by omega)]
  constructor
  · intro hk a b c d e h1 h2 h3 h4 h5 h6 h7 h8 h9
    rw [← brk_viol h ⟨h1, h2, h3, h4, h5, h6, h7, h8, h9⟩]
    exact hk a b c d e ⟨h1, h2, h3, h4, h5, h6, h7, h8, h9⟩
  · intro hk a b c d e hv
    rw [brk_viol h hv]
    obtain ⟨h1, h2, h3, h4, h5, h6, h7, h8, h9⟩ := hv
    exact hk a b c d e h1 h2 h3 h4 h5 h6 h7 h8 h9
theorem odd3_bits (set i j k : Nat) : odd3 set i j k = (set.testBit i ^^ set.testBit j ^^ set.testBit k) := by
  unfold odd3
  rw [Nat.testBit_eq_decide_div_mod_eq, Nat.testBit_eq_decide_div_mod_eq, Nat.testBit_eq_decide_div_mod_eq, Nat.shiftRight_eq_div_pow, Nat.shiftRight_eq_div_pow, Nat.shiftRight_eq_div_pow]
  generalize set / 2 ^ i = a
  generalize set / 2 ^ j = b
  generalize set / 2 ^ k = c
  rcases Nat.mod_two_eq_zero_or_one a with ha | ha <;> rcases Nat.mod_two_eq_zero_or_one b with hb | hb <;> rcases Nat.mod_two_eq_zero_or_one c with hc | hc <;> rw [ha, hb, hc, Nat.add_mod, Nat.add_mod a b, ha, hb, hc] <;> rfl
theorem pos_bools : ∀ x y z u a b c d : Bool,
    (sgB (x ^^ (b ^^ c ^^ d)) * sgB (x ^^ (b ^^ c ^^ d)) == 1 && (-(sgB (y ^^ (a ^^ c ^^ d))) * sgB (x ^^ (b ^^ c ^^ d)) == 1 && (sgB (z ^^ (a ^^ b ^^ d)) * sgB (x ^^ (b ^^ c ^^ d)) == 1 && -(sgB (u ^^ (a ^^ b ^^ c))) * sgB (x ^^ (b ^^ c ^^ d)) == 1))) =
    (((x ^^ a) && !(y ^^ b) && (z ^^ c) && !(u ^^ d)) || (!(x ^^ a) && (y ^^ b) && !(z ^^ c) && (u ^^ d))) := by decide +kernel
theorem rev_sgB {n : Nat} {s : List UInt8} (h : arB n s = true) (set : Nat) {i j k : Nat} (h1 : i < j) (h2 : j < k) (hk : k < n) : sgnF (revF set (lookS n s)) i j k = sgB (tOf n s i j k ^^ (set.testBit i ^^ set.testBit j ^^ set.testBit k)) := by
  rw [sgnF_rev h1 h2, ← sgnF_plain (f := lookS n s) h1 h2, sg_tOf h h1 h2 hk, odd3_bits]
  cases tOf n s i j k <;> cases (set.testBit i ^^ set.testBit j ^^ set.testBit k) <;> rfl
theorem pos_blk {n : Nat} {s : List UInt8} (h : arB n s = true) (set : Nat) {a b c d : Nat} (h1 : a < b) (h2 : b < c) (h3 : c < d) (h4 : d < n) : posC (sgnF (revF set (lookS n s))) a b c d = blkT (tOf n s) set (a, b, c, d) := by
  unfold posC cir blkT
  simp only []
  rw [rev_sgB h set h2 h3 h4, rev_sgB h set (show a < c by omega) h3 h4, rev_sgB h set h1 (show b < d by omega) h4, rev_sgB h set h1 h2 (by omega)]
  exact pos_bools _ _ _ _ _ _ _ _
theorem quads_has0 : ((List.range 7).all fun n => (List.range n).all fun d => (List.range d).all fun c => (List.range c).all fun b => (List.range b).all fun a => decide (n < 3) || (quads n).contains (a, b, c, d)) = true := by decide +kernel
theorem acS_quads {n : Nat} {s : List UInt8} (h : arB n s = true) (h6 : n ≤ 6) (set : Nat) : acS n s set = !(quads n).any fun q => blkT (tOf n s) set q := by
  obtain ⟨h3, -⟩ := arB_yes h
  have h3 : 3 ≤ n := by omega
  have key : acS n s set = true ↔ ((quads n).any fun q => blkT (tOf n s) set q) = false := by
    unfold acS
    rw [acB_iff (by omega), List.any_eq_false]
    constructor
    · intro hk q hq
      obtain ⟨l1, l2, l3, l4⟩ := quads_lt h3 h6 hq
      have := hk q.1 q.2.1 q.2.2.1 q.2.2.2 l1 l2 l3 l4
      rw [pos_blk h set l1 l2 l3 l4] at this
      rw [this]; simp
    · intro hk a b c d l1 l2 l3 l4
      rw [pos_blk h set l1 l2 l3 l4]
      have hq : (a, b, c, d) ∈ quads n := by
        have := Rul.all_lt (Rul.all_lt (Rul.all_lt (Rul.all_lt (Rul.all_lt quads_has0 (show n < 7 by omega)) l4) l3) l2) l1
        simp only [Bool.or_eq_true, decide_eq_true_eq, List.contains_iff_mem] at this
        rcases this with h0 | h0
        · omega
        · exact h0
      simpa using hk _ hq
  cases ha : acS n s set
  · cases hb : ((quads n).any fun q => blkT (tOf n s) set q)
    · rw [key.2 hb] at ha; cases ha
    · rfl
  · rw [key.1 ha]; rfl
/-- As many acyclic sets as n (n - 1) + 2. -/
theorem setsZ_many {n : Nat} {s : List UInt8} (h : matB n s = true) (h6 : n ≤ 6) : (setsZ n s).length = n * (n - 1) + 2 := by
  have har := matB_ar h
  obtain ⟨h3, -⟩ := arB_yes har
  have hk : Keeps n (tOf n s) := (ok_keeps har).1 (by unfold matB at h; simpa using (Bool.and_eq_true_iff.1 h).2)
  rw [setsZ_yes h, ← many_all (by omega) h6 hk]
  unfold setsTo many
  rw [List.length_map]
  exact filter_congr_lt fun S _ => acS_quads har h6 S
/-- Acyclic signs: the empty set is among the sets. -/
theorem acS_zero {n : Nat} {s : List UInt8} (h : arB n s = true) : acS n s 0 = acB (sgnF (lookS n s)) n := by
  obtain ⟨_, h7, -, -⟩ := arB_yes h
  unfold acS
  refine acB_congr (by omega) fun i j k h1 h2 _ => ?_
  rw [sgnF_rev h1 h2, sgnF_plain h1 h2, odd3_bits]
  simp
theorem setsZ_zero {n : Nat} {s : List UInt8} (h : matB n s = true) (ha : acB (sgnF (lookS n s)) n = true) : (0 : Int) ∈ setsZ n s := by
  rw [setsZ_yes h]
  unfold setsTo
  refine List.mem_map.2 ⟨0, List.mem_filter.2 ⟨List.mem_range.2 (Nat.two_pow_pos n), by rw [acS_zero (matB_ar h)]; exact ha⟩, rfl⟩
theorem violT_same {n : Nat} {t t' : Nat → Nat → Nat → Bool} (ht : ∀ i j k, i < j → j < k → k < n → t i j k = t' i j k) {a b c d e : Nat} (hv : Val n a b c d e) : violT t a b c d e = violT t' a b c d e := by
  obtain ⟨h1, h2, h3, h4, h5, h6, h7, h8, h9⟩ := hv
  have hs : ∀ x y, x < y → y < n → a ≠ x → a ≠ y → tS t a x y = tS t' a x y := fun x y g1 g2 g3 g4 => by
    have e1 : lo a x y < a + x + y - lo a x y - hi a x y ∧ a + x + y - lo a x y - hi a x y < hi a x y ∧ hi a x y < n := by unfold lo hi; omega
    exact ht _ _ _ e1.1 e1.2.1 e1.2.2
  unfold violT
  rw [hs b c h2 (by omega) h6 h7, hs d e h4 h5 h8 h9, hs b e (by omega) h5 h6 h9, hs c d h3 (by omega) h7 h8, hs b d (by omega) (by omega) h6 h8, hs c e (by omega) h5 h7 h9]
/-- Reversing keeps the rule. -/
theorem mat_rev {n : Nat} {s : List UInt8} (h : arB n s = true) (set : Nat) : matB n (text3 n (rvF n s set)) = matB n s := by
  obtain ⟨h3, h7, -, -⟩ := arB_yes h
  have h3 : 3 ≤ n := by omega
  have h7 : n ≤ 7 := by omega
  have har := arB_text h3 h7 (rvF n s set)
  have ht : ∀ i j k, i < j → j < k → k < n → tOf n (text3 n (rvF n s set)) i j k = flipT set (tOf n s) i j k := fun i j k h1 h2 hk => by
    have h0 := sgn_one h (show i < n by omega) (show j < n by omega) hk (show i ≠ j by omega) (show j ≠ k by omega) (show i ≠ k by omega)
    show decide (sgnF (lookS n (text3 n (rvF n s set))) i j k = -1) = (decide (sgnF (lookS n s) i j k = -1) ^^ (set.testBit i ^^ set.testBit j ^^ set.testBit k))
    rw [sgnF_text h3 h7 h1 h2 hk (by unfold rvF; split <;> omega)]
    unfold rvF
    rw [odd3_bits]
    rcases h0 with e | e <;> rw [e] <;> cases (set.testBit i ^^ set.testBit j ^^ set.testBit k) <;> rfl
  have key : Keeps n (tOf n (text3 n (rvF n s set))) ↔ Keeps n (tOf n s) := by
    rw [← keeps_flip (T := set) (t := tOf n s)]
    unfold Keeps
    constructor
    · intro hk a b c d e h1 h2 h3 h4 h5 h6 h7 h8 h9
      rw [← violT_same ht ⟨h1, h2, h3, h4, h5, h6, h7, h8, h9⟩]
      exact hk a b c d e h1 h2 h3 h4 h5 h6 h7 h8 h9
    · intro hk a b c d e h1 h2 h3 h4 h5 h6 h7 h8 h9
      rw [violT_same ht ⟨h1, h2, h3, h4, h5, h6, h7, h8, h9⟩]
      exact hk a b c d e h1 h2 h3 h4 h5 h6 h7 h8 h9
  unfold matB
  rw [har, h, Int.toNat_natCast]
  simp only [Bool.true_and]
  have k1 := ok_keeps har
  have k2 := ok_keeps h
  cases ha : okB (sgnF (lookS n (text3 n (rvF n s set)))) n
  · cases hb : okB (sgnF (lookS n s)) n
    · rfl
    · rw [k1.2 (key.2 (k2.1 hb))] at ha; cases ha
  · exact (k2.2 (key.1 (k1.1 ha))).symm
end Go.Proofs.YtpjjohbahhaeoaaGreatDoor.Sg
