/- Several texts in one: HuIn, HuExt, HuLay, HuSpec, HuLays. -/
import Derived.Test.YtpjjohbahhaeoaaDoorHuMath
import Derived.Test.YtpjjohbahhaeoaaDoorMgR
import Derived.Test.YtpjjohbahhaeoaaDoorMgO
/- Hulls, as spec tells them: l6Has, l6In. -/
namespace Go.Proofs.YtpjjohbahhaeoaaDoor.Sg
open Go.RowKit Pt NewI
theorem bits_andH (a : Nat) (ha : a < 1024) : bits BinOp.and IntKind.i64 (a : Int) 1 = ((a % 2 : Nat) : Int) := by
  show IntKind.i64.wrap ((BitVec.ofInt 64 a &&& BitVec.ofInt 64 (1 : Nat)).toNat : Int) = _
  rw [BitVec.toNat_and, BitVec.ofInt_natCast, BitVec.ofInt_natCast, BitVec.toNat_ofNat, BitVec.toNat_ofNat, Nat.mod_eq_of_lt (by omega), Nat.mod_eq_of_lt (by omega), Nat.and_one_is_mod, IntKind.wrap_i64]
  omega
theorem has_bits (set k : Nat) (hs : set < 1024) : bits BinOp.and IntKind.i64 ((set : Int) / 2 ^ k) 1 = if set.testBit k = true then 1 else 0 := by
  rw [← shr_div, bits_andH _ (odd3_le set hs k), Nat.shiftRight_eq_div_pow, Nat.testBit_eq_decide_div_mod_eq]
  by_cases h : set / 2 ^ k % 2 = 1
  · rw [h]; simp
  · have : set / 2 ^ k % 2 = 0 := by omega
    rw [this]; simp
set_option maxRecDepth 100000 in
theorem l6Has_any (set k : Nat) (hs : set < 1024) (hk : k < 64) (w : World) :
    Calls Tryd.prog 32 #[.int .i64 set, .int .i64 k] w fun e w' => e = .returned (.bool (set.testBit k)) ∧ w = w' := by
  have hb := has_bits set k hs
  cases ht : set.testBit k
  all_goals
    rw [ht] at hb
    simp only [if_true, Bool.false_eq_true, if_false] at hb
    clear ht
    go_enter Tryd.func32, Tryd.ntmps32
    go_wp2
    go_ret
    exact ⟨rfl, rfl⟩
/-- Do three elements of a set hold p inside? -/
def hitT (F : Int → Int → Int → Int) (set p : Nat) (t : T3) : Bool := set.testBit t.1 && (set.testBit t.2.1 && (set.testBit t.2.2 && isIn (cir F p t.1 t.2.1 t.2.2)))
def inT (F : Int → Int → Int → Int) (n set p : Nat) : Bool := (threes n).any (hitT F set p)
def inU (F : Int → Int → Int → Int) (n set p i j k : Nat) : Bool := (upto n i j k).any (hitT F set p)
section
variable {F : Int → Int → Int → Int} {n set p i j k : Nat}
theorem inU_zero (h7 : n ≤ 7) : inU F n set p 0 (0 + 1) (0 + 1 + 1) = false := by unfold inU; rw [upto_zero n (by omega)]; rfl
theorem inU_step (h7 : n ≤ 7) (h1 : i < j) (h2 : j < k) (h3 : k < n) : inU F n set p i j (k + 1) = (inU F n set p i j k || hitT F set p (i, j, k)) := by
  unfold inU; rw [upto_step h7 h1 h2 h3, List.any_append]; simp
theorem inU_inner (h7 : n ≤ 7) (h1 : i < j) (h2 : j < n) : inU F n set p i j n = inU F n set p i (j + 1) (j + 1 + 1) := by unfold inU; rw [upto_inner h7 h1 h2]
theorem inU_mid (h7 : n ≤ 7) (h1 : i < n) : inU F n set p i n (n + 1) = inU F n set p (i + 1) (i + 1 + 1) (i + 1 + 1 + 1) := by unfold inU; rw [upto_mid h7 h1]
theorem inU_end (h7 : n ≤ 7) : inU F n set p n (n + 1) (n + 1 + 1) = inT F n set p := by unfold inU inT; rw [upto_end h7]
theorem inU_sub (h : inU F n set p i j k = true) : inT F n set p = true := by
  unfold inU inT at *
  obtain ⟨t, ht, hh⟩ := List.any_eq_true.1 h
  exact List.any_eq_true.2 ⟨t, (List.mem_filter.1 ht).1, hh⟩
end
end Go.Proofs.YtpjjohbahhaeoaaDoor.Sg
/- Hulls, as spec tells them: l6Extreme, l6List. -/
namespace Go.Proofs.YtpjjohbahhaeoaaDoor.Sg
open Go.RowKit Pt NewI
/-- The extreme elements of a set among the first. -/
def extTo (F : Int → Int → Int → Int) (n set : Nat) : Nat → Nat
  | 0 => 0
  | p + 1 => extTo F n set p + (if (set.testBit p && !inT F n set p) = true then 2 ^ p else 0)
def extS (F : Int → Int → Int → Int) (n set : Nat) : Nat := extTo F n set n
theorem extTo_lt (F : Int → Int → Int → Int) (n set : Nat) : ∀ p, extTo F n set p < 2 ^ p
  | 0 => by unfold extTo; omega
  | p + 1 => by
    have := extTo_lt F n set p
    unfold extTo
    rw [Nat.pow_succ]
    split <;> omega
theorem extTo_bit (F : Int → Int → Int → Int) (n set : Nat) : ∀ p j, (extTo F n set p).testBit j = (decide (j < p) && (set.testBit j && !inT F n set j))
  | 0, j => by unfold extTo; simp
  | p + 1, j => by
    have hlt := extTo_lt F n set p
    have ih := extTo_bit F n set p j
    unfold extTo
    by_cases hc : (set.testBit p && !inT F n set p) = true
    · rw [if_pos hc, Nat.add_comm]
      rcases Nat.lt_trichotomy j p with h | h | h
      · rw [Nat.testBit_two_pow_add_gt h, ih]
        simp [h, Nat.lt_succ_of_lt h]
      · subst h
        rw [Nat.testBit_two_pow_add_eq, ih, hc]
        simp
      · rw [Nat.testBit_lt_two_pow (Nat.lt_of_lt_of_le (show 2 ^ p + extTo F n set p < 2 ^ (p + 1) by rw [Nat.pow_succ]; omega) (Nat.pow_le_pow_right (by omega) (by omega)))]
        simp; omega
    · rw [if_neg hc, Nat.add_zero, ih]
      by_cases h : j = p
      · subst h; simp at hc ⊢; exact hc
      · have : decide (j < p + 1) = decide (j < p) := by simp; omega
        rw [this]
theorem pow_le7 {p : Nat} (h : p ≤ 7) : 2 ^ p ≤ 128 := by
  have := Nat.pow_le_pow_right (n := 2) (by omega) h
  omega
end Go.Proofs.YtpjjohbahhaeoaaDoor.Sg
/- Hulls on plain functions: a set that is not empty has an extreme element; the layers. -/
namespace Go.Proofs.YtpjjohbahhaeoaaDoor.Sg
/-- A set of elements below n that is not empty has an extreme element. -/
theorem ext_some {n : Nat} {s : List UInt8} (h : aciB n s = true) {set : Nat} (h0 : set ≠ 0) (hlt : set < 2 ^ n) : ∃ p, p < n ∧ set.testBit p = true ∧ inT (sgnF (lookS n s)) n set p = false := by
  have h7 := (aciB_n h).2
  have hb : ∃ i, set.testBit i = true := Nat.exists_testBit_of_ne_zero h0
  obtain ⟨i, hi⟩ := hb
  have hin : i < n := by
    rcases Nat.lt_or_ge i n with h1 | h1
    · exact h1
    · rw [Nat.testBit_lt_two_pow (Nat.lt_of_lt_of_le hlt (Nat.pow_le_pow_right (by omega) h1))] at hi; cases hi
  obtain ⟨p, hp, hout⟩ := some_out h ((List.range n).filter fun k => set.testBit k) (fun e => by
    have : i ∈ (List.range n).filter fun k => set.testBit k := List.mem_filter.2 ⟨List.mem_range.2 hin, hi⟩
    rw [e] at this; exact absurd this (by simp))
  obtain ⟨p1, p2⟩ := List.mem_filter.1 hp
  refine ⟨p, List.mem_range.1 p1, p2, ?_⟩
  cases ht : inT (sgnF (lookS n s)) n set p
  · rfl
  · exfalso
    unfold inT at ht
    obtain ⟨t, htm, hh⟩ := List.any_eq_true.1 ht
    unfold hitT at hh
    simp only [Bool.and_eq_true] at hh
    obtain ⟨t1, t2, t3, t4⟩ := hh
    obtain ⟨m1, m2, m3⟩ := threes_mem (show n ≤ 7 by omega) htm
    exact hout t.1 t.2.1 t.2.2 (List.mem_filter.2 ⟨List.mem_range.2 (by omega), t1⟩) (List.mem_filter.2 ⟨List.mem_range.2 (by omega), t2⟩) (List.mem_filter.2 ⟨List.mem_range.2 m3, t3⟩) t4
theorem ext_ne {n : Nat} {s : List UInt8} (h : aciB n s = true) {set : Nat} (h0 : set ≠ 0) (hlt : set < 2 ^ n) : extS (sgnF (lookS n s)) n set ≠ 0 := by
  obtain ⟨p, h1, h2, h3⟩ := ext_some h h0 hlt
  have := extTo_bit (sgnF (lookS n s)) n set n p
  rw [h2, h3] at this
  intro e
  unfold extS at e
  rw [e] at this
  simp [h1] at this
theorem ext_sub (F : Int → Int → Int → Int) (n set : Nat) : set &&& extS F n set = extS F n set := by
  refine Nat.eq_of_testBit_eq fun j => ?_
  rw [Nat.testBit_and]
  unfold extS
  rw [extTo_bit]
  cases set.testBit j <;> simp
theorem xor_add0 : ∀ a, a < 128 → ∀ b, b < 128 → (a ^^^ (a &&& b)) + (a &&& b) = a := by decide +kernel
/-- What is left of a set without its extreme elements. -/
def restS (F : Int → Int → Int → Int) (n set : Nat) : Nat := set ^^^ (set &&& extS F n set)
theorem rest_lt {n : Nat} {s : List UInt8} (h : aciB n s = true) {set : Nat} (h0 : set ≠ 0) (hlt : set < 2 ^ n) : restS (sgnF (lookS n s)) n set < set := by
  have h7 := (aciB_n h).2
  have hle : set < 128 := Nat.lt_of_lt_of_le hlt (pow_le7 (by omega))
  have hel : extS (sgnF (lookS n s)) n set < 128 := Nat.lt_of_lt_of_le (extTo_lt (sgnF (lookS n s)) n set n) (pow_le7 (by omega))
  have h1 := xor_add0 set hle _ hel
  have h2 := ext_ne h h0 hlt
  rw [← ext_sub] at h2
  unfold restS
  omega
/-- The layers of a set, k of them at most. -/
def layL (F : Int → Int → Int → Int) (n : Nat) : Nat → Nat → List (List Int)
  | 0, _ => []
  | k + 1, set => if set = 0 then [] else setsTo (extS F n set).testBit 7 :: layL F n k (restS F n set)
theorem layL_zero (F : Int → Int → Int → Int) (n : Nat) : ∀ k, layL F n k 0 = []
  | 0 => rfl
  | _k + 1 => rfl
/-- As many layers as one likes beyond the set itself: the same. -/
theorem layL_more {n : Nat} {s : List UInt8} (h : aciB n s = true) : ∀ k set, set < 2 ^ n → set ≤ k → layL (sgnF (lookS n s)) n k set = layL (sgnF (lookS n s)) n set set
  | 0, set, _, hk => by obtain rfl : set = 0 := by omega
                        rfl
  | k + 1, set, hlt, hk => by
    by_cases h0 : set = 0
    · subst h0; rfl
    · obtain ⟨m, rfl⟩ : ∃ m, set = m + 1 := ⟨set - 1, by omega⟩
      have hr := rest_lt h h0 hlt
      show (if m + 1 = 0 then [] else _ :: layL _ n k (restS _ n (m + 1))) = (if m + 1 = 0 then [] else _ :: layL _ n m (restS _ n (m + 1)))
      rw [layL_more h k _ (by omega) (by omega), layL_more h m _ (by omega) (by omega)]
termination_by k => k
theorem bits_andNot (a b : Nat) (ha : a < 1024) (hb : b < 1024) : bits BinOp.andNot IntKind.i64 (a : Int) (b : Int) = ((a ^^^ (a &&& b) : Nat) : Int) := by
  have hl : a ^^^ (a &&& b) < 1024 := Nat.xor_lt_two_pow (n := 10) ha (Nat.and_lt_two_pow (n := 10) a hb)
  show IntKind.i64.wrap ((BitVec.ofInt 64 a &&& ~~~ BitVec.ofInt 64 b).toNat : Int) = _
  have hx : (BitVec.ofInt 64 (a : Int) &&& ~~~ BitVec.ofInt 64 (b : Int)) = BitVec.ofInt 64 (a : Int) ^^^ (BitVec.ofInt 64 (a : Int) &&& BitVec.ofInt 64 (b : Int)) := by
    ext i hi
    simp only [BitVec.getElem_and, BitVec.getElem_not, BitVec.getElem_xor]
    cases (BitVec.ofInt 64 (a : Int))[i] <;> cases (BitVec.ofInt 64 (b : Int))[i] <;> rfl
  rw [hx, BitVec.toNat_xor, BitVec.toNat_and, BitVec.ofInt_natCast, BitVec.ofInt_natCast, BitVec.toNat_ofNat, BitVec.toNat_ofNat, Nat.mod_eq_of_lt (by omega), Nat.mod_eq_of_lt (by omega), IntKind.wrap_i64]
  omega
end Go.Proofs.YtpjjohbahhaeoaaDoor.Sg
/- Hulls, as spec tells them: IsExtreme, HullSize, InHull, l6Left. -/
namespace Go.Proofs.YtpjjohbahhaeoaaDoor.Sg
open Go.RowKit Pt NewI
/-- All elements. -/
def allS (n : Int) : Nat := 2 ^ n.toNat - 1
/-- What IsExtreme answers. -/
def extB (n : Int) (s : List UInt8) (i : Int) : Bool := aciB n s && (inB i 0 (n - 1) && !inT (sgnF (lookS n s)) n.toNat (allS n) i.toNat)
theorem extB_no {n : Int} {s : List UInt8} (h : aciB n s = false) (i : Int) : extB n s i = false := by unfold extB; rw [h]; rfl
theorem extB_out {n : Int} {s : List UInt8} {i : Int} (h : inB i 0 (n - 1) = false) : extB n s i = false := by unfold extB; rw [h]; simp
theorem extB_yes {n i : Nat} {s : List UInt8} (h : aciB n s = true) (hi : inB (i : Int) 0 ((n : Int) - 1) = true) : extB n s i = !inT (sgnF (lookS n s)) n (2 ^ n - 1) i := by unfold extB allS; rw [h, hi]; simp
/-- How the set of all elements is reckoned. -/
structure AllS (m M : Nat) : Prop where
  le : 8 ≤ M ∧ M ≤ 128
  pw : IntKind.i64.wrap ((2 : Int) ^ m) = (M : Int)
  eq : 2 ^ m - 1 = M - 1
  cast : ((M - 1 : Nat) : Int) = (M : Int) - 1
theorem allS_of {m : Nat} (h3 : 3 ≤ m) (h7 : m ≤ 7) : ∃ M : Nat, AllS m M := by
  refine ⟨2 ^ m, ⟨Nat.pow_le_pow_right (n := 2) (by omega) h3, pow_le7 h7⟩, ?_, rfl, ?_⟩
  · have hcast : ((2 ^ m : Nat) : Int) = (2 : Int) ^ m := by push_cast; rfl
    have := pow_le7 h7
    rw [← hcast]
    clear hcast
    generalize 2 ^ m = M at this ⊢
    exact IntWalk.i64_in _ (by omega)
  · have := Nat.pow_le_pow_right (n := 2) (by omega) h3
    omega
/-- What HullSize answers. -/
def hszZ (n : Int) (s : List UInt8) : Int := if aciB n s = true then ((setsTo (extS (sgnF (lookS n s)) n.toNat (allS n)).testBit 7).length : Nat) else -1
/-- What InHull answers. -/
def inHB (n : Int) (s : List UInt8) (set p : Int) : Bool := aciB n s && (inB p 0 (n - 1) && (inB set 0 (allS n) && (!set.toNat.testBit p.toNat && inT (sgnF (lookS n s)) n.toNat set.toNat p.toNat)))
/-- Are all other elements of a set among the first k to the left of two? -/
def leftTo (F : Int → Int → Int → Int) (set a b k : Nat) : Bool := (List.range k).all fun e => e == a || (e == b || (!set.testBit e || !decide (F a b e < 0)))
def leftB (F : Int → Int → Int → Int) (n set a b : Nat) : Bool := leftTo F set a b n
theorem leftTo_succ (F : Int → Int → Int → Int) (set a b k : Nat) : leftTo F set a b (k + 1) = (leftTo F set a b k && (k == a || (k == b || (!set.testBit k || !decide (F a b k < 0))))) := by
  unfold leftTo; rw [List.range_succ, List.all_append]; simp
theorem leftTo_false {F : Int → Int → Int → Int} {set a b k n : Nat} (hk : k < n) (h : (k == a || (k == b || (!set.testBit k || !decide (F a b k < 0)))) = false) : leftTo F set a b n = false := by
  unfold leftTo
  rw [List.all_eq_false]
  exact ⟨k, List.mem_range.2 hk, by simp only [h]; decide⟩
end Go.Proofs.YtpjjohbahhaeoaaDoor.Sg
/- Hulls, as spec tells them: LayersOf. -/
namespace Go.Proofs.YtpjjohbahhaeoaaDoor.Sg
open Go.RowKit Pt NewI NewII
/-- What LayersOf answers. -/
def layZ (n : Int) (s : List UInt8) : List (List Int) := if aciB n s = true then layL (sgnF (lookS n s)) n.toNat (allS n) (allS n) else []
theorem setsTo_ne {x : Nat} (hx : x < 128) (h0 : x ≠ 0) : 0 < (setsTo x.testBit 7).length := by
  obtain ⟨i, hi⟩ := Nat.exists_testBit_of_ne_zero h0
  have hlt : i < 7 := by
    rcases Nat.lt_or_ge i 7 with h | h
    · exact h
    · rw [Nat.testBit_lt_two_pow (Nat.lt_of_lt_of_le hx (Nat.pow_le_pow_right (n := 2) (i := 7) (by omega) h))] at hi; cases hi
  unfold setsTo
  rw [List.length_map]
  exact List.length_pos_of_mem (List.mem_filter.2 ⟨List.mem_range.2 hlt, hi⟩)
end Go.Proofs.YtpjjohbahhaeoaaDoor.Sg
