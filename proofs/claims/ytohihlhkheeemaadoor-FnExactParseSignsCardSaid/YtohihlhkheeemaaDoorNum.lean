/- The plain mathematics of reading an integer: the model's way and the program's way come to the same. -/
import Derived.Lib.ItoaNum
import Derived.Lib.ItoaMem
import Derived.Lib.AtoiAll
namespace Go.Proofs.YtohihlhkheeemaaDoor.Num

def val (acc : Nat) : List UInt8 → Option Nat
  | [] => some acc
  | c :: r => if 48 ≤ c.toNat ∧ c.toNat ≤ 57 then val (10 * acc + (c.toNat - 48)) r else none
def neg (l : List UInt8) : Bool := l.head? == some 45
def body (l : List UInt8) : List UInt8 := if neg l then l.tail else l
def signed (b : Bool) (u : Nat) : Int := if b then -(u : Int) else u
def readS (l : List UInt8) (most : Nat) : Option Int :=
  if (body l).length < 1 ∨ most < (body l).length then none
  else match val 0 (body l) with
    | none => none
    | some u => if Lib.itoa (signed (neg l) u) = l then some (signed (neg l) u) else none
def readI (lo hi : Int) (l : List UInt8) : Option Int :=
  match Lib.atoiAll l with
  | .ok n => if Lib.itoa n = l ∧ lo ≤ n ∧ n ≤ hi then some n else none
  | _ => none

def digit (c : UInt8) : Prop := 48 ≤ c.toNat ∧ c.toNat ≤ 57
theorem val_snoc : ∀ (l : List UInt8) (c : UInt8) (acc u : Nat), val acc l = some u → digit c → val acc (l ++ [c]) = some (10 * u + (c.toNat - 48))
  | [], c, acc, u, h, hc => by
    simp only [val, Option.some.injEq] at h
    subst h
    unfold digit at hc
    simp [val, hc]
  | d :: r, c, acc, u, h, hc => by
    simp only [val] at h
    split at h
    · rename_i hd
      simp only [List.cons_append, val]
      rw [if_pos hd]
      exact val_snoc r c _ u h hc
    · cases h
theorem val_stop : ∀ (l : List UInt8) (c : UInt8) (r : List UInt8) (acc : Nat), ¬ digit c → val acc (l ++ c :: r) = none
  | [], c, r, acc, hc => by
    unfold digit at hc
    simp only [List.nil_append, val]
    rw [if_neg hc]
  | d :: l, c, r, acc, hc => by
    simp only [List.cons_append, val]
    split
    · exact val_stop l c r _ hc
    · rfl
theorem take_snoc (s : ByteArray) (k : Nat) (h : k < s.size) : s.data.toList.take (k + 1) = s.data.toList.take k ++ [s[k]] := by
  rw [List.take_succ_eq_append_getElem (by simpa using h)]; rfl
theorem split_at (s : ByteArray) (k : Nat) (h : k < s.size) : s.data.toList = s.data.toList.take k ++ s[k] :: s.data.toList.drop (k + 1) := by
  conv => lhs; rw [← List.take_append_drop k s.data.toList]
  congr 1
  rw [List.drop_eq_getElem_cons (by simpa using h)]; rfl
theorem val_ge : ∀ (l : List UInt8) (acc u : Nat), val acc l = some u → acc ≤ u
  | [], acc, u, h => by simp only [val, Option.some.injEq] at h; omega
  | c :: r, acc, u, h => by
    simp only [val] at h
    split at h
    · have := val_ge r _ u h; omega
    · cases h
theorem val_lt : ∀ (l : List UInt8) (acc u : Nat), val acc l = some u → u < (acc + 1) * 10 ^ l.length
  | [], acc, u, h => by simp only [val, Option.some.injEq] at h; simp; omega
  | c :: r, acc, u, h => by
    simp only [val] at h
    split at h
    · have h1 := val_lt r _ u h
      have h2 : 10 * acc + (c.toNat - 48) + 1 ≤ (acc + 1) * 10 := by omega
      have h3 := Nat.mul_le_mul_right (10 ^ r.length) h2
      rw [List.length_cons, Nat.pow_succ, Nat.mul_comm (10 ^ r.length) 10, ← Nat.mul_assoc]
      omega
    · cases h
theorem parse_of_val : ∀ (l : List UInt8) (acc u : Nat), val acc l = some u → u < 9223372036854775808 → Lib.parseUint10 acc l = .ok u
  | [], acc, u, h, _ => by simp only [val, Option.some.injEq] at h; simp [Lib.parseUint10, h]
  | c :: r, acc, u, h, hu => by
    simp only [val] at h
    split at h
    · rename_i hc
      have hge := val_ge r _ u h
      simp only [Lib.parseUint10]
      rw [if_pos hc, if_neg (by omega), if_neg (by omega), Nat.mul_comm acc 10]
      exact parse_of_val r _ u h hu
    · cases h
theorem val_of_parse : ∀ (l : List UInt8) (acc u : Nat), Lib.parseUint10 acc l = .ok u → val acc l = some u
  | [], acc, u, h => by simp only [Lib.parseUint10, Lib.NumEnd.ok.injEq] at h; simp [val, h]
  | c :: r, acc, u, h => by
    simp only [Lib.parseUint10] at h
    simp only [val]
    split at h
    · rename_i hc
      rw [if_pos hc]
      split at h
      · cases h
      · split at h
        · cases h
        · rw [Nat.mul_comm acc 10] at h
          exact val_of_parse r _ u h
    · cases h
theorem nDigits_le : ∀ (k u : Nat), u < 10 ^ (k + 1) → Lib.nDigits u ≤ k + 1 := by
  intro k
  induction k with
  | zero => intro u hu; rw [Lib.nDigits_small (by simpa using hu)]; exact Nat.le_refl _
  | succ k ih =>
    intro u hu
    by_cases h10 : u < 10
    · rw [Lib.nDigits_small h10]; omega
    · rw [Lib.nDigits_big h10]
      have := ih (u / 10) (by rw [Nat.pow_succ] at hu; omega)
      omega
theorem dec_head (u : Nat) : ∃ (c : UInt8) (r : List UInt8), Lib.decDigits u = c :: r ∧ 48 ≤ c.toNat ∧ c.toNat ≤ 57 := by
  induction u using Nat.strongRecOn with
  | _ u ih =>
    by_cases h : u < 10
    · exact ⟨UInt8.ofNat (48 + u), [], Lib.decDigits_one h, by simp; omega, by simp; omega⟩
    · obtain ⟨c, r, e, h1, h2⟩ := ih (u / 10) (by omega)
      refine ⟨c, r ++ [UInt8.ofNat (48 + u % 10)], ?_, h1, h2⟩
      rw [Lib.decDigits, dif_neg h, e]; rfl
theorem neg_itoa (n : Int) : neg (Lib.itoa n) = decide (n < 0) := by
  unfold Lib.itoa neg
  by_cases h : n < 0
  · rw [if_pos h]; simp [h]
  · rw [if_neg h]
    obtain ⟨c, r, e, h1, h2⟩ := dec_head n.toNat
    rw [e]
    simp [h]
    intro e; subst e; simp at h1
theorem body_itoa (n : Int) : body (Lib.itoa n) = Lib.decDigits n.natAbs := by
  unfold body
  rw [neg_itoa]
  by_cases h : n < 0
  · simp [h, Lib.itoa]
  · simp [h, Lib.itoa, show n.toNat = n.natAbs by omega]
/-- What Atoi makes of a text that is a numeral, by the model's fold. -/
theorem atoi_itoa (l : List UInt8) (n m : Int) (hl : Lib.itoa m = l) : Lib.atoiAll l = .ok n ↔ ∃ u, Lib.parseUint10 0 (body l) = .ok u ∧ n = signed (neg l) u ∧ (if neg l then u ≤ 9223372036854775808 else u < 9223372036854775808) := by
  subst hl
  have hb := body_itoa m
  have hn := neg_itoa m
  by_cases h : m < 0
  · have e : Lib.itoa m = 45 :: Lib.decDigits m.natAbs := by simp [Lib.itoa, h]
    rw [hb, hn]
    obtain ⟨c, r, ed, _, _⟩ := dec_head m.natAbs
    rw [e]
    have ne : Lib.decDigits m.natAbs ≠ [] := by rw [ed]; simp
    simp only [Lib.atoiAll, h, decide_true, signed, if_true]
    simp only [Lib.parseMag]
    rw [if_pos (Or.inr (by decide)), if_neg ne]
    generalize Lib.parseUint10 0 (Lib.decDigits m.natAbs) = q
    cases q with
    | ok u =>
      simp only [Lib.NumEnd.ok.injEq, exists_eq_left']
      rw [if_neg (by simp)]
      by_cases hu : 9223372036854775808 < u
      · rw [if_pos ⟨by decide, hu⟩]; simp; omega
      · rw [if_neg (by omega)]; simp; omega
    | _ => simp
  · have e : Lib.itoa m = Lib.decDigits m.natAbs := by simp [Lib.itoa, h, show m.toNat = m.natAbs by omega]
    rw [hb, hn]
    obtain ⟨c, r, ed, h1, h2⟩ := dec_head m.natAbs
    rw [e, ed]
    simp only [Lib.atoiAll, h, decide_false, signed]
    have c1 : ¬ c.toNat = 43 := by omega
    have c2 : ¬ c.toNat = 45 := by omega
    simp only [Lib.parseMag, c1, c2]
    simp only [or_self, if_false, false_and]
    rw [if_neg (by simp)]
    generalize Lib.parseUint10 0 (c :: r) = q
    cases q with
    | ok u =>
      simp only [Lib.NumEnd.ok.injEq, exists_eq_left', not_false_eq_true, true_and]
      by_cases hu : 9223372036854775808 ≤ u
      · rw [if_pos hu]; simp; omega
      · rw [if_neg hu]; simp; omega
    | _ => simp

theorem read_same (k : Nat) (hk : k + 1 ≤ 18) (l : List UInt8) (n : Int) : readI (-((10 : Int) ^ (k + 1) - 1)) ((10 : Int) ^ (k + 1) - 1) l = some n ↔ readS l (k + 1) = some n := by
  have hp : (10 : Nat) ^ (k + 1) ≤ 10 ^ 18 := Nat.pow_le_pow_right (by decide) hk
  have hc : ((10 ^ (k + 1) : Nat) : Int) = (10 : Int) ^ (k + 1) := by simp
  constructor
  · intro h
    unfold readI at h
    split at h
    · rename_i m hm
      split at h
      · rename_i hh
        obtain ⟨hi, hlo, hhi⟩ := hh
        injection h with h
        subst h
        obtain ⟨u, hu, hn, _⟩ := (atoi_itoa l m m hi).1 hm
        have hv := val_of_parse _ _ _ hu
        have hb := body_itoa m
        rw [hi] at hb
        have hlen : (body l).length ≤ k + 1 := by
          rw [hb, Lib.decDigits_length]
          exact nDigits_le k _ (by omega)
        have hpos : 1 ≤ (body l).length := by
          rw [hb, Lib.decDigits_length]; exact Lib.nDigits_pos _
        unfold readS
        rw [if_neg (by omega), hv]
        simp only [← hn, hi, if_true]
      · cases h
    · cases h
  · intro h
    unfold readS at h
    split at h
    · cases h
    · rename_i hlen
      split at h
      · cases h
      · rename_i u hv
        split at h
        · rename_i hi
          injection h with h
          subst h
          have hlt := val_lt _ _ _ hv
          have h10 : 10 ^ (body l).length ≤ 10 ^ (k + 1) := Nat.pow_le_pow_right (by decide) (by omega)
          have hu : u < 10 ^ (k + 1) := by omega
          have hm := (atoi_itoa l (signed (neg l) u) _ hi).2 ⟨u, parse_of_val _ _ _ hv (by omega), rfl, by split <;> omega⟩
          unfold readI
          rw [hm]
          simp only []
          have hb1 : -(10 ^ (k + 1) - 1) ≤ signed (neg l) u ∧ signed (neg l) u ≤ 10 ^ (k + 1) - 1 := by
            unfold signed; split <;> omega
          rw [if_pos ⟨hi, hb1⟩]
        · cases h
theorem read_same_pos (k : Nat) (hk : k + 1 ≤ 18) (l : List UInt8) (n : Int) : readI 0 ((10 : Int) ^ (k + 1) - 1) l = some n ↔ readS l (k + 1) = some n ∧ 0 ≤ n := by
  rw [← read_same k hk l n]
  unfold readI
  have hp : (1 : Int) ≤ 10 ^ (k + 1) := by
    have h1 : (1 : Nat) ≤ 10 ^ (k + 1) := Nat.one_le_pow _ _ (by decide)
    have hc : ((10 ^ (k + 1) : Nat) : Int) = (10 : Int) ^ (k + 1) := by simp
    omega
  cases Lib.atoiAll l with
  | ok m =>
    simp only []
    by_cases h1 : Lib.itoa m = l ∧ 0 ≤ m ∧ m ≤ 10 ^ (k + 1) - 1
    · rw [if_pos h1, if_pos ⟨h1.1, by omega, h1.2.2⟩]
      simp only [Option.some.injEq]
      constructor
      · rintro rfl; exact ⟨rfl, h1.2.1⟩
      · exact fun h => h.1
    · rw [if_neg h1]
      constructor
      · intro h; cases h
      · rintro ⟨h, h0⟩
        split at h
        · rename_i h2
          injection h with h
          subst h
          exact absurd ⟨h2.1, h0, h2.2.2⟩ h1
        · cases h
  | _ => simp
end Go.Proofs.YtohihlhkheeemaaDoor.Num
