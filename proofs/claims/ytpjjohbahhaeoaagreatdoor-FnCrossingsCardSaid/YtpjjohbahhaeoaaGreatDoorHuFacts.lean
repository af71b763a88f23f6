/- Hulls on plain functions: what FnHulls asks of them. -/
import Derived.Test.YtpjjohbahhaeoaaGreatDoorMgK
import Derived.Test.YtpjjohbahhaeoaaGreatDoorMgO
namespace Go.Proofs.YtpjjohbahhaeoaaGreatDoor.Sg
open NewII
/-- How many of n elements are to the left of two. -/
def leftN (F : Int → Int → Int → Int) (n i j : Nat) : Nat := (List.range n).countP fun k => k != i && (k != j && decide (0 < F i j k))
theorem two_out : ∀ n, n < 8 → ∀ i, i < n → ∀ j, j < n → i ≠ j → (List.range n).countP (fun k => k != i && k != j) = n - 2 := by decide +kernel
theorem ch_get {r : Nat → Nat → Prop} : ∀ (L : List Nat) (k : Nat), Ch r L → k + 1 < L.length → r (L.getD k 0) (L.getD (k + 1) 0)
  | [], k, _, h => absurd h (by simp)
  | [a], k, _, h => absurd h (by simp)
  | a :: b :: l, 0, hc, _ => hc.1
  | a :: b :: l, k + 1, hc, h => ch_get (b :: l) k hc.2 (by simpa using h)
theorem getD_nat {L : List Nat} {i : Nat} (h : i < L.length) : L.getD i 0 = L[i] := by rw [List.getD_eq_getElem?_getD, List.getElem?_eq_getElem h]; rfl
section
variable {n : Nat} {s : List UInt8}
theorem left_nxt (h : aciB n s = true) {i j : Nat} (hi : i < n) (hj : Nxt n s i j) : leftN (sgnF (lookS n s)) n i j = n - 2 := by
  have h7 := (aciB_n h).2
  obtain ⟨hjn, hne, hall⟩ := hj
  rw [← two_out n (by omega) i hi j hjn (fun e => hne e.symm)]
  unfold leftN
  refine List.countP_congr fun k hk => ?_
  have hkn := List.mem_range.1 hk
  by_cases e1 : k = i
  · simp [e1]
  · by_cases e2 : k = j
    · simp [e2]
    · have := hall k hkn e1 e2
      simp [e1, e2, this]
theorem round_ch (h : aciB n s = true) {R : List Nat} (hR : Round (Nxt n s) (Ext n s) (firstS (extS (sgnF (lookS n s)) n (2 ^ n - 1))) R) (hz : hullZ n s = R.map (fun (x : Nat) => (x : Int))) : Ch (Nxt n s) R := by
  unfold hullZ allS at hz
  rw [if_pos h, Int.toNat_natCast] at hz
  have hc := hullGo_ch _ _ R hz
  have key : ∀ L : List Nat, (∀ x ∈ L, Ext n s x) → Ch (fun x y => nxtTo (sgnF (lookS n s)) n (extS (sgnF (lookS n s)) n (2 ^ n - 1)) (2 ^ n - 1) x n = (y : Int)) L → Ch (Nxt n s) L := fun L => by
    induction L with
    | nil => exact fun _ _ => trivial
    | cons a l ih =>
      intro hm hc
      cases l with
      | nil => trivial
      | cons b l =>
        obtain ⟨q, hq⟩ := nxt_some h (hm a List.mem_cons_self)
        have e := nxtTo_is h (hm a List.mem_cons_self) hq
        have e2 : q = b := by have := hc.1; omega
        exact ⟨e2 ▸ hq, ih (fun x hx => hm x (List.mem_cons_of_mem _ hx)) hc.2⟩
  exact key R hR.ext hc
/-- HullOf's list, element by element. -/
theorem hull_facts (h : aciB n s = true) : ∃ R : List Nat, hullZ n s = zl R ∧ 3 ≤ R.length ∧ ((R.length : Nat) : Int) = hszZ n s ∧ ∀ k, k < R.length →
    extB n s (R.getD k 0 : Nat) = true ∧ R.getD k 0 < n ∧ R.getD ((k + 1) % R.length) 0 < n ∧ R.getD k 0 ≠ R.getD ((k + 1) % R.length) 0 ∧ leftN (sgnF (lookS n s)) n (R.getD k 0) (R.getD ((k + 1) % R.length) 0) = n - 2 ∧ R.getD 0 0 ≤ R.getD k 0 := by
  obtain ⟨R, hR, hz⟩ := hull_round h
  have h3 := round_three h hR
  have hc := round_ch h hR hz
  obtain ⟨hf, hmin⟩ := first_ext h
  have hnd := List.pairwise_iff_getElem.1 hR.nodup
  have hhead : R.getD 0 0 = firstS (extS (sgnF (lookS n s)) n (2 ^ n - 1)) := by
    have := hR.head
    cases R with
    | nil => cases this
    | cons a l => simp only [List.head?_cons, Option.some.injEq] at this; exact this
  have hlt : ∀ k, k < R.length → (k + 1) % R.length < R.length := fun k hk => Nat.mod_lt _ (by omega)
  have hmem : ∀ k, k < R.length → R.getD k 0 ∈ R := fun k hk => by rw [getD_nat hk]; exact List.getElem_mem hk
  have hnx : ∀ k, k < R.length → Nxt n s (R.getD k 0) (R.getD ((k + 1) % R.length) 0) := fun k hk => by
    rcases Nat.lt_or_ge (k + 1) R.length with h1 | h1
    · rw [Nat.mod_eq_of_lt h1]; exact ch_get R k hc h1
    · have e : k + 1 = R.length := by omega
      rw [e, Nat.mod_self]
      obtain ⟨u, hu, hku⟩ := hR.succ _ (hmem k hk)
      obtain ⟨j, hj, rfl⟩ := List.getElem_of_mem hu
      by_cases hj0 : j = 0
      · subst hj0; rw [getD_nat (show 0 < R.length by omega)]; exact hku
      · exfalso
        obtain ⟨i, rfl⟩ : ∃ i, j = i + 1 := ⟨j - 1, by omega⟩
        have h2 := ch_get R i hc hj
        rw [getD_nat hj] at h2
        have he := nxt_inj h (hR.ext _ (hmem k hk)).1 (hR.ext _ (hmem i (by omega))).1 hku h2
        rw [getD_nat hk, getD_nat (show i < R.length by omega)] at he
        exact hnd i k (by omega) hk (by omega) he.symm
  refine ⟨R, hz, h3, ?_, fun k hk => ?_⟩
  · have h1 := round_size h hR
    rw [h1]
    unfold hszZ allS pcS
    rw [if_pos h, Int.toNat_natCast]
  · have he := hR.ext _ (hmem k hk)
    have hn := hnx k hk
    exact ⟨ext_yes h he, he.1, hn.1, fun e => hn.2.1 e.symm, left_nxt h he.1 hn, by rw [hhead]; exact hmin _ he⟩
/-- How many numbers stand in the first k lists. -/
def psum (xss : List (List Int)) (k : Nat) : Nat := ((xss.take k).map List.length).sum
theorem psum_succ (xss : List (List Int)) (k : Nat) (h : k < xss.length) : psum xss (k + 1) = psum xss k + ln xss k := by
  unfold psum ln
  rw [List.take_add_one, List.getElem?_eq_getElem h, List.map_append, List.sum_append, List.getD_eq_getElem?_getD, List.getElem?_eq_getElem h]
  simp
theorem psum_all (xss : List (List Int)) : psum xss xss.length = (xss.map List.length).sum := by unfold psum; rw [List.take_length]
theorem lay_facts (h : aciB n s = true) : (layZ n s).length ≠ 0 ∧ ((ln (layZ n s) 0 : Nat) : Int) = hszZ n s ∧ psum (layZ n s) (layZ n s).length = n := by
  obtain ⟨h3, h7⟩ := aciB_n h
  have hpos := Nat.pow_le_pow_right (n := 2) (i := 1) (j := n) (by omega) (by omega)
  have hs := lay_sum h (2 ^ n - 1) (2 ^ n - 1) (by omega) (Nat.le_refl _)
  rw [pcS_all n (by omega)] at hs
  have e : layZ n s = layL (sgnF (lookS n s)) n (2 ^ n - 1) (2 ^ n - 1) := by unfold layZ allS; rw [if_pos h, Int.toNat_natCast]
  rw [e, psum_all, hs]
  obtain ⟨k, hk⟩ : ∃ k, 2 ^ n - 1 = k + 1 := ⟨2 ^ n - 1 - 1, by omega⟩
  have hl : layL (sgnF (lookS n s)) n (2 ^ n - 1) (2 ^ n - 1) = setsTo (extS (sgnF (lookS n s)) n (2 ^ n - 1)).testBit 7 :: layL (sgnF (lookS n s)) n k (restS (sgnF (lookS n s)) n (2 ^ n - 1)) := by
    rw [hk]
    show (if k + 1 = 0 then _ else _) = _
    rw [if_neg (by omega)]
  rw [hl]
  refine ⟨by simp, ?_, rfl⟩
  unfold hszZ allS
  rw [if_pos h, Int.toNat_natCast]
  rfl
theorem cvx_facts (h : aciB n s = true) : cvxB n s = (hszZ n s == n) := by unfold cvxB; rw [h]; rfl
end
end Go.Proofs.YtpjjohbahhaeoaaGreatDoor.Sg
