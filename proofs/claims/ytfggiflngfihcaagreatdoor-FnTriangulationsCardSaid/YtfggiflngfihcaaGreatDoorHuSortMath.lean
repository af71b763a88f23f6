/- Insertion from the right in a list of elements by any order: what a list becomes; it is sorted if the order is one. Plain mathematics. -/
import Derived.Test.YtfggiflngfihcaaGreatDoorMgP
namespace Go.Proofs.YtfggiflngfihcaaGreatDoor.HuSort
def get0 (l : List Nat) (i : Nat) : Nat := l.getD i 0
theorem get0_of {l : List Nat} {i : Nat} {p : Nat} (h : l[i]? = some p) : get0 l i = p := by unfold get0; rw [List.getD_eq_getElem?_getD, h]; rfl
/-- Where x goes among the first m of l, asked from the right. -/
def pos (bef : Nat → Nat → Bool) (x : Nat) (l : List Nat) : Nat → Nat
  | 0 => 0
  | m + 1 => if bef x (get0 l m) then pos bef x l m else m + 1
theorem pos_le (bef : Nat → Nat → Bool) (x : Nat) (l : List Nat) : ∀ m, pos bef x l m ≤ m
  | 0 => Nat.le_refl _
  | m + 1 => by
    unfold pos
    split
    · exact Nat.le_succ_of_le (pos_le bef x l m)
    · exact Nat.le_refl _
theorem pos_go {bef : Nat → Nat → Bool} {x : Nat} {l : List Nat} {m : Nat} (h : bef x (get0 l m) = true) : pos bef x l (m + 1) = pos bef x l m := by
  show (if bef x (get0 l m) then pos bef x l m else m + 1) = _
  rw [if_pos h]
theorem pos_stop {bef : Nat → Nat → Bool} {x : Nat} {l : List Nat} {m : Nat} (h : bef x (get0 l m) = false) : pos bef x l (m + 1) = m + 1 := by
  show (if bef x (get0 l m) then pos bef x l m else m + 1) = _
  rw [h]; rfl
def put (x : Nat) (l : List Nat) (k : Nat) : List Nat := l.take k ++ x :: l.drop k
def insR (bef : Nat → Nat → Bool) (x : Nat) (l : List Nat) : List Nat := put x l (pos bef x l l.length)
/-- The first k of xs, each inserted. -/
def sortK (bef : Nat → Nat → Bool) (xs : List Nat) : Nat → List Nat
  | 0 => []
  | k + 1 => insR bef (get0 xs k) (sortK bef xs k)
/-- The same elements, whatever the order. -/
theorem insR_perm (bef : Nat → Nat → Bool) (x : Nat) (l : List Nat) : (insR bef x l).Perm (x :: l) := by
  unfold insR put
  refine List.perm_middle.trans (List.Perm.cons x ?_)
  rw [List.take_append_drop]
theorem take_succ_get (xs : List Nat) (k : Nat) (hk : k < xs.length) : xs.take (k + 1) = xs.take k ++ [get0 xs k] := by
  rw [List.take_add_one, List.getElem?_eq_getElem hk, get0_of (List.getElem?_eq_getElem hk)]; rfl
theorem sortK_perm (bef : Nat → Nat → Bool) (xs : List Nat) : ∀ k, k ≤ xs.length → (sortK bef xs k).Perm (xs.take k)
  | 0, _ => by rw [List.take_zero]; exact List.Perm.refl _
  | k + 1, hk => by
    rw [sortK, take_succ_get xs k hk]
    refine (insR_perm bef _ _).trans ?_
    refine (List.Perm.cons _ (sortK_perm bef xs k (by omega))).trans ?_
    exact (List.perm_append_singleton _ _).symm
/-- Where pos stops. -/
theorem pos_right (bef : Nat → Nat → Bool) (x : Nat) (l : List Nat) : ∀ m i, pos bef x l m ≤ i → i < m → bef x (get0 l i) = true
  | 0, i, _, h => absurd h (Nat.not_lt_zero _)
  | m + 1, i, h1, h2 => by
    cases hb : bef x (get0 l m)
    · rw [pos_stop hb] at h1; omega
    · rw [pos_go hb] at h1
      rcases Nat.lt_or_ge i m with h | h
      · exact pos_right bef x l m i h1 h
      · obtain rfl : i = m := by omega
        exact hb
theorem pos_left (bef : Nat → Nat → Bool) (x : Nat) (l : List Nat) : ∀ m i, i + 1 = pos bef x l m → bef x (get0 l i) = false
  | 0, i, h => by unfold pos at h; omega
  | m + 1, i, h => by
    cases hb : bef x (get0 l m)
    · rw [pos_stop hb] at h
      obtain rfl : i = m := by omega
      exact hb
    · rw [pos_go hb] at h
      exact pos_left bef x l m i h
/-- An order on a list's elements. -/
structure Ord (bef : Nat → Nat → Bool) (P : Nat → Prop) : Prop where
  tot : ∀ a b, P a → P b → a ≠ b → bef a b = true ∨ bef b a = true
  trans : ∀ a b c, P a → P b → P c → a ≠ b → b ≠ c → a ≠ c → bef a b = true → bef b c = true → bef a c = true
theorem get0_mem {l : List Nat} {i : Nat} (h : i < l.length) : get0 l i ∈ l := by
  rw [get0_of (List.getElem?_eq_getElem h)]; exact List.getElem_mem h
theorem insR_sorted {bef : Nat → Nat → Bool} {P : Nat → Prop} (ho : Ord bef P) {x : Nat} {l : List Nat} (hx : P x) (hl : ∀ y ∈ l, P y) (hn : x ∉ l) (hd : l.Nodup) (hs : l.Pairwise fun a b => bef a b = true) : (insR bef x l).Pairwise fun a b => bef a b = true := by
  have hg : ∀ i (hi : i < l.length), get0 l i = l[i] := fun i hi => get0_of (List.getElem?_eq_getElem hi)
  have ple := pos_le bef x l l.length
  have pr := pos_right bef x l l.length
  have pl := pos_left bef x l l.length
  unfold insR put
  generalize pos bef x l l.length = p at ple pr pl
  have hpw := List.pairwise_iff_getElem.1 hs
  have hnd := List.pairwise_iff_getElem.1 hd
  have below : ∀ i (hi : i < l.length), i < p → bef l[i] x = true := fun i hi hip => by
    have h1 := pl (p - 1) (by omega)
    have hlp : p - 1 < l.length := by omega
    have hm := List.getElem_mem hlp
    have e0 : bef l[p - 1] x = true := by
      rw [hg _ hlp] at h1
      rcases ho.tot l[p - 1] x (hl _ hm) hx (fun e => hn (e ▸ hm)) with h | h
      · exact h
      · rw [h1] at h; cases h
    rcases Nat.lt_or_ge i (p - 1) with h | h
    · have hmi := List.getElem_mem hi
      exact ho.trans l[i] l[p - 1] x (hl _ hmi) (hl _ hm) hx (hnd i (p - 1) hi hlp h) (fun e => hn (e ▸ hm)) (fun e => hn (e ▸ hmi)) (hpw i (p - 1) hi hlp h) e0
    · obtain rfl : i = p - 1 := by omega
      exact e0
  have above : ∀ i (hi : i < l.length), p ≤ i → bef x l[i] = true := fun i hi hip => by
    have := pr i hip hi
    rwa [hg i hi] at this
  rw [List.pairwise_append]
  refine ⟨hs.sublist (List.take_sublist _ _), ?_, ?_⟩
  · rw [List.pairwise_cons]
    refine ⟨fun y hy => ?_, hs.sublist (List.drop_sublist _ _)⟩
    obtain ⟨i, hi, rfl⟩ := List.getElem_of_mem hy
    rw [List.length_drop] at hi
    rw [List.getElem_drop]
    exact above _ (by omega) (by omega)
  · intro a ha b hb
    obtain ⟨i, hi, rfl⟩ := List.getElem_of_mem ha
    rw [List.length_take] at hi
    rw [List.getElem_take]
    rcases List.mem_cons.1 hb with rfl | hb
    · exact below i (by omega) (by omega)
    · obtain ⟨j, hj, rfl⟩ := List.getElem_of_mem hb
      rw [List.length_drop] at hj
      rw [List.getElem_drop]
      exact hpw i (p + j) (by omega) (by omega) (by omega)
theorem sortK_sorted {bef : Nat → Nat → Bool} {P : Nat → Prop} (ho : Ord bef P) {xs : List Nat} (hx : ∀ y ∈ xs, P y) (hd : xs.Nodup) : ∀ k, k ≤ xs.length → (sortK bef xs k).Pairwise fun a b => bef a b = true
  | 0, _ => List.Pairwise.nil
  | k + 1, hk => by
    have hp := sortK_perm bef xs k (by omega)
    have hsub : ∀ y, y ∈ sortK bef xs k → y ∈ xs := fun y hy => List.mem_of_mem_take (hp.mem_iff.1 hy)
    rw [sortK]
    refine insR_sorted ho (hx _ (get0_mem (by omega))) (fun y hy => hx y (hsub y hy)) (fun hm => ?_) (hp.symm.nodup (hd.sublist (List.take_sublist _ _))) (sortK_sorted ho hx hd k (by omega))
    have hd2 := hd.sublist (List.take_sublist (k + 1) xs)
    rw [take_succ_get xs k hk, List.nodup_append] at hd2
    exact hd2.2.2 _ (hp.mem_iff.1 hm) _ (by simp) rfl
end Go.Proofs.YtfggiflngfihcaaGreatDoor.HuSort
