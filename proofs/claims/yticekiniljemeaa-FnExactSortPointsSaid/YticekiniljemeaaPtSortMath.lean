/- Insertion from the right: where a point goes in a sorted list, and what a list becomes. Plain mathematics. -/
import Derived.Test.YticekiniljemeaaPtMath
namespace Go.Proofs.Yticekiniljemeaa.Pt
/-- The lesser X first, of equal X the lesser Y. -/
def befB (ax ay bx by_ : Int) : Bool := decide (ax < bx ∨ (ax = bx ∧ ay < by_))
def bef (a b : P2) : Bool := befB a.1 a.2 b.1 b.2
def get0 (l : List P2) (i : Nat) : P2 := l.getD i (0, 0)
theorem get0_of {l : List P2} {i : Nat} {p : P2} (h : l[i]? = some p) : get0 l i = p := by unfold get0; rw [List.getD_eq_getElem?_getD, h]; rfl
/-- Where x goes among the first m of l, asked from the right. -/
def pos (x : P2) (l : List P2) : Nat → Nat
  | 0 => 0
  | m + 1 => if bef x (get0 l m) then pos x l m else m + 1
theorem pos_le (x : P2) (l : List P2) : ∀ m, pos x l m ≤ m
  | 0 => Nat.le_refl _
  | m + 1 => by
    unfold pos
    split
    · exact Nat.le_succ_of_le (pos_le x l m)
    · exact Nat.le_refl _
theorem pos_go {x : P2} {l : List P2} {m : Nat} (h : bef x (get0 l m) = true) : pos x l (m + 1) = pos x l m := by
  show (if bef x (get0 l m) then pos x l m else m + 1) = _
  rw [if_pos h]
theorem pos_stop {x : P2} {l : List P2} {m : Nat} (h : bef x (get0 l m) = false) : pos x l (m + 1) = m + 1 := by
  show (if bef x (get0 l m) then pos x l m else m + 1) = _
  rw [h]; rfl
def put (x : P2) (l : List P2) (k : Nat) : List P2 := l.take k ++ x :: l.drop k
def insR (x : P2) (l : List P2) : List P2 := put x l (pos x l l.length)
theorem put_length (x : P2) (l : List P2) (k : Nat) : (put x l k).length = l.length + 1 := by simp [put]; omega
theorem insR_length (x : P2) (l : List P2) : (insR x l).length = l.length + 1 := put_length _ _ _
/-- The first k of xs, each inserted. -/
def sortK (xs : List P2) : Nat → List P2
  | 0 => []
  | k + 1 => insR (get0 xs k) (sortK xs k)
theorem sortK_length (xs : List P2) : ∀ k, (sortK xs k).length = k
  | 0 => rfl
  | k + 1 => by rw [sortK, insR_length, sortK_length xs k]
theorem put_end (x : P2) (l : List P2) : put x l l.length = l ++ [x] := by simp [put]
theorem sortK_one (xs : List P2) : sortK xs 1 = [get0 xs 0] := rfl
/-- What lies in the row while x is on its way down. -/
def mid (xs : List P2) (i j : Nat) : List P2 := put (get0 xs i) (sortK xs i) j ++ xs.drop (i + 1)
theorem mid_length (xs : List P2) (i j : Nat) (hi : i < xs.length) : (mid xs i j).length = xs.length := by
  unfold mid
  rw [List.length_append, put_length, sortK_length, List.length_drop]; omega
theorem mid_start (xs : List P2) (i : Nat) (hi : i < xs.length) : sortK xs i ++ xs.drop i = mid xs i i := by
  unfold mid
  have h : put (get0 xs i) (sortK xs i) i = sortK xs i ++ [get0 xs i] := by
    have := put_end (get0 xs i) (sortK xs i)
    rwa [sortK_length] at this
  rw [h, List.append_assoc, get0_of (List.getElem?_eq_getElem hi)]
  congr 1
  exact List.drop_eq_getElem_cons hi
theorem mid_end (xs : List P2) (i j : Nat) (h : pos (get0 xs i) (sortK xs i) i = j) : mid xs i j = sortK xs (i + 1) ++ xs.drop (i + 1) := by
  unfold mid
  rw [sortK, insR, sortK_length, h]
theorem mid_get (xs : List P2) (i j : Nat) (hj : j ≤ i) : (mid xs i j)[j]? = some (get0 xs i) := by
  unfold mid put
  have h1 : (List.take j (sortK xs i)).length = j := by rw [List.length_take, sortK_length]; omega
  rw [List.getElem?_append_left (by simp [sortK_length]; omega), List.getElem?_append_right (by omega), h1]
  simp
theorem mid_prev (xs : List P2) (i j : Nat) (hj : j + 1 ≤ i) : (mid xs i (j + 1))[j]? = some (get0 (sortK xs i) j) := by
  unfold mid put
  have h1 : (List.take (j + 1) (sortK xs i)).length = j + 1 := by rw [List.length_take, sortK_length]; omega
  rw [List.getElem?_append_left (by simp [sortK_length]; omega), List.getElem?_append_left (by omega), List.getElem?_take, if_pos (by omega)]
  have h2 : j < (sortK xs i).length := by rw [sortK_length]; omega
  rw [List.getElem?_eq_getElem h2, get0_of (List.getElem?_eq_getElem h2)]
/-- One exchange further down. -/
theorem mid_swap (xs : List P2) (i j : Nat) (hi : i < xs.length) (hj : j + 1 ≤ i) (k : Nat) :
    (mid xs i j)[k]? = if k = j + 1 then some (get0 (sortK xs i) j) else if k = j then some (get0 xs i) else (mid xs i (j + 1))[k]? := by
  have hs : (sortK xs i).length = i := sortK_length xs i
  have h2 : j < (sortK xs i).length := by omega
  have hd : (sortK xs i).drop j = get0 (sortK xs i) j :: (sortK xs i).drop (j + 1) := by
    rw [List.drop_eq_getElem_cons h2, get0_of (List.getElem?_eq_getElem h2)]
  have ht : (sortK xs i).take (j + 1) = (sortK xs i).take j ++ [get0 (sortK xs i) j] := by
    rw [List.take_add_one, List.getElem?_eq_getElem h2, get0_of (List.getElem?_eq_getElem h2)]; rfl
  have h1 : ((sortK xs i).take j).length = j := by rw [List.length_take]; omega
  unfold mid put
  rw [hd, ht]
  simp only [List.append_assoc, List.cons_append, List.nil_append]
  generalize (sortK xs i).take j = A at h1
  generalize (sortK xs i).drop (j + 1) ++ List.drop (i + 1) xs = B
  subst h1
  by_cases e1 : k = A.length + 1
  · subst e1; rw [if_pos rfl, List.getElem?_append_right (by omega)]; simp
  · rw [if_neg e1]
    by_cases e2 : k = A.length
    · subst e2; rw [if_pos rfl, List.getElem?_append_right (by omega)]; simp
    · rw [if_neg e2]
      by_cases e3 : k < A.length
      · rw [List.getElem?_append_left e3, List.getElem?_append_left e3]
      · rw [List.getElem?_append_right (by omega), List.getElem?_append_right (by omega)]
        obtain ⟨m, hm⟩ : ∃ m, k - A.length = m + 2 := ⟨k - A.length - 2, by omega⟩
        rw [hm]; rfl
end Go.Proofs.Yticekiniljemeaa.Pt
