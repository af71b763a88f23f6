/- Wirings: words of neighbour exchanges, told by inversions. Plain mathematics. -/
import Derived.Lib.Slices
namespace Go.Proofs.Ytfpbehnpaedpmaa.Wi
/-- The list with the elements at p and p + 1 exchanged. -/
def swp : List Nat → Nat → List Nat
  | a :: b :: L, 0 => b :: a :: L
  | a :: L, p + 1 => a :: swp L p
  | L, _ => L
/-- All exchanges of a word, one after another. -/
def act (L : List Nat) : List Nat → List Nat
  | [] => L
  | p :: u => act (swp L p) u
/-- As many pairs as stand the wrong way round. -/
def inv : List Nat → Nat
  | [] => 0
  | a :: L => L.countP (fun b => decide (b < a)) + inv L
/-- n - 1, .., 0. -/
def down : Nat → List Nat
  | 0 => []
  | n + 1 => n :: down n
@[simp] theorem swp_len (L : List Nat) (p : Nat) : (swp L p).length = L.length := by
  induction L generalizing p with
  | nil => cases p <;> rfl
  | cons a L ih =>
    cases p with
    | zero => cases L <;> simp [swp]
    | succ p => simp [swp, ih]
@[simp] theorem act_len (L u : List Nat) : (act L u).length = L.length := by
  induction u generalizing L with
  | nil => rfl
  | cons p u ih => simp [act, ih]
theorem act_append (L u v : List Nat) : act L (u ++ v) = act (act L u) v := by
  induction u generalizing L with
  | nil => rfl
  | cons p u ih => simp [act, ih]
theorem swp_split (A B : List Nat) (a b : Nat) : swp (A ++ a :: b :: B) A.length = A ++ b :: a :: B := by
  induction A with
  | nil => rfl
  | cons x A ih => simp [swp, ih]
theorem split_at {L : List Nat} {p : Nat} (h : p + 1 < L.length) : ∃ A a b B, L = A ++ a :: b :: B ∧ A.length = p := by
  induction L generalizing p with
  | nil => simp at h
  | cons x L ih =>
    cases p with
    | zero =>
      cases L with
      | nil => simp at h
      | cons y L => exact ⟨[], x, y, L, rfl, rfl⟩
    | succ p =>
      obtain ⟨A, a, b, B, rfl, hA⟩ := ih (p := p) (by simpa using h)
      exact ⟨x :: A, a, b, B, rfl, by simp [hA]⟩
theorem inv_split (A : List Nat) {B C : List Nat} (h : ∀ f : Nat → Bool, B.countP f = C.countP f) : inv (A ++ B) + inv C = inv (A ++ C) + inv B := by
  induction A with
  | nil => simp; omega
  | cons x A ih => simp only [List.cons_append, inv, List.countP_append, h]; omega
theorem inv_swp {L : List Nat} {p : Nat} (h : p + 1 < L.length) : inv (swp L p) + (if L.getD (p + 1) 0 < L.getD p 0 then 1 else 0) = inv L + (if L.getD p 0 < L.getD (p + 1) 0 then 1 else 0) := by
  obtain ⟨A, a, b, B, rfl, rfl⟩ := split_at h
  rw [swp_split]
  have e0 : (A ++ a :: b :: B).getD A.length 0 = a := by simp [List.getD_eq_getElem?_getD]
  have e1 : (A ++ a :: b :: B).getD (A.length + 1) 0 = b := by
    rw [List.getD_eq_getElem?_getD, List.getElem?_append_right (by omega)]
    simp
  rw [e0, e1]
  have hs := inv_split A (B := b :: a :: B) (C := a :: b :: B) (fun f => by simp [List.countP_cons]; omega)
  simp only [inv, List.countP_cons] at hs ⊢
  by_cases h1 : a < b
  · have h2 : ¬ b < a := by omega
    simp [h1, h2] at hs ⊢; omega
  · by_cases h2 : b < a
    · simp [h1, h2] at hs ⊢; omega
    · simp [h1, h2] at hs ⊢; omega
theorem inv_le (L : List Nat) : 2 * inv L ≤ L.length * (L.length - 1) := by
  induction L with
  | nil => simp [inv]
  | cons a L ih =>
    have := List.countP_le_length (p := fun b => decide (b < a)) (l := L)
    simp only [inv, List.length_cons, Nat.add_sub_cancel]
    cases hl : L.length with
    | zero => rw [hl] at this ih; simp at ih; omega
    | succ m =>
      rw [hl] at this ih
      simp only [Nat.add_sub_cancel] at ih
      have e : (m + 1 + 1) * (m + 1) = (m + 1) * m + 2 * (m + 1) := by
        rw [Nat.mul_comm (m + 1) m, ← Nat.add_mul]
      omega
/-- A list whose pairs stand the wrong way round, all of them. -/
def Dec (L : List Nat) : Prop := L.Pairwise (fun a b => b < a)
theorem dec_of {L : List Nat} (h : 2 * inv L = L.length * (L.length - 1)) : Dec L := by
  induction L with
  | nil => exact List.Pairwise.nil
  | cons a L ih =>
    have h1 := List.countP_le_length (p := fun b => decide (b < a)) (l := L)
    have h2 := inv_le L
    simp only [inv, List.length_cons, Nat.add_sub_cancel] at h
    have e : (L.length + 1) * L.length = L.length * (L.length - 1) + 2 * L.length := by
      cases L.length with
      | zero => rfl
      | succ m => rw [Nat.add_sub_cancel, Nat.mul_comm (m + 1) m, ← Nat.add_mul]
    have h3 : L.countP (fun b => decide (b < a)) = L.length := by omega
    refine List.Pairwise.cons (fun b hb => ?_) (ih (by omega))
    have := List.countP_eq_length.1 h3 b hb
    simpa using this
theorem dec_len {L : List Nat} (h : Dec L) {x : Nat} (hx : ∀ b ∈ L, b < x) : L.length ≤ x := by
  induction L generalizing x with
  | nil => exact Nat.zero_le _
  | cons a L ih =>
    obtain ⟨h1, h2⟩ := List.pairwise_cons.1 h
    have := ih h2 h1
    have := hx a List.mem_cons_self
    simp only [List.length_cons]; omega
theorem dec_down {L : List Nat} {n : Nat} (h : Dec L) (hn : L.length = n) (hx : ∀ b ∈ L, b < n) : L = down n := by
  induction n generalizing L with
  | zero => cases L with
    | nil => rfl
    | cons a L => simp at hn
  | succ n ih =>
    cases L with
    | nil => simp at hn
    | cons a L =>
      obtain ⟨h1, h2⟩ := List.pairwise_cons.1 h
      have l1 := dec_len h2 h1
      have l2 := hx a List.mem_cons_self
      simp only [List.length_cons] at hn
      obtain rfl : a = n := by omega
      rw [ih h2 (by omega) h1]; rfl
theorem down_len (n : Nat) : (down n).length = n := by
  induction n with
  | zero => rfl
  | succ n ih => simp [down, ih]
theorem down_lt {n x : Nat} (h : x ∈ down n) : x < n := by
  induction n with
  | zero => simp [down] at h
  | succ n ih =>
    rcases List.mem_cons.1 h with rfl | h
    · omega
    · have := ih h; omega
theorem inv_zero (m n : Nat) : inv (List.range' m n) = 0 := by
  induction n generalizing m with
  | zero => rfl
  | succ n ih =>
    rw [List.range'_succ]
    simp only [inv, ih, Nat.add_zero]
    rw [List.countP_eq_zero]
    intro b hb
    have := List.mem_range'_1.1 hb
    simp; omega
theorem inv_down (n : Nat) : 2 * inv (down n) = n * (n - 1) := by
  induction n with
  | zero => rfl
  | succ n ih =>
    have h3 : (down n).countP (fun b => decide (b < n)) = (down n).length := List.countP_eq_length.2 (fun b hb => by simpa using down_lt hb)
    simp only [down, inv, h3, down_len, Nat.add_sub_cancel]
    cases n with
    | zero => rfl
    | succ m =>
      have e : (m + 1 + 1) * (m + 1) = (m + 1) * m + 2 * (m + 1) := by rw [Nat.mul_comm (m + 1) m, ← Nat.add_mul]
      simp only [Nat.add_sub_cancel] at ih
      omega
theorem swp_mem {L : List Nat} {p x : Nat} : x ∈ swp L p ↔ x ∈ L := by
  induction L generalizing p with
  | nil => cases p <;> rfl
  | cons a L ih =>
    cases p with
    | zero =>
      cases L with
      | nil => rfl
      | cons b L => simp only [swp, List.mem_cons]; constructor <;> (rintro (h | h | h) <;> simp [h])
    | succ p => simp [swp, ih]
theorem act_mem {L u : List Nat} {x : Nat} : x ∈ act L u ↔ x ∈ L := by
  induction u generalizing L with
  | nil => rfl
  | cons p u ih => rw [act, ih, swp_mem]
/-- The word of exchanges, each of which must find the lesser one first. -/
def go (L : List Nat) : List Nat → Option (List Nat)
  | [] => some L
  | p :: u => if p + 1 < L.length ∧ L.getD p 0 < L.getD (p + 1) 0 then go (swp L p) u else none
theorem act_inv {L u : List Nat} (hu : ∀ p ∈ u, p + 1 < L.length) : inv (act L u) ≤ inv L + u.length ∧ (inv (act L u) = inv L + u.length ↔ go L u = some (act L u)) ∧ (go L u ≠ none → go L u = some (act L u)) := by
  induction u generalizing L with
  | nil => exact ⟨Nat.le_refl _, by simp [act, go], fun _ => rfl⟩
  | cons p u ih =>
    have hp := hu p List.mem_cons_self
    have hs := inv_swp hp
    obtain ⟨i1, i2, i3⟩ := ih (L := swp L p) (fun q hq => by rw [swp_len]; exact hu q (List.mem_cons_of_mem _ hq))
    simp only [act, go, List.length_cons]
    by_cases h : L.getD p 0 < L.getD (p + 1) 0
    · have h' : ¬ L.getD (p + 1) 0 < L.getD p 0 := by omega
      rw [if_neg h', if_pos h] at hs
      rw [if_pos ⟨hp, h⟩]
      refine ⟨by omega, ?_, i3⟩
      rw [← i2]; omega
    · rw [if_neg h] at hs
      rw [if_neg (fun c => h c.2)]
      have : inv (swp L p) ≤ inv L := by omega
      refine ⟨by omega, ⟨fun e => by omega, fun e => by simp at e⟩, fun e => absurd rfl e⟩
end Go.Proofs.Ytfpbehnpaedpmaa.Wi
