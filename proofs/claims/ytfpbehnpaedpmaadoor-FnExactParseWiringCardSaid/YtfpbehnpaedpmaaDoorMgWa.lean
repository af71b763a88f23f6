/- Several texts in one: WiMath, WiFine. -/
import Derived.Lib.Slices
/- Wirings: words of neighbour exchanges, told by inversions. Plain mathematics. -/
namespace Go.Proofs.YtfpbehnpaedpmaaDoor.Wi
/-- The list with the elements at p and p + 1 exchanged. -/
def swp : List Nat → Nat → List Nat
  | a :: b :: L, 0 => b :: a :: L
  | a :: L, p + 1 => a :: swp L p
  | L, _ => L
/-- All exchanges of a word, one after another. -/
def act (L : List Nat) : List Nat → List Nat
  | [] => L
  | p :: u => act (swp L p) u
/-- As many pairs as stand the wrong way round. -/
def inv : List Nat → Nat
  | [] => 0
  | a :: L => L.countP (fun b => decide (b < a)) + inv L
/-- n - 1, .., 0. -/
def down : Nat → List Nat
  | 0 => []
  | n + 1 => n :: down n
@[simp] theorem swp_len (L : List Nat) (p : Nat) : (swp L p).length = L.length := by
  induction L generalizing p with
  | nil => cases p <;> rfl
  | cons a L ih =>
    cases p with
    | zero => cases L <;> simp [swp]
    | succ p => simp [swp, ih]
@[simp] theorem act_len (L u : List Nat) : (act L u).length = L.length := by
  induction u generalizing L with
  | nil => rfl
  | cons p u ih => simp [act, ih]
theorem act_append (L u v : List Nat) : act L (u ++ v) = act (act L u) v := by
  induction u generalizing L with
  | nil => rfl
  | cons p u ih => simp [act, ih]
theorem swp_split (A B : List Nat) (a b : Nat) : swp (A ++ a :: b :: B) A.length = A ++ b :: a :: B := by
  induction A with
  | nil => rfl
  | cons x A ih => simp [swp, ih]
theorem split_at {L : List Nat} {p : Nat} (h : p + 1 < L.length) : ∃ A a b B, L = A ++ a :: b :: B ∧ A.length = p := by
  induction L generalizing p with
  | nil => simp at h
  | cons x L ih =>
    cases p with
    | zero =>
      cases L with
      | nil => simp at h
      | cons y L => exact ⟨[], x, y, L, rfl, rfl⟩
    | succ p =>
      obtain ⟨A, a, b, B, rfl, hA⟩ := ih (p := p) (by simpa using h)
      exact ⟨x :: A, a, b, B, rfl, by simp [hA]⟩
theorem swp_swp {L : List Nat} {p : Nat} (h : p + 1 < L.length) : swp (swp L p) p = L := by
  obtain ⟨A, a, b, B, rfl, rfl⟩ := split_at h
  rw [swp_split, swp_split]
theorem swp_map (f : Nat → Nat) (L : List Nat) (p : Nat) : swp (L.map f) p = (swp L p).map f := by
  induction L generalizing p with
  | nil => cases p <;> rfl
  | cons a L ih =>
    cases p with
    | zero => cases L <;> simp [swp]
    | succ p => simp [swp, ih]
theorem act_map (f : Nat → Nat) (L u : List Nat) : act (L.map f) u = (act L u).map f := by
  induction u generalizing L with
  | nil => rfl
  | cons p u ih => simp [act, swp_map, ih]
theorem swp_rev {L : List Nat} {p : Nat} (h : p + 1 < L.length) : swp L.reverse (L.length - 2 - p) = (swp L p).reverse := by
  obtain ⟨A, a, b, B, rfl, rfl⟩ := split_at h
  rw [swp_split]
  have e : (A ++ a :: b :: B).length - 2 - A.length = B.reverse.length := by simp; omega
  rw [e]
  have := swp_split B.reverse A.reverse b a
  simpa using this
/-- The word seen from the other side. -/
def mir (n : Nat) (u : List Nat) : List Nat := u.map (fun p => n - 2 - p)
theorem act_mir {n : Nat} (L u : List Nat) (hL : L.length = n) (hu : ∀ p ∈ u, p + 1 < n) : act L.reverse (mir n u) = (act L u).reverse := by
  induction u generalizing L with
  | nil => rfl
  | cons p u ih =>
    show act (swp L.reverse (n - 2 - p)) (mir n u) = (act (swp L p) u).reverse
    have hp := hu p List.mem_cons_self
    rw [← hL, swp_rev (by omega), hL]
    exact ih _ (by simp [hL]) (fun q hq => hu q (List.mem_cons_of_mem _ hq))
theorem act_back {n : Nat} (L u : List Nat) (hL : L.length = n) (hu : ∀ p ∈ u, p + 1 < n) : act (act L u) u.reverse = L := by
  induction u generalizing L with
  | nil => rfl
  | cons p u ih =>
    rw [List.reverse_cons, act_append]
    show act (act (act (swp L p) u) u.reverse) [p] = L
    rw [ih _ (by simp [hL]) (fun q hq => hu q (List.mem_cons_of_mem _ hq))]
    exact swp_swp (by have := hu p List.mem_cons_self; omega)
theorem inv_split (A : List Nat) {B C : List Nat} (h : ∀ f : Nat → Bool, B.countP f = C.countP f) : inv (A ++ B) + inv C = inv (A ++ C) + inv B := by
  induction A with
  | nil => simp; omega
  | cons x A ih => simp only [List.cons_append, inv, List.countP_append, h]; omega
theorem inv_swp {L : List Nat} {p : Nat} (h : p + 1 < L.length) : inv (swp L p) + (if L.getD (p + 1) 0 < L.getD p 0 then 1 else 0) = inv L + (if L.getD p 0 < L.getD (p + 1) 0 then 1 else 0) := by
  obtain ⟨A, a, b, B, rfl, rfl⟩ := split_at h
  rw [swp_split]
  have e0 : (A ++ a :: b :: B).getD A.length 0 = a := by simp [List.getD_eq_getElem?_getD]
  have e1 : (A ++ a :: b :: B).getD (A.length + 1) 0 = b := by
    rw [List.getD_eq_getElem?_getD, List.getElem?_append_right (by omega)]
    simp
  rw [e0, e1]
  have hs := inv_split A (B := b :: a :: B) (C := a :: b :: B) (fun f => by simp [List.countP_cons]; omega)
  simp only [inv, List.countP_cons] at hs ⊢
  by_cases h1 : a < b
  · have h2 : ¬ b < a := by omega
    simp [h1, h2] at hs ⊢; omega
  · by_cases h2 : b < a
    · simp [h1, h2] at hs ⊢; omega
    · simp [h1, h2] at hs ⊢; omega
theorem inv_le (L : List Nat) : 2 * inv L ≤ L.length * (L.length - 1) := by
  induction L with
  | nil => simp [inv]
  | cons a L ih =>
    have := List.countP_le_length (p := fun b => decide (b < a)) (l := L)
    simp only [inv, List.length_cons, Nat.add_sub_cancel]
    cases hl : L.length with
    | zero => rw [hl] at this ih; simp at ih; omega
    | succ m =>
      rw [hl] at this ih
      simp only [Nat.add_sub_cancel] at ih
      have e : (m + 1 + 1) * (m + 1) = (m + 1) * m + 2 * (m + 1) := by
        rw [Nat.mul_comm (m + 1) m, ← Nat.add_mul]
      omega
/-- A list whose pairs stand the wrong way round, all of them. -/
def Dec (L : List Nat) : Prop := L.Pairwise (fun a b => b < a)
theorem dec_of {L : List Nat} (h : 2 * inv L = L.length * (L.length - 1)) : Dec L := by
  induction L with
  | nil => exact List.Pairwise.nil
  | cons a L ih =>
    have h1 := List.countP_le_length (p := fun b => decide (b < a)) (l := L)
    have h2 := inv_le L
    simp only [inv, List.length_cons, Nat.add_sub_cancel] at h
    have e : (L.length + 1) * L.length = L.length * (L.length - 1) + 2 * L.length := by
      cases L.length with
      | zero => rfl
      | succ m => rw [Nat.add_sub_cancel, Nat.mul_comm (m + 1) m, ← Nat.add_mul]
    have h3 : L.countP (fun b => decide (b < a)) = L.length := by omega
    refine List.Pairwise.cons (fun b hb => ?_) (ih (by omega))
    have := List.countP_eq_length.1 h3 b hb
    simpa using this
theorem dec_len {L : List Nat} (h : Dec L) {x : Nat} (hx : ∀ b ∈ L, b < x) : L.length ≤ x := by
  induction L generalizing x with
  | nil => exact Nat.zero_le _
  | cons a L ih =>
    obtain ⟨h1, h2⟩ := List.pairwise_cons.1 h
    have := ih h2 h1
    have := hx a List.mem_cons_self
    simp only [List.length_cons]; omega
theorem dec_down {L : List Nat} {n : Nat} (h : Dec L) (hn : L.length = n) (hx : ∀ b ∈ L, b < n) : L = down n := by
  induction n generalizing L with
  | zero => cases L with
    | nil => rfl
    | cons a L => simp at hn
  | succ n ih =>
    cases L with
    | nil => simp at hn
    | cons a L =>
      obtain ⟨h1, h2⟩ := List.pairwise_cons.1 h
      have l1 := dec_len h2 h1
      have l2 := hx a List.mem_cons_self
      simp only [List.length_cons] at hn
      obtain rfl : a = n := by omega
      rw [ih h2 (by omega) h1]; rfl
theorem down_len (n : Nat) : (down n).length = n := by
  induction n with
  | zero => rfl
  | succ n ih => simp [down, ih]
theorem down_lt {n x : Nat} (h : x ∈ down n) : x < n := by
  induction n with
  | zero => simp [down] at h
  | succ n ih =>
    rcases List.mem_cons.1 h with rfl | h
    · omega
    · have := ih h; omega
theorem down_rev (n : Nat) : (down n).reverse = List.range n := by
  induction n with
  | zero => rfl
  | succ n ih => rw [List.range_succ, ← ih]; simp [down]
theorem rev_down (n : Nat) : (List.range n).reverse = down n := by rw [← down_rev, List.reverse_reverse]
theorem inv_zero (m n : Nat) : inv (List.range' m n) = 0 := by
  induction n generalizing m with
  | zero => rfl
  | succ n ih =>
    rw [List.range'_succ]
    simp only [inv, ih, Nat.add_zero]
    rw [List.countP_eq_zero]
    intro b hb
    have := List.mem_range'_1.1 hb
    simp; omega
theorem inv_down (n : Nat) : 2 * inv (down n) = n * (n - 1) := by
  induction n with
  | zero => rfl
  | succ n ih =>
    have h3 : (down n).countP (fun b => decide (b < n)) = (down n).length := List.countP_eq_length.2 (fun b hb => by simpa using down_lt hb)
    simp only [down, inv, h3, down_len, Nat.add_sub_cancel]
    cases n with
    | zero => rfl
    | succ m =>
      have e : (m + 1 + 1) * (m + 1) = (m + 1) * m + 2 * (m + 1) := by rw [Nat.mul_comm (m + 1) m, ← Nat.add_mul]
      simp only [Nat.add_sub_cancel] at ih
      omega
theorem swp_mem {L : List Nat} {p x : Nat} : x ∈ swp L p ↔ x ∈ L := by
  induction L generalizing p with
  | nil => cases p <;> rfl
  | cons a L ih =>
    cases p with
    | zero =>
      cases L with
      | nil => rfl
      | cons b L => simp only [swp, List.mem_cons]; constructor <;> (rintro (h | h | h) <;> simp [h])
    | succ p => simp [swp, ih]
theorem act_mem {L u : List Nat} {x : Nat} : x ∈ act L u ↔ x ∈ L := by
  induction u generalizing L with
  | nil => rfl
  | cons p u ih => rw [act, ih, swp_mem]
/-- The word of exchanges, each of which must find the lesser one first. -/
def go (L : List Nat) : List Nat → Option (List Nat)
  | [] => some L
  | p :: u => if p + 1 < L.length ∧ L.getD p 0 < L.getD (p + 1) 0 then go (swp L p) u else none
theorem act_inv {L u : List Nat} (hu : ∀ p ∈ u, p + 1 < L.length) : inv (act L u) ≤ inv L + u.length ∧ (inv (act L u) = inv L + u.length ↔ go L u = some (act L u)) ∧ (go L u ≠ none → go L u = some (act L u)) := by
  induction u generalizing L with
  | nil => exact ⟨Nat.le_refl _, by simp [act, go], fun _ => rfl⟩
  | cons p u ih =>
    have hp := hu p List.mem_cons_self
    have hs := inv_swp hp
    obtain ⟨i1, i2, i3⟩ := ih (L := swp L p) (fun q hq => by rw [swp_len]; exact hu q (List.mem_cons_of_mem _ hq))
    simp only [act, go, List.length_cons]
    by_cases h : L.getD p 0 < L.getD (p + 1) 0
    · have h' : ¬ L.getD (p + 1) 0 < L.getD p 0 := by omega
      rw [if_neg h', if_pos h] at hs
      rw [if_pos ⟨hp, h⟩]
      refine ⟨by omega, ?_, i3⟩
      rw [← i2]; omega
    · rw [if_neg h] at hs
      rw [if_neg (fun c => h c.2)]
      have : inv (swp L p) ≤ inv L := by omega
      refine ⟨by omega, ⟨fun e => by omega, fun e => by simp at e⟩, fun e => absurd rfl e⟩
end Go.Proofs.YtfpbehnpaedpmaaDoor.Wi
/- Wirings: what makes a word one; turned, flipped, told by its exchanges. Plain mathematics. -/
namespace Go.Proofs.YtfpbehnpaedpmaaDoor.Wi
theorem half_two (n : Nat) : 2 * (n * (n - 1) / 2) = n * (n - 1) := by
  have h : n * (n - 1) % 2 = 0 := by
    cases n with
    | zero => rfl
    | succ m =>
      rw [Nat.add_sub_cancel, Nat.mul_mod]
      rcases Nat.mod_two_eq_zero_or_one m with h | h
      · rw [h]; simp
      · have : (m + 1) % 2 = 0 := by omega
        rw [this]; simp
  omega
/-- The word u is a wiring of n wires. -/
def Fine (n : Nat) (u : List Nat) : Prop := u.length = n * (n - 1) / 2 ∧ go (List.range n) u ≠ none
theorem go_lt {L u : List Nat} (h : go L u ≠ none) : ∀ p ∈ u, p + 1 < L.length := by
  induction u generalizing L with
  | nil => intro p hp; simp at hp
  | cons q u ih =>
    simp only [go] at h
    split at h
    · rename_i hq
      intro p hp
      rcases List.mem_cons.1 hp with rfl | hp
      · exact hq.1
      · have := ih h p hp
        rw [swp_len] at this; exact this
    · exact absurd rfl h
theorem inv_range (n : Nat) : inv (List.range n) = 0 := by rw [List.range_eq_range']; exact inv_zero 0 n
theorem fine_iff {n : Nat} {u : List Nat} : Fine n u ↔ u.length = n * (n - 1) / 2 ∧ (∀ p ∈ u, p + 1 < n) ∧ act (List.range n) u = down n := by
  unfold Fine
  constructor
  · rintro ⟨h1, h2⟩
    have hl := go_lt h2
    obtain ⟨-, i2, i3⟩ := act_inv hl
    have e := i2.2 (i3 h2)
    rw [inv_range, h1] at e
    refine ⟨h1, fun p hp => by have := hl p hp; simpa using this, dec_down (dec_of ?_) (by simp) (fun b hb => by rw [act_mem, List.mem_range] at hb; exact hb)⟩
    rw [act_len, List.length_range]
    have := half_two n
    omega
  · rintro ⟨h1, h2, h3⟩
    refine ⟨h1, ?_⟩
    obtain ⟨-, i2, -⟩ := act_inv (L := List.range n) (u := u) (fun p hp => by rw [List.length_range]; exact h2 p hp)
    have := inv_down n
    have := half_two n
    have e := i2.1 (by rw [inv_range, h3, h1]; omega)
    rw [e]; simp
theorem fine_go {n : Nat} {u : List Nat} (h : Fine n u) : go (List.range n) u = some (down n) := by
  obtain ⟨-, -, h3⟩ := fine_iff.1 h
  obtain ⟨-, -, i3⟩ := act_inv (go_lt h.2)
  rw [i3 h.2, h3]
/-- Seen from the other side, and run back. -/
theorem fine_flip {n : Nat} {u : List Nat} (h : Fine n u) : Fine n (mir n u.reverse) := by
  obtain ⟨h1, h2, h3⟩ := fine_iff.1 h
  have hr : ∀ p ∈ u.reverse, p + 1 < n := fun p hp => h2 p (List.mem_reverse.1 hp)
  refine fine_iff.2 ⟨by simpa [mir] using h1, fun p hp => ?_, ?_⟩
  · obtain ⟨q, hq, rfl⟩ := List.mem_map.1 hp
    have := hr q hq; omega
  · have hb := act_back (n := n) (List.range n) u (by simp) h2
    rw [h3] at hb
    have := act_mir (n := n) (down n) u.reverse (down_len n) hr
    rw [hb, down_rev, rev_down] at this
    exact this
theorem flip_flip {n : Nat} {u : List Nat} (h : ∀ p ∈ u, p + 1 < n) : mir n (mir n u.reverse).reverse = u := by
  unfold mir
  rw [← List.map_reverse, List.reverse_reverse, List.map_map]
  conv => rhs; rw [← List.map_id u]
  refine List.map_congr_left (fun p hp => ?_)
  have := h p hp
  show n - 2 - (n - 2 - p) = p
  omega
/-- The values a and a + 1 exchanged. -/
def ex (a x : Nat) : Nat := if x = a then a + 1 else if x = a + 1 then a else x
theorem ex_ex (a x : Nat) : ex a (ex a x) = x := by unfold ex; split <;> (split <;> (try split) <;> omega)
theorem range_map_ex {n p : Nat} (h : p + 1 < n) : swp (List.range n) p = (List.range n).map (ex p) := by
  obtain ⟨A, a, b, B, e, hA⟩ := split_at (L := List.range n) (p := p) (by simpa using h)
  have g : ∀ i, i < n → (A ++ a :: b :: B)[i]? = some i := fun i hi => by rw [← e]; simp [hi]
  have ha := g p (by omega)
  have hb := g (p + 1) h
  rw [List.getElem?_append_right (by omega), hA] at ha hb
  simp at ha hb
  subst ha hb
  rw [e, ← hA, swp_split, hA]
  rw [List.map_append, List.map_cons, List.map_cons]
  have hs : (A ++ a :: (a + 1) :: B).Pairwise (· < ·) := by rw [← e]; exact List.pairwise_lt_range
  obtain ⟨-, s2, s3⟩ := List.pairwise_append.1 hs
  obtain ⟨s4, s5⟩ := List.pairwise_cons.1 s2
  obtain ⟨s6, -⟩ := List.pairwise_cons.1 s5
  have hA' : A.map (ex a) = A := by
    conv => rhs; rw [← List.map_id A]
    refine List.map_congr_left (fun x hx => ?_)
    have := s3 x hx a List.mem_cons_self
    unfold ex; simp only [id]; split
    · omega
    · split <;> omega
  have hB' : B.map (ex a) = B := by
    conv => rhs; rw [← List.map_id B]
    refine List.map_congr_left (fun x hx => ?_)
    have := s6 x hx
    unfold ex; simp only [id]; split
    · omega
    · split <;> omega
  rw [hA', hB']
  have e1 : ex a a = a + 1 := by simp [ex]
  have e2 : ex a (a + 1) = a := by simp [ex]
  rw [e1, e2]
theorem down_map_ex {n p : Nat} (h : p + 1 < n) : swp ((down n).map (ex p)) (n - 2 - p) = down n := by
  rw [swp_map]
  have hr := swp_rev (L := List.range n) (p := p) (by simpa using h)
  rw [List.length_range, rev_down, range_map_ex h, ← List.map_reverse, rev_down] at hr
  rw [hr, List.map_map]
  conv => rhs; rw [← List.map_id (down n)]
  exact List.map_congr_left (fun x _ => ex_ex p x)
theorem fine_turn {n p : Nat} {u : List Nat} (h : Fine n (p :: u)) : Fine n (u ++ [n - 2 - p]) := by
  obtain ⟨h1, h2, h3⟩ := fine_iff.1 h
  have hp := h2 p List.mem_cons_self
  refine fine_iff.2 ⟨by simpa using h1, fun q hq => ?_, ?_⟩
  · rcases List.mem_append.1 hq with hq | hq
    · exact h2 q (List.mem_cons_of_mem _ hq)
    · have := List.mem_singleton.1 hq; omega
  · rw [act_append]
    have h3' : act (swp (List.range n) p) u = down n := h3
    have e : List.range n = ((swp (List.range n) p)).map (ex p) := by
      rw [range_map_ex hp, List.map_map]
      conv => lhs; rw [← List.map_id (List.range n)]
      exact (List.map_congr_left (fun x _ => ex_ex p x)).symm
    show swp (act (List.range n) u) (n - 2 - p) = down n
    rw [e, act_map, h3', down_map_ex hp]
/-- The pairs that a word exchanges. -/
def swL (L : List Nat) : List Nat → List (List Int)
  | [] => []
  | p :: u => [(L.getD p 0 : Int), (L.getD (p + 1) 0 : Int)] :: swL (swp L p) u
theorem swL_len (L u : List Nat) : (swL L u).length = u.length := by
  induction u generalizing L with
  | nil => rfl
  | cons p u ih => simp [swL, ih]
/-- The word that exchanges these pairs, if there is one. -/
def wf (L : List Nat) : List (List Int) → Option (List Nat)
  | [] => some []
  | s :: S =>
    if s.length = 2 ∧ s.getD 0 0 < s.getD 1 0 then
      match L.findIdx? (fun a : Nat => decide ((a : Int) = s.getD 0 0)) with
      | some p => if p + 1 < L.length ∧ (L.getD (p + 1) 0 : Int) = s.getD 1 0 then (wf (swp L p) S).map (p :: ·) else none
      | none => none
    else none
theorem swp_nodup {L : List Nat} (h : L.Nodup) (p : Nat) : (swp L p).Nodup := by
  by_cases hp : p + 1 < L.length
  · obtain ⟨A, a, b, B, rfl, rfl⟩ := split_at hp
    rw [swp_split]
    refine (List.Perm.nodup_iff ?_).1 h
    exact List.Perm.append_left A (List.Perm.swap b a B)
  · have e : swp L p = L := by
      clear h
      induction L generalizing p with
      | nil => cases p <;> rfl
      | cons a L ih =>
        cases p with
        | zero => cases L with
          | nil => rfl
          | cons b L => simp at hp
        | succ p => rw [swp, ih _ (by simpa using hp)]
    rw [e]; exact h
theorem find_at {L : List Nat} (h : L.Nodup) {p : Nat} (hp : p < L.length) : L.findIdx? (fun a : Nat => decide ((a : Int) = (L.getD p 0 : Int))) = some p := by
  rw [List.findIdx?_eq_some_iff_getElem]
  have e : L.getD p 0 = L[p] := by rw [List.getD_eq_getElem?_getD, List.getElem?_eq_getElem hp]; rfl
  refine ⟨hp, by rw [e]; simp, fun j hj => ?_⟩
  rw [e]
  have : L[j]'(by omega) ≠ L[p] := fun c => by
    have := (List.getElem_inj h).1 c
    omega
  simp; omega
theorem wf_swL {L u : List Nat} (hL : L.Nodup) (h : go L u ≠ none) : wf L (swL L u) = some u := by
  induction u generalizing L with
  | nil => rfl
  | cons p u ih =>
    simp only [go] at h
    split at h
    · rename_i hq
      simp only [swL, wf, List.length_cons, List.length_nil, List.getD_cons_zero, List.getD_cons_succ]
      rw [if_pos ⟨trivial, by omega⟩, find_at hL (by omega)]
      simp only []
      rw [if_pos ⟨hq.1, trivial⟩, ih (swp_nodup hL p) h]
      rfl
    · exact absurd rfl h
theorem wf_some {L u : List Nat} {S : List (List Int)} (h : wf L S = some u) : swL L u = S ∧ go L u ≠ none := by
  induction S generalizing L u with
  | nil => simp [wf] at h; subst h; exact ⟨rfl, by simp [go]⟩
  | cons s S ih =>
    simp only [wf] at h
    split at h
    · rename_i h1
      split at h
      · rename_i p hp
        split at h
        · rename_i h2
          obtain ⟨v, hv, rfl⟩ := Option.map_eq_some_iff.1 h
          obtain ⟨i1, i2⟩ := ih hv
          obtain ⟨hlt, hb, -⟩ := List.findIdx?_eq_some_iff_getElem.1 hp
          have e : L.getD p 0 = L[p] := by rw [List.getD_eq_getElem?_getD, List.getElem?_eq_getElem hlt]; rfl
          have e0 : (L.getD p 0 : Int) = s.getD 0 0 := by rw [e]; simpa using hb
          obtain ⟨x, y, rfl⟩ : ∃ x y, s = [x, y] := by
            match s, h1.1 with
            | [x, y], _ => exact ⟨x, y, rfl⟩
          simp only [List.getD_cons_zero, List.getD_cons_succ] at e0 h2 h1
          refine ⟨?_, ?_⟩
          · rw [swL, i1, e0, h2.2]
          · simp only [go]
            rw [if_pos ⟨h2.1, by omega⟩]
            exact i2
        · simp at h
      · simp at h
    · simp at h
end Go.Proofs.YtfpbehnpaedpmaaDoor.Wi
