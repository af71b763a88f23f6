/- Wirings: what makes a word one; turned, flipped, told by its exchanges. Plain mathematics. -/
import Derived.Test.YtfpbehnpaedpmaaWiMath
namespace Go.Proofs.Ytfpbehnpaedpmaa.Wi
theorem half_two (n : Nat) : 2 * (n * (n - 1) / 2) = n * (n - 1) := by
  have h : n * (n - 1) % 2 = 0 := by
    cases n with
    | zero => rfl
    | succ m =>
      rw [Nat.add_sub_cancel, Nat.mul_mod]
      rcases Nat.mod_two_eq_zero_or_one m with h | h
      · rw [h]; simp
      · have : (m + 1) % 2 = 0 := by omega
        rw [this]; simp
  omega
/-- The word u is a wiring of n wires. -/
def Fine (n : Nat) (u : List Nat) : Prop := u.length = n * (n - 1) / 2 ∧ go (List.range n) u ≠ none
theorem go_lt {L u : List Nat} (h : go L u ≠ none) : ∀ p ∈ u, p + 1 < L.length := by
  induction u generalizing L with
  | nil => intro p hp; simp at hp
  | cons q u ih =>
    simp only [go] at h
    split at h
    · rename_i hq
      intro p hp
      rcases List.mem_cons.1 hp with rfl | hp
      · exact hq.1
      · have := ih h p hp
        rw [swp_len] at this; exact this
    · exact absurd rfl h
theorem inv_range (n : Nat) : inv (List.range n) = 0 := by rw [List.range_eq_range']; exact inv_zero 0 n
theorem fine_iff {n : Nat} {u : List Nat} : Fine n u ↔ u.length = n * (n - 1) / 2 ∧ (∀ p ∈ u, p + 1 < n) ∧ act (List.range n) u = down n := by
  unfold Fine
  constructor
  · rintro ⟨h1, h2⟩
    have hl := go_lt h2
    obtain ⟨-, i2, i3⟩ := act_inv hl
    have e := i2.2 (i3 h2)
    rw [inv_range, h1] at e
    refine ⟨h1, fun p hp => by have := hl p hp; simpa using this, dec_down (dec_of ?_) (by simp) (fun b hb => by rw [act_mem, List.mem_range] at hb; exact hb)⟩
    rw [act_len, List.length_range]
    have := half_two n
    omega
  · rintro ⟨h1, h2, h3⟩
    refine ⟨h1, ?_⟩
    obtain ⟨-, i2, -⟩ := act_inv (L := List.range n) (u := u) (fun p hp => by rw [List.length_range]; exact h2 p hp)
    have := inv_down n
    have := half_two n
    have e := i2.1 (by rw [inv_range, h3, h1]; omega)
    rw [e]; simp
theorem fine_go {n : Nat} {u : List Nat} (h : Fine n u) : go (List.range n) u = some (down n) := by
  obtain ⟨-, -, h3⟩ := fine_iff.1 h
  obtain ⟨-, -, i3⟩ := act_inv (go_lt h.2)
  rw [i3 h.2, h3]
/-- The pairs that a word exchanges. -/
def swL (L : List Nat) : List Nat → List (List Int)
  | [] => []
  | p :: u => [(L.getD p 0 : Int), (L.getD (p + 1) 0 : Int)] :: swL (swp L p) u
theorem swL_len (L u : List Nat) : (swL L u).length = u.length := by
  induction u generalizing L with
  | nil => rfl
  | cons p u ih => simp [swL, ih]
/-- The word that exchanges these pairs, if there is one. -/
def wf (L : List Nat) : List (List Int) → Option (List Nat)
  | [] => some []
  | s :: S =>
    if s.length = 2 ∧ s.getD 0 0 < s.getD 1 0 then
      match L.findIdx? (fun a : Nat => decide ((a : Int) = s.getD 0 0)) with
      | some p => if p + 1 < L.length ∧ (L.getD (p + 1) 0 : Int) = s.getD 1 0 then (wf (swp L p) S).map (p :: ·) else none
      | none => none
    else none
theorem swp_nodup {L : List Nat} (h : L.Nodup) (p : Nat) : (swp L p).Nodup := by
  by_cases hp : p + 1 < L.length
  · obtain ⟨A, a, b, B, rfl, rfl⟩ := split_at hp
    rw [swp_split]
    refine (List.Perm.nodup_iff ?_).1 h
    exact List.Perm.append_left A (List.Perm.swap b a B)
  · have e : swp L p = L := by
      clear h
      induction L generalizing p with
      | nil => cases p <;> rfl
      | cons a L ih =>
        cases p with
        | zero => cases L with
          | nil => rfl
          | cons b L => simp at hp
        | succ p => rw [swp, ih _ (by simpa using hp)]
    rw [e]; exact h
theorem wf_some {L u : List Nat} {S : List (List Int)} (h : wf L S = some u) : swL L u = S ∧ go L u ≠ none := by
  induction S generalizing L u with
  | nil => simp [wf] at h; subst h; exact ⟨rfl, by simp [go]⟩
  | cons s S ih =>
    simp only [wf] at h
    split at h
    · rename_i h1
      split at h
      · rename_i p hp
        split at h
        · rename_i h2
          obtain ⟨v, hv, rfl⟩ := Option.map_eq_some_iff.1 h
          obtain ⟨i1, i2⟩ := ih hv
          obtain ⟨hlt, hb, -⟩ := List.findIdx?_eq_some_iff_getElem.1 hp
          have e : L.getD p 0 = L[p] := by rw [List.getD_eq_getElem?_getD, List.getElem?_eq_getElem hlt]; rfl
          have e0 : (L.getD p 0 : Int) = s.getD 0 0 := by rw [e]; simpa using hb
          obtain ⟨x, y, rfl⟩ : ∃ x y, s = [x, y] := by
            match s, h1.1 with
            | [x, y], _ => exact ⟨x, y, rfl⟩
          simp only [List.getD_cons_zero, List.getD_cons_succ] at e0 h2 h1
          refine ⟨?_, ?_⟩
          · rw [swL, i1, e0, h2.2]
          · simp only [go]
            rw [if_pos ⟨h2.1, by omega⟩]
            exact i2
        · simp at h
      · simp at h
    · simp at h
end Go.Proofs.Ytfpbehnpaedpmaa.Wi
