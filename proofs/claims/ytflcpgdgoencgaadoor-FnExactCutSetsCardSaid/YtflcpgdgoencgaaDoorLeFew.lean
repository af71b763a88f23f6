/- What lies left, on plain functions: at most twelve pairs halve the others. -/
import Derived.Test.YtflcpgdgoencgaaDoorMgM
namespace Go.Proofs.YtflcpgdgoencgaaDoor.Sg
theorem cp_cons (P : Nat → Bool) (a : Nat) (L : List Nat) : (a :: L).countP P = bit (P a) + L.countP P := by
  rw [List.countP_cons]
  cases h : P a
  · simp [bit]
  · simp [bit]; omega
theorem bit_le1 (b : Bool) : bit b ≤ 1 := by cases b <;> decide
theorem countP_lt {P Q : Nat → Bool} {b : Nat} : ∀ {L : List Nat}, (∀ x ∈ L, P x = true → Q x = true) → b ∈ L → P b = false → Q b = true → L.countP P < L.countP Q
  | [], _, hb, _, _ => by cases hb
  | a :: L, h, hb, h1, h2 => by
    rw [cp_cons, cp_cons]
    have ht : ∀ x ∈ L, P x = true → Q x = true := fun x hx => h x (List.mem_cons_of_mem _ hx)
    rcases List.mem_cons.1 hb with e | e
    · subst e
      have := List.countP_mono_left (p := P) (q := Q) ht
      rw [h1, h2]
      simp only [bit]
      show 0 + _ < 1 + _
      omega
    · have ih := countP_lt ht e h1 h2
      have hh := h a List.mem_cons_self
      cases hp : P a
      · have := bit_le1 (Q a)
        show 0 + _ < _
        omega
      · rw [hh hp]
        omega
section
variable {n : Nat} {s : List UInt8}
/-- Around an extreme element fewer lie to the left of a later one. -/
theorem left_ext_lt (h : aciB n s = true) {p a b : Nat} (hp : Ext n s p) (ha : a < n) (hb : b < n) (h1 : p ≠ a) (h2 : p ≠ b) (h3 : a ≠ b) (hs : sgnF (lookS n s) p a b = 1) : leftN (sgnF (lookS n s)) n p b < leftN (sgnF (lookS n s)) n p a := by
  unfold leftN
  refine countP_lt (b := b) (fun x hx hP => ?_) (List.mem_range.2 hb) (by simp) (by
    have e1 : (b != p) = true := by simp; omega
    have e2 : (b != a) = true := by simp; omega
    simp [e1, e2, hs])
  have hx := List.mem_range.1 hx
  simp only [Bool.and_eq_true, bne_iff_ne, decide_eq_true_eq] at hP ⊢
  obtain ⟨x1, x2, x3⟩ := hP
  have har := matB_ar (aciB_mat h)
  have hb1 : sgnF (lookS n s) p b x = 1 := by
    rcases sgn_one har (x := p) (y := b) (z := x) hp.1 hb hx h2 (fun e => x2 e.symm) (fun e => x1 e.symm) with e | e
    · exact e
    · omega
  have xa : x ≠ a := fun e => by
    subst e
    have := sgnF_s2 (lookS n s) (a := p) (b := x) (c := b) (by omega) (by omega) (by omega)
    omega
  refine ⟨x1, xa, ?_⟩
  rw [ext_trans h hp (a := a) (b := b) (c := x) (by have := hp.1; unfold Dis; omega) hs hb1]
  decide
theorem left_ext_inj (h : aciB n s = true) {p a b : Nat} (hp : Ext n s p) (ha : a < n) (hb : b < n) (h1 : p ≠ a) (h2 : p ≠ b) (h3 : a ≠ b) : leftN (sgnF (lookS n s)) n p a ≠ leftN (sgnF (lookS n s)) n p b := by
  rcases one_or h hp.1 ha hb h1 h2 h3 with e | e
  · have := left_ext_lt h hp ha hb h1 h2 h3 e; omega
  · have := left_ext_lt h hp hb ha h2 h1 (fun e => h3 e.symm) e; omega
/-- At an extreme element two pairs at most halve the others. -/
theorem ext_deg (h : aciB n s = true) {p : Nat} (hp : Ext n s p) : ((List.range n).countP fun j => j != p && halvB (leftN (sgnF (lookS n s)) n) p j) ≤ 2 := by
  have h3 := (aciB_n h).1
  rw [List.countP_eq_length_filter]
  have hmem : ∀ j ∈ (List.range n).filter (fun j => j != p && halvB (leftN (sgnF (lookS n s)) n) p j), j < n ∧ j ≠ p ∧ (n - 3) / 2 ≤ leftN (sgnF (lookS n s)) n p j ∧ leftN (sgnF (lookS n s)) n p j - (n - 3) / 2 < 2 := fun j hj => by
    obtain ⟨h1, h2⟩ := List.mem_filter.1 hj
    have h1 := List.mem_range.1 h1
    simp only [Bool.and_eq_true, bne_iff_ne] at h2
    obtain ⟨h2, hh⟩ := h2
    have hs := left_sum h hp.1 h1 (fun e => h2 e.symm)
    unfold halvB at hh
    have := Pt.inB_mem hh
    exact ⟨h1, h2, by omega, by omega⟩
  have := nodup_le 2 (((List.range n).filter (fun j => j != p && halvB (leftN (sgnF (lookS n s)) n) p j)).map fun j => leftN (sgnF (lookS n s)) n p j - (n - 3) / 2) (by
    show List.Pairwise _ _
    rw [List.pairwise_map]
    refine List.Pairwise.imp_of_mem (fun {a b} ha hb hab => ?_) (List.Pairwise.filter _ List.nodup_range)
    obtain ⟨a1, a2, a3, a4⟩ := hmem a ha
    obtain ⟨b1, b2, b3, b4⟩ := hmem b hb
    have := left_ext_inj h hp a1 b1 (fun e => a2 e.symm) (fun e => b2 e.symm) hab
    omega) (fun x hx => by
      obtain ⟨j, hj, rfl⟩ := List.mem_map.1 hx
      exact (hmem j hj).2.2.2)
  rwa [List.length_map] at this
theorem ext_three (h : aciB n s = true) : ∃ a b c, Ext n s a ∧ Ext n s b ∧ Ext n s c ∧ a < b ∧ b < c := by
  obtain ⟨R, hR, -⟩ := hull_round h
  have h3 := round_three h hR
  have hd := hR.nodup
  match R, hR, h3, hd with
  | x :: y :: z :: R, hR, h3, hd =>
    have ex := hR.ext x (by simp)
    have ey := hR.ext y (by simp)
    have ez := hR.ext z (by simp)
    have n1 : x ≠ y := fun e => by subst e; simp at hd
    have n2 : x ≠ z := fun e => by subst e; simp at hd
    have n3 : y ≠ z := fun e => by subst e; simp at hd
    rcases (by omega : (x < y ∧ y < z) ∨ (x < z ∧ z < y) ∨ (y < x ∧ x < z) ∨ (y < z ∧ z < x) ∨ (z < x ∧ x < y) ∨ (z < y ∧ y < x)) with ⟨h1, h2⟩ | ⟨h1, h2⟩ | ⟨h1, h2⟩ | ⟨h1, h2⟩ | ⟨h1, h2⟩ | ⟨h1, h2⟩
    · exact ⟨x, y, z, ex, ey, ez, h1, h2⟩
    · exact ⟨x, z, y, ex, ez, ey, h1, h2⟩
    · exact ⟨y, x, z, ey, ex, ez, h1, h2⟩
    · exact ⟨y, z, x, ey, ez, ex, h1, h2⟩
    · exact ⟨z, x, y, ez, ex, ey, h1, h2⟩
    · exact ⟨z, y, x, ez, ey, ex, h1, h2⟩
end
/-- How many pairs. -/
def totH (H : Nat → Nat → Bool) (n : Nat) : Nat := ((List.range n).map fun a => (List.range' (a + 1) (n - (a + 1))).countP (H a)).sum
theorem halvI_len (q : Nat → Nat → Nat) (n : Nat) : (halvI q n n).length = totH (halvB q) n := by
  unfold halvI totH
  rw [List.length_flatMap]
  congr 1
  refine List.map_congr_left fun a _ => ?_
  unfold halvJ
  rw [List.length_map, List.countP_eq_length_filter]
theorem halvB_symm (q : Nat → Nat → Nat) (i j : Nat) : halvB q i j = halvB q j i := by
  unfold halvB
  cases h : Pt.inB ((q i j : Int) - (q j i : Int)) (-1) 1
  · cases h2 : Pt.inB ((q j i : Int) - (q i j : Int)) (-1) 1
    · rfl
    · have := Pt.inB_mem h2
      rw [Pt.inB_yes (by omega) (by omega)] at h; cases h
  · have := Pt.inB_mem h
    exact (Pt.inB_yes (by omega) (by omega)).symm
theorem tot6 (H : Nat → Nat → Bool) : totH H 6 = (bit (H 0 1) + bit (H 0 2) + bit (H 0 3) + bit (H 0 4) + bit (H 0 5)) + (bit (H 1 2) + bit (H 1 3) + bit (H 1 4) + bit (H 1 5)) + (bit (H 2 3) + bit (H 2 4) + bit (H 2 5)) + (bit (H 3 4) + bit (H 3 5)) + (bit (H 4 5)) + 0 := by
  unfold totH
  rw [show List.range 6 = [0, 1, 2, 3, 4, 5] from rfl]
  simp only [List.map_cons, List.map_nil, List.sum_cons, List.sum_nil]
  rw [show List.range' (0 + 1) (6 - (0 + 1)) = [1, 2, 3, 4, 5] from rfl]
  rw [show List.range' (1 + 1) (6 - (1 + 1)) = [2, 3, 4, 5] from rfl]
  rw [show List.range' (2 + 1) (6 - (2 + 1)) = [3, 4, 5] from rfl]
  rw [show List.range' (3 + 1) (6 - (3 + 1)) = [4, 5] from rfl]
  rw [show List.range' (4 + 1) (6 - (4 + 1)) = [5] from rfl]
  rw [show List.range' (5 + 1) (6 - (5 + 1)) = [] from rfl]
  simp only [cp_cons, List.countP_nil]
  omega
theorem deg6_0 (H : Nat → Nat → Bool) (_hs : ∀ i j, H i j = H j i) : ((List.range 6).countP fun j => j != 0 && H 0 j) = bit (H 0 1) + bit (H 0 2) + bit (H 0 3) + bit (H 0 4) + bit (H 0 5) := by
  rw [show List.range 6 = [0, 1, 2, 3, 4, 5] from rfl]
  simp only [cp_cons, List.countP_nil]
  show bit false + (bit (H 0 1) + (bit (H 0 2) + (bit (H 0 3) + (bit (H 0 4) + (bit (H 0 5) + 0))))) = _
  have hb : bit false = 0 := rfl
  omega
theorem deg6_1 (H : Nat → Nat → Bool) (hs : ∀ i j, H i j = H j i) : ((List.range 6).countP fun j => j != 1 && H 1 j) = bit (H 0 1) + bit (H 1 2) + bit (H 1 3) + bit (H 1 4) + bit (H 1 5) := by
  rw [show List.range 6 = [0, 1, 2, 3, 4, 5] from rfl]
  simp only [cp_cons, List.countP_nil]
  rw [hs 1 0]
  show bit (H 0 1) + (bit false + (bit (H 1 2) + (bit (H 1 3) + (bit (H 1 4) + (bit (H 1 5) + 0))))) = _
  have hb : bit false = 0 := rfl
  omega
theorem deg6_2 (H : Nat → Nat → Bool) (hs : ∀ i j, H i j = H j i) : ((List.range 6).countP fun j => j != 2 && H 2 j) = bit (H 0 2) + bit (H 1 2) + bit (H 2 3) + bit (H 2 4) + bit (H 2 5) := by
  rw [show List.range 6 = [0, 1, 2, 3, 4, 5] from rfl]
  simp only [cp_cons, List.countP_nil]
  rw [hs 2 0, hs 2 1]
  show bit (H 0 2) + (bit (H 1 2) + (bit false + (bit (H 2 3) + (bit (H 2 4) + (bit (H 2 5) + 0))))) = _
  have hb : bit false = 0 := rfl
  omega
theorem deg6_3 (H : Nat → Nat → Bool) (hs : ∀ i j, H i j = H j i) : ((List.range 6).countP fun j => j != 3 && H 3 j) = bit (H 0 3) + bit (H 1 3) + bit (H 2 3) + bit (H 3 4) + bit (H 3 5) := by
  rw [show List.range 6 = [0, 1, 2, 3, 4, 5] from rfl]
  simp only [cp_cons, List.countP_nil]
  rw [hs 3 0, hs 3 1, hs 3 2]
  show bit (H 0 3) + (bit (H 1 3) + (bit (H 2 3) + (bit false + (bit (H 3 4) + (bit (H 3 5) + 0))))) = _
  have hb : bit false = 0 := rfl
  omega
theorem deg6_4 (H : Nat → Nat → Bool) (hs : ∀ i j, H i j = H j i) : ((List.range 6).countP fun j => j != 4 && H 4 j) = bit (H 0 4) + bit (H 1 4) + bit (H 2 4) + bit (H 3 4) + bit (H 4 5) := by
  rw [show List.range 6 = [0, 1, 2, 3, 4, 5] from rfl]
  simp only [cp_cons, List.countP_nil]
  rw [hs 4 0, hs 4 1, hs 4 2, hs 4 3]
  show bit (H 0 4) + (bit (H 1 4) + (bit (H 2 4) + (bit (H 3 4) + (bit false + (bit (H 4 5) + 0))))) = _
  have hb : bit false = 0 := rfl
  omega
theorem deg6_5 (H : Nat → Nat → Bool) (hs : ∀ i j, H i j = H j i) : ((List.range 6).countP fun j => j != 5 && H 5 j) = bit (H 0 5) + bit (H 1 5) + bit (H 2 5) + bit (H 3 5) + bit (H 4 5) := by
  rw [show List.range 6 = [0, 1, 2, 3, 4, 5] from rfl]
  simp only [cp_cons, List.countP_nil]
  rw [hs 5 0, hs 5 1, hs 5 2, hs 5 3, hs 5 4]
  show bit (H 0 5) + (bit (H 1 5) + (bit (H 2 5) + (bit (H 3 5) + (bit (H 4 5) + (bit false + 0))))) = _
  have hb : bit false = 0 := rfl
  omega
theorem few6 (H : Nat → Nat → Bool) (hs : ∀ i j, H i j = H j i) (a b c : Nat) (h1 : a < b) (h2 : b < c) (h3 : c < 6) (d1 : ((List.range 6).countP fun j => j != a && H a j) ≤ 2) (d2 : ((List.range 6).countP fun j => j != b && H b j) ≤ 2) (d3 : ((List.range 6).countP fun j => j != c && H c j) ≤ 2) : totH H 6 ≤ 12 := by
  rw [tot6]
  have b01 := bit_le1 (H 0 1)
  have b02 := bit_le1 (H 0 2)
  have b03 := bit_le1 (H 0 3)
  have b04 := bit_le1 (H 0 4)
  have b05 := bit_le1 (H 0 5)
  have b12 := bit_le1 (H 1 2)
  have b13 := bit_le1 (H 1 3)
  have b14 := bit_le1 (H 1 4)
  have b15 := bit_le1 (H 1 5)
  have b23 := bit_le1 (H 2 3)
  have b24 := bit_le1 (H 2 4)
  have b25 := bit_le1 (H 2 5)
  have b34 := bit_le1 (H 3 4)
  have b35 := bit_le1 (H 3 5)
  have b45 := bit_le1 (H 4 5)
  rcases (by omega : a = 0 ∨ a = 1 ∨ a = 2 ∨ a = 3) with rfl | rfl | rfl | rfl
  · rw [deg6_0 H hs] at d1
    rcases (by omega : b = 1 ∨ b = 2 ∨ b = 3 ∨ b = 4) with rfl | rfl | rfl | rfl
    · rw [deg6_1 H hs] at d2
      rcases (by omega : c = 2 ∨ c = 3 ∨ c = 4 ∨ c = 5) with rfl | rfl | rfl | rfl
      · rw [deg6_2 H hs] at d3; omega
      · rw [deg6_3 H hs] at d3; omega
      · rw [deg6_4 H hs] at d3; omega
      · rw [deg6_5 H hs] at d3; omega
    · rw [deg6_2 H hs] at d2
      rcases (by omega : c = 3 ∨ c = 4 ∨ c = 5) with rfl | rfl | rfl
      · rw [deg6_3 H hs] at d3; omega
      · rw [deg6_4 H hs] at d3; omega
      · rw [deg6_5 H hs] at d3; omega
    · rw [deg6_3 H hs] at d2
      rcases (by omega : c = 4 ∨ c = 5) with rfl | rfl
      · rw [deg6_4 H hs] at d3; omega
      · rw [deg6_5 H hs] at d3; omega
    · rw [deg6_4 H hs] at d2
      obtain rfl : c = 5 := by omega
      rw [deg6_5 H hs] at d3; omega
  · rw [deg6_1 H hs] at d1
    rcases (by omega : b = 2 ∨ b = 3 ∨ b = 4) with rfl | rfl | rfl
    · rw [deg6_2 H hs] at d2
      rcases (by omega : c = 3 ∨ c = 4 ∨ c = 5) with rfl | rfl | rfl
      · rw [deg6_3 H hs] at d3; omega
      · rw [deg6_4 H hs] at d3; omega
      · rw [deg6_5 H hs] at d3; omega
    · rw [deg6_3 H hs] at d2
      rcases (by omega : c = 4 ∨ c = 5) with rfl | rfl
      · rw [deg6_4 H hs] at d3; omega
      · rw [deg6_5 H hs] at d3; omega
    · rw [deg6_4 H hs] at d2
      obtain rfl : c = 5 := by omega
      rw [deg6_5 H hs] at d3; omega
  · rw [deg6_2 H hs] at d1
    rcases (by omega : b = 3 ∨ b = 4) with rfl | rfl
    · rw [deg6_3 H hs] at d2
      rcases (by omega : c = 4 ∨ c = 5) with rfl | rfl
      · rw [deg6_4 H hs] at d3; omega
      · rw [deg6_5 H hs] at d3; omega
    · rw [deg6_4 H hs] at d2
      obtain rfl : c = 5 := by omega
      rw [deg6_5 H hs] at d3; omega
  · rw [deg6_3 H hs] at d1
    obtain rfl : b = 4 := by omega
    rw [deg6_4 H hs] at d2
    obtain rfl : c = 5 := by omega
    rw [deg6_5 H hs] at d3; omega
theorem tot7 (H : Nat → Nat → Bool) : totH H 7 = (bit (H 0 1) + bit (H 0 2) + bit (H 0 3) + bit (H 0 4) + bit (H 0 5) + bit (H 0 6)) + (bit (H 1 2) + bit (H 1 3) + bit (H 1 4) + bit (H 1 5) + bit (H 1 6)) + (bit (H 2 3) + bit (H 2 4) + bit (H 2 5) + bit (H 2 6)) + (bit (H 3 4) + bit (H 3 5) + bit (H 3 6)) + (bit (H 4 5) + bit (H 4 6)) + (bit (H 5 6)) + 0 := by
  unfold totH
  rw [show List.range 7 = [0, 1, 2, 3, 4, 5, 6] from rfl]
  simp only [List.map_cons, List.map_nil, List.sum_cons, List.sum_nil]
  rw [show List.range' (0 + 1) (7 - (0 + 1)) = [1, 2, 3, 4, 5, 6] from rfl]
  rw [show List.range' (1 + 1) (7 - (1 + 1)) = [2, 3, 4, 5, 6] from rfl]
  rw [show List.range' (2 + 1) (7 - (2 + 1)) = [3, 4, 5, 6] from rfl]
  rw [show List.range' (3 + 1) (7 - (3 + 1)) = [4, 5, 6] from rfl]
  rw [show List.range' (4 + 1) (7 - (4 + 1)) = [5, 6] from rfl]
  rw [show List.range' (5 + 1) (7 - (5 + 1)) = [6] from rfl]
  rw [show List.range' (6 + 1) (7 - (6 + 1)) = [] from rfl]
  simp only [cp_cons, List.countP_nil]
  omega
theorem deg7_0 (H : Nat → Nat → Bool) (_hs : ∀ i j, H i j = H j i) : ((List.range 7).countP fun j => j != 0 && H 0 j) = bit (H 0 1) + bit (H 0 2) + bit (H 0 3) + bit (H 0 4) + bit (H 0 5) + bit (H 0 6) := by
  rw [show List.range 7 = [0, 1, 2, 3, 4, 5, 6] from rfl]
  simp only [cp_cons, List.countP_nil]
  show bit false + (bit (H 0 1) + (bit (H 0 2) + (bit (H 0 3) + (bit (H 0 4) + (bit (H 0 5) + (bit (H 0 6) + 0)))))) = _
  have hb : bit false = 0 := rfl
  omega
theorem deg7_1 (H : Nat → Nat → Bool) (hs : ∀ i j, H i j = H j i) : ((List.range 7).countP fun j => j != 1 && H 1 j) = bit (H 0 1) + bit (H 1 2) + bit (H 1 3) + bit (H 1 4) + bit (H 1 5) + bit (H 1 6) := by
  rw [show List.range 7 = [0, 1, 2, 3, 4, 5, 6] from rfl]
  simp only [cp_cons, List.countP_nil]
  rw [hs 1 0]
  show bit (H 0 1) + (bit false + (bit (H 1 2) + (bit (H 1 3) + (bit (H 1 4) + (bit (H 1 5) + (bit (H 1 6) + 0)))))) = _
  have hb : bit false = 0 := rfl
  omega
theorem deg7_2 (H : Nat → Nat → Bool) (hs : ∀ i j, H i j = H j i) : ((List.range 7).countP fun j => j != 2 && H 2 j) = bit (H 0 2) + bit (H 1 2) + bit (H 2 3) + bit (H 2 4) + bit (H 2 5) + bit (H 2 6) := by
  rw [show List.range 7 = [0, 1, 2, 3, 4, 5, 6] from rfl]
  simp only [cp_cons, List.countP_nil]
  rw [hs 2 0, hs 2 1]
  show bit (H 0 2) + (bit (H 1 2) + (bit false + (bit (H 2 3) + (bit (H 2 4) + (bit (H 2 5) + (bit (H 2 6) + 0)))))) = _
  have hb : bit false = 0 := rfl
  omega
theorem deg7_3 (H : Nat → Nat → Bool) (hs : ∀ i j, H i j = H j i) : ((List.range 7).countP fun j => j != 3 && H 3 j) = bit (H 0 3) + bit (H 1 3) + bit (H 2 3) + bit (H 3 4) + bit (H 3 5) + bit (H 3 6) := by
  rw [show List.range 7 = [0, 1, 2, 3, 4, 5, 6] from rfl]
  simp only [cp_cons, List.countP_nil]
  rw [hs 3 0, hs 3 1, hs 3 2]
  show bit (H 0 3) + (bit (H 1 3) + (bit (H 2 3) + (bit false + (bit (H 3 4) + (bit (H 3 5) + (bit (H 3 6) + 0)))))) = _
  have hb : bit false = 0 := rfl
  omega
theorem deg7_4 (H : Nat → Nat → Bool) (hs : ∀ i j, H i j = H j i) : ((List.range 7).countP fun j => j != 4 && H 4 j) = bit (H 0 4) + bit (H 1 4) + bit (H 2 4) + bit (H 3 4) + bit (H 4 5) + bit (H 4 6) := by
  rw [show List.range 7 = [0, 1, 2, 3, 4, 5, 6] from rfl]
  simp only [cp_cons, List.countP_nil]
  rw [hs 4 0, hs 4 1, hs 4 2, hs 4 3]
  show bit (H 0 4) + (bit (H 1 4) + (bit (H 2 4) + (bit (H 3 4) + (bit false + (bit (H 4 5) + (bit (H 4 6) + 0)))))) = _
  have hb : bit false = 0 := rfl
  omega
theorem deg7_5 (H : Nat → Nat → Bool) (hs : ∀ i j, H i j = H j i) : ((List.range 7).countP fun j => j != 5 && H 5 j) = bit (H 0 5) + bit (H 1 5) + bit (H 2 5) + bit (H 3 5) + bit (H 4 5) + bit (H 5 6) := by
  rw [show List.range 7 = [0, 1, 2, 3, 4, 5, 6] from rfl]
  simp only [cp_cons, List.countP_nil]
  rw [hs 5 0, hs 5 1, hs 5 2, hs 5 3, hs 5 4]
  show bit (H 0 5) + (bit (H 1 5) + (bit (H 2 5) + (bit (H 3 5) + (bit (H 4 5) + (bit false + (bit (H 5 6) + 0)))))) = _
  have hb : bit false = 0 := rfl
  omega
theorem deg7_6 (H : Nat → Nat → Bool) (hs : ∀ i j, H i j = H j i) : ((List.range 7).countP fun j => j != 6 && H 6 j) = bit (H 0 6) + bit (H 1 6) + bit (H 2 6) + bit (H 3 6) + bit (H 4 6) + bit (H 5 6) := by
  rw [show List.range 7 = [0, 1, 2, 3, 4, 5, 6] from rfl]
  simp only [cp_cons, List.countP_nil]
  rw [hs 6 0, hs 6 1, hs 6 2, hs 6 3, hs 6 4, hs 6 5]
  show bit (H 0 6) + (bit (H 1 6) + (bit (H 2 6) + (bit (H 3 6) + (bit (H 4 6) + (bit (H 5 6) + (bit false + 0)))))) = _
  have hb : bit false = 0 := rfl
  omega
theorem few7 (H : Nat → Nat → Bool) (hs : ∀ i j, H i j = H j i) (a b c : Nat) (h1 : a < b) (h2 : b < c) (h3 : c < 7) (d1 : ((List.range 7).countP fun j => j != a && H a j) ≤ 2) (d2 : ((List.range 7).countP fun j => j != b && H b j) ≤ 2) (d3 : ((List.range 7).countP fun j => j != c && H c j) ≤ 2) : totH H 7 ≤ 12 := by
  rw [tot7]
  have b01 := bit_le1 (H 0 1)
  have b02 := bit_le1 (H 0 2)
  have b03 := bit_le1 (H 0 3)
  have b04 := bit_le1 (H 0 4)
  have b05 := bit_le1 (H 0 5)
  have b06 := bit_le1 (H 0 6)
  have b12 := bit_le1 (H 1 2)
  have b13 := bit_le1 (H 1 3)
  have b14 := bit_le1 (H 1 4)
  have b15 := bit_le1 (H 1 5)
  have b16 := bit_le1 (H 1 6)
  have b23 := bit_le1 (H 2 3)
  have b24 := bit_le1 (H 2 4)
  have b25 := bit_le1 (H 2 5)
  have b26 := bit_le1 (H 2 6)
  have b34 := bit_le1 (H 3 4)
  have b35 := bit_le1 (H 3 5)
  have b36 := bit_le1 (H 3 6)
  have b45 := bit_le1 (H 4 5)
  have b46 := bit_le1 (H 4 6)
  have b56 := bit_le1 (H 5 6)
  rcases (by omega : a = 0 ∨ a = 1 ∨ a = 2 ∨ a = 3 ∨ a = 4) with rfl | rfl | rfl | rfl | rfl
  · rw [deg7_0 H hs] at d1
    rcases (by omega : b = 1 ∨ b = 2 ∨ b = 3 ∨ b = 4 ∨ b = 5) with rfl | rfl | rfl | rfl | rfl
    · rw [deg7_1 H hs] at d2
      rcases (by omega : c = 2 ∨ c = 3 ∨ c = 4 ∨ c = 5 ∨ c = 6) with rfl | rfl | rfl | rfl | rfl
      · rw [deg7_2 H hs] at d3; omega
      · rw [deg7_3 H hs] at d3; omega
      · rw [deg7_4 H hs] at d3; omega
      · rw [deg7_5 H hs] at d3; omega
      · rw [deg7_6 H hs] at d3; omega
    · rw [deg7_2 H hs] at d2
      rcases (by omega : c = 3 ∨ c = 4 ∨ c = 5 ∨ c = 6) with rfl | rfl | rfl | rfl
      · rw [deg7_3 H hs] at d3; omega
      · rw [deg7_4 H hs] at d3; omega
      · rw [deg7_5 H hs] at d3; omega
      · rw [deg7_6 H hs] at d3; omega
    · rw [deg7_3 H hs] at d2
      rcases (by omega : c = 4 ∨ c = 5 ∨ c = 6) with rfl | rfl | rfl
      · rw [deg7_4 H hs] at d3; omega
      · rw [deg7_5 H hs] at d3; omega
      · rw [deg7_6 H hs] at d3; omega
    · rw [deg7_4 H hs] at d2
      rcases (by omega : c = 5 ∨ c = 6) with rfl | rfl
      · rw [deg7_5 H hs] at d3; omega
      · rw [deg7_6 H hs] at d3; omega
    · rw [deg7_5 H hs] at d2
      obtain rfl : c = 6 := by omega
      rw [deg7_6 H hs] at d3; omega
  · rw [deg7_1 H hs] at d1
    rcases (by omega : b = 2 ∨ b = 3 ∨ b = 4 ∨ b = 5) with rfl | rfl | rfl | rfl
    · rw [deg7_2 H hs] at d2
      rcases (by omega : c = 3 ∨ c = 4 ∨ c = 5 ∨ c = 6) with rfl | rfl | rfl | rfl
      · rw [deg7_3 H hs] at d3; omega
      · rw [deg7_4 H hs] at d3; omega
      · rw [deg7_5 H hs] at d3; omega
      · rw [deg7_6 H hs] at d3; omega
    · rw [deg7_3 H hs] at d2
      rcases (by omega : c = 4 ∨ c = 5 ∨ c = 6) with rfl | rfl | rfl
      · rw [deg7_4 H hs] at d3; omega
      · rw [deg7_5 H hs] at d3; omega
      · rw [deg7_6 H hs] at d3; omega
    · rw [deg7_4 H hs] at d2
      rcases (by omega : c = 5 ∨ c = 6) with rfl | rfl
      · rw [deg7_5 H hs] at d3; omega
      · rw [deg7_6 H hs] at d3; omega
    · rw [deg7_5 H hs] at d2
      obtain rfl : c = 6 := by omega
      rw [deg7_6 H hs] at d3; omega
  · rw [deg7_2 H hs] at d1
    rcases (by omega : b = 3 ∨ b = 4 ∨ b = 5) with rfl | rfl | rfl
    · rw [deg7_3 H hs] at d2
      rcases (by omega : c = 4 ∨ c = 5 ∨ c = 6) with rfl | rfl | rfl
      · rw [deg7_4 H hs] at d3; omega
      · rw [deg7_5 H hs] at d3; omega
      · rw [deg7_6 H hs] at d3; omega
    · rw [deg7_4 H hs] at d2
      rcases (by omega : c = 5 ∨ c = 6) with rfl | rfl
      · rw [deg7_5 H hs] at d3; omega
      · rw [deg7_6 H hs] at d3; omega
    · rw [deg7_5 H hs] at d2
      obtain rfl : c = 6 := by omega
      rw [deg7_6 H hs] at d3; omega
  · rw [deg7_3 H hs] at d1
    rcases (by omega : b = 4 ∨ b = 5) with rfl | rfl
    · rw [deg7_4 H hs] at d2
      rcases (by omega : c = 5 ∨ c = 6) with rfl | rfl
      · rw [deg7_5 H hs] at d3; omega
      · rw [deg7_6 H hs] at d3; omega
    · rw [deg7_5 H hs] at d2
      obtain rfl : c = 6 := by omega
      rw [deg7_6 H hs] at d3; omega
  · rw [deg7_4 H hs] at d1
    obtain rfl : b = 5 := by omega
    rw [deg7_5 H hs] at d2
    obtain rfl : c = 6 := by omega
    rw [deg7_6 H hs] at d3; omega
theorem tot_small (H : Nat → Nat → Bool) (n : Nat) (h5 : n ≤ 5) : totH H n ≤ 12 := by
  have hl : ∀ a, (List.range' (a + 1) (n - (a + 1))).countP (H a) ≤ n - (a + 1) := fun a => by
    have := List.countP_le_length (p := H a) (l := List.range' (a + 1) (n - (a + 1)))
    rwa [List.length_range'] at this
  have h0 := hl 0
  have h1 := hl 1
  have h2 := hl 2
  have h3 := hl 3
  have h4 := hl 4
  unfold totH
  rcases (by omega : n = 0 ∨ n = 1 ∨ n = 2 ∨ n = 3 ∨ n = 4 ∨ n = 5) with rfl | rfl | rfl | rfl | rfl | rfl
  · simp
  · rw [show List.range 1 = [0] from rfl]; simp only [List.map_cons, List.map_nil, List.sum_cons, List.sum_nil]; omega
  · rw [show List.range 2 = [0, 1] from rfl]; simp only [List.map_cons, List.map_nil, List.sum_cons, List.sum_nil]; omega
  · rw [show List.range 3 = [0, 1, 2] from rfl]; simp only [List.map_cons, List.map_nil, List.sum_cons, List.sum_nil]; omega
  · rw [show List.range 4 = [0, 1, 2, 3] from rfl]; simp only [List.map_cons, List.map_nil, List.sum_cons, List.sum_nil]; omega
  · rw [show List.range 5 = [0, 1, 2, 3, 4] from rfl]; simp only [List.map_cons, List.map_nil, List.sum_cons, List.sum_nil]; omega
/-- So a sort of these pairs goes by insertion. -/
theorem halv_few {n : Nat} {s : List UInt8} (h : aciB n s = true) : (halvI (leftN (sgnF (lookS n s)) n) n n).length ≤ 12 := by
  have h7 := (aciB_n h).2
  rw [halvI_len]
  obtain ⟨a, b, c, ea, eb, ec, h1, h2⟩ := ext_three h
  have d1 := ext_deg h ea
  have d2 := ext_deg h eb
  have d3 := ext_deg h ec
  have hc := ec.1
  have hsy := halvB_symm (leftN (sgnF (lookS n s)) n)
  rcases (by omega : n ≤ 5 ∨ n = 6 ∨ n = 7) with h5 | h5 | h5
  · exact tot_small _ _ h5
  · generalize halvB (leftN (sgnF (lookS n s)) n) = H at d1 d2 d3 hsy ⊢
    subst h5
    exact few6 H hsy a b c h1 h2 hc d1 d2 d3
  · generalize halvB (leftN (sgnF (lookS n s)) n) = H at d1 d2 d3 hsy ⊢
    subst h5
    exact few7 H hsy a b c h1 h2 hc d1 d2 d3
end Go.Proofs.YtflcpgdgoencgaaDoor.Sg
