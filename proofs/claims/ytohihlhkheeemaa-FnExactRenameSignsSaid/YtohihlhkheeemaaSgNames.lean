/- Names: a list has each number less than n once; where each stands. Plain mathematics. -/
import Derived.Lib.Slices
namespace Go.Proofs.Ytohihlhkheeemaa.Sg
theorem len_le_of_subset {α : Type} [DecidableEq α] : ∀ (l1 l2 : List α), l1.Nodup → (∀ x ∈ l1, x ∈ l2) → l1.length ≤ l2.length
  | [], _, _, _ => Nat.zero_le _
  | x :: r, l2, hn, hs => by
    obtain ⟨h1, h2⟩ := List.nodup_cons.1 hn
    have hx : x ∈ l2 := hs x (by simp)
    have := len_le_of_subset r (l2.erase x) h2 (fun y hy => (List.mem_erase_of_ne (fun e => h1 (by rw [← e]; exact hy))).2 (hs y (List.mem_cons_of_mem _ hy)))
    rw [List.length_erase_of_mem hx] at this
    have : 0 < l2.length := List.length_pos_of_mem hx
    simp; omega
/-- Each number less than n, once. -/
def numsI (n : Nat) : List Int := (List.range n).map Int.ofNat
theorem numsI_nodup (n : Nat) : (numsI n).Nodup := by
  unfold numsI
  exact List.Pairwise.map _ (fun a b h e => h (Int.ofNat.inj e)) List.nodup_range
theorem mem_numsI {n : Nat} {x : Int} : x ∈ numsI n ↔ 0 ≤ x ∧ x < n := by
  unfold numsI
  rw [List.mem_map]
  constructor
  · rintro ⟨a, ha, rfl⟩
    have := List.mem_range.1 ha
    simp; omega
  · intro h
    exact ⟨x.toNat, List.mem_range.2 (by omega), by simp; omega⟩
/-- The names: as many as n, each in range, none twice. -/
def namesOk (n : Nat) (zs : List Int) : Prop := zs.length = n ∧ (∀ z ∈ zs, 0 ≤ z ∧ z < n) ∧ zs.Nodup
theorem names_all {n : Nat} {zs : List Int} (h : namesOk n zs) {x : Nat} (hx : x < n) : (x : Int) ∈ zs := by
  obtain ⟨h1, h2, h3⟩ := h
  refine Classical.byContradiction fun hn => ?_
  have := len_le_of_subset ((x : Int) :: zs) (numsI n) (List.nodup_cons.2 ⟨hn, h3⟩) (fun y hy => by
    rcases List.mem_cons.1 hy with rfl | hy
    · exact mem_numsI.2 (by omega)
    · exact mem_numsI.2 (h2 y hy))
  unfold numsI at this
  simp at this
  omega
theorem short_of_spare {n : Nat} {zs : List Int} {j : Nat} (hj : j < zs.length) (h : ∀ x : Nat, x < n → ∃ i, i ≠ j ∧ zs[i]? = some (x : Int)) : n + 1 ≤ zs.length := by
  have := len_le_of_subset (numsI n) (zs.eraseIdx j) (numsI_nodup n) (fun y hy => by
    obtain ⟨h0, h1⟩ := mem_numsI.1 hy
    obtain ⟨i, hi, hz⟩ := h y.toNat (by omega)
    rw [List.mem_eraseIdx_iff_getElem?]
    exact ⟨i, hi, by rw [hz]; congr 1; omega⟩)
  rw [List.length_eraseIdx_of_lt hj] at this
  unfold numsI at this
  simp at this
  omega
theorem names_of_all {n : Nat} {zs : List Int} (hl : zs.length = n) (h : ∀ x : Nat, x < n → (x : Int) ∈ zs) : namesOk n zs := by
  refine ⟨hl, fun z hz => ?_, ?_⟩
  · refine Classical.byContradiction fun hn => ?_
    obtain ⟨j, hj, rfl⟩ := List.mem_iff_getElem.1 hz
    have := short_of_spare hj (fun x hx => by
      obtain ⟨i, hi, he⟩ := List.mem_iff_getElem.1 (h x hx)
      exact ⟨i, fun e => hn (by subst e; rw [he]; omega), by rw [List.getElem?_eq_getElem hi, he]⟩)
    omega
  · rw [List.nodup_iff_pairwise_ne] at *
    refine List.pairwise_iff_getElem.2 fun i j hi hj hij he => ?_
    have := short_of_spare hj (fun x hx => by
      obtain ⟨k, hk, hz⟩ := List.mem_iff_getElem.1 (h x hx)
      by_cases e : k = j
      · subst e
        exact ⟨i, by omega, by rw [List.getElem?_eq_getElem hi, he, hz]⟩
      · exact ⟨k, e, by rw [List.getElem?_eq_getElem hk, hz]⟩)
    omega
open Classical in
noncomputable def namesB (n : Nat) (zs : List Int) : Bool := decide (namesOk n zs)
theorem namesB_yes {n : Nat} {zs : List Int} (h : namesOk n zs) : namesB n zs = true := by simp [namesB, h]
theorem namesB_no {n : Nat} {zs : List Int} (h : ¬ namesOk n zs) : namesB n zs = false := by simp [namesB, h]
theorem namesB_ok {n : Nat} {zs : List Int} (h : namesB n zs = true) : namesOk n zs := by simpa [namesB] using h
theorem namesB_not {n : Nat} {zs : List Int} (h : namesB n zs = false) : ¬ namesOk n zs := by simpa [namesB] using h
/-- Where number x stands: -1 if nowhere. -/
theorem idx_cases (zs : List Int) (x : Int) : (Lib.idxOf zs x = -1 ∧ x ∉ zs) ∨ ∃ k : Nat, Lib.idxOf zs x = k ∧ zs[k]? = some x ∧ ∀ j, j < k → zs[j]? ≠ some x := by
  by_cases hm : x ∈ zs
  · right
    have hex : ∃ k : Nat, zs[k]? = some x := by
      obtain ⟨i, hi, he⟩ := List.mem_iff_getElem.1 hm
      exact ⟨i, by rw [List.getElem?_eq_getElem hi, he]⟩
    obtain ⟨k, hk, hmin⟩ : ∃ k : Nat, zs[k]? = some x ∧ ∀ j, j < k → zs[j]? ≠ some x := by
      obtain ⟨k0, hk0⟩ := hex
      induction k0 using Nat.strongRecOn with
      | ind k0 ih =>
        by_cases h : ∃ j, j < k0 ∧ zs[j]? = some x
        · obtain ⟨j, hj, hz⟩ := h
          exact ih j hj hz
        · exact ⟨k0, hk0, fun j hj e => h ⟨j, hj, e⟩⟩
    obtain ⟨hkl, hke⟩ := List.getElem?_eq_some_iff.1 hk
    refine ⟨k, ?_, hk, hmin⟩
    have := Lib.idxOf_hit zs zs.length k x hkl (Nat.le_refl _) (by rw [List.getD_eq_getElem?_getD, hk]; rfl) (fun j hj e => hmin j hj (by
      rw [List.getD_eq_getElem?_getD, List.getElem?_eq_getElem (by omega)] at e
      rw [List.getElem?_eq_getElem (by omega)]
      simpa using e))
    rwa [List.take_length] at this
  · left
    refine ⟨?_, hm⟩
    have := Lib.idxOf_miss zs zs.length x (fun j hj e => hm (by
      rw [List.getD_eq_getElem?_getD, List.getElem?_eq_getElem hj] at e
      simp only [Option.getD_some] at e
      exact e ▸ List.getElem_mem hj))
    rwa [List.take_length] at this
/-- Where the numbers less than n stand. -/
def turnedL (n : Nat) (zs : List Int) : List Nat := (List.range n).map fun (x : Nat) => (Lib.idxOf zs (x : Int)).toNat
theorem turnedL_length (n : Nat) (zs : List Int) : (turnedL n zs).length = n := by unfold turnedL; simp
theorem turnedL_get {n : Nat} {zs : List Int} {x : Nat} (hx : x < n) : (turnedL n zs)[x]? = some (Lib.idxOf zs (x : Int)).toNat := by unfold turnedL; simp [hx]
theorem turnedL_at {n : Nat} {zs : List Int} (h : namesOk n zs) {x : Nat} (hx : x < n) : ∃ k : Nat, Lib.idxOf zs (x : Int) = k ∧ k < n ∧ zs[k]? = some (x : Int) ∧ (turnedL n zs)[x]? = some k := by
  rcases idx_cases zs x with ⟨-, h1⟩ | ⟨k, h1, h2, -⟩
  · exact absurd (names_all h hx) h1
  · have := (List.getElem?_eq_some_iff.1 h2).1
    exact ⟨k, h1, by rw [← h.1]; exact this, h2, by rw [turnedL_get hx, h1]; simp⟩
theorem turnedL_lt {n : Nat} {zs : List Int} (h : namesOk n zs) : ∀ k ∈ turnedL n zs, k < n := fun k hk => by
  obtain ⟨x, hx, he⟩ := List.mem_iff_getElem.1 hk
  rw [turnedL_length] at hx
  obtain ⟨k', -, h2, -, h3⟩ := turnedL_at h hx
  rw [List.getElem?_eq_getElem (by rw [turnedL_length]; exact hx), he] at h3
  obtain rfl := Option.some.inj h3
  exact h2
theorem turnedL_nodup {n : Nat} {zs : List Int} (h : namesOk n zs) : (turnedL n zs).Nodup := by
  refine List.pairwise_iff_getElem.2 fun i j hi hj hij he => ?_
  rw [turnedL_length] at hi hj
  obtain ⟨a, -, -, h2, h3⟩ := turnedL_at h hi
  obtain ⟨b, -, -, h5, h6⟩ := turnedL_at h hj
  rw [List.getElem?_eq_getElem (by rw [turnedL_length]; exact hi)] at h3
  rw [List.getElem?_eq_getElem (by rw [turnedL_length]; exact hj), ← he] at h6
  have hab : a = b := Option.some.inj (h3.symm.trans h6)
  subst hab
  rw [h2] at h5
  have := Option.some.inj h5
  omega
/-- What stands at place k turns up at the place that it names. -/
theorem turnedL_back {n : Nat} {zs : List Int} (h : namesOk n zs) {k : Nat} (hk : k < n) {z : Int} (hz : zs[k]? = some z) : (turnedL n zs)[z.toNat]? = some k := by
  have hm := List.mem_of_getElem? hz
  obtain ⟨h0, h1⟩ := h.2.1 z hm
  obtain ⟨k', -, -, h4, h5⟩ := turnedL_at h (x := z.toNat) (by omega)
  rw [h5]
  congr 1
  have hkl : k < zs.length := by rw [h.1]; exact hk
  have hkl' : k' < zs.length := (List.getElem?_eq_some_iff.1 h4).1
  rw [List.getElem?_eq_getElem hkl'] at h4
  rw [List.getElem?_eq_getElem hkl] at hz
  have e4 := Option.some.inj h4
  have ez := Option.some.inj hz
  have hp := List.pairwise_iff_getElem.1 h.2.2
  rcases Nat.lt_trichotomy k k' with hlt | heq | hgt
  · exact absurd (by rw [ez, e4]; omega) (hp k k' hkl hkl' hlt)
  · exact heq.symm
  · exact absurd (by rw [ez, e4]; omega) (hp k' k hkl' hkl hgt)
end Go.Proofs.Ytohihlhkheeemaa.Sg
