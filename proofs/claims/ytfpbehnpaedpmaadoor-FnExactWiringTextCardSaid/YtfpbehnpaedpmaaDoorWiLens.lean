/- Lengths of what chapter 12's functions hand back. Plain. -/
import Derived.Test.YtfpbehnpaedpmaaDoorWiTurn
import Derived.Test.YtfpbehnpaedpmaaDoorWiFrom
namespace Go.Proofs.YtfpbehnpaedpmaaDoor.Sg
open Go.RowKit Pt NewI Wi
theorem wiB_len {n : Int} {zs : List Int} (h : wiB n zs = true) : 3 ≤ n ∧ n ≤ 6 ∧ 3 ≤ zs.length ∧ zs.length ≤ 15 := by
  obtain ⟨h36, hlen, -⟩ := wiB_go h
  obtain ⟨h3, h6⟩ := inB_mem h36
  obtain ⟨m, rfl⟩ : ∃ m : Nat, n = m := ⟨n.toNat, by omega⟩
  rw [Int.toNat_natCast] at hlen
  have : ∀ m, m < 7 → 3 ≤ m → 3 ≤ m * (m - 1) / 2 ∧ m * (m - 1) / 2 ≤ 15 := by decide
  have := this m (by omega) (by omega)
  omega
theorem swZ_len (n : Int) (zs : List Int) : (swZ n zs).length ≤ 15 ∧ ∀ j, j < (swZ n zs).length → ((swZ n zs).getD j []).length ≤ 2 := by
  unfold swZ
  split
  · rename_i h
    obtain ⟨-, -, -, h15⟩ := wiB_len h
    refine ⟨by rw [swL_len, List.length_map]; exact h15, fun j hj => ?_⟩
    rw [List.getD_eq_getElem?_getD, List.getElem?_eq_getElem hj]
    have two : ∀ (u L : List Nat), ∀ s ∈ swL L u, s.length ≤ 2 := fun u => by
      induction u with
      | nil => intro L s hs; cases hs
      | cons p u ih =>
        intro L s hs
        rcases List.mem_cons.1 hs with rfl | hs
        · exact Nat.le_refl 2
        · exact ih _ s hs
    exact two _ _ _ (List.getElem_mem hj)
  · exact ⟨by simp, fun j hj => by simp at hj⟩
theorem wfA_len (n : Int) (S : List (List Int)) : (wfA (wfZ n S)).length ≤ 15 := by
  unfold wfA
  cases h : wfZ n S with
  | none => simp [wl]
  | some u =>
    obtain ⟨-, -, -, h15⟩ := wiB_len (wfZ_some h).1
    exact h15
theorem aft_len (n : Int) (zs : List Int) (k : Int) (_hz : zs.length ≤ 15) : (wl (wiAft n zs k)).length ≤ 100 := by
  rw [wl_length]
  unfold wiAft
  split
  · rename_i h
    obtain ⟨-, -, hgo⟩ := wiB_go h.1
    obtain ⟨M, hM⟩ := goZ_take hgo k.toNat
    rw [hM]
    have := goZ_act hM
    show M.length ≤ 100
    rw [this, act_len, List.length_range]
    have := (wiB_len h.1).2.1
    omega
  · simp
theorem turn_len (n : Int) (zs : List Int) (hz : zs.length ≤ 15) : (wiTurn n zs).length ≤ 100 := by
  unfold wiTurn
  split
  · unfold tuW
    rw [List.length_append, List.length_drop, List.length_singleton]
    omega
  · simp
theorem flip_len (n : Int) (zs : List Int) (hz : zs.length ≤ 15) : (wiFlip n zs).length ≤ 100 := by
  unfold wiFlip
  split
  · rw [flW_len]; omega
  · simp
end Go.Proofs.YtfpbehnpaedpmaaDoor.Sg
