/- The laws of LeftCount, LeftTable, LeftRow, CrossingSum, HalvingPairs and CutSets. -/
import Derived.Test.YtflcpgdgoencgaaGreatDoorMgN
import Derived.Test.YtflcpgdgoencgaaGreatDoorLeHalf
namespace Go.Proofs.YtflcpgdgoencgaaGreatDoor.Sg
open Go.RowKit Pt NewI NewII
theorem pre_le7 (xss : List (List Int)) (h : ∀ zs ∈ xss, zs.length ≤ 7) : ∀ k, pre xss k ≤ 1 + 7 * k
  | 0 => by show 1 ≤ _; omega
  | k + 1 => by
    have ih := pre_le7 xss h k
    have h2 : ln xss k ≤ 7 := by
      unfold ln
      rw [List.getD_eq_getElem?_getD]
      cases hk : xss[k]? with
      | none => simp
      | some zs => exact h zs (List.mem_of_getElem? hk)
    show pre xss k + ln xss k ≤ _
    omega
theorem rowZ_len7 (n : Int) (s : List UInt8) : (rowZ n s).length ≤ 7 := by
  unfold rowZ
  split
  · rename_i h
    have h7 := (aciB_n h).2
    rw [rowQ_len]; omega
  · simp
theorem setsTo_len (q : Nat → Bool) (M : Nat) : (setsTo q M).length ≤ M := setsTo_length q M
theorem cutZ_len128 (n : Int) (s : List UInt8) (k : Int) : (cutZ n s k).length ≤ 128 := by
  unfold cutZ
  split
  · rename_i h
    have h7 := (aciB_n h.1).2
    exact Nat.le_trans (setsTo_len _ _) (pow_le7 (by omega))
  · simp
theorem tabZ_len (n : Int) (s : List UInt8) : (tabZ n s).length ≤ 100000 ∧ pre (tabZ n s) (tabZ n s).length ≤ 100000 := by
  have h1 : (tabZ n s).length ≤ 7 ∧ ∀ zs ∈ tabZ n s, zs.length ≤ 7 := by
    unfold tabZ
    split
    · rename_i h
      have h7 := (aciB_n h).2
      refine ⟨by rw [tabT_len]; omega, fun zs hz => ?_⟩
      unfold tabT at hz
      obtain ⟨a, -, rfl⟩ := List.mem_map.1 hz
      rw [rowT_len]; omega
    · exact ⟨by simp, fun zs hz => by cases hz⟩
  have h2 := pre_le7 _ h1.2 (tabZ n s).length
  omega
theorem halvZ_mem (n : Int) (s : List UInt8) : (halvZ n s).length ≤ 12 ∧ ∀ zs ∈ halvZ n s, zs.length = 2 := by
  cases h : aciB n s
  · unfold halvZ; rw [h]; exact ⟨by simp, fun zs hz => by cases hz⟩
  · obtain ⟨h3, h7⟩ := aciB_n h
    obtain ⟨m, rfl⟩ : ∃ m : Nat, n = m := ⟨n.toNat, by omega⟩
    have hf := halv_few h
    unfold halvZ
    rw [if_pos h, Int.toNat_natCast]
    refine ⟨hf, fun zs hz => ?_⟩
    rw [halvI_keys _ (by omega)] at hz
    obtain ⟨k, -, rfl⟩ := List.mem_map.1 hz
    rfl
theorem halvZ_len (n : Int) (s : List UInt8) : (halvZ n s).length ≤ 100000 ∧ pre (halvZ n s) (halvZ n s).length ≤ 100000 := by
  obtain ⟨h1, h0⟩ := halvZ_mem n s
  have h2 := pre_le7 _ (fun zs hz => by rw [h0 zs hz]; omega) (halvZ n s).length
  omega
end Go.Proofs.YtflcpgdgoencgaaGreatDoor.Sg
