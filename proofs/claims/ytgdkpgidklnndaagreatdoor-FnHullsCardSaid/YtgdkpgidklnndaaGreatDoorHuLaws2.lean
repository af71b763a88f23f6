/- The laws of HullOf and LayersOf. -/
import Derived.Test.YtgdkpgidklnndaaGreatDoorHuImplHull
import Derived.Test.YtgdkpgidklnndaaGreatDoorHuImplLay
import Derived.Test.YtgdkpgidklnndaaGreatDoorMgK
namespace Go.Proofs.YtgdkpgidklnndaaGreatDoor.Sg
open Go.RowKit Pt NewI NewII
theorem hullGo_len (nx : Nat → Int) (first : Nat) : ∀ f a, (hullGo nx first f a).length ≤ f
  | 0, _ => Nat.le_refl _
  | f + 1, a => by
    show (_ :: (if _ then _ else _) : List Int).length ≤ _
    split
    · simp
    · have := hullGo_len nx first f (nx a).toNat
      simp only [List.length_cons]
      omega
theorem hullZ_len (n : Int) (s : List UInt8) : (hullZ n s).length ≤ 7 := by
  unfold hullZ
  split
  · rename_i h
    have h7 := (aciB_n h).2
    exact Nat.le_trans (hullGo_len _ _ _ _) (by omega)
  · simp
theorem layL_len (F : Int → Int → Int → Int) (n : Nat) : ∀ k set, (layL F n k set).length ≤ k
  | 0, _ => Nat.le_refl _
  | k + 1, set => by
    show (if set = 0 then _ else _ : List (List Int)).length ≤ _
    split
    · simp
    · have := layL_len F n k (restS F n set)
      simp only [List.length_cons]
      omega
theorem layL_mem (F : Int → Int → Int → Int) (n : Nat) : ∀ k set zs, zs ∈ layL F n k set → zs.length ≤ 7
  | 0, _, zs, h => by cases h
  | k + 1, set, zs, h => by
    have h : zs ∈ (if set = 0 then [] else setsTo (extS F n set).testBit 7 :: layL F n k (restS F n set)) := h
    split at h
    · cases h
    · rcases List.mem_cons.1 h with e | e
      · rw [e]; exact setsTo_length _ _
      · exact layL_mem F n k _ zs e
theorem pre_le (xss : List (List Int)) (h : ∀ zs ∈ xss, zs.length ≤ 7) : ∀ k, pre xss k ≤ 1 + 7 * k
  | 0 => by show 1 ≤ _; omega
  | k + 1 => by
    have ih := pre_le xss h k
    have h2 : ln xss k ≤ 7 := by
      unfold ln
      rw [List.getD_eq_getElem?_getD]
      cases hk : xss[k]? with
      | none => simp
      | some zs => exact h zs (List.mem_of_getElem? hk)
    show pre xss k + ln xss k ≤ _
    omega
theorem layZ_len (n : Int) (s : List UInt8) : (layZ n s).length ≤ 100000 ∧ pre (layZ n s) (layZ n s).length ≤ 100000 := by
  have h1 : (layZ n s).length ≤ 127 ∧ ∀ zs ∈ layZ n s, zs.length ≤ 7 := by
    unfold layZ
    split
    · rename_i h
      have h7 := (aciB_n h).2
      have hp := pow_le7 (p := n.toNat) (by omega)
      exact ⟨Nat.le_trans (layL_len _ _ _ _) (by unfold allS; omega), layL_mem _ _ _ _⟩
    · exact ⟨by simp, fun zs hz => by cases hz⟩
  have h2 := pre_le _ h1.2 (layZ n s).length
  omega
end Go.Proofs.YtgdkpgidklnndaaGreatDoor.Sg
