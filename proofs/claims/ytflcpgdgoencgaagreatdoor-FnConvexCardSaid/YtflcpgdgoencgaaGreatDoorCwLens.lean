/- Convex sets: how long the answers are; CapOf and CupOf of spec as slices just made. -/
import Derived.Test.YtflcpgdgoencgaaGreatDoorMgZ
import Derived.Test.YtflcpgdgoencgaaGreatDoorMgI
import Derived.Test.YtflcpgdgoencgaaGreatDoorMgJ
namespace Go.Proofs.YtflcpgdgoencgaaGreatDoor.Sg
open Go.RowKit Pt NewI
theorem cvZ_len128 (n : Int) (s : List UInt8) (k : Int) (emp : Bool) : (cvZ n s k emp).length ≤ 128 := by
  unfold cvZ
  split
  · rename_i h
    have h7 := (aciB_n h.1).2
    refine Nat.le_trans (setsTo_length _ _) ?_
    exact pow_le7 (by omega)
  · simp
theorem capL_len7 (n : Int) (s : List UInt8) (sg : Int) : (zl (capL n s sg)).length ≤ 7 := by
  rw [zl_length]
  unfold capL
  split
  · rename_i h
    obtain ⟨h3, h7, -, -⟩ := arB_yes h
    exact Nat.le_trans (asc_len (chF_asc _ _ (asc_nil n.toNat))) (by omega)
  · simp
theorem got_slh {B : Nat} {L : List Nat} {e : Ending} {w' : World} (h : ∃ a c, e = .returned (.slice a L.length c) ∧ SlH w' B a L) : Got B (zl L) e w' := by
  obtain ⟨a, c, he, hn⟩ := h
  exact ⟨a, c, by rw [zl_length]; exact he, by rw [zl_length]; exact hn⟩
theorem specCap (n : Int) (s : ByteArray) (hs : s.size ≤ 9223372036854775807) (w : World) :
    Calls Tryz.prog 21 #[sg n s] w fun e w' => Got w.heap.size (zl (capL n s.data.toList (-1))) e w' ∧ Below w.heap.size w w' := (specCapOf n s hs w).mono fun _ _ ⟨h, hb⟩ => ⟨got_slh h, hb⟩
theorem specCup (n : Int) (s : ByteArray) (hs : s.size ≤ 9223372036854775807) (w : World) :
    Calls Tryz.prog 22 #[sg n s] w fun e w' => Got w.heap.size (zl (capL n s.data.toList 1)) e w' ∧ Below w.heap.size w w' := (specCupOf n s hs w).mono fun _ _ ⟨h, hb⟩ => ⟨got_slh h, hb⟩
end Go.Proofs.YtflcpgdgoencgaaGreatDoor.Sg
