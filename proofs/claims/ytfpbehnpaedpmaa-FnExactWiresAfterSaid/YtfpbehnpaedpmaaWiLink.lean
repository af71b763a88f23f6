/- Wirings: what spec's contracts say of words, against the plain mathematics. -/
import Derived.Test.YtfpbehnpaedpmaaWiFlip
namespace Go.Proofs.Ytfpbehnpaedpmaa.Sg
open Go.RowKit Pt NewI Wi
theorem goZ_wl (L u : List Nat) : goZ L (wl u) = go L u := by
  induction u generalizing L with
  | nil => rfl
  | cons p u ih =>
    show (if swB L (p : Int) = true then goZ (swp L (p : Int).toNat) (wl u) else none) = (if p + 1 < L.length ∧ L.getD p 0 < L.getD (p + 1) 0 then go (swp L p) u else none)
    have e : swB L (p : Int) = decide (p + 1 < L.length ∧ L.getD p 0 < L.getD (p + 1) 0) := by
      unfold swB
      rw [Int.toNat_natCast]
      congr 1
      exact propext ⟨fun h => h.2, fun h => ⟨by omega, h⟩⟩
    rw [e, Int.toNat_natCast, ih]
    simp only [decide_eq_true_eq]
theorem fine_wiB {m : Nat} {u : List Nat} (h3 : 3 ≤ m) (h6 : m ≤ 6) (h : Fine m u) : wiB (m : Int) (wl u) = true := by
  unfold wiB
  have e : inB (m : Int) 3 6 = true := by simp only [inB, decide_eq_true_eq]; omega
  rw [e, Int.toNat_natCast, wl_length, h.1, goZ_wl, fine_go h]
  simp
/-- What TurnWiring answers, where it does. -/
def tuW (n : Int) (zs : List Int) : List Int := zs.drop 1 ++ [n - 2 - zs.getD 0 0]
end Go.Proofs.Ytfpbehnpaedpmaa.Sg
