/- Several texts in one: KrFacts, TrFacts. -/
import Derived.Test.YtfggiflngfihcaaDoorQuFacts
import Derived.Test.YtfggiflngfihcaaDoorTrTri
import Derived.Test.YtfggiflngfihcaaDoorTrDist
import Derived.Test.YtfggiflngfihcaaDoorMgTd
/- What FnCrossings asks of the answers, on plain functions; laws.size of a set of edges. -/
namespace Go.Proofs.YtfggiflngfihcaaDoor.Sg
open Go.RowKit Pt NewI
section
variable {n : Nat} {s : List UInt8}
end
end Go.Proofs.YtfggiflngfihcaaDoor.Sg
/- What FnTriangulations asks of the answers, on plain functions. -/
namespace Go.Proofs.YtfggiflngfihcaaDoor.Sg
open Go.RowKit Pt NewI
section
variable {n : Nat} {s : List UInt8}
theorem itB_mk (h : aciB n s = true) (h6 : n ≤ 6) {T : Nat} (ht : T < 2 ^ eN n) (hf : fullB (cS n s) (eN n) T = true) : itB n s T = true := by
  obtain ⟨h3, -⟩ := aciB_n h
  obtain ⟨K, hK, -, hK2⟩ := allZ_nat6 (n := n) (by omega) h6
  unfold itB fitB
  rw [h, decide_eq_true (by omega), hK, inB_yes (by omega) (by omega), Int.toNat_natCast, Int.toNat_natCast, hf]
  rfl
end
theorem triZ_len15 (n : Int) (s : List UInt8) : (zl (triZ n s)).length ≤ 32768 := by
  rw [zl_length]
  unfold triZ
  split
  · rename_i h
    obtain ⟨h1, h6⟩ := fitB_n h
    obtain ⟨h3, -⟩ := aciB_n h1
    obtain ⟨m, rfl⟩ : ∃ m : Nat, n = m := ⟨n.toNat, by omega⟩
    rw [Int.toNat_natCast]
    have hl : (triL (cS m s) (eN m)).length ≤ 2 ^ eN m := allT_len _ _ _ _
    have : eN m ≤ 15 := by
      rcases (by omega : m = 3 ∨ m = 4 ∨ m = 5 ∨ m = 6) with rfl | rfl | rfl | rfl <;> decide +kernel
    have := Nat.pow_le_pow_right (n := 2) (by omega) this
    omega
  · simp
theorem ffZ_len (n : Int) (s : List UInt8) (T : Int) : (zl (ffZ n s T)).length ≤ 21 := by
  rw [zl_length]
  unfold ffZ
  split
  · rename_i h
    obtain ⟨m, t, rfl, rfl, h, m3, m6, -⟩ := itB_parts h
    rw [Int.toNat_natCast, Int.toNat_natCast]
    have := flipsTo_len (cS m s) (eN m) t (eN m)
    have hE := eN_bd m (by omega)
    exact Nat.le_trans this hE
  · simp
end Go.Proofs.YtfggiflngfihcaaDoor.Sg
