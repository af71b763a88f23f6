/- Several texts in one: HuImpl, LeArg. -/
import Derived.Test.YtinlnafkmoabbaaGreatDoorMgE
import Derived.Test.YtinlnafkmoabbaaGreatDoorMgK
import Derived.Test.YtinlnafkmoabbaaGreatDoorShelf
import Derived.Test.YtinlnafkmoabbaaGreatDoorMgM
/- IsExtreme, HullSize, IsConvex and InHull, as impl answers them. -/
namespace Go.Proofs.YtinlnafkmoabbaaGreatDoor.Sg
open Go.RowKit Pt NewI
theorem els_len {n : Nat} {s : List UInt8} (h : aciB n s = true) : (elsN n s).length = n := by
  have h7 := (aciB_n h).2
  rw [elsN_yes h]
  have := pcS_all n (by omega)
  unfold pcS at this
  rwa [setsTo_elt, zl_length] at this
end Go.Proofs.YtinlnafkmoabbaaGreatDoor.Sg
/- What lies left, as impl counts it: the elements as a slice, leftCount, LeftCount. -/
namespace Go.Proofs.YtinlnafkmoabbaaGreatDoor.Sg
open Go.RowKit Pt NewI
theorem elt_all0 : ∀ n, n < 8 → eltN (2 ^ n - 1) = List.range n := by decide +kernel
theorem elsN_range {n : Nat} {s : List UInt8} (h : aciB n s = true) : elsN n s = List.range n := by
  have h7 := (aciB_n h).2
  rw [elsN_yes h]; exact elt_all0 n (by omega)
/-- The elements, ascending, in block g. -/
def ElsIs (W : World) (g m : Nat) : Prop := ∀ k : Nat, k < m → W.cell? ⟨g, k, none⟩ = some (.int .i64 k)
theorem ElsIs.on {W W' : World} {g m : Nat} (h : ElsIs W g m) (hb : Below W.heap.size W W') : ElsIs W' g m := fun k hk => by
  rw [hb.cell (Kit.cell_lt (h k hk))]; exact h k hk
/-- orderOf of order signs, and of others. -/
theorem orderOf_yes (n : Nat) (s : ByteArray) (hs : s.size ≤ 9223372036854775807) (h : aciB n s.data.toList = true) (w : World) (hT : Tab w) :
    Calls Tryz.prog 97 #[sg n s] w fun e w' => ∃ b g c, e = .returned (.tuple #[.map (some b), .slice (some ⟨g, 0, none⟩) n c]) ∧ MapIs w' b (lookS n s.data.toList) ∧ ElsIs w' g n ∧ ResZ w' 0 (.slice (some ⟨g, 0, none⟩) n c) (zl (elsN n s.data.toList)) ∧ Below w.heap.size w w' := by
  refine (orderOf_any n s hs w hT).mono ?_
  rintro e w' ⟨b, v, rfl, hm, hv, hb⟩
  have h3 := (aciB_n h).1
  have hl := els_len h
  rw [ordF_yes h] at hm
  have hr := elsN_range h
  rcases hv with ⟨h0, -⟩ | ⟨h0, g, c, rfl, h1, h2, h4, h5, h6⟩
  · have := zl_nil h0
    rw [this] at hl
    simp at hl; omega
  · have hzl : (zl (elsN n s.data.toList)).length = n := by rw [zl_length, hl]
    have hv : Value.slice (some ⟨g, 0, none⟩) (zl (elsN n s.data.toList)).length c = .slice (some ⟨g, 0, none⟩) n c := by rw [hzl]
    refine ⟨b, g, c, by rw [hv], hm, fun k hk => ?_, .inr ⟨h0, g, c, hv.symm, Nat.zero_le _, h2, h4, h5, h6⟩, hb⟩
    rw [h6.cell k (by omega), zc_zl (by omega), hr, List.getD_eq_getElem?_getD, List.getElem?_range hk]
    rfl
end Go.Proofs.YtinlnafkmoabbaaGreatDoor.Sg
