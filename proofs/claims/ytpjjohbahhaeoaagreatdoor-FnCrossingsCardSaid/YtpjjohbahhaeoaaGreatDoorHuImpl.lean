/- IsExtreme, HullSize, IsConvex and InHull, as impl answers them. -/
import Derived.Test.YtpjjohbahhaeoaaGreatDoorMgE
import Derived.Test.YtpjjohbahhaeoaaGreatDoorMgK
import Derived.Test.YtpjjohbahhaeoaaGreatDoorShelf
namespace Go.Proofs.YtpjjohbahhaeoaaGreatDoor.Sg
open Go.RowKit Pt NewI
theorem contains_zl (L : List Nat) (p : Nat) : (zl L).contains (p : Int) = L.contains p := by
  rw [Bool.eq_iff_iff, List.contains_iff_mem, List.contains_iff_mem]
  unfold zl
  constructor
  · intro h
    obtain ⟨x, hx, e⟩ := List.mem_map.1 h
    have : x = p := by have e : (x : Int) = p := e
                       omega
    exact this ▸ hx
  · intro h
    exact List.mem_map.2 ⟨p, h, rfl⟩
theorem contains_out {L : List Nat} {n : Nat} (hL : ∀ x ∈ L, x < n) {i : Int} (h : inB i 0 ((n : Int) - 1) = false) : (zl L).contains i = false := by
  cases hc : (zl L).contains i
  · rfl
  · exfalso
    rw [List.contains_iff_mem] at hc
    unfold zl at hc
    obtain ⟨x, hx, rfl⟩ := List.mem_map.1 hc
    have := hL x hx
    rw [inB_yes (by omega) (by omega)] at h
    cases h
theorem all_lt2 (n : Nat) : 2 ^ n - 1 < 2 ^ n := by have := Nat.pow_pos (n := n) (show 0 < 2 by omega); omega
theorem elsN_n {n : Nat} {s : List UInt8} (h : aciB n s = true) : ∀ x ∈ elsN n s, x < n := fun x hx => by
  rw [elsN_yes h] at hx
  exact elt_lt (all_lt2 n) hx
theorem contains_els {n p : Nat} {s : List UInt8} (h : aciB n s = true) (hp : p < n) : (zl (elsN n s)).contains (p : Int) = true := by
  have h7 := (aciB_n h).2
  rw [contains_zl, List.contains_iff_mem, elsN_yes h]
  exact mem_elt.2 ⟨by omega, by rw [all_bit]; simpa using hp⟩
/-- The extreme elements of order signs. -/
theorem extN_eq {n : Nat} {s : List UInt8} (h : aciB n s = true) : extL (sgnF (ordF n s)) (elsN n s) = eltN (extS (sgnF (lookS n s)) n (2 ^ n - 1)) := by
  rw [ordF_yes h, elsN_yes h, extL_eq h (all_lt2 n)]
theorem extN_no {n : Int} {s : List UInt8} (h : aciB n s = false) : extL (sgnF (ordF n s)) (elsN n s) = [] := by rw [elsN_no h]; rfl
theorem ext_ans (n : Int) (s : List UInt8) (i : Int) : (zl (extL (sgnF (ordF n s)) (elsN n s))).contains i = extB n s i := by
  cases h : aciB n s
  · rw [extN_no h, extB_no h]; rfl
  · obtain ⟨h3, h7⟩ := aciB_n h
    obtain ⟨m, rfl⟩ : ∃ m : Nat, n = m := ⟨n.toNat, by omega⟩
    rw [extN_eq h]
    have hlt : ∀ x ∈ eltN (extS (sgnF (lookS m s)) m (2 ^ m - 1)), x < m := fun x hx => elt_lt (extTo_lt _ _ _ _) hx
    cases hin : inB i 0 ((m : Int) - 1)
    · rw [contains_out hlt hin, extB_out hin]
    · obtain ⟨p0, p1⟩ := inB_mem hin
      obtain ⟨p, rfl⟩ : ∃ p : Nat, i = p := ⟨i.toNat, by omega⟩
      rw [contains_zl, extB_yes h hin, Bool.eq_iff_iff, List.contains_iff_mem, mem_elt]
      have hp7 : p < 7 := by omega
      have hpm : p < m := by omega
      unfold extS
      rw [extTo_bit, all_bit]
      simp [hp7, hpm]
theorem size_ans {n : Int} {s : List UInt8} (h : aciB n s = true) : (((extL (sgnF (ordF n s)) (elsN n s)).length : Nat) : Int) = hszZ n s := by
  obtain ⟨h3, h7⟩ := aciB_n h
  obtain ⟨m, rfl⟩ : ∃ m : Nat, n = m := ⟨n.toNat, by omega⟩
  rw [extN_eq h]
  unfold hszZ allS
  rw [if_pos h, Int.toNat_natCast, setsTo_elt, zl_length]
theorem els_len {n : Nat} {s : List UInt8} (h : aciB n s = true) : (elsN n s).length = n := by
  have h7 := (aciB_n h).2
  rw [elsN_yes h]
  have := pcS_all n (by omega)
  unfold pcS at this
  rwa [setsTo_elt, zl_length] at this
/-- A slice of such numbers: asked for a number. -/
theorem containsZ_any {B : Nat} {v : Value} {zs : List Int} (h7 : zs.length ≤ 1000) (x : Int) (w : World) (h : ResZ w B v zs) :
    Calls Tryz.prog 95 #[v, .int .i64 x] w fun e w' => e = .returned (.bool (zs.contains x)) ∧ w = w' := by
  rcases h with ⟨rfl, a, c, rfl⟩ | ⟨hne, g, c, rfl, -, -, -, -, h5⟩
  · exact (Tryz.slices_Contains_int_empty a c x w).mono fun e w' ⟨h1, h2⟩ => ⟨h1, h2.symm⟩
  · refine (Tryz.slices_Contains_int g 0 zs.length c zs x w (Nat.le_refl _) (by omega) (fun j hj => ?_)).mono fun e w' ⟨h1, h2⟩ => ⟨by rw [h1, List.take_length], h2.symm⟩
    rw [Nat.zero_add]
    exact h5.cell j hj
theorem cvx_ans {n : Nat} {s : List UInt8} (h : aciB n s = true) : ((((extL (sgnF (ordF n s)) (elsN n s)).length : Nat) : Int) == ((elsN n s).length : Nat)) = cvxB n s := by
  rw [size_ans h, els_len h]
  unfold cvxB
  rw [h]; rfl
end Go.Proofs.YtpjjohbahhaeoaaGreatDoor.Sg
