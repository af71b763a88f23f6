/- IsExtreme, HullSize, IsConvex and InHull, as impl answers them. -/
import Derived.Test.YtgdkpgidklnndaaGreatDoorMgE
import Derived.Test.YtgdkpgidklnndaaGreatDoorMgK
import Derived.Test.YtgdkpgidklnndaaGreatDoorShelf
namespace Go.Proofs.YtgdkpgidklnndaaGreatDoor.Sg
open Go.RowKit Pt NewI
theorem contains_zl (L : List Nat) (p : Nat) : (zl L).contains (p : Int) = L.contains p := by
  rw [Bool.eq_iff_iff, List.contains_iff_mem, List.contains_iff_mem]
  unfold zl
  constructor
  · intro h
    obtain ⟨x, hx, e⟩ := List.mem_map.1 h
    have : x = p := by have e : (x : Int) = p := e
                       omega
    exact this ▸ hx
  · intro h
    exact List.mem_map.2 ⟨p, h, rfl⟩
theorem contains_out {L : List Nat} {n : Nat} (hL : ∀ x ∈ L, x < n) {i : Int} (h : inB i 0 ((n : Int) - 1) = false) : (zl L).contains i = false := by
  cases hc : (zl L).contains i
  · rfl
  · exfalso
    rw [List.contains_iff_mem] at hc
    unfold zl at hc
    obtain ⟨x, hx, rfl⟩ := List.mem_map.1 hc
    have := hL x hx
    rw [inB_yes (by omega) (by omega)] at h
    cases h
theorem all_lt2 (n : Nat) : 2 ^ n - 1 < 2 ^ n := by have := Nat.pow_pos (n := n) (show 0 < 2 by omega); omega
theorem elsN_n {n : Nat} {s : List UInt8} (h : aciB n s = true) : ∀ x ∈ elsN n s, x < n := fun x hx => by
  rw [elsN_yes h] at hx
  exact elt_lt (all_lt2 n) hx
theorem contains_els {n p : Nat} {s : List UInt8} (h : aciB n s = true) (hp : p < n) : (zl (elsN n s)).contains (p : Int) = true := by
  have h7 := (aciB_n h).2
  rw [contains_zl, List.contains_iff_mem, elsN_yes h]
  exact mem_elt.2 ⟨by omega, by rw [all_bit]; simpa using hp⟩
/-- The extreme elements of order signs. -/
theorem extN_eq {n : Nat} {s : List UInt8} (h : aciB n s = true) : extL (sgnF (ordF n s)) (elsN n s) = eltN (extS (sgnF (lookS n s)) n (2 ^ n - 1)) := by
  rw [ordF_yes h, elsN_yes h, extL_eq h (all_lt2 n)]
theorem extN_no {n : Int} {s : List UInt8} (h : aciB n s = false) : extL (sgnF (ordF n s)) (elsN n s) = [] := by rw [elsN_no h]; rfl
theorem ext_ans (n : Int) (s : List UInt8) (i : Int) : (zl (extL (sgnF (ordF n s)) (elsN n s))).contains i = extB n s i := by
  cases h : aciB n s
  · rw [extN_no h, extB_no h]; rfl
  · obtain ⟨h3, h7⟩ := aciB_n h
    obtain ⟨m, rfl⟩ : ∃ m : Nat, n = m := ⟨n.toNat, by omega⟩
    rw [extN_eq h]
    have hlt : ∀ x ∈ eltN (extS (sgnF (lookS m s)) m (2 ^ m - 1)), x < m := fun x hx => elt_lt (extTo_lt _ _ _ _) hx
    cases hin : inB i 0 ((m : Int) - 1)
    · rw [contains_out hlt hin, extB_out hin]
    · obtain ⟨p0, p1⟩ := inB_mem hin
      obtain ⟨p, rfl⟩ : ∃ p : Nat, i = p := ⟨i.toNat, by omega⟩
      rw [contains_zl, extB_yes h hin, Bool.eq_iff_iff, List.contains_iff_mem, mem_elt]
      have hp7 : p < 7 := by omega
      have hpm : p < m := by omega
      unfold extS
      rw [extTo_bit, all_bit]
      simp [hp7, hpm]
theorem size_ans {n : Int} {s : List UInt8} (h : aciB n s = true) : (((extL (sgnF (ordF n s)) (elsN n s)).length : Nat) : Int) = hszZ n s := by
  obtain ⟨h3, h7⟩ := aciB_n h
  obtain ⟨m, rfl⟩ : ∃ m : Nat, n = m := ⟨n.toNat, by omega⟩
  rw [extN_eq h]
  unfold hszZ allS
  rw [if_pos h, Int.toNat_natCast, setsTo_elt, zl_length]
theorem els_len {n : Nat} {s : List UInt8} (h : aciB n s = true) : (elsN n s).length = n := by
  have h7 := (aciB_n h).2
  rw [elsN_yes h]
  have := pcS_all n (by omega)
  unfold pcS at this
  rwa [setsTo_elt, zl_length] at this
/-- A slice of such numbers: asked for a number. -/
theorem containsZ_any {B : Nat} {v : Value} {zs : List Int} (h7 : zs.length ≤ 1000) (x : Int) (w : World) (h : ResZ w B v zs) :
    Calls Tryz.prog 33 #[v, .int .i64 x] w fun e w' => e = .returned (.bool (zs.contains x)) ∧ w = w' := by
  rcases h with ⟨rfl, a, c, rfl⟩ | ⟨hne, g, c, rfl, -, -, -, -, h5⟩
  · exact (Tryz.slices_Contains_int_empty a c x w).mono fun e w' ⟨h1, h2⟩ => ⟨h1, h2.symm⟩
  · refine (Tryz.slices_Contains_int g 0 zs.length c zs x w (Nat.le_refl _) (by omega) (fun j hj => ?_)).mono fun e w' ⟨h1, h2⟩ => ⟨by rw [h1, List.take_length], h2.symm⟩
    rw [Nat.zero_add]
    exact h5.cell j hj
set_option maxHeartbeats 800000 in
set_option maxRecDepth 100000 in
theorem implIsExtreme (n : Int) (s : ByteArray) (i : Int) (hs : s.size ≤ 9223372036854775807) (w : World) (hT : Tab w) :
    Calls Tryz.prog 14 #[sg n s, .int .i64 i] w fun e w' => e = .returned (.bool (extB n s.data.toList i)) ∧ Below w.heap.size w w' := by
  have HS := Lib.hid (box_made w n s 25)
  have HO := Lib.hid (orderOf_any n s hs _ (hT.on ((Below.refl w.heap.size w).alloc (Nat.le_refl _) (.cells #[.int .i64 n, .string s] 25))))
  have HAM := Lib.hid (fun b v W hm hv => extremeAmong_any b (ordF n s.data.toList) v (elsN n s.data.toList) (elsN_len _ _) (elsN_lt _ _) W hm (w.alloc (.cells #[.int .i64 n, .string s] 25)).heap.size hv)
  have HLE : Hid ((zl (extL (sgnF (ordF n s.data.toList)) (elsN n s.data.toList))).length ≤ 1000) := Lib.hid (by
    have h1 : (extL (sgnF (ordF n s.data.toList)) (elsN n s.data.toList)).length ≤ (elsN n s.data.toList).length := List.length_filter_le _ _
    have h2 := elsN_len n s.data.toList
    rw [zl_length]; omega)
  have HCO := Lib.hid (fun B v W (hr : ResZ W B v (zl (extL (sgnF (ordF n s.data.toList)) (elsN n s.data.toList)))) => containsZ_any HLE.out i W hr)
  rw [ext_ans n s.data.toList i] at HCO
  generalize extB n s.data.toList i = q at HCO ⊢
  generalize zl (extL (sgnF (ordF n s.data.toList)) (elsN n s.data.toList)) = zs at HAM HCO
  generalize ordF n s.data.toList = f at HO HAM
  generalize zl (elsN n s.data.toList) = ys at HO HAM
  clear hT
  go_enter Tryz.func14, Tryz.ntmps14
  go_wp2_with fail
  refine HO.out.mono ?_
  rintro e w1 ⟨b, v, rfl, hm, hv, hb1⟩
  have B1 := Lib.hid (HS.out.2.2.trans (hb1.mono HS.out.2.2.size))
  have HM := Lib.hid hm
  have HV := Lib.hid hv
  clear hm hv hb1
  go_wp2_with fail
  refine (HAM.out b v _ HM.out HV.out).mono ?_
  rintro e w2 ⟨v2, rfl, hr2, hb2⟩
  have B2 := Lib.hid (B1.out.trans (hb2.mono B1.out.size))
  have HR := Lib.hid hr2
  clear hr2 hb2
  go_wp2_with fail
  refine (HCO.out _ _ _ HR.out).mono ?_
  rintro e w' ⟨rfl, rfl⟩
  go_wp2
  go_ret
  exact ⟨rfl, B2.out⟩
set_option maxHeartbeats 800000 in
set_option maxRecDepth 100000 in
theorem implHullSize (n : Int) (s : ByteArray) (hs : s.size ≤ 9223372036854775807) (w : World) (hT : Tab w) :
    Calls Tryz.prog 18 #[sg n s] w fun e w' => e = .returned (.int .i64 (hszZ n s.data.toList)) ∧ Below w.heap.size w w' := by
  have HS := Lib.hid (box_made w n s 25)
  have HO := Lib.hid (orderOf_any n s hs _ (hT.on ((Below.refl w.heap.size w).alloc (Nat.le_refl _) (.cells #[.int .i64 n, .string s] 25))))
  clear hT
  cases h : aciB n s.data.toList
  · have HE : Hid (hszZ n s.data.toList = -1) := Lib.hid (by unfold hszZ; rw [h]; rfl)
    rw [elsN_no h] at HO
    generalize ordF n s.data.toList = f at HO
    clear h
    go_enter Tryz.func18, Tryz.ntmps18
    go_wp2_with fail
    refine HO.out.mono ?_
    rintro e w1 ⟨b, v, rfl, -, ⟨-, rfl⟩ | ⟨h0, -⟩, hb1⟩
    · have B1 := Lib.hid (HS.out.2.2.trans (hb1.mono HS.out.2.2.size))
      clear hb1
      go_wp2
      go_ret
      exact ⟨ret_int HE.out.symm, B1.out⟩
    · exact absurd rfl h0
  · have HAM := Lib.hid (fun b v W hm hv => extremeAmong_any b (ordF n s.data.toList) v (elsN n s.data.toList) (elsN_len _ _) (elsN_lt _ _) W hm (w.alloc (.cells #[.int .i64 n, .string s] 25)).heap.size hv)
    have HE := Lib.hid (size_ans h)
    obtain ⟨h3, h7⟩ := aciB_n h
    obtain ⟨m, rfl⟩ : ∃ m : Nat, n = m := ⟨n.toNat, by omega⟩
    have hl := els_len h
    have hzl := zl_length (elsN m s.data.toList)
    have hxl := zl_length (extL (sgnF (ordF m s.data.toList)) (elsN m s.data.toList))
    have hxs : (extL (sgnF (ordF m s.data.toList)) (elsN m s.data.toList)).length ≤ 7 := Nat.le_trans (List.length_filter_le _ _) (elsN_len m s.data.toList)
    generalize extL (sgnF (ordF m s.data.toList)) (elsN m s.data.toList) = X at HAM HE hxl hxs
    generalize ordF m s.data.toList = f at HO HAM
    generalize zl (elsN m s.data.toList) = ys at HO HAM hzl
    clear h
    go_enter Tryz.func18, Tryz.ntmps18
    go_wp2_with fail
    refine HO.out.mono ?_
    rintro e w1 ⟨b, v, rfl, hm, hv, hb1⟩
    have B1 := Lib.hid (HS.out.2.2.trans (hb1.mono HS.out.2.2.size))
    have HM := Lib.hid hm
    have HV := Lib.hid hv
    rcases hv with ⟨h0, -⟩ | ⟨-, g, c, rfl, -⟩
    · rw [h0] at hzl; simp at hzl; omega
    · have hn0 : ((ys.length : Int) == 0) = false := beq_eq_false_iff_ne.2 (by omega)
      have HX := Lib.hid hxl
      clear hm hb1 hzl hl hxl
      go_wp2_with fail
      refine (HAM.out b _ _ HM.out HV.out).mono ?_
      rintro e w2 ⟨v2, rfl, hr2, hb2⟩
      have B2 := Lib.hid (B1.out.trans (hb2.mono B1.out.size))
      obtain ⟨a2, c2, rfl, -⟩ := hr2.new
      clear hr2 hb2
      go_wp2
      go_ret
      exact ⟨ret_int (by rw [HX.out]; exact HE.out), B2.out⟩
theorem cvx_ans {n : Nat} {s : List UInt8} (h : aciB n s = true) : ((((extL (sgnF (ordF n s)) (elsN n s)).length : Nat) : Int) == ((elsN n s).length : Nat)) = cvxB n s := by
  rw [size_ans h, els_len h]
  unfold cvxB
  rw [h]; rfl
set_option maxHeartbeats 800000 in
set_option maxRecDepth 100000 in
theorem implIsConvex (n : Int) (s : ByteArray) (hs : s.size ≤ 9223372036854775807) (w : World) (hT : Tab w) :
    Calls Tryz.prog 20 #[sg n s] w fun e w' => e = .returned (.bool (cvxB n s.data.toList)) ∧ Below w.heap.size w w' := by
  have HS := Lib.hid (box_made w n s 25)
  have HO := Lib.hid (orderOf_any n s hs _ (hT.on ((Below.refl w.heap.size w).alloc (Nat.le_refl _) (.cells #[.int .i64 n, .string s] 25))))
  clear hT
  cases h : aciB n s.data.toList
  · have HE : Hid (cvxB n s.data.toList = false) := Lib.hid (by unfold cvxB; rw [h]; rfl)
    rw [elsN_no h] at HO
    generalize ordF n s.data.toList = f at HO
    clear h
    go_enter Tryz.func20, Tryz.ntmps20
    go_wp2_with fail
    refine HO.out.mono ?_
    rintro e w1 ⟨b, v, rfl, -, ⟨-, rfl⟩ | ⟨h0, -⟩, hb1⟩
    · have B1 := Lib.hid (HS.out.2.2.trans (hb1.mono HS.out.2.2.size))
      clear hb1
      go_wp2
      go_ret
      exact ⟨ret_bool HE.out.symm, B1.out⟩
    · exact absurd rfl h0
  · have HAM := Lib.hid (fun b v W hm hv => extremeAmong_any b (ordF n s.data.toList) v (elsN n s.data.toList) (elsN_len _ _) (elsN_lt _ _) W hm (w.alloc (.cells #[.int .i64 n, .string s] 25)).heap.size hv)
    obtain ⟨h3, h7⟩ := aciB_n h
    obtain ⟨m, rfl⟩ : ∃ m : Nat, n = m := ⟨n.toNat, by omega⟩
    have HE := Lib.hid (cvx_ans h)
    have hl := els_len h
    have hzl := zl_length (elsN m s.data.toList)
    have hxl := zl_length (extL (sgnF (ordF m s.data.toList)) (elsN m s.data.toList))
    have hxs : (extL (sgnF (ordF m s.data.toList)) (elsN m s.data.toList)).length ≤ 7 := Nat.le_trans (List.length_filter_le _ _) (elsN_len m s.data.toList)
    generalize extL (sgnF (ordF m s.data.toList)) (elsN m s.data.toList) = X at HAM HE hxl hxs
    generalize ordF m s.data.toList = f at HO HAM
    rw [hl] at hzl HE
    generalize zl (elsN m s.data.toList) = ys at HO HAM hzl
    clear h hl
    go_enter Tryz.func20, Tryz.ntmps20
    go_wp2_with fail
    refine HO.out.mono ?_
    rintro e w1 ⟨b, v, rfl, hm, hv, hb1⟩
    have B1 := Lib.hid (HS.out.2.2.trans (hb1.mono HS.out.2.2.size))
    have HM := Lib.hid hm
    have HV := Lib.hid hv
    rcases hv with ⟨h0, -⟩ | ⟨-, g, c, rfl, -⟩
    · rw [h0] at hzl; simp at hzl; omega
    · have hn0 : decide ((0 : Int) < (ys.length : Int)) = true := decide_eq_true (by omega)
      have hn1 : decide (0 < ys.length) = true := decide_eq_true (by omega)
      have hn2 : 0 < ys.length := by omega
      have HEX : Hid (((((zl X).length : Nat) : Int) == ((ys.length : Nat) : Int)) = cvxB m s.data.toList) := Lib.hid (by rw [← HE.out, hxl, hzl])
      clear hm hb1 hzl hxl
      go_wp2_with fail
      refine (HAM.out b _ _ HM.out HV.out).mono ?_
      rintro e w2 ⟨v2, rfl, hr2, hb2⟩
      have B2 := Lib.hid (B1.out.trans (hb2.mono B1.out.size))
      obtain ⟨a2, c2, rfl, -⟩ := hr2.new
      clear hr2 hb2
      have hq := HEX.out
      obtain ⟨q, hqe⟩ : ∃ q, q = cvxB m s.data.toList := ⟨_, rfl⟩
      rw [← hqe] at hq
      have HQE := Lib.hid hqe
      clear hqe
      go_wp2
      go_ret
      exact ⟨ret_bool HQE.out, B2.out⟩
end Go.Proofs.YtgdkpgidklnndaaGreatDoor.Sg
