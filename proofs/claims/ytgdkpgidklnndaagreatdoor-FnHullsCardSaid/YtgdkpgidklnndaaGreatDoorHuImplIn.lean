/- InHull, as impl answers it. -/
import Derived.Test.YtgdkpgidklnndaaGreatDoorHuImpl
namespace Go.Proofs.YtgdkpgidklnndaaGreatDoor.Sg
open Go.RowKit Pt NewI
theorem inHB_no {n : Int} {s : List UInt8} (h : aciB n s = false) (set p : Int) : inHB n s set p = false := by unfold inHB; rw [h]; rfl
theorem inHB_set {n : Int} {s : List UInt8} {set p : Int} (h : inB set 0 (allS n) = false) : inHB n s set p = false := by unfold inHB; rw [h]; simp
theorem inHB_el {n : Int} {s : List UInt8} {set p : Int} (h : inB p 0 (n - 1) = false) : inHB n s set p = false := by unfold inHB; rw [h]; simp
theorem inHB_yes {n : Nat} {s : List UInt8} (h : aciB n s = true) {set p : Nat} (hs : set < 2 ^ n) (hp : p < n) : inHB n s set p = (!set.testBit p && insL (sgnF (ordF n s)) (eltN set) p) := by
  have h7 := (aciB_n h).2
  have hpos := Nat.pow_pos (n := n) (show 0 < 2 by omega)
  have hp7 := pow_le7 (p := n) (by omega)
  rw [ordF_yes h, insL_eq h hs]
  unfold inHB allS
  rw [h, inB_yes (x := (p : Int)) (by omega) (by omega), Int.toNat_natCast, Int.toNat_natCast, Int.toNat_natCast]
  generalize 2 ^ n = M at hs hpos hp7
  rw [inB_yes (x := (set : Int)) (by omega) (by omega)]
  rfl
set_option maxHeartbeats 1600000 in
set_option maxRecDepth 100000 in
theorem implInHull (n : Int) (s : ByteArray) (set i : Int) (hi64 : I64 i) (hs : s.size ≤ 9223372036854775807) (w : World) (hT : Tab w) :
    Calls Tryz.prog 16 #[sg n s, .int .i64 set, .int .i64 i] w fun e w' => e = .returned (.bool (inHB n s.data.toList set i)) ∧ Below w.heap.size w w' := by
  have HS := Lib.hid (box_made w n s 25)
  have HTA := Lib.hid (hT.on ((Below.refl w.heap.size w).alloc (Nat.le_refl _) (.cells #[.int .i64 n, .string s] 25)))
  have HO := Lib.hid (orderOf_any n s hs _ HTA.out)
  clear hT
  cases h : aciB n s.data.toList
  · have HE := Lib.hid (inHB_no h set i)
    rw [elsN_no h] at HO
    generalize ordF n s.data.toList = f at HO
    clear h
    go_enter Tryz.func16, Tryz.ntmps16
    go_wp2_with fail
    refine HO.out.mono ?_
    rintro e w1 ⟨b, v, rfl, -, ⟨-, rfl⟩ | ⟨h0, -⟩, hb1⟩
    · have B1 := Lib.hid (HS.out.2.2.trans (hb1.mono HS.out.2.2.size))
      clear hb1
      by_cases c1 : set < 0
      · go_wp2
        go_ret
        exact ⟨ret_bool HE.out.symm, B1.out⟩
      · by_cases c2 : 1 ≤ set
        · go_wp2
          go_ret
          exact ⟨ret_bool HE.out.symm, B1.out⟩
        · go_wp2_with fail
          refine (Tryz.slices_Contains_int_empty none 0 i _).mono ?_
          rintro e w' ⟨rfl, rfl⟩
          go_wp2
          go_ret
          exact ⟨ret_bool HE.out.symm, B1.out⟩
    · exact absurd rfl h0
  · obtain ⟨h3, h7⟩ := aciB_n h
    obtain ⟨m, rfl⟩ : ∃ m : Nat, n = m := ⟨n.toNat, by omega⟩
    have h7 : m ≤ 7 := by omega
    obtain ⟨M, hM⟩ := allS_of (m := m) (by omega) (by omega)
    obtain ⟨⟨hM8, hMl⟩, v2, hMe, hMc⟩ := hM
    have hpos := Nat.pow_pos (n := m) (show 0 < 2 by omega)
    have hpe : 2 ^ m = M := by omega
    have hl := els_len h
    have hzl : (zl (elsN m s.data.toList)).length = m := by rw [zl_length, hl]
    have hall : allS (m : Int) = M - 1 := by unfold allS; rw [Int.toNat_natCast]; exact hMe
    have HCO := Lib.hid (fun B v W (hr : ResZ W B v (zl (elsN m s.data.toList))) => containsZ_any (by rw [hzl]; omega) i W hr)
    by_cases c1 : set < 0
    · have HE : Hid (inHB m s.data.toList set i = false) := Lib.hid (inHB_set (inB_lo c1))
      clear h
      generalize inHB m s.data.toList set i = ans at HE ⊢
      generalize ordF m s.data.toList = f at HO
      go_enter Tryz.func16, Tryz.ntmps16
      go_wp2_with fail
      refine HO.out.mono ?_
      rintro e w1 ⟨b, v, rfl, hm, hv, hb1⟩
      have B1 := Lib.hid (HS.out.2.2.trans (hb1.mono HS.out.2.2.size))
      clear hm hv hb1
      go_wp2
      go_ret
      exact ⟨ret_bool HE.out.symm, B1.out⟩
    · obtain ⟨st, rfl⟩ : ∃ st : Nat, set = st := ⟨set.toNat, by omega⟩
      by_cases c2 : M ≤ st
      · have HE : Hid (inHB m s.data.toList st i = false) := Lib.hid (inHB_set (by rw [hall]; exact inB_hi (by omega)))
        clear h
        generalize inHB m s.data.toList st i = ans at HE ⊢
        generalize ordF m s.data.toList = f at HO
        generalize zl (elsN m s.data.toList) = ys at HO hzl
        clear hl hall hMe hMc hpe hpos
        go_enter Tryz.func16, Tryz.ntmps16
        go_wp2_with fail
        refine HO.out.mono ?_
        rintro e w1 ⟨b, v, rfl, hm, hv, hb1⟩
        have B1 := Lib.hid (HS.out.2.2.trans (hb1.mono HS.out.2.2.size))
        obtain ⟨a2, c2', rfl, -⟩ := hv.new
        clear hm hv hb1
        go_wp2
        go_ret
        exact ⟨ret_bool HE.out.symm, B1.out⟩
      · cases hin : inB i 0 ((m : Int) - 1)
        · have HE : Hid (inHB m s.data.toList st i = false) := Lib.hid (inHB_el hin)
          rw [contains_out (elsN_n h) hin] at HCO
          clear h hin
          generalize inHB m s.data.toList st i = ans at HE ⊢
          generalize ordF m s.data.toList = f at HO
          generalize zl (elsN m s.data.toList) = ys at HO hzl HCO
          clear hl hall hMe hMc hpe hpos
          go_enter Tryz.func16, Tryz.ntmps16
          go_wp2_with fail
          refine HO.out.mono ?_
          rintro e w1 ⟨b, v, rfl, hm, hv, hb1⟩
          have B1 := Lib.hid (HS.out.2.2.trans (hb1.mono HS.out.2.2.size))
          have HR := Lib.hid hv.res
          obtain ⟨a2, c2', rfl, -⟩ := hv.new
          rw [hzl] at HR ⊢
          clear hm hv hb1 hzl
          go_wp2_with fail
          refine (HCO.out _ _ _ HR.out).mono ?_
          rintro e w' ⟨rfl, rfl⟩
          go_wp2
          go_ret
          exact ⟨ret_bool HE.out.symm, B1.out⟩
        · obtain ⟨i0, i1⟩ := inB_mem hin
          obtain ⟨p, rfl⟩ : ∃ p : Nat, i = p := ⟨i.toNat, by omega⟩
          have hpm : p < m := by omega
          have HE := Lib.hid (inHB_yes (set := st) (p := p) h (by omega) hpm)
          rw [contains_els h hpm] at HCO
          have hb := has_bits st p (by omega)
          cases ht : st.testBit p
          · rw [ht] at hb
            have HE2 : Hid (inHB m s.data.toList st p = insL (sgnF (ordF m s.data.toList)) (eltN st) p) := Lib.hid (by rw [HE.out, ht]; rfl)
            simp only [Bool.false_eq_true, if_false] at hb
            have HEL := Lib.hid (fun W hW => elementsOf_any st (by omega) W hW)
            have HIT := Lib.hid (fun b v B W hm hv => insideTest_any none b (ordF m s.data.toList) v (eltN st) (elt_len st) W (fun g e => by cases e) hm (by simp) B hv (fun g _ => by simp))
            have HTE := Lib.hid (fun p5 p2 p3 b W hW => test_any none p5 p2 p3 b (ordF m s.data.toList) (eltN st) (elt_len st) (fun x hx => (mem_elt.1 hx).1) p (by omega) W hW)
            rw [← HE2.out] at HTE
            have eg : ∀ args w, (callFunc 65 args).run Tryz.prog w = .ok (.enter 65 args) w := enters_of Tryz.func65 (by kernel_rfl) rfl
            clear h hin HE HE2 ht
            generalize inHB m s.data.toList st p = ans at HTE ⊢
            generalize ordF m s.data.toList = f at HO HIT HTE
            generalize zl (elsN m s.data.toList) = ys at HO hzl HCO
            clear hl hall hMe hMc hpe hpos
            go_enter Tryz.func16, Tryz.ntmps16
            go_wp2_with fail
            refine HO.out.mono ?_
            rintro e w1 ⟨b, v, rfl, hm, hv, hb1⟩
            have B1 := Lib.hid (HS.out.2.2.trans (hb1.mono HS.out.2.2.size))
            have HT1 := Lib.hid (HTA.out.on hb1)
            have HM := Lib.hid hm
            have HR := Lib.hid hv.res
            obtain ⟨a2, c2', rfl, -⟩ := hv.new
            rw [hzl] at HR ⊢
            clear hm hv hb1 hzl
            go_wp2_with fail
            refine (HCO.out _ _ _ HR.out).mono ?_
            rintro e w' ⟨rfl, rfl⟩
            go_wp2_with fail
            refine (HEL.out _ HT1.out).mono ?_
            rintro e w2 ⟨v2, rfl, hv2, hb2⟩
            have B2 := Lib.hid (B1.out.trans (hb2.mono B1.out.size))
            have HM2 := Lib.hid (HM.out.on hb2)
            have HV2 := Lib.hid hv2
            clear hv2 hb2
            go_wp2_with fail
            refine (HIT.out b _ _ _ HM2.out HV2.out).mono ?_
            rintro e w3 ⟨p5, p2, p3, rfl, ht3, hb3⟩
            have B3 := Lib.hid (B2.out.trans (hb3.mono B2.out.size))
            have HT3 := Lib.hid ht3
            clear ht3 hb3
            unfold testV
            go_wp2_with fail
            refine (HTE.out _ _ _ _ _ HT3.out).mono ?_
            rintro e w4 ⟨rfl, hb4⟩
            have B4 := Lib.hid (B3.out.trans (hb4.mono B3.out.size))
            clear hb4
            go_wp2
            go_ret
            exact ⟨rfl, B4.out⟩
          · rw [ht] at hb
            have HE2 : Hid (inHB m s.data.toList st p = false) := Lib.hid (by rw [HE.out, ht]; rfl)
            simp only [if_true] at hb
            clear h hin HE ht
            generalize inHB m s.data.toList st p = ans at HE2 ⊢
            generalize ordF m s.data.toList = f at HO
            generalize zl (elsN m s.data.toList) = ys at HO hzl HCO
            clear hl hall hMe hMc hpe hpos
            go_enter Tryz.func16, Tryz.ntmps16
            go_wp2_with fail
            refine HO.out.mono ?_
            rintro e w1 ⟨b, v, rfl, hm, hv, hb1⟩
            have B1 := Lib.hid (HS.out.2.2.trans (hb1.mono HS.out.2.2.size))
            have HR := Lib.hid hv.res
            obtain ⟨a2, c2', rfl, -⟩ := hv.new
            rw [hzl] at HR ⊢
            clear hm hv hb1 hzl
            go_wp2_with fail
            refine (HCO.out _ _ _ HR.out).mono ?_
            rintro e w' ⟨rfl, rfl⟩
            go_wp2
            go_ret
            exact ⟨ret_bool HE2.out.symm, B1.out⟩
end Go.Proofs.YtgdkpgidklnndaaGreatDoor.Sg
