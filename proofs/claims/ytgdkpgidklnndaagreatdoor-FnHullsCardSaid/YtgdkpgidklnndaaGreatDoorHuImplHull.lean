/- HullOf, as impl answers it. -/
import Derived.Test.YtgdkpgidklnndaaGreatDoorHuIns
import Derived.Test.YtgdkpgidklnndaaGreatDoorHuImpl
import Derived.Lib.SliceRun
namespace Go.Proofs.YtgdkpgidklnndaaGreatDoor.Sg
open Go.RowKit Pt NewI HuSort
set_option maxRecDepth 100000 in
theorem bitsLen_small (n : Nat) (h1 : 1 ≤ n) (h7 : n ≤ 7) (w : World) : Calls Tryz.prog 56 #[.int .u64 n] w fun e w' => ∃ k : Int, e = .returned (.int .i64 k) ∧ w = w' := by
  rcases (by omega : n = 1 ∨ n = 2 ∨ n = 3 ∨ n = 4 ∨ n = 5 ∨ n = 6 ∨ n = 7) with rfl | rfl | rfl | rfl | rfl | rfl | rfl
  all_goals
    go_enter Tryz.func56, Tryz.ntmps56
    go_wp2
    go_ret
    exact ⟨_, rfl, rfl⟩
set_option maxHeartbeats 800000 in
set_option maxRecDepth 100000 in
theorem pdqH_any (g c ch pS pH b : Nat) (f : Int → Int → Int → Int) (hbd : ∀ x y z, -1 ≤ f x y z ∧ f x y z ≤ 1) (h0 : Nat) (b0 : h0 < 7) (xs : List Nat) (hx7 : ∀ x ∈ xs, x < 7) (h1 : 1 ≤ xs.length) (h7 : xs.length ≤ 7) (k : Int) (w : World) (hd : SortD w g pS pH b f (xs.length + 1) ch) (hc : Cells w g (xs.length + 1) (zc (zl (h0 :: xs)))) :
    Calls Tryz.prog 55 #[.slice (some ⟨g, 1, none⟩) xs.length c, .int .i64 0, .int .i64 xs.length, .int .i64 k, .func (.func 29) #[] #[.pointer (some ⟨pS, 0, none⟩), .pointer (some ⟨pH, 0, none⟩)]] w fun e w' => e = .returned (.tuple #[]) ∧ Cells w' g (xs.length + 1) (zc (zl (h0 :: sortK (befO (sgnF f) h0) xs xs.length))) ∧ w.grownBy w' (some g) := by
  have HI := Lib.hid (insertH_any g c ch pS pH b f hbd h0 b0 xs hx7 h1 h7 w hd hc)
  clear hc hd
  go_enter Tryz.func55, Tryz.ntmps55
  go_wp2
  refine wp_loop_rounds 1 ?_
  rw [rounds_succ]
  go_wp2_with fail
  refine HI.out.mono ?_
  rintro e w1 ⟨rfl, hc1, hg1⟩
  have C1 := Lib.hid hc1
  clear hc1
  go_wp2
  go_returns
  exact ⟨rfl, C1.out, hg1⟩
set_option maxRecDepth 100000 in
theorem sortH_any (g c ch pS pH b : Nat) (f : Int → Int → Int → Int) (hbd : ∀ x y z, -1 ≤ f x y z ∧ f x y z ≤ 1) (h0 : Nat) (b0 : h0 < 7) (xs : List Nat) (hx7 : ∀ x ∈ xs, x < 7) (h1 : 1 ≤ xs.length) (h7 : xs.length ≤ 7) (w : World) (hd : SortD w g pS pH b f (xs.length + 1) ch) (hc : Cells w g (xs.length + 1) (zc (zl (h0 :: xs)))) :
    Calls Tryz.prog 28 #[.slice (some ⟨g, 1, none⟩) xs.length c, .func (.func 29) #[] #[.pointer (some ⟨pS, 0, none⟩), .pointer (some ⟨pH, 0, none⟩)]] w fun e w' => e = .returned (.tuple #[]) ∧ Cells w' g (xs.length + 1) (zc (zl (h0 :: sortK (befO (sgnF f) h0) xs xs.length))) ∧ w.grownBy w' (some g) := by
  have HP := Lib.hid (fun k => pdqH_any g c ch pS pH b f hbd h0 b0 xs hx7 h1 h7 k w hd hc)
  clear hc hd
  go_enter Tryz.func28, Tryz.ntmps28
  go_wp2_with fail
  refine (bitsLen_small xs.length h1 h7 _).mono ?_
  rintro e w' ⟨k, rfl, rfl⟩
  go_wp2_with fail
  refine (HP.out k).mono ?_
  rintro e w1 ⟨rfl, hc1, hg1⟩
  have C1 := Lib.hid hc1
  clear hc1
  go_wp2
  go_returns
  exact ⟨rfl, C1.out, hg1⟩
theorem hullZ_no {n : Int} {s : List UInt8} (h : aciB n s = false) : hullZ n s = [] := by unfold hullZ; rw [h]; rfl
set_option maxHeartbeats 1600000 in
set_option maxRecDepth 100000 in
theorem implHull (n : Int) (s : ByteArray) (hs : s.size ≤ 9223372036854775807) (w : World) (hT : Tab w) :
    Calls Tryz.prog 6 #[sg n s] w fun e w' => Got w.heap.size (hullZ n s.data.toList) e w' ∧ Below w.heap.size w w' := by
  have hmf : ∀ (fn : Fn) (first cap : Array Value) (w : World), (Instr.makeFunc fn first cap).run Tryz.prog w = .ok (.func fn first cap) w := fun _ _ _ _ => rfl
  have HS := Lib.hid (box_made w n s 25)
  have HO := Lib.hid (orderOf_any n s hs _ (hT.on ((Below.refl w.heap.size w).alloc (Nat.le_refl _) (.cells #[.int .i64 n, .string s] 25))))
  have HAM := Lib.hid (fun b v W hm hv => extremeAmong_any b (ordF n s.data.toList) v (elsN n s.data.toList) (elsN_len _ _) (elsN_lt _ _) W hm (w.alloc (.cells #[.int .i64 n, .string s] 25)).heap.size hv)
  have hbd := ordF_bd n s.data.toList
  clear hT
  cases h : aciB n s.data.toList
  · have HE := Lib.hid (hullZ_no h)
    rw [extN_no h] at HAM
    generalize ordF n s.data.toList = f at HO HAM
    generalize zl (elsN n s.data.toList) = ys at HO HAM
    clear h hbd
    go_enter Tryz.func6, Tryz.ntmps6
    go_wp2_with fail
    refine HO.out.mono ?_
    rintro e w1 ⟨b, v, rfl, hm, hv, hb1⟩
    have B1 := Lib.hid (HS.out.2.2.trans (hb1.mono HS.out.2.2.size))
    have hal := (Below.refl w1.heap.size w1).alloc (Nat.le_refl _) (.cells #[.map (some b)] 46)
    have B2 := Lib.hid (B1.out.trans (hal.mono B1.out.size))
    have HM := Lib.hid (hm.on hal)
    have HV := Lib.hid (hv.on hal)
    have c0 : (w1.alloc (.cells #[.map (some b)] 46)).cell? ⟨w1.heap.size, 0, none⟩ = some (.map (some b)) := by go_simp
    clear hm hv hb1 hal
    go_wp2_with fail
    refine (HAM.out b v _ HM.out HV.out).mono ?_
    rintro e w3 ⟨v3, rfl, ⟨-, a3, c3, rfl⟩ | ⟨h0, -⟩, hb3⟩
    · have B3 := Lib.hid (B2.out.trans (hb3.mono B2.out.size))
      have B4 := Lib.hid (B3.out.alloc B3.out.size (.cells #[.slice a3 0 c3] 27))
      clear hb3 c0
      go_wp2
      go_ret
      exact ⟨by rw [HE.out]; exact ⟨none, 0, rfl, .inl rfl⟩, B4.out⟩
    · exact absurd rfl h0
  · obtain ⟨h3, h7⟩ := aciB_n h
    obtain ⟨m, rfl⟩ : ∃ m : Nat, n = m := ⟨n.toNat, by omega⟩
    obtain ⟨h0, T, hT0, hTne, hh0, hTm, hH⟩ := hull_sorted h
    have hlen : T.length + 1 ≤ 7 := by
      have := elt_len (extS (sgnF (lookS m s.data.toList)) m (2 ^ m - 1))
      rw [hT0] at this
      exact this
    have hT1 : 1 ≤ T.length := List.length_pos_iff.2 hTne
    rw [extN_eq h, hT0] at HAM
    rw [← ordF_yes h] at hH
    have HSO := Lib.hid (fun g c ch pS pH b W hd hc => sortH_any g c ch pS pH b (ordF m s.data.toList) hbd h0 (by omega) T (fun x hx => by have := (hTm x hx).1; omega) hT1 (by omega) W hd hc)
    have HE := Lib.hid hH
    have hkl := sortK_length (befO (sgnF (ordF m s.data.toList)) h0) T T.length
    generalize sortK (befO (sgnF (ordF m s.data.toList)) h0) T T.length = S at HSO HE hkl
    generalize ordF m s.data.toList = f at HO HAM HSO
    generalize zl (elsN m s.data.toList) = ys at HO HAM
    clear h hbd hT0 hTne hTm hH
    go_enter Tryz.func6, Tryz.ntmps6
    go_wp2_with fail
    refine HO.out.mono ?_
    rintro e w1 ⟨b, v, rfl, hm, hv, hb1⟩
    have B1 := Lib.hid (HS.out.2.2.trans (hb1.mono HS.out.2.2.size))
    have hal := (Below.refl w1.heap.size w1).alloc (Nat.le_refl _) (.cells #[.map (some b)] 46)
    have B2 := Lib.hid (B1.out.trans (hal.mono B1.out.size))
    have HM := Lib.hid (hm.on hal)
    have HV := Lib.hid (hv.on hal)
    have c0 : (w1.alloc (.cells #[.map (some b)] 46)).cell? ⟨w1.heap.size, 0, none⟩ = some (.map (some b)) := by go_simp
    have C0 := Lib.hid c0
    have hs2 : (w1.alloc (.cells #[.map (some b)] 46)).heap.size = w1.heap.size + 1 := by simp
    have HS2 := Lib.hid hs2
    clear hm hv hb1 hal hs2
    go_wp2_with fail
    refine (HAM.out b v _ HM.out HV.out).mono ?_
    rintro e w3 ⟨v3, rfl, ⟨h9, -⟩ | ⟨-, g, c, rfl, hgB, hgc, hcm, -, hcl⟩, hb3⟩
    · cases h9
    · have hzl : (zl (h0 :: T)).length = T.length + 1 := zl_length _
      rw [hzl] at hgc hcl ⊢
      have B3 := Lib.hid (B2.out.trans (hb3.mono B2.out.size))
      have hal4 := (Below.refl w3.heap.size w3).alloc (Nat.le_refl _) (.cells #[.slice (some ⟨g, 0, none⟩) (T.length + 1) c] 27)
      have B4 := Lib.hid (B3.out.trans (hal4.mono B3.out.size))
      have hgl := hcl.lt
      have C4 := Lib.hid (hcl.on hal4)
      have c4 : (w3.alloc (.cells #[.slice (some ⟨g, 0, none⟩) (T.length + 1) c] 27)).cell? ⟨w3.heap.size, 0, none⟩ = some (.slice (some ⟨g, 0, none⟩) (T.length + 1) c) := by go_simp
      have hs3 := hb3.size
      rw [HS2.out] at hgB hs3
      have c5 : w3.cell? ⟨w1.heap.size, 0, none⟩ = some (.map (some b)) := by rw [hb3.cell (World.block_lt_of_cell? _ ⟨w1.heap.size, 0, none⟩ C0.out)]; exact C0.out
      have hml := HM.out.lt
      rw [HS2.out] at hml
      have HD : Hid (SortD (w3.alloc (.cells #[.slice (some ⟨g, 0, none⟩) (T.length + 1) c] 27)) g w1.heap.size w3.heap.size b f (T.length + 1) c) := Lib.hid ⟨by rw [World.cell?_alloc_lt _ _ _ (World.block_lt_of_cell? _ ⟨w1.heap.size, 0, none⟩ c5)]; exact c5, c4, (HM.out.on hb3).on hal4, fun e => by injection e with e; omega, fun e => by injection e with e; omega, fun e => by injection e with e; omega⟩
      have hw0 : w.heap.size ≤ g := by have := B1.out.size; omega
      have HW0 := Lib.hid hw0
      have HKL := Lib.hid hkl
      have hcm2 : c ≤ 9223372036854775807 := by simpa [maxLen] using hcm
      have hnz : (((T.length + 1 : Nat) : Int) == 0) = false := beq_eq_false_iff_ne.2 (by omega)
      clear hb3 hal4 hcl c0 c5 hml hgB hcm hkl hzl hw0
      go_wp2_with fail
      refine (HSO.out _ _ _ _ _ _ _ HD.out C4.out).mono ?_
      rintro e w5 ⟨rfl, hc5, hg5⟩
      have k5 : w5.cell? ⟨w3.heap.size, 0, none⟩ = some (.slice (some ⟨g, 0, none⟩) (T.length + 1) c) := hg5.cell c4 (fun e => absurd (show w3.heap.size = g from Option.some.inj e) (by omega))
      have C5 := Lib.hid hc5
      have B5 : Hid (Below w.heap.size w w5) := Lib.hid (B4.out.grown hg5 B4.out.size (fun q hq => by injection hq with hq; rw [← hq]; exact HW0.out))
      clear hc5 hg5 c4
      go_wp2
      go_ret
      refine ⟨?_, B5.out⟩
      rw [HE.out]
      have hl5 : (zl (h0 :: S)).length = T.length + 1 := by rw [zl_length, List.length_cons, HKL.out]
      exact ⟨some ⟨g, 0, none⟩, c, by rw [hl5]; rfl, .inr ⟨g, rfl, HW0.out, C5.out.lt, by rw [hl5]; exact C5.out⟩⟩
end Go.Proofs.YtgdkpgidklnndaaGreatDoor.Sg
