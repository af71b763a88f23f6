/- The empty triangles of a triangulation, as spec counts them: TrianglesOf. -/
import Derived.Test.YtfggiflngfihcaaGreatDoorTrDist
namespace Go.Proofs.YtfggiflngfihcaaGreatDoor.Sg
open Go.RowKit Pt NewI
def trQ (F : Int → Int → Int → Int) (n T : Nat) (t : T3) : Bool := T.testBit (ixN n t.1 t.2.1) && (T.testBit (ixN n t.2.1 t.2.2) && (T.testBit (ixN n t.1 t.2.2) && cntI F t.1 t.2.1 t.2.2 n == 0))
/-- How many threes ahead of three elements. -/
def trU (q : T3 → Bool) (n i j k : Nat) : Nat := (upto n i j k).countP q
theorem trU_zero {n : Nat} (h7 : n ≤ 7) (q : T3 → Bool) : trU q n 0 (0 + 1) (0 + 1 + 1) = 0 := by unfold trU; rw [upto_zero n (by omega)]; rfl
theorem trU_step {n i j k : Nat} (h7 : n ≤ 7) (q : T3 → Bool) (h1 : i < j) (h2 : j < k) (h3 : k < n) : trU q n i j (k + 1) = trU q n i j k + bit (q (i, j, k)) := by
  unfold trU
  rw [upto_step h7 h1 h2 h3, List.countP_append, List.countP_singleton]
  cases q (i, j, k) <;> rfl
theorem trU_inner {n i j : Nat} (h7 : n ≤ 7) (q : T3 → Bool) (h1 : i < j) (h2 : j < n) : trU q n i j n = trU q n i (j + 1) (j + 1 + 1) := by unfold trU; rw [upto_inner h7 h1 h2]
theorem trU_mid {n i : Nat} (h7 : n ≤ 7) (q : T3 → Bool) (h1 : i < n) : trU q n i n (n + 1) = trU q n (i + 1) (i + 1 + 1) (i + 1 + 1 + 1) := by unfold trU; rw [upto_mid h7 h1]
theorem trU_end {n : Nat} (h7 : n ≤ 7) (q : T3 → Bool) : trU q n n (n + 1) (n + 1 + 1) = (threes n).countP q := by unfold trU; rw [upto_end h7]
theorem trU_le {n : Nat} (h7 : n ≤ 7) (q : T3 → Bool) (i j k : Nat) : trU q n i j k ≤ 35 := by
  unfold trU
  refine Nat.le_trans List.countP_le_length (Nat.le_trans (upto_length n i j k) ?_)
  rw [threes_length h7]; exact cnt_le h7
/-- What TrianglesOf answers. -/
def trsZ (n : Int) (s : List UInt8) (T : Int) : Int := if itB n s T = true then ((threes n.toNat).countP (trQ (sgnF (lookS n s)) n.toNat T.toNat) : Nat) else -1
set_option maxHeartbeats 3200000 in
set_option maxRecDepth 100000 in
theorem specTriangles (n : Int) (s : ByteArray) (hs : s.size ≤ 9223372036854775807) (T : Int) (w : World) :
    Calls Tryz.prog 23 #[sg n s, .int .i64 T] w fun e w' => e = .returned (.int .i64 (trsZ n s.data.toList T)) ∧ Below w.heap.size w w' := by
  have HS := Lib.hid (box_made w n s 25)
  have HA := Lib.hid (fun W => specIsTri n s hs T W)
  obtain ⟨x0, x1, -⟩ := HS.out
  cases h : itB n s.data.toList T
  · have HE : Hid (trsZ n s.data.toList T = -1) := Lib.hid (by unfold trsZ; rw [h]; rfl)
    rw [HE.out]
    rw [h] at HA
    clear h HE
    go_enter Tryz.func23, Tryz.ntmps23
    go_wp2_with fail
    refine (HA.out _).mono ?_
    rintro e w1 ⟨rfl, hb1⟩
    have B1 := Lib.hid (HS.out.on hb1).2.2
    clear hb1 x0 x1
    go_wp2
    go_ret
    exact ⟨rfl, B1.out⟩
  · obtain ⟨m, t, rfl, rfl, hac, m3, m6, ht, hfull⟩ := itB_parts h
    have h7 : m ≤ 7 := by omega
    have har := matB_ar (aciB_mat hac)
    have hE := eN_bd m (by omega)
    have hpE := Nat.pow_le_pow_right (n := 2) (by omega) hE
    have HE : Hid (trsZ m s.data.toList t = ((threes m).countP (trQ (sgnF (lookS m s.data.toList)) m t) : Nat)) := Lib.hid (by unfold trsZ; rw [if_pos h, Int.toNat_natCast, Int.toNat_natCast])
    rw [HE.out]
    have HIX := Lib.hid (fun (i j : Nat) (hij : i < j) (hj : j < m) W => l9Index_any m i j h7 (by omega) hj (by omega) W)
    have HBD := Lib.hid (fun (i j : Nat) (hij : i < j) (hj : j < m) => (ix_ed h7 hij hj).2)
    have HHA := Lib.hid (fun (x : Nat) (hx : x < 64) W => l6HasE_any t x (by omega) hx W)
    have HIN : Hid (∀ a b c : Nat, a < b → b < c → c < m → ∀ W, Calls Tryz.prog 61 #[sg m s, .int .i64 a, .int .i64 b, .int .i64 c] W fun e w' => e = .returned (.int .i64 (cntI (sgnF (lookS m s.data.toList)) a b c m)) ∧ Below W.heap.size W w') := Lib.hid (fun a b c h1 h2 h3 W => l5Inside_any m s a b c har (by omega) (by omega) h3 (by omega) (by omega) (by omega) W)
    have HQ : Hid (∀ a b c, trQ (sgnF (lookS m s.data.toList)) m t (a, b, c) = (t.testBit (ixN m a b) && (t.testBit (ixN m b c) && (t.testBit (ixN m a c) && cntI (sgnF (lookS m s.data.toList)) a b c m == 0)))) := Lib.hid (fun _ _ _ => rfl)
    generalize trQ (sgnF (lookS m s.data.toList)) m t = q at HQ ⊢
    have HLE := Lib.hid (fun i j k => trU_le h7 q i j k)
    have HU0 := Lib.hid (trU_zero h7 q)
    have HUS := Lib.hid (fun i j k (h1 : i < j) (h2 : j < k) (h3 : k < m) => trU_step h7 q h1 h2 h3)
    have HUI := Lib.hid (fun i j (h1 : i < j) (h2 : j < m) => trU_inner h7 q h1 h2)
    have HUM := Lib.hid (fun i (h1 : i < m) => trU_mid h7 q h1)
    have HUE := Lib.hid (trU_end h7 q)
    rw [← HUE.out]
    generalize trU q m = u at HLE HU0 HUS HUI HUM ⊢
    generalize cntI (sgnF (lookS m s.data.toList)) = cn at HIN HQ
    generalize ixN m = ix at HIX HBD HQ
    rw [h] at HA
    clear h har HE hac hfull ht HUE
    go_enter Tryz.func23, Tryz.ntmps23
    go_wp2_with fail
    refine (HA.out _).mono ?_
    rintro e w1 ⟨rfl, hb1⟩
    have X1 := Lib.hid (HS.out.on hb1)
    clear hb1 x0 x1
    go_wp2
    go_loopw [5, 6] (fun cv x wr => ∃ a : Nat, a ≤ m ∧ x = .int .i64 a ∧ cv = .int .i64 (u a (a + 1) (a + 1 + 1) : Nat) ∧ Hid (Box w m s wr)) (fun _ x _ => m - (intOf x).toNat)
    case atStart => exact ⟨0, Nat.zero_le _, rfl, by rw [HU0.out]; rfl, X1⟩
    case round =>
      as_aux_lemma =>
      obtain ⟨a, han, rfl, rfl, HB⟩ := hrel
      obtain ⟨c0, c1, B0⟩ := HB.out
      by_cases hlt : a < m
      · go_wp2
        go_loopw [5, 7] (fun cv x wr => ∃ b : Nat, a < b ∧ b ≤ m ∧ x = .int .i64 b ∧ cv = .int .i64 (u a b (b + 1) : Nat) ∧ Hid (Box w m s wr)) (fun _ x _ => m - (intOf x).toNat)
        case atStart => exact ⟨a + 1, by omega, by omega, by go_num, rfl, HB⟩
        case round =>
          clear c0 c1 B0 HB
          obtain ⟨b, hab, hbn, rfl, rfl, HB⟩ := hrel
          obtain ⟨c0, c1, B0⟩ := HB.out
          by_cases hlt2 : b < m
          · go_wp2
            go_loopw [5, 8] (fun cv x wr => ∃ c : Nat, b < c ∧ c ≤ m ∧ x = .int .i64 c ∧ cv = .int .i64 (u a b c : Nat) ∧ Hid (Box w m s wr)) (fun _ x _ => m - (intOf x).toNat)
            case atStart => exact ⟨b + 1, by omega, by omega, by go_num, rfl, HB⟩
            case round =>
              clear c0 c1 B0 HB
              obtain ⟨c, hbc, hcn, rfl, rfl, HB⟩ := hrel
              obtain ⟨c0, c1, B0⟩ := HB.out
              have hle := HLE.out a b c
              by_cases hlt3 : c < m
              · have HI1 := Lib.hid (HIX.out a b hab hlt2)
                have HI2 := Lib.hid (HIX.out b c hbc hlt3)
                have HI3 := Lib.hid (HIX.out a c (by omega) hlt3)
                have h1 := HBD.out a b hab hlt2
                have h2 := HBD.out b c hbc hlt3
                have h3 := HBD.out a c (by omega) hlt3
                have HA1 := Lib.hid (HHA.out (ix a b) (by omega))
                have HA2 := Lib.hid (HHA.out (ix b c) (by omega))
                have HA3 := Lib.hid (HHA.out (ix a c) (by omega))
                have HC := Lib.hid (HIN.out a b c hab hbc hlt3)
                have HN := Lib.hid (HUS.out a b c hab hbc hlt3)
                have HQP := Lib.hid (HQ.out a b c)
                generalize cn a b c m = k at HC HQP
                have hk : ((k : Int) == 0) = (k == 0) := by cases k <;> rfl
                generalize t.testBit (ix a b) = b1 at HA1 HQP
                generalize t.testBit (ix b c) = b2 at HA2 HQP
                generalize t.testBit (ix a c) = b3 at HA3 HQP
                generalize ix a b = y1 at HI1 HA1 h1
                generalize ix b c = y2 at HI2 HA2 h2
                generalize ix a c = y3 at HI3 HA3 h3
                cases b1
                · have HN2 : Hid (u a b (c + 1) = u a b c) := Lib.hid (by rw [HN.out, HQP.out]; rfl)
                  go_wp2_with fail
                  refine (HI1.out _).mono ?_
                  rintro e w' ⟨rfl, rfl⟩
                  go_wp2_with fail
                  refine (HA1.out _).mono ?_
                  rintro e w' ⟨rfl, rfl⟩
                  go_wp2
                  exact ⟨⟨c + 1, by omega, by omega, by go_num, by rw [HN2.out], HB⟩, by simp only [intOf]; omega⟩
                · cases b2
                  · have HN2 : Hid (u a b (c + 1) = u a b c) := Lib.hid (by rw [HN.out, HQP.out]; rfl)
                    go_wp2_with fail
                    refine (HI1.out _).mono ?_
                    rintro e w' ⟨rfl, rfl⟩
                    go_wp2_with fail
                    refine (HA1.out _).mono ?_
                    rintro e w' ⟨rfl, rfl⟩
                    go_wp2_with fail
                    refine (HI2.out _).mono ?_
                    rintro e w' ⟨rfl, rfl⟩
                    go_wp2_with fail
                    refine (HA2.out _).mono ?_
                    rintro e w' ⟨rfl, rfl⟩
                    go_wp2
                    exact ⟨⟨c + 1, by omega, by omega, by go_num, by rw [HN2.out], HB⟩, by simp only [intOf]; omega⟩
                  · cases b3
                    · have HN2 : Hid (u a b (c + 1) = u a b c) := Lib.hid (by rw [HN.out, HQP.out]; rfl)
                      go_wp2_with fail
                      refine (HI1.out _).mono ?_
                      rintro e w' ⟨rfl, rfl⟩
                      go_wp2_with fail
                      refine (HA1.out _).mono ?_
                      rintro e w' ⟨rfl, rfl⟩
                      go_wp2_with fail
                      refine (HI2.out _).mono ?_
                      rintro e w' ⟨rfl, rfl⟩
                      go_wp2_with fail
                      refine (HA2.out _).mono ?_
                      rintro e w' ⟨rfl, rfl⟩
                      go_wp2_with fail
                      refine (HI3.out _).mono ?_
                      rintro e w' ⟨rfl, rfl⟩
                      go_wp2_with fail
                      refine (HA3.out _).mono ?_
                      rintro e w' ⟨rfl, rfl⟩
                      go_wp2
                      exact ⟨⟨c + 1, by omega, by omega, by go_num, by rw [HN2.out], HB⟩, by simp only [intOf]; omega⟩
                    · have HN2 : Hid (u a b (c + 1) = u a b c + bit (k == 0)) := Lib.hid (by rw [HN.out, HQP.out]; rfl)
                      generalize (k == 0) = z at HN2 hk
                      cases z
                      · have HN3 : Hid (u a b (c + 1) = u a b c) := Lib.hid HN2.out
                        go_wp2_with fail
                        refine (HI1.out _).mono ?_
                        rintro e w' ⟨rfl, rfl⟩
                        go_wp2_with fail
                        refine (HA1.out _).mono ?_
                        rintro e w' ⟨rfl, rfl⟩
                        go_wp2_with fail
                        refine (HI2.out _).mono ?_
                        rintro e w' ⟨rfl, rfl⟩
                        go_wp2_with fail
                        refine (HA2.out _).mono ?_
                        rintro e w' ⟨rfl, rfl⟩
                        go_wp2_with fail
                        refine (HI3.out _).mono ?_
                        rintro e w' ⟨rfl, rfl⟩
                        go_wp2_with fail
                        refine (HA3.out _).mono ?_
                        rintro e w' ⟨rfl, rfl⟩
                        go_wp2_with fail
                        refine (HC.out _).mono ?_
                        rintro e w2 ⟨rfl, hb2⟩
                        have HB2 := Lib.hid (HB.out.on hb2)
                        clear hb2 c0 c1 B0
                        go_wp2
                        exact ⟨⟨c + 1, by omega, by omega, by go_num, by rw [HN3.out], HB2⟩, by simp only [intOf]; omega⟩
                      · have HN3 : Hid (u a b (c + 1) = u a b c + 1) := Lib.hid HN2.out
                        go_wp2_with fail
                        refine (HI1.out _).mono ?_
                        rintro e w' ⟨rfl, rfl⟩
                        go_wp2_with fail
                        refine (HA1.out _).mono ?_
                        rintro e w' ⟨rfl, rfl⟩
                        go_wp2_with fail
                        refine (HI2.out _).mono ?_
                        rintro e w' ⟨rfl, rfl⟩
                        go_wp2_with fail
                        refine (HA2.out _).mono ?_
                        rintro e w' ⟨rfl, rfl⟩
                        go_wp2_with fail
                        refine (HI3.out _).mono ?_
                        rintro e w' ⟨rfl, rfl⟩
                        go_wp2_with fail
                        refine (HA3.out _).mono ?_
                        rintro e w' ⟨rfl, rfl⟩
                        go_wp2_with fail
                        refine (HC.out _).mono ?_
                        rintro e w2 ⟨rfl, hb2⟩
                        have HB2 := Lib.hid (HB.out.on hb2)
                        clear hb2 c0 c1 B0
                        go_wp2
                        exact ⟨⟨c + 1, by omega, by omega, by go_num, by rw [HN3.out]; go_num, HB2⟩, by simp only [intOf]; omega⟩
              · have HN := Lib.hid (HUI.out a b hab hlt2)
                obtain rfl : c = m := by omega
                go_wp2
                exact ⟨⟨b + 1, by omega, by omega, by go_num, by rw [HN.out], HB⟩, by simp only [intOf]; omega⟩
          · have HN := Lib.hid (HUM.out a hlt)
            obtain rfl : b = m := by omega
            go_wp2
            exact ⟨⟨a + 1, by omega, by go_num, by rw [HN.out], HB⟩, by simp only [intOf]; omega⟩
      · obtain rfl : a = m := by omega
        go_wp2
        go_ret
        exact ⟨rfl, B0⟩
end Go.Proofs.YtfggiflngfihcaaGreatDoor.Sg
