/- The draws of stage 6: DrawInHull. -/
import Derived.Test.YtgdkpgidklnndaaGreatDoorDrExt
import Derived.Test.YtgdkpgidklnndaaGreatDoorMgH
namespace Go.Proofs.YtgdkpgidklnndaaGreatDoor.Cur
open Go.RowKit Pt Sg NewI
set_option maxHeartbeats 6400000 in
set_option maxRecDepth 100000 in
theorem drawInH_any (v : Value) (n : Nat) (hn : n ≤ 9223372036854700000) (w : World) (hv : Bytes w v n w.heap.size) :
    Calls Tryz.prog 9 #[v] w fun e w' => ∃ (m : Nat) (T : ByteArray) (set p : Int), e = .returned (.tuple #[sg m T, .int .i64 set, .int .i64 p]) ∧ (m ≤ 6 ∨ m = 8) ∧ T.size ≤ 21 ∧ (-1000 ≤ set ∧ set ≤ 1000) ∧ (0 ≤ p ∧ p ≤ 1000) ∧ Below w.heap.size w w' := by
  have R0 := Lib.hid (outC_made w 0 ⟨#[]⟩ 25)
  have HA := Lib.hid ((Below.refl w.heap.size w).alloc (Nat.le_refl _) (.cells #[.int .i64 0, .string ⟨#[]⟩] 25))
  have HV := Lib.hid (bytes_up hv HA.out)
  clear hv
  go_enter Tryz.func9, Tryz.ntmps9
  go_wp2_with fail
  refine (new_any v n hn _ HV.out).mono ?_
  rintro e w1 ⟨b, rfl, hb, hv1, hc1, hb1⟩
  have hwb : w.heap.size < b := by simp at hb; omega
  have R1 := Lib.hid (R0.out.on hb1)
  have B1 := Lib.hid (HA.out.trans (hb1.mono HA.out.size))
  have V1 := Lib.hid (⟨hv1, hc1⟩ : _ ∧ _)
  have hbw := hc1.lt
  clear hb1 hv1 hc1 hb
  have HBW := Lib.hid (fun (m : Nat) (hm : m ≤ 2147483648) W (hl : Leaves b v n w1 W) => (below_any b v n m hm W hl.1 hl.2.1))
  have HON := Lib.hid (fun (m : Nat) (hm : m ≤ 2147483648) W (hl : Leaves b v n w1 W) => (once_any b v n m hm W hl.1 hl.2.1))
  go_wp2_with fail
  refine (l5Draw_any b v n _ V1.out.1 V1.out.2).mono ?_
  rintro e w2 ⟨m, T, rfl, hm, hT, hl2⟩
  have R2 := Lib.hid (outC_leaves R1.out hl2 (by omega))
  have hw2 : w.heap.size < w2.heap.size := Kit.cell_lt R2.out.1.1
  have hb2 : b < w2.heap.size := hl2.lt
  have ST : Hid (OutC w.heap.size 0 ⟨#[]⟩ (w2.alloc (.cells #[.int .i64 m, .string T] 25)) ∧ OutC w2.heap.size m T (w2.alloc (.cells #[.int .i64 m, .string T] 25)) ∧ Leaves b v n w1 (w2.alloc (.cells #[.int .i64 m, .string T] 25))) := Lib.hid ⟨R2.out.on ((Below.refl w2.heap.size w2).alloc (Nat.le_refl _) _), outC_made w2 m T 25, hl2.alloc hbw _⟩
  have HT : Hid (∀ W W', (OutC w.heap.size 0 ⟨#[]⟩ W ∧ OutC w2.heap.size m T W ∧ Leaves b v n w1 W) → Leaves b v n W W' → (OutC w.heap.size 0 ⟨#[]⟩ W' ∧ OutC w2.heap.size m T W' ∧ Leaves b v n w1 W')) := Lib.hid (fun W W' h hl => ⟨outC_leaves h.1 hl (by omega), outC_leaves h.2.1 hl (by omega), h.2.2.trans hl⟩)
  have HB : Hid (∀ W W', (OutC w.heap.size 0 ⟨#[]⟩ W ∧ OutC w2.heap.size m T W ∧ Leaves b v n w1 W) → Below W.heap.size W W' → (OutC w.heap.size 0 ⟨#[]⟩ W' ∧ OutC w2.heap.size m T W' ∧ Leaves b v n w1 W')) := Lib.hid (fun W W' h hl => ⟨h.1.on hl, h.2.1.on hl, h.2.2.ext (hl.mono h.2.2.2.2.size) hbw⟩)
  clear hl2 R0 R1 R2 V1 HV HA
  go_wp2_with fail
  generalize hw3 : w2.alloc (.cells #[.int .i64 m, .string T] 25) = w3 at ST ⊢
  clear hw3
  refine (HBW.out 70 (by omega) _ ST.out.2.2).mono ?_
  rintro e w4 ⟨r1, hr1, rfl, hl⟩
  have ST4 := Lib.hid (HT.out _ _ ST.out hl)
  clear hl ST
  have ST := ST4
  clear ST4
  have hb4 : b < w4.heap.size := ST.out.2.2.lt
  have HLT := Lib.hid (lit_cells w4 [0, 0, 0, 64, -70] 3)
  have ST5 := Lib.hid (HB.out _ _ ST.out ((Below.refl w4.heap.size w4).alloc (Nat.le_refl _) (.cells #[.int .i64 0, .int .i64 0, .int .i64 0, .int .i64 64, .int .i64 (-70)] 3)))
  clear ST
  have ST := ST5
  clear ST5
  go_wp2_with fail
  refine (pickInt_any b w4.heap.size 5 v n [0, 0, 0, 64, -70] (by decide) (by decide) _ ST.out.2.2.1 ST.out.2.2.2.1 HLT.out (by omega)).mono ?_
  rintro e w6 ⟨x, hx, rfl, hl⟩
  have ST6 := Lib.hid (HT.out _ _ ST.out hl)
  clear hl ST
  have ST := ST6
  clear ST6
  have hxb : -70 ≤ x ∧ x ≤ 64 := by
    simp only [List.mem_cons, List.mem_nil_iff, or_false] at hx
    omega
  have hZ : IntKind.i64.wrap ((r1 : Int) + x) = (r1 : Int) + x := IntWalk.i64_in _ (by omega)
  have hZb : -70 ≤ (r1 : Int) + x ∧ (r1 : Int) + x ≤ 134 := by omega
  clear hx hxb HLT
  go_wp2_with fail
  refine (HBW.out 6 (by omega) _ ST.out.2.2).mono ?_
  rintro e w7 ⟨r2, hr2, rfl, hl⟩
  have ST7 := Lib.hid (HT.out _ _ ST.out hl)
  clear hl ST
  have ST := ST7
  clear ST7
  have hr2b : r2 ≤ 6 := by omega
  go_wp2_with fail
  refine (HON.out 3 (by omega) _ ST.out.2.2).mono ?_
  rintro e w8 ⟨q1, rfl, hl⟩
  have ST8 := Lib.hid (HT.out _ _ ST.out hl)
  clear hl ST
  have ST := ST8
  clear ST8
  cases q1
  · have HL := Lib.hid (fun W => l1In_any (m : Int) 1 7 W)
    cases hin : inB (m : Int) 1 7
    · rw [hin] at HL
      clear hin
      obtain ⟨-, ⟨⟨o0, o1⟩, -⟩, -⟩ := ST.out
      go_wp2_with fail
      refine (HL.out _).mono ?_
      rintro e w' ⟨rfl, rfl⟩
      clear o0 o1
      obtain ⟨⟨⟨e0, e1⟩, z0, z1⟩, ⟨⟨o0, o1⟩, f0, f1⟩, hlv⟩ := ST.out
      have BF := Lib.hid (leaves_below hlv (by omega) B1.out)
      clear hlv
      obtain ⟨k0, k1⟩ := ret_sg e0 e1 (.int .i64 m) (.string T)
      go_wp2
      exact bodyPost_ret (v := .tuple #[.agg #[.int .i64 m, .string T], .int .i64 ((r1 : Int) + x), .int .i64 r2]) (by simp [results, Tryz.results9, go_sem, k0, k1]) rfl ⟨m, T, _, _, rfl, hm, hT, by omega, by omega, (BF.out.setCell (by simp) _).setCell (by simp) _⟩
    · obtain ⟨hm1, hm7⟩ := inB_mem hin
      have hm6 : 1 ≤ m ∧ m ≤ 6 := by omega
      rw [hin] at HL
      clear hin hm1 hm7
      obtain ⟨-, ⟨⟨o0, o1⟩, -⟩, -⟩ := ST.out
      go_wp2_with fail
      refine (HL.out _).mono ?_
      rintro e w' ⟨rfl, rfl⟩
      go_wp2_with fail
      refine (HBW.out m (by omega) _ ST.out.2.2).mono ?_
      rintro e w9 ⟨r3, hr3, rfl, hl⟩
      clear o0 o1
      have ST9 := Lib.hid (HT.out _ _ ST.out hl)
      clear hl ST
      have ST := ST9
      clear ST9
      have hr3b : r3 < m := by omega
      clear hr3
      have HEX := Lib.hid (fun (p : Nat) W => specIsExtreme m T p (by omega) W)
      go_wp2
      go_loopw [8, 9] (fun pv kv wr => ∃ p k : Nat, pv = .int .i64 p ∧ kv = .int .i64 k ∧ p < m ∧ k ≤ m ∧ Hid (OutC w.heap.size 0 ⟨#[]⟩ wr ∧ OutC w2.heap.size m T wr ∧ Leaves b v n w1 wr)) (fun _ kv _ => m - (intOf kv).toNat)
      case atStart => exact ⟨r3, 0, rfl, rfl, hr3b, Nat.zero_le _, ST⟩
      case round =>
        clear ST
        obtain ⟨p, k, rfl, rfl, hp, hk, ST⟩ := hrel
        obtain ⟨-, ⟨⟨o0, o1⟩, -⟩, -⟩ := ST.out
        have hpw := pow_le7 (p := p) (by omega)
        have hmw := pow_le7 (p := m) (by omega)
        have hcp : ((2 ^ p : Nat) : Int) = (2 : Int) ^ p := by push_cast; rfl
        have hcm : ((2 ^ m : Nat) : Int) = (2 : Int) ^ m := by push_cast; rfl
        have hpos1 := Nat.pow_pos (n := p) (show 0 < 2 by omega)
        have hpos2 := Nat.pow_pos (n := m) (show 0 < 2 by omega)
        obtain ⟨P, hP⟩ : ∃ P : Nat, P = 2 ^ p := ⟨_, rfl⟩
        obtain ⟨M, hM⟩ : ∃ M : Nat, M = 2 ^ m := ⟨_, rfl⟩
        rw [← hP] at hpw hcp hpos1
        rw [← hM] at hmw hcm hpos2
        have v1 : IntKind.i64.wrap ((2 : Int) ^ p) = (P : Int) := by rw [← hcp]; exact IntWalk.i64_in _ (by omega)
        have v2 : IntKind.i64.wrap ((2 : Int) ^ m) = (M : Int) := by rw [← hcm]; exact IntWalk.i64_in _ (by omega)
        have v3 : IntKind.i64.wrap ((M : Int) - 1) = (M : Int) - 1 := IntWalk.i64_in _ (by omega)
        have v4 : IntKind.i64.wrap ((M : Int) - 1 - (P : Int)) = (M : Int) - 1 - (P : Int) := IntWalk.i64_in _ (by omega)
        clear hcp hcm hP hM
        have v5 : IntKind.i64.wrap ((p : Int) + 1) = (p : Int) + 1 := IntWalk.i64_in _ (by omega)
        have v6 : ((p : Int) + 1).tmod (m : Int) = (((p + 1) % m : Nat) : Int) := by rw [Int.tmod_eq_emod_of_nonneg (by omega)]; push_cast; rfl
        have v7 : (p + 1) % m < m := Nat.mod_lt _ (by omega)
        have v8 : ((m : Int) == 0) = false := by rw [beq_eq_false_iff_ne]; omega
        by_cases hlt : k < m
        · have HE := Lib.hid (HEX.out p)
          generalize extB m T.data.toList p = eb at HE
          go_wp2_with fail
          refine (HE.out _).mono ?_
          rintro e w12 ⟨rfl, hb12⟩
          have ST12 := Lib.hid (HB.out _ _ ST.out hb12)
          clear hb12 o0 o1 ST
          have ST := ST12
          clear ST12
          obtain ⟨-, ⟨⟨o0, o1⟩, -⟩, -⟩ := ST.out
          cases eb
          · skip
            go_wp2_with fail
            refine (HBW.out m (by omega) _ ST.out.2.2).mono ?_
            rintro e w10 ⟨r4, hr4, rfl, hl⟩
            clear o0 o1
            have ST10 := Lib.hid (HT.out _ _ ST.out hl)
            clear hl ST
            have ST := ST10
            clear ST10
            have hr4b : r4 < m := by omega
            clear hr4
            have hqw := pow_le7 (p := r4) (by omega)
            have hcq : ((2 ^ r4 : Nat) : Int) = (2 : Int) ^ r4 := by push_cast; rfl
            have hposq := Nat.pow_pos (n := r4) (show 0 < 2 by omega)
            obtain ⟨Q, hQ⟩ : ∃ Q : Nat, Q = 2 ^ r4 := ⟨_, rfl⟩
            rw [← hQ] at hqw hcq hposq
            have v9 : IntKind.i64.wrap ((2 : Int) ^ r4) = (Q : Int) := by rw [← hcq]; exact IntWalk.i64_in _ (by omega)
            have v10 : IntKind.i64.wrap ((M : Int) - 1 - (P : Int) - (Q : Int)) = (M : Int) - 1 - (P : Int) - (Q : Int) := IntWalk.i64_in _ (by omega)
            clear hcq hQ
            go_wp2_with fail
            refine (HON.out 3 (by omega) _ ST.out.2.2).mono ?_
            rintro e w11 ⟨q2, rfl, hl⟩
            have ST11 := Lib.hid (HT.out _ _ ST.out hl)
            clear hl ST
            have ST := ST11
            clear ST11
            cases q2
            · skip
              obtain ⟨⟨⟨e0, e1⟩, z0, z1⟩, ⟨⟨o0, o1⟩, f0, f1⟩, hlv⟩ := ST.out
              have BF := Lib.hid (leaves_below hlv (by omega) B1.out)
              clear hlv
              obtain ⟨k0, k1⟩ := ret_sg e0 e1 (.int .i64 m) (.string T)
              go_wp2
              exact bodyPost_ret (v := .tuple #[.agg #[.int .i64 m, .string T], .int .i64 ((M : Int) - 1 - P), .int .i64 p]) (by simp [results, Tryz.results9, go_sem, k0, k1]) rfl ⟨m, T, _, _, rfl, hm, hT, by omega, by omega, (BF.out.setCell (by simp) _).setCell (by simp) _⟩
            · cases hq : ((r4 : Int) != (p : Int))
              · skip
                obtain ⟨⟨⟨e0, e1⟩, z0, z1⟩, ⟨⟨o0, o1⟩, f0, f1⟩, hlv⟩ := ST.out
                have BF := Lib.hid (leaves_below hlv (by omega) B1.out)
                clear hlv
                obtain ⟨k0, k1⟩ := ret_sg e0 e1 (.int .i64 m) (.string T)
                go_wp2
                exact bodyPost_ret (v := .tuple #[.agg #[.int .i64 m, .string T], .int .i64 ((M : Int) - 1 - P), .int .i64 p]) (by simp [results, Tryz.results9, go_sem, k0, k1]) rfl ⟨m, T, _, _, rfl, hm, hT, by omega, by omega, (BF.out.setCell (by simp) _).setCell (by simp) _⟩
              · skip
                obtain ⟨⟨⟨e0, e1⟩, z0, z1⟩, ⟨⟨o0, o1⟩, f0, f1⟩, hlv⟩ := ST.out
                have BF := Lib.hid (leaves_below hlv (by omega) B1.out)
                clear hlv
                obtain ⟨k0, k1⟩ := ret_sg e0 e1 (.int .i64 m) (.string T)
                go_wp2
                exact bodyPost_ret (v := .tuple #[.agg #[.int .i64 m, .string T], .int .i64 ((M : Int) - 1 - P - Q), .int .i64 p]) (by simp [results, Tryz.results9, go_sem, k0, k1]) rfl ⟨m, T, _, _, rfl, hm, hT, by omega, by omega, (BF.out.setCell (by simp) _).setCell (by simp) _⟩
          · go_wp2
            exact ⟨⟨(p + 1) % m, k + 1, rfl, by go_num, v7, by omega, ST⟩, by simp only [intOf]; omega⟩
        · skip
          go_wp2_with fail
          refine (HBW.out m (by omega) _ ST.out.2.2).mono ?_
          rintro e w10 ⟨r4, hr4, rfl, hl⟩
          clear o0 o1
          have ST10 := Lib.hid (HT.out _ _ ST.out hl)
          clear hl ST
          have ST := ST10
          clear ST10
          have hr4b : r4 < m := by omega
          clear hr4
          have hqw := pow_le7 (p := r4) (by omega)
          have hcq : ((2 ^ r4 : Nat) : Int) = (2 : Int) ^ r4 := by push_cast; rfl
          have hposq := Nat.pow_pos (n := r4) (show 0 < 2 by omega)
          obtain ⟨Q, hQ⟩ : ∃ Q : Nat, Q = 2 ^ r4 := ⟨_, rfl⟩
          rw [← hQ] at hqw hcq hposq
          have v9 : IntKind.i64.wrap ((2 : Int) ^ r4) = (Q : Int) := by rw [← hcq]; exact IntWalk.i64_in _ (by omega)
          have v10 : IntKind.i64.wrap ((M : Int) - 1 - (P : Int) - (Q : Int)) = (M : Int) - 1 - (P : Int) - (Q : Int) := IntWalk.i64_in _ (by omega)
          clear hcq hQ
          go_wp2_with fail
          refine (HON.out 3 (by omega) _ ST.out.2.2).mono ?_
          rintro e w11 ⟨q2, rfl, hl⟩
          have ST11 := Lib.hid (HT.out _ _ ST.out hl)
          clear hl ST
          have ST := ST11
          clear ST11
          cases q2
          · skip
            obtain ⟨⟨⟨e0, e1⟩, z0, z1⟩, ⟨⟨o0, o1⟩, f0, f1⟩, hlv⟩ := ST.out
            have BF := Lib.hid (leaves_below hlv (by omega) B1.out)
            clear hlv
            obtain ⟨k0, k1⟩ := ret_sg e0 e1 (.int .i64 m) (.string T)
            go_wp2
            exact bodyPost_ret (v := .tuple #[.agg #[.int .i64 m, .string T], .int .i64 ((M : Int) - 1 - P), .int .i64 p]) (by simp [results, Tryz.results9, go_sem, k0, k1]) rfl ⟨m, T, _, _, rfl, hm, hT, by omega, by omega, (BF.out.setCell (by simp) _).setCell (by simp) _⟩
          · cases hq : ((r4 : Int) != (p : Int))
            · skip
              obtain ⟨⟨⟨e0, e1⟩, z0, z1⟩, ⟨⟨o0, o1⟩, f0, f1⟩, hlv⟩ := ST.out
              have BF := Lib.hid (leaves_below hlv (by omega) B1.out)
              clear hlv
              obtain ⟨k0, k1⟩ := ret_sg e0 e1 (.int .i64 m) (.string T)
              go_wp2
              exact bodyPost_ret (v := .tuple #[.agg #[.int .i64 m, .string T], .int .i64 ((M : Int) - 1 - P), .int .i64 p]) (by simp [results, Tryz.results9, go_sem, k0, k1]) rfl ⟨m, T, _, _, rfl, hm, hT, by omega, by omega, (BF.out.setCell (by simp) _).setCell (by simp) _⟩
            · skip
              obtain ⟨⟨⟨e0, e1⟩, z0, z1⟩, ⟨⟨o0, o1⟩, f0, f1⟩, hlv⟩ := ST.out
              have BF := Lib.hid (leaves_below hlv (by omega) B1.out)
              clear hlv
              obtain ⟨k0, k1⟩ := ret_sg e0 e1 (.int .i64 m) (.string T)
              go_wp2
              exact bodyPost_ret (v := .tuple #[.agg #[.int .i64 m, .string T], .int .i64 ((M : Int) - 1 - P - Q), .int .i64 p]) (by simp [results, Tryz.results9, go_sem, k0, k1]) rfl ⟨m, T, _, _, rfl, hm, hT, by omega, by omega, (BF.out.setCell (by simp) _).setCell (by simp) _⟩
  · skip
    obtain ⟨⟨⟨e0, e1⟩, z0, z1⟩, ⟨⟨o0, o1⟩, f0, f1⟩, hlv⟩ := ST.out
    have BF := Lib.hid (leaves_below hlv (by omega) B1.out)
    clear hlv
    obtain ⟨k0, k1⟩ := ret_sg e0 e1 (.int .i64 m) (.string T)
    go_wp2
    exact bodyPost_ret (v := .tuple #[.agg #[.int .i64 m, .string T], .int .i64 ((r1 : Int) + x), .int .i64 r2]) (by simp [results, Tryz.results9, go_sem, k0, k1]) rfl ⟨m, T, _, _, rfl, hm, hT, by omega, by omega, (BF.out.setCell (by simp) _).setCell (by simp) _⟩
end Go.Proofs.YtgdkpgidklnndaaGreatDoor.Cur
