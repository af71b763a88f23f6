/- The draws of stage 6: l6One, DrawIsExtreme, DrawHullOf. -/
import Derived.Test.YtgdkpgidklnndaaGreatDoorMgV
namespace Go.Proofs.YtgdkpgidklnndaaGreatDoor.Cur
open Go.RowKit Pt Sg NewI
set_option maxHeartbeats 1600000 in
set_option maxRecDepth 100000 in
/-- A draw that is one draw of signs over a new cursor. -/
theorem drawHull_any (v : Value) (n : Nat) (hn : n ≤ 9223372036854700000) (w : World) (hv : Bytes w v n w.heap.size) :
    Calls Tryz.prog 5 #[v] w fun e w' => ∃ (m : Nat) (T : ByteArray), e = .returned (sg m T) ∧ (m ≤ 6 ∨ m = 8) ∧ T.size ≤ 21 ∧ Below w.heap.size w w' := by
  have R0 := Lib.hid (outC_made w 0 ⟨#[]⟩ 25)
  have HA := Lib.hid ((Below.refl w.heap.size w).alloc (Nat.le_refl _) (.cells #[.int .i64 0, .string ⟨#[]⟩] 25))
  have HV := Lib.hid (bytes_up hv HA.out)
  clear hv
  go_enter Tryz.func5, Tryz.ntmps5
  go_wp2_with fail
  refine (new_any v n hn _ HV.out).mono ?_
  rintro e w1 ⟨b, rfl, hb, hv1, hc1, hb1⟩
  have hwb : w.heap.size < b := by simp at hb; omega
  have R1 := Lib.hid (R0.out.on hb1)
  have B1 := Lib.hid (HA.out.trans (hb1.mono HA.out.size))
  have V1 := Lib.hid (⟨hv1, hc1⟩ : _ ∧ _)
  clear hb1 hv1 hc1 hb
  go_wp2_with fail
  refine (l5Draw_any b v n _ V1.out.1 V1.out.2).mono ?_
  rintro e w2 ⟨m, T, rfl, hm, hT, hl2⟩
  have R2 := Lib.hid (outC_leaves R1.out hl2 (by omega))
  have B2 := Lib.hid (leaves_below hl2 (by omega) B1.out)
  clear hl2
  obtain ⟨⟨e0, e1⟩, z0, z1⟩ := R2.out
  obtain ⟨k0, k1⟩ := ret_sg e0 e1 (.int .i64 m) (.string T)
  go_wp2
  exact bodyPost_ret (v := .agg #[.int .i64 m, .string T]) (by simp [results, Tryz.results5, go_sem, k0, k1]) rfl ⟨m, T, rfl, hm, hT, (B2.out.setCell (by simp) _).setCell (by simp) _⟩
set_option maxHeartbeats 3200000 in
set_option maxRecDepth 100000 in
theorem l6One_any (v : Value) (n : Nat) (hn : n ≤ 9223372036854700000) (w : World) (hv : Bytes w v n w.heap.size) :
    Calls Tryz.prog 34 #[v] w fun e w' => ∃ (m : Nat) (T : ByteArray) (i : Int), e = .returned (.tuple #[sg m T, .int .i64 i]) ∧ (m ≤ 6 ∨ m = 8) ∧ T.size ≤ 21 ∧ (-1 ≤ i ∧ i ≤ 7) ∧ Below w.heap.size w w' := by
  have R0 := Lib.hid (outC_made w 0 ⟨#[]⟩ 25)
  have HA := Lib.hid ((Below.refl w.heap.size w).alloc (Nat.le_refl _) (.cells #[.int .i64 0, .string ⟨#[]⟩] 25))
  have HV := Lib.hid (bytes_up hv HA.out)
  clear hv
  go_enter Tryz.func34, Tryz.ntmps34
  go_wp2_with fail
  refine (new_any v n hn _ HV.out).mono ?_
  rintro e w1 ⟨b, rfl, hb, hv1, hc1, hb1⟩
  have hwb : w.heap.size < b := by simp at hb; omega
  have R1 := Lib.hid (R0.out.on hb1)
  have B1 := Lib.hid (HA.out.trans (hb1.mono HA.out.size))
  have V1 := Lib.hid (⟨hv1, hc1⟩ : _ ∧ _)
  have hbw := hc1.lt
  clear hb1 hv1 hc1 hb
  have HBW := Lib.hid (fun (m : Nat) (hm : m ≤ 2147483648) W (hl : Leaves b v n w1 W) => (below_any b v n m hm W hl.1 hl.2.1))
  have HON := Lib.hid (fun (m : Nat) (hm : m ≤ 2147483648) W (hl : Leaves b v n w1 W) => (once_any b v n m hm W hl.1 hl.2.1))
  go_wp2_with fail
  refine (l5Draw_any b v n _ V1.out.1 V1.out.2).mono ?_
  rintro e w2 ⟨m, T, rfl, hm, hT, hl2⟩
  have R2 := Lib.hid (outC_leaves R1.out hl2 (by omega))
  have hw2 : w.heap.size < w2.heap.size := Kit.cell_lt R2.out.1.1
  have L3 := Lib.hid (hl2.alloc hbw (.cells #[.int .i64 m, .string T] 25))
  have R3 := Lib.hid (R2.out.on ((Below.refl w2.heap.size w2).alloc (Nat.le_refl _) (.cells #[.int .i64 m, .string T] 25)))
  have Y3 := Lib.hid (outC_made w2 m T 25)
  have hb2 : b < w2.heap.size := hl2.lt
  clear hl2
  go_wp2
  generalize w2.alloc (.cells #[.int .i64 m, .string T] 25) = w3 at L3 R3 Y3 ⊢
  obtain ⟨⟨o0, o1⟩, -⟩ := Y3.out
  have hS0 := (⟨o0, o1⟩ : w3.drew.cell? ⟨w2.heap.size, 0, none⟩ = some (.int .i64 m) ∧ w3.drew.cell? ⟨w2.heap.size, 1, none⟩ = some (.string T))
  have L4 : Hid (Leaves b v n w1 w3.drew) := Lib.hid L3.out.drew
  have R4 : Hid (OutC w.heap.size 0 ⟨#[]⟩ w3.drew) := R3
  have Y4 : Hid (OutC w2.heap.size m T w3.drew) := Y3
  refine LastB.wp_region_last' (S := fun W => W.cell? ⟨w2.heap.size, 0, none⟩ = some (.int .i64 m) ∧ W.cell? ⟨w2.heap.size, 1, none⟩ = some (.string T)) 11 _ rfl rfl (by kernel_rfl) (by kernel_rfl) hS0 (fun hHeld => ?_)
  clear hS0 o0 o1 L3 R3 Y3
  simp only [List.take_succ_cons, List.take_zero]
  (refine wpAnyH_take (i := 0) (v := ?_) rfl (by kernel_rfl) (by kernel_rfl) (by kernel_rfl) (fun _ _ _ h => h) (Or.inl ⟨by rfl, ?_⟩) (by assumption) ?_; rotate_left; (focus (intro w hSw; (try dsimp only at hSw); go_simp; (try with_reducible rfl))); (simp only [Act.put, List.setIfInBounds_toArray]))
  (refine wpAnyH_take (i := 1) (v := ?_) rfl (by kernel_rfl) (by kernel_rfl) (by kernel_rfl) (fun _ _ _ h => h) (Or.inl ⟨by rfl, ?_⟩) (by assumption) ?_; rotate_left; (focus (intro w hSw; (try dsimp only at hSw); go_simp; (try with_reducible rfl))); (simp only [Act.put]))
  (refine wpAnyH_take (i := 2) (v := ?_) rfl (by kernel_rfl) (by kernel_rfl) (by kernel_rfl) (fun _ _ _ h => h) (Or.inl ⟨by rfl, ?_⟩) (by assumption) ?_; rotate_left; (focus (intro w hSw; (try dsimp only at hSw); go_simp; (try with_reducible rfl))); (simp only [Act.put]))
  (refine wpAnyH_take (i := 3) (v := ?_) rfl (by kernel_rfl) (by kernel_rfl) (by kernel_rfl) (fun _ _ _ h => h) (Or.inl ⟨by rfl, ?_⟩) (by assumption) ?_; rotate_left; (focus (intro w hSw; (try dsimp only at hSw); go_simp; (try with_reducible rfl))); (simp only [Act.put]))
  (refine wpAnyH_take (i := 6) (v := ?_) rfl (by kernel_rfl) (by kernel_rfl) (by kernel_rfl) (fun _ _ _ h => h) (Or.inl ⟨by rfl, ?_⟩) (by assumption) ?_; rotate_left; (focus (intro w hSw; (try dsimp only at hSw); go_simp; (try with_reducible rfl))); (simp only [Act.put]))
  refine wpAnyH_ready (rs := [4]) (by kernel_rfl) (by simp) ?_
  refine AllReadyH.cons rfl (fun K hK => ?_) AllReadyH.nil
  go_simp
  refine (max_any m (by omega) 1 (by omega) _).mono ?_
  rintro e w4 ⟨rfl, rfl⟩
  refine hK.out _ _ hHeld (fun hHeld => ?_)
  clear hK K
  try simp only [Act.put, List.setIfInBounds_toArray, List.set_cons_zero, List.set_cons_succ]
  refine wpAnyH_ready (rs := [5]) (by kernel_rfl) (by simp) ?_
  refine AllReadyH.cons rfl (fun K hK => ?_) AllReadyH.nil
  go_simp
  refine (HBW.out (max 1 m) (by omega) _ L4.out).mono ?_
  rintro e w5 ⟨r, hr, rfl, hl5⟩
  have hr7 : r ≤ 7 := by omega
  have L5 := Lib.hid (L4.out.trans hl5)
  have R5 := Lib.hid (outC_leaves R4.out hl5 (by omega))
  have Y5 := Lib.hid (outC_leaves Y4.out hl5 (by omega))
  clear hl5 hr L4 R4 Y4
  refine hK.out _ _ Y5.out.1 (fun hHeld => ?_)
  clear hK K
  try simp only [Act.put, List.setIfInBounds_toArray, List.set_cons_zero, List.set_cons_succ]
  refine wpAnyH_ready (rs := [7]) (by kernel_rfl) (by simp) ?_
  refine AllReadyH.cons rfl (fun K hK => ?_) AllReadyH.nil
  go_simp
  refine (HON.out 14 (by omega) _ L5.out).mono ?_
  rintro e w6 ⟨q, rfl, hl6⟩
  have L6 := Lib.hid (L5.out.trans hl6)
  have R6 := Lib.hid (outC_leaves R5.out hl6 (by omega))
  have Y6 := Lib.hid (outC_leaves Y5.out hl6 (by omega))
  clear hl6 L5 R5 Y5
  refine hK.out _ _ Y6.out.1 (fun hHeld => ?_)
  clear hK K
  try simp only [Act.put, List.setIfInBounds_toArray, List.set_cons_zero, List.set_cons_succ]
  refine wpAnyH_ready (rs := [8]) (by kernel_rfl) (by simp) ?_
  refine AllReadyH.cons rfl (fun K hK => ?_) AllReadyH.nil
  go_simp
  refine (bit_any q _).mono ?_
  rintro e w7 ⟨rfl, rfl⟩
  refine hK.out _ _ hHeld (fun hHeld => ?_)
  clear hK K
  have hq : bitI q = 0 ∨ bitI q = 1 := by cases q <;> simp [bitI]
  generalize bitI q = z at hq ⊢
  have hz : IntKind.i64.wrap ((r : Int) - z) = r - z := IntWalk.i64_in _ (by omega)
  try simp only [Act.put, List.setIfInBounds_toArray, List.set_cons_zero, List.set_cons_succ]
  (refine wpAnyH_take (i := 9) (v := ?_) rfl (by kernel_rfl) (by kernel_rfl) (by kernel_rfl) (fun _ _ _ h => h) (Or.inl ⟨by rfl, ?_⟩) (by assumption) ?_; rotate_left; (focus (intro w hSw; (try dsimp only at hSw); go_simp; (try with_reducible rfl))); (simp only [Act.put, List.setIfInBounds_toArray]))
  obtain ⟨⟨e0, e1⟩, z0, z1⟩ := R6.out
  obtain ⟨y0, y1⟩ := Y6.out.1
  obtain ⟨k0, k1⟩ := ret_sg e0 e1 (.int .i64 m) (.string T)
  have HF := Lib.hid (((leaves_below L6.out (by omega) B1.out).setCell (p := ⟨w.heap.size, 0, none⟩) (by simp) (.int .i64 m)).setCell (p := ⟨w.heap.size, 1, none⟩) (by simp) (.string T))
  have HYF := Lib.hid (outC_off (outC_off Y6.out (so := w.heap.size) (by omega) 0 (.int .i64 m)) (so := w.heap.size) (by omega) 1 (.string T))
  refine wpAnyH_ready (rs := [10]) (by kernel_rfl) (by simp) ?_
  refine AllReadyH.cons rfl (fun K hK => ?_) AllReadyH.nil
  go_simp
  refine hK.out _ _ HYF.out.1 (fun hHeld => ?_)
  clear hK K
  try simp only [Act.put, List.setIfInBounds_toArray, List.set_cons_zero, List.set_cons_succ]
  refine wpAnyH_done (by kernel_rfl) ?_ _
  change wpList _ _ _ [_] _ _
  go_wp2
  exact bodyPost_ret (v := .tuple #[.agg #[.int .i64 m, .string T], .int .i64 (r - z)]) (by simp [results, Tryz.results34, go_sem, k0, k1]) rfl ⟨m, T, _, rfl, hm, hT, by omega, HF.out⟩
set_option maxHeartbeats 1600000 in
set_option maxRecDepth 100000 in
theorem drawExt_any (v : Value) (n : Nat) (hn : n ≤ 9223372036854700000) (w : World) (hv : Bytes w v n w.heap.size) :
    Calls Tryz.prog 8 #[v] w fun e w' => ∃ (m : Nat) (T : ByteArray) (i : Int), e = .returned (.tuple #[sg m T, .int .i64 i]) ∧ (m ≤ 6 ∨ m = 8) ∧ T.size ≤ 21 ∧ (-1 ≤ i ∧ i ≤ 7) ∧ Below w.heap.size w w' := by
  have R0 := Lib.hid (outC_made w 0 ⟨#[]⟩ 25)
  have HA := Lib.hid ((Below.refl w.heap.size w).alloc (Nat.le_refl _) (.cells #[.int .i64 0, .string ⟨#[]⟩] 25))
  have HV := Lib.hid (bytes_up hv HA.out)
  clear hv
  go_enter Tryz.func8, Tryz.ntmps8
  go_wp2_with fail
  refine (l6One_any v n hn _ HV.out).mono ?_
  rintro e w1 ⟨m, T, i, rfl, hm, hT, hi, hb1⟩
  have R1 := Lib.hid (R0.out.on hb1)
  have B1 := Lib.hid (HA.out.trans (hb1.mono HA.out.size))
  clear hb1
  have hw1 : w.heap.size < w1.heap.size := Kit.cell_lt R1.out.1.1
  have B2 := Lib.hid (B1.out.alloc B1.out.size (.cells #[.int .i64 m, .string T] 25))
  have R2 := Lib.hid (R1.out.on ((Below.refl w1.heap.size w1).alloc (Nat.le_refl _) (.cells #[.int .i64 m, .string T] 25)))
  have Y2 := Lib.hid (outC_made w1 m T 25)
  obtain ⟨⟨y0, y1⟩, -⟩ := Y2.out
  obtain ⟨⟨e0, e1⟩, z0, z1⟩ := R2.out
  obtain ⟨⟨e2, e3⟩, z2, z3⟩ := R1.out
  obtain ⟨k2, k3⟩ := ret_sg e2 e3 (.int .i64 m) (.string T)
  have HF := Lib.hid (((B1.out.setCell (p := ⟨w.heap.size, 0, none⟩) (by simp) (.int .i64 m)).setCell (p := ⟨w.heap.size, 1, none⟩) (by simp) (.string T)).alloc (by simp; omega) (.cells #[.int .i64 m, .string T] 25))
  have hbl := (Below.refl w1.heap.size ((w1.setCell ⟨w.heap.size, 0, none⟩ (.int .i64 m)).setCell ⟨w.heap.size, 1, none⟩ (.string T))).alloc (by simp) (.cells #[.int .i64 m, .string T] 25)
  have k0 := (hbl.cell (p := ⟨w.heap.size, 0, none⟩) hw1).trans k2
  have k1 := (hbl.cell (p := ⟨w.heap.size, 1, none⟩) hw1).trans k3
  clear hbl
  go_wp2
  exact bodyPost_ret (v := .tuple #[.agg #[.int .i64 m, .string T], .int .i64 i]) (by simp [results, Tryz.results8, go_sem, k0, k1]) rfl ⟨m, T, i, rfl, hm, hT, hi, HF.out⟩
end Go.Proofs.YtgdkpgidklnndaaGreatDoor.Cur
