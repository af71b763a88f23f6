/- Several texts in one: DrKr, DrKrCase. -/
import Derived.Test.YtinlnafkmoabbaaGreatDoorMgV
import Derived.Test.YtinlnafkmoabbaaGreatDoorMgKr
/- The draws of stage 9: DrawEdgeIndex, DrawEdgeAt, DrawAllEdges, DrawDoCross. -/
namespace Go.Proofs.YtinlnafkmoabbaaGreatDoor.Cur
open Go.RowKit Pt Sg NewI
set_option maxHeartbeats 1600000 in
set_option maxRecDepth 100000 in
theorem drawEdgeIx_any (v : Value) (n : Nat) (hn : n ≤ 9223372036854700000) (w : World) (hv : Bytes w v n w.heap.size) :
    Calls Tryz.prog 29 #[v] w fun e w' => ∃ x y z : Int, e = .returned (.tuple #[.int .i64 x, .int .i64 y, .int .i64 z]) ∧ (2 ≤ x ∧ x ≤ 9) ∧ (-1 ≤ y ∧ y ≤ 7) ∧ (0 ≤ z ∧ z ≤ 7) ∧ Below w.heap.size w w' := by
  go_enter Tryz.func29, Tryz.ntmps29
  go_wp2_with fail
  refine (new_any v n hn _ hv).mono ?_
  rintro e w1 ⟨b, rfl, hb, hv1, hc1, hb1⟩
  have B1 := Lib.hid hb1
  have HBW := Lib.hid (fun (m : Nat) (hm : m ≤ 2147483648) W (hl : Leaves b v n w1 W) => (below_any b v n m hm W hl.1 hl.2.1))
  have HON := Lib.hid (fun (m : Nat) (hm : m ≤ 2147483648) W (hl : Leaves b v n w1 W) => (once_any b v n m hm W hl.1 hl.2.1))
  have L1 := Lib.hid (Leaves.refl hv1 hc1)
  clear hb1 hv1 hc1
  go_wp2_with fail
  refine (HBW.out 7 (by omega) _ L1.out).mono ?_
  rintro e w2 ⟨x, hx, rfl, hl2⟩
  have hx7 : x ≤ 7 := by omega
  have L2 := Lib.hid (L1.out.trans hl2)
  clear hl2 hx L1
  go_wp2_with fail
  refine (HBW.out 7 (by omega) _ L2.out).mono ?_
  rintro e w3 ⟨y, hy, rfl, hl3⟩
  have hy7 : y ≤ 7 := by omega
  have L3 := Lib.hid (L2.out.trans hl3)
  clear hl3 hy L2
  go_wp2_with fail
  refine (HON.out 12 (by omega) _ L3.out).mono ?_
  rintro e w4 ⟨q, rfl, hl4⟩
  have L4 := Lib.hid (L3.out.trans hl4)
  clear hl4 L3
  go_wp2_with fail
  refine (bit_any q _).mono ?_
  rintro e w' ⟨rfl, rfl⟩
  have hq : bitI q = 0 ∨ bitI q = 1 := by cases q <;> simp [bitI]
  generalize bitI q = c at hq ⊢
  go_wp2_with fail
  refine (HBW.out 7 (by omega) _ L4.out).mono ?_
  rintro e w5 ⟨z, hz, rfl, hl5⟩
  have hz7 : z ≤ 7 := by omega
  have L5 := Lib.hid (L4.out.trans hl5)
  clear hl5 hz L4
  have e1 : IntKind.i64.wrap (2 + (x : Int)) = 2 + x := IntWalk.i64_in _ (by omega)
  have e2 : IntKind.i64.wrap ((y : Int) - c) = y - c := IntWalk.i64_in _ (by omega)
  have HF := Lib.hid (leaves_below L5.out hb B1.out)
  go_wp2
  exact bodyPost_ret (v := .tuple #[.int .i64 (2 + x), .int .i64 (y - c), .int .i64 z]) (by simp [results, Tryz.results29, go_sem]) rfl ⟨_, _, _, rfl, by omega, by omega, by omega, HF.out⟩
set_option maxHeartbeats 1600000 in
set_option maxRecDepth 100000 in
theorem drawEdgeAt_any (v : Value) (n : Nat) (hn : n ≤ 9223372036854700000) (w : World) (hv : Bytes w v n w.heap.size) :
    Calls Tryz.prog 30 #[v] w fun e w' => ∃ x y : Int, e = .returned (.tuple #[.int .i64 x, .int .i64 y]) ∧ (2 ≤ x ∧ x ≤ 9) ∧ (-1 ≤ y ∧ y ≤ 22) ∧ Below w.heap.size w w' := by
  go_enter Tryz.func30, Tryz.ntmps30
  go_wp2_with fail
  refine (new_any v n hn _ hv).mono ?_
  rintro e w1 ⟨b, rfl, hb, hv1, hc1, hb1⟩
  have B1 := Lib.hid hb1
  have HBW := Lib.hid (fun (m : Nat) (hm : m ≤ 2147483648) W (hl : Leaves b v n w1 W) => (below_any b v n m hm W hl.1 hl.2.1))
  have L1 := Lib.hid (Leaves.refl hv1 hc1)
  clear hb1 hv1 hc1
  go_wp2_with fail
  refine (HBW.out 7 (by omega) _ L1.out).mono ?_
  rintro e w2 ⟨x, hx, rfl, hl2⟩
  have hx7 : x ≤ 7 := by omega
  have L2 := Lib.hid (L1.out.trans hl2)
  clear hl2 hx L1
  go_wp2_with fail
  refine (HBW.out 22 (by omega) _ L2.out).mono ?_
  rintro e w3 ⟨y, hy, rfl, hl3⟩
  have hy7 : y ≤ 22 := by omega
  have L3 := Lib.hid (L2.out.trans hl3)
  clear hl3 hy L2
  have e1 : IntKind.i64.wrap (2 + (x : Int)) = 2 + x := IntWalk.i64_in _ (by omega)
  have e2 : IntKind.i64.wrap ((y : Int) - 1) = y - 1 := IntWalk.i64_in _ (by omega)
  have HF := Lib.hid (leaves_below L3.out hb B1.out)
  go_wp2
  exact bodyPost_ret (v := .tuple #[.int .i64 (2 + x), .int .i64 (y - 1)]) (by simp [results, Tryz.results30, go_sem]) rfl ⟨_, _, rfl, by omega, by omega, HF.out⟩
set_option maxHeartbeats 1600000 in
set_option maxRecDepth 100000 in
theorem drawAllEdges_any (v : Value) (n : Nat) (hn : n ≤ 9223372036854700000) (w : World) (hv : Bytes w v n w.heap.size) :
    Calls Tryz.prog 36 #[v] w fun e w' => ∃ x : Int, e = .returned (.int .i64 x) ∧ (-1 ≤ x ∧ x ≤ 11) ∧ Below w.heap.size w w' := by
  go_enter Tryz.func36, Tryz.ntmps36
  go_wp2_with fail
  refine (new_any v n hn _ hv).mono ?_
  rintro e w1 ⟨b, rfl, hb, hv1, hc1, hb1⟩
  have B1 := Lib.hid hb1
  have L1 := Lib.hid (Leaves.refl hv1 hc1)
  clear hb1 hv1 hc1
  go_wp2_with fail
  refine (below_any b v n 11 (by omega) _ L1.out.1 L1.out.2.1).mono ?_
  rintro e w2 ⟨x, hx, rfl, hl2⟩
  have hx7 : x ≤ 11 := by omega
  have L2 := Lib.hid (L1.out.trans hl2)
  clear hl2 hx L1
  have e1 : IntKind.i64.wrap ((x : Int) - 1) = x - 1 := IntWalk.i64_in _ (by omega)
  have HF := Lib.hid (leaves_below L2.out hb B1.out)
  go_wp2
  go_ret
  exact ⟨(x : Int) - 1, rfl, by omega, HF.out⟩
set_option maxHeartbeats 3200000 in
set_option maxRecDepth 100000 in
theorem drawDoCross_any (v : Value) (n : Nat) (hn : n ≤ 9223372036854700000) (w : World) (hv : Bytes w v n w.heap.size) :
    Calls Tryz.prog 33 #[v] w fun e w' => ∃ (m : Nat) (T : ByteArray) (z0 z1 z2 z3 : Int), e = .returned (.tuple #[sg m T, .int .i64 z0, .int .i64 z1, .int .i64 z2, .int .i64 z3]) ∧ (m ≤ 6 ∨ m = 8) ∧ T.size ≤ 21 ∧ (Elem z0 ∧ Elem z1 ∧ Elem z2 ∧ Elem z3) ∧ Below w.heap.size w w' := by
  have R0 := Lib.hid (outC_made w 0 ⟨#[]⟩ 25)
  have HA := Lib.hid ((Below.refl w.heap.size w).alloc (Nat.le_refl _) (.cells #[.int .i64 0, .string ⟨#[]⟩] 25))
  have HV := Lib.hid (bytes_up hv HA.out)
  clear hv
  go_enter Tryz.func33, Tryz.ntmps33
  go_wp2_with fail
  refine (l5Four_any v n hn _ HV.out).mono ?_
  rintro e w1 ⟨m, T, g, c, z0, z1, z2, z3, rfl, hm, hT, hF, HE, hg, hgl, hb1⟩
  have R1 := Lib.hid (R0.out.on hb1)
  have B1 := Lib.hid (HA.out.trans (hb1.mono HA.out.size))
  have hw1 : w.heap.size < w1.heap.size := Kit.cell_lt R1.out.1.1
  have hwg : w.heap.size < g := by simp at hg; omega
  have B2 := Lib.hid (B1.out.alloc B1.out.size (.cells #[.int .i64 m, .string T] 25))
  have hba := (Below.refl w1.heap.size w1).alloc (Nat.le_refl _) (.cells #[.int .i64 m, .string T] 25)
  have R2 := Lib.hid (R1.out.on hba)
  have F2 := Lib.hid (hF.on hba)
  have Y2 := Lib.hid (outC_made w1 m T 25)
  clear hb1 hF hba
  go_wp2
  have RXd : Hid (OutC w.heap.size 0 ⟨#[]⟩ (w1.alloc (.cells #[.int .i64 m, .string T] 25)).drew) := R2
  have YXd : Hid (OutC w1.heap.size m T (w1.alloc (.cells #[.int .i64 m, .string T] 25)).drew) := Y2
  have FXd : Hid (Four (w1.alloc (.cells #[.int .i64 m, .string T] 25)).drew g z0 z1 z2 z3) := F2
  have BXd := Lib.hid B2.out.drew
  have hS0 := (⟨YXd.out.1.1, YXd.out.1.2, FXd.out⟩ : _ ∧ _ ∧ _)
  refine LastB.wp_region_last' (S := fun W => W.cell? ⟨w1.heap.size, 0, none⟩ = some (.int .i64 m) ∧ W.cell? ⟨w1.heap.size, 1, none⟩ = some (.string T) ∧ W.cell? ⟨g, 0, none⟩ = some (.int .i64 z0) ∧ W.cell? ⟨g, 1, none⟩ = some (.int .i64 z1) ∧ W.cell? ⟨g, 2, none⟩ = some (.int .i64 z2) ∧ W.cell? ⟨g, 3, none⟩ = some (.int .i64 z3)) 17 _ rfl rfl (by kernel_rfl) (by kernel_rfl) hS0 (fun hHeld => ?_)
  clear hS0 R2 Y2 F2 B2
  generalize (w1.alloc (.cells #[.int .i64 m, .string T] 25)).drew = wd at *
  obtain ⟨⟨e0, e1⟩, z0', z1'⟩ := RXd.out
  obtain ⟨k0, k1⟩ := ret_sg e0 e1 (.int .i64 m) (.string T)
  have FF := Lib.hid ((FXd.out.far (so := w.heap.size) (by omega) 0 (.int .i64 m)).far (so := w.heap.size) (by omega) 1 (.string T))
  have HYF := Lib.hid (outC_off (outC_off YXd.out (so := w.heap.size) (by omega) 0 (.int .i64 m)) (so := w.heap.size) (by omega) 1 (.string T))
  have HF := Lib.hid ((BXd.out.setCell (p := ⟨w.heap.size, 0, none⟩) (by simp) (.int .i64 m)).setCell (p := ⟨w.heap.size, 1, none⟩) (by simp) (.string T))
  simp only [List.take_succ_cons, List.take_zero]
  (refine wpAnyH_take (i := 0) (v := ?_) rfl (by kernel_rfl) (by kernel_rfl) (by kernel_rfl) (fun _ _ _ h => h) (Or.inl ⟨by rfl, ?_⟩) (by assumption) ?_; rotate_left; (focus (intro w hSw; (try dsimp only at hSw); go_simp; (try with_reducible rfl))); (simp only [Act.put, List.setIfInBounds_toArray]))
  (refine wpAnyH_take (i := 1) (v := ?_) rfl (by kernel_rfl) (by kernel_rfl) (by kernel_rfl) (fun _ _ _ h => h) (Or.inl ⟨by rfl, ?_⟩) (by assumption) ?_; rotate_left; (focus (intro w hSw; (try dsimp only at hSw); go_simp; (try with_reducible rfl))); (simp only [Act.put]))
  (refine wpAnyH_take (i := 2) (v := ?_) rfl (by kernel_rfl) (by kernel_rfl) (by kernel_rfl) (fun _ _ _ h => h) (Or.inl ⟨by rfl, ?_⟩) (by assumption) ?_; rotate_left; (focus (intro w hSw; (try dsimp only at hSw); go_simp; (try with_reducible rfl))); (simp only [Act.put]))
  (refine wpAnyH_take (i := 3) (v := ?_) rfl (by kernel_rfl) (by kernel_rfl) (by kernel_rfl) (fun _ _ _ h => h) (Or.inl ⟨by rfl, ?_⟩) (by assumption) ?_; rotate_left; (focus (intro w hSw; (try dsimp only at hSw); go_simp; (try with_reducible rfl))); (simp only [Act.put]))
  (refine wpAnyH_take (i := 4) (v := ?_) rfl (by kernel_rfl) (by kernel_rfl) (by kernel_rfl) (fun _ _ _ h => h) (Or.inl ⟨by rfl, ?_⟩) (by assumption) ?_; rotate_left; (focus (intro w hSw; (try dsimp only at hSw); go_simp; (try with_reducible rfl))); (simp only [Act.put]))
  (refine wpAnyH_take (i := 5) (v := ?_) rfl (by kernel_rfl) (by kernel_rfl) (by kernel_rfl) (fun _ _ _ h => h) (Or.inl ⟨by rfl, ?_⟩) (by assumption) ?_; rotate_left; (focus (intro w hSw; (try dsimp only at hSw); go_simp; (try with_reducible rfl))); (simp only [Act.put]))
  (refine wpAnyH_take (i := 6) (v := ?_) rfl (by kernel_rfl) (by kernel_rfl) (by kernel_rfl) (fun _ _ _ h => h) (Or.inl ⟨by rfl, ?_⟩) (by assumption) ?_; rotate_left; (focus (intro w hSw; (try dsimp only at hSw); go_simp; (try with_reducible rfl))); (simp only [Act.put]))
  (refine wpAnyH_take (i := 7) (v := ?_) rfl (by kernel_rfl) (by kernel_rfl) (by kernel_rfl) (fun _ _ _ h => h) (Or.inl ⟨by rfl, ?_⟩) (by assumption) ?_; rotate_left; (focus (intro w hSw; (try dsimp only at hSw); go_simp; (try with_reducible rfl))); (simp only [Act.put]))
  (refine wpAnyH_take (i := 8) (v := ?_) rfl (by kernel_rfl) (by kernel_rfl) (by kernel_rfl) (fun _ _ _ h => h) (Or.inl ⟨by rfl, ?_⟩) (by assumption) ?_; rotate_left; (focus (intro w hSw; (try dsimp only at hSw); go_simp; (try with_reducible rfl))); (simp only [Act.put]))
  (refine wpAnyH_take (i := 9) (v := ?_) rfl (by kernel_rfl) (by kernel_rfl) (by kernel_rfl) (fun _ _ _ h => h) (Or.inl ⟨by rfl, ?_⟩) (by assumption) ?_; rotate_left; (focus (intro w hSw; (try dsimp only at hSw); go_simp; (try with_reducible rfl))); (simp only [Act.put]))
  (refine wpAnyH_take (i := 10) (v := ?_) rfl (by kernel_rfl) (by kernel_rfl) (by kernel_rfl) (fun _ _ _ h => h) (Or.inl ⟨by rfl, ?_⟩) (by assumption) ?_; rotate_left; (focus (intro w hSw; (try dsimp only at hSw); go_simp; (try with_reducible rfl))); (simp only [Act.put]))
  (refine wpAnyH_take (i := 11) (v := ?_) rfl (by kernel_rfl) (by kernel_rfl) (by kernel_rfl) (fun _ _ _ h => h) (Or.inl ⟨by rfl, ?_⟩) (by assumption) ?_; rotate_left; (focus (intro w hSw; (try dsimp only at hSw); go_simp; (try with_reducible rfl))); (simp only [Act.put]))
  (refine wpAnyH_take (i := 12) (v := ?_) rfl (by kernel_rfl) (by kernel_rfl) (by kernel_rfl) (fun _ _ _ h => h) (Or.inl ⟨by rfl, ?_⟩) (by assumption) ?_; rotate_left; (focus (intro w hSw; (try dsimp only at hSw); go_simp; (try with_reducible rfl))); (simp only [Act.put]))
  refine wpAnyH_ready (rs := [13]) (by kernel_rfl) (by simp) ?_
  refine AllReadyH.cons rfl (fun K hK => ?_) AllReadyH.nil
  go_simp
  refine hK.out _ _ ⟨HYF.out.1.1, HYF.out.1.2, FF.out⟩ (fun hHeld => ?_)
  clear hK K
  try simp only [Act.put, List.setIfInBounds_toArray, List.set_cons_zero, List.set_cons_succ]
  (refine wpAnyH_take (i := 14) (v := ?_) rfl (by kernel_rfl) (by kernel_rfl) (by kernel_rfl) (fun _ _ _ h => h) (Or.inl ⟨by rfl, ?_⟩) (by assumption) ?_; rotate_left; (focus (intro w hSw; (try dsimp only at hSw); go_simp; (try with_reducible rfl))); (simp only [Act.put, List.setIfInBounds_toArray]))
  (refine wpAnyH_take (i := 15) (v := ?_) rfl (by kernel_rfl) (by kernel_rfl) (by kernel_rfl) (fun _ _ _ h => h) (Or.inl ⟨by rfl, ?_⟩) (by assumption) ?_; rotate_left; (focus (intro w hSw; (try dsimp only at hSw); go_simp; (try with_reducible rfl))); (simp only [Act.put]))
  (refine wpAnyH_take (i := 16) (v := ?_) rfl (by kernel_rfl) (by kernel_rfl) (by kernel_rfl) (fun _ _ _ h => h) (Or.inl ⟨by rfl, ?_⟩) (by assumption) ?_; rotate_left; (focus (intro w hSw; (try dsimp only at hSw); go_simp; (try with_reducible rfl))); (simp only [Act.put]))
  refine wpAnyH_done (by kernel_rfl) ?_ _
  change wpList _ _ _ [_] _ _
  go_wp2
  exact bodyPost_ret (v := .tuple #[.agg #[.int .i64 m, .string T], .int .i64 z0, .int .i64 z1, .int .i64 z2, .int .i64 z3]) (by simp [results, Tryz.results33, go_sem, k0, k1]) rfl ⟨m, T, _, _, _, _, rfl, hm, hT, HE, HF.out⟩
end Go.Proofs.YtinlnafkmoabbaaGreatDoor.Cur
/- The draws of stage 9: l9Case, DrawCrossingPairs. -/
namespace Go.Proofs.YtinlnafkmoabbaaGreatDoor.Cur
open Go.RowKit Pt Sg NewI
theorem bits_andNot2 (a b : Nat) (ha : a < 2097152) (hb : b < 2097152) : bits BinOp.andNot IntKind.i64 (a : Int) (b : Int) = ((a ^^^ (a &&& b) : Nat) : Int) ∧ a ^^^ (a &&& b) < 2097152 := by
  have hl : a ^^^ (a &&& b) < 2097152 := Nat.xor_lt_two_pow (n := 21) ha (Nat.and_lt_two_pow (n := 21) a hb)
  refine ⟨?_, hl⟩
  show IntKind.i64.wrap ((BitVec.ofInt 64 a &&& ~~~ BitVec.ofInt 64 b).toNat : Int) = _
  have hx : (BitVec.ofInt 64 (a : Int) &&& ~~~ BitVec.ofInt 64 (b : Int)) = BitVec.ofInt 64 (a : Int) ^^^ (BitVec.ofInt 64 (a : Int) &&& BitVec.ofInt 64 (b : Int)) := by
    ext i hi
    simp only [BitVec.getElem_and, BitVec.getElem_not, BitVec.getElem_xor]
    cases (BitVec.ofInt 64 (a : Int))[i] <;> cases (BitVec.ofInt 64 (b : Int))[i] <;> rfl
  rw [hx, BitVec.toNat_xor, BitVec.toNat_and, BitVec.ofInt_natCast, BitVec.ofInt_natCast, BitVec.toNat_ofNat, BitVec.toNat_ofNat, Nat.mod_eq_of_lt (by omega), Nat.mod_eq_of_lt (by omega), IntKind.wrap_i64]
  omega
theorem allZ_nat (n : Int) : ∃ K : Nat, allZ n = K ∧ K < 2097152 := by
  unfold allZ
  split
  · rename_i h
    obtain ⟨h3, h7⟩ := inB_mem h
    have h0 := Nat.pow_le_pow_right (n := 2) (by omega) (eN_bd n.toNat (by omega))
    exact ⟨_, rfl, by omega⟩
  · exact ⟨0, rfl, by omega⟩
set_option maxHeartbeats 6400000 in
set_option maxRecDepth 100000 in
theorem l9Case_any (v : Value) (n : Nat) (hn : n ≤ 9223372036854700000) (w : World) (hv : Bytes w v n w.heap.size) :
    Calls Tryz.prog 96 #[v] w fun e w' => ∃ (m : Nat) (T : ByteArray) (k : Int), e = .returned (.tuple #[sg m T, .int .i64 k]) ∧ (m ≤ 6 ∨ m = 8) ∧ T.size ≤ 21 ∧ (-1 ≤ k ∧ k ≤ 9999999) ∧ Below w.heap.size w w' := by
  have R0 := Lib.hid (outC_made w 0 ⟨#[]⟩ 25)
  have HA := Lib.hid ((Below.refl w.heap.size w).alloc (Nat.le_refl _) (.cells #[.int .i64 0, .string ⟨#[]⟩] 25))
  have HV := Lib.hid (bytes_up hv HA.out)
  clear hv
  go_enter Tryz.func96, Tryz.ntmps96
  go_wp2_with fail
  refine (new_any v n hn _ HV.out).mono ?_
  rintro e w1 ⟨b, rfl, hb, hv1, hc1, hb1⟩
  have hwb : w.heap.size < b := by simp at hb; omega
  have R1 := Lib.hid (R0.out.on hb1)
  have B1 := Lib.hid (HA.out.trans (hb1.mono HA.out.size))
  have V1 := Lib.hid (⟨hv1, hc1⟩ : _ ∧ _)
  have hbw := hc1.lt
  clear hb1 hv1 hc1 hb
  have HON := Lib.hid (fun (m : Nat) (hm : m ≤ 2147483648) W (hl : Leaves b v n w1 W) => (once_any b v n m hm W hl.1 hl.2.1))
  go_wp2_with fail
  refine (l5Draw_any b v n _ V1.out.1 V1.out.2).mono ?_
  rintro e w2 ⟨m, T, rfl, hm, hT, hl2⟩
  have R2 := Lib.hid (outC_leaves R1.out hl2 (by omega))
  have hw2 : w.heap.size < w2.heap.size := Kit.cell_lt R2.out.1.1
  have hb2 : b < w2.heap.size := hl2.lt
  have ST : Hid (OutC w.heap.size 0 ⟨#[]⟩ (w2.alloc (.cells #[.int .i64 m, .string T] 25)) ∧ OutC w2.heap.size m T (w2.alloc (.cells #[.int .i64 m, .string T] 25)) ∧ Leaves b v n w1 (w2.alloc (.cells #[.int .i64 m, .string T] 25))) := Lib.hid ⟨R2.out.on ((Below.refl w2.heap.size w2).alloc (Nat.le_refl _) _), outC_made w2 m T 25, hl2.alloc hbw _⟩
  have HT : Hid (∀ W W', (OutC w.heap.size 0 ⟨#[]⟩ W ∧ OutC w2.heap.size m T W ∧ Leaves b v n w1 W) → Leaves b v n W W' → (OutC w.heap.size 0 ⟨#[]⟩ W' ∧ OutC w2.heap.size m T W' ∧ Leaves b v n w1 W')) := Lib.hid (fun W W' h hl => ⟨outC_leaves h.1 hl (by omega), outC_leaves h.2.1 hl (by omega), h.2.2.trans hl⟩)
  have HB : Hid (∀ W W', (OutC w.heap.size 0 ⟨#[]⟩ W ∧ OutC w2.heap.size m T W ∧ Leaves b v n w1 W) → Below W.heap.size W W' → (OutC w.heap.size 0 ⟨#[]⟩ W' ∧ OutC w2.heap.size m T W' ∧ Leaves b v n w1 W')) := Lib.hid (fun W W' h hl => ⟨h.1.on hl, h.2.1.on hl, h.2.2.ext (hl.mono h.2.2.2.2.size) hbw⟩)
  clear hl2 R0 R1 R2 V1 HV HA
  obtain ⟨K, hK, hKb⟩ := allZ_nat m
  have HAL := Lib.hid (fun W => specAllEdges (m : Int) W)
  rw [hK] at HAL
  clear hK
  obtain ⟨-, ⟨⟨o0, o1⟩, -⟩, -⟩ := ST.out
  go_wp2_with fail
  refine (HAL.out _).mono ?_
  rintro e w' ⟨rfl, rfl⟩
  cases h0 : (((K : Nat) : Int) == 0)
  · have hw3 : ∀ u, u = w2.alloc (.cells #[.int .i64 m, .string T] 25) → u = w2.alloc (.cells #[.int .i64 m, .string T] 25) := fun _ h => h
    clear hw3
    go_wp2_with fail
    refine (HON.out 14 (by omega) _ ST.out.2.2).mono ?_
    rintro e w4 ⟨q, rfl, hl⟩
    have ST4 := Lib.hid (HT.out _ _ ST.out hl)
    clear hl ST o0 o1
    have ST := ST4
    clear ST4
    obtain ⟨-, ⟨⟨o0, o1⟩, -⟩, -⟩ := ST.out
    cases q
    · go_wp2
      go_loopw [6, 7] (fun sv kv wr => ∃ S k : Nat, sv = .int .i64 S ∧ kv = .int .i64 k ∧ S < 2097152 ∧ k ≤ 21 ∧ Hid (OutC w.heap.size 0 ⟨#[]⟩ wr ∧ OutC w2.heap.size m T wr ∧ Leaves b v n w1 wr)) (fun _ kv _ => 21 - (intOf kv).toNat)
      case atStart => exact ⟨K, 0, rfl, rfl, hKb, Nat.zero_le _, ST⟩
      case round =>
        clear ST o0 o1
        obtain ⟨S, k, rfl, rfl, hS, hk, ST⟩ := hrel
        by_cases hlt : k < 21
        · go_wp2_with fail
          refine (HON.out 3 (by omega) _ ST.out.2.2).mono ?_
          rintro e w5 ⟨q, rfl, hl⟩
          have ST5 := Lib.hid (HT.out _ _ ST.out hl)
          clear hl ST
          cases q
          · go_wp2
            exact ⟨⟨S, k + 1, by trivial, by go_num, hS, by omega, ST5⟩, by simp only [intOf]; omega⟩
          · have hpw := pow_bdE (k := k) (by omega)
            have e2 : ((2 : Int) ^ k) = ((2 ^ k : Nat) : Int) := by push_cast; rfl
            obtain ⟨A, hA⟩ : ∃ x : Nat, x = 2 ^ k := ⟨_, rfl⟩
            rw [← hA] at hpw
            have wa : IntKind.i64.wrap ((2 : Int) ^ k) = (A : Int) := by rw [e2, ← hA]; exact IntWalk.i64_in _ (by omega)
            obtain ⟨wb, hb⟩ := bits_andNot2 S A hS (by omega)
            generalize S ^^^ (S &&& A) = S2 at wb hb
            clear e2 hA
            go_wp2
            exact ⟨⟨S2, k + 1, by trivial, by go_num, hb, by omega, ST5⟩, by simp only [intOf]; omega⟩
        · obtain ⟨⟨⟨e0, e1⟩, z0, z1⟩, ⟨⟨o0, o1⟩, f0, f1⟩, hlv⟩ := ST.out
          have BF := Lib.hid (leaves_below hlv (by omega) B1.out)
          clear hlv
          obtain ⟨k0, k1⟩ := ret_sg e0 e1 (.int .i64 m) (.string T)
          go_wp2
          exact bodyPost_ret (v := .tuple #[.agg #[.int .i64 m, .string T], .int .i64 S]) (by simp [results, Tryz.results96, go_sem, k0, k1]) rfl ⟨m, T, _, rfl, hm, hT, by omega, (BF.out.setCell (by simp) _).setCell (by simp) _⟩
    · skip
      go_wp2
      have STd : Hid (OutC w.heap.size 0 ⟨#[]⟩ w4.drew ∧ OutC w2.heap.size m T w4.drew ∧ Leaves b v n w1 w4.drew) := Lib.hid ⟨ST.out.1, ST.out.2.1, ST.out.2.2.drew⟩
      have hS0 := STd.out.2.1.1
      refine LastB.wp_region_last' (S := fun W => W.cell? ⟨w2.heap.size, 0, none⟩ = some (.int .i64 m) ∧ W.cell? ⟨w2.heap.size, 1, none⟩ = some (.string T)) 5 _ rfl rfl (by kernel_rfl) (by kernel_rfl) hS0 (fun hHeld => ?_)
      clear hS0 ST o0 o1
      generalize w4.drew = wd at *
      have HLT := Lib.hid (lit_cells wd [-1, 9999999, 0] 3)
      have hb4 : b < wd.heap.size := STd.out.2.2.lt
      have ST5 := Lib.hid (HB.out _ _ STd.out ((Below.refl wd.heap.size wd).alloc (Nat.le_refl _) (.cells #[.int .i64 (-1), .int .i64 9999999, .int .i64 0] 3)))
      simp only [List.take_succ_cons, List.take_zero]
      (refine wpAnyH_take (i := 0) (v := ?_) rfl (by kernel_rfl) (by kernel_rfl) (by kernel_rfl) (fun _ _ _ h => h) (Or.inl ⟨by rfl, ?_⟩) (by assumption) ?_; rotate_left; (focus (intro w hSw; (try dsimp only at hSw); go_simp; (try with_reducible rfl))); (simp only [Act.put, List.setIfInBounds_toArray]))
      (refine wpAnyH_take (i := 1) (v := ?_) rfl (by kernel_rfl) (by kernel_rfl) (by kernel_rfl) (fun _ _ _ h => h) (Or.inl ⟨by rfl, ?_⟩) (by assumption) ?_; rotate_left; (focus (intro w hSw; (try dsimp only at hSw); go_simp; (try with_reducible rfl))); (simp only [Act.put]))
      refine wpAnyH_ready (rs := [2]) (by kernel_rfl) (by simp) ?_
      refine AllReadyH.cons rfl (fun K hK => ?_) AllReadyH.nil
      go_simp
      refine hK.out _ _ ST5.out.2.1.1 (fun hHeld => ?_)
      clear hK K
      try simp only [Act.put, List.setIfInBounds_toArray, List.set_cons_zero, List.set_cons_succ]
      refine wpAnyH_ready (rs := [3]) (by kernel_rfl) (by simp) ?_
      refine AllReadyH.cons rfl (fun K hK => ?_) AllReadyH.nil
      go_simp
      refine (pickInt_any b wd.heap.size 3 v n [-1, 9999999, 0] (by decide) (by decide) _ ST5.out.2.2.1 ST5.out.2.2.2.1 HLT.out (by omega)).mono ?_
      rintro e w6 ⟨x, hx, rfl, hl⟩
      have ST6 := Lib.hid (HT.out _ _ ST5.out hl)
      clear hl ST5 HLT
      refine hK.out _ _ ST6.out.2.1.1 (fun hHeld => ?_)
      clear hK K
      try simp only [Act.put, List.setIfInBounds_toArray, List.set_cons_zero, List.set_cons_succ]
      have hxb : -1 ≤ x ∧ x ≤ 9999999 := by
        simp only [List.mem_cons, List.mem_nil_iff, or_false] at hx
        omega
      clear hx
      obtain ⟨⟨⟨e0, e1⟩, z0, z1⟩, hsb, hlv⟩ := ST6.out
      have BF := Lib.hid (leaves_below hlv (by omega) B1.out)
      clear hlv
      obtain ⟨k0, k1⟩ := ret_sg e0 e1 (.int .i64 m) (.string T)
      have HYF := Lib.hid (outC_off (outC_off hsb (so := w.heap.size) (by omega) 0 (.int .i64 m)) (so := w.heap.size) (by omega) 1 (.string T))
      clear hsb
      have HF := Lib.hid ((BF.out.setCell (p := ⟨w.heap.size, 0, none⟩) (by simp) (.int .i64 m)).setCell (p := ⟨w.heap.size, 1, none⟩) (by simp) (.string T))
      refine wpAnyH_ready (rs := [4]) (by kernel_rfl) (by simp) ?_
      refine AllReadyH.cons rfl (fun K hK => ?_) AllReadyH.nil
      go_simp
      refine hK.out _ _ HYF.out.1 (fun hHeld => ?_)
      clear hK K
      try simp only [Act.put, List.setIfInBounds_toArray, List.set_cons_zero, List.set_cons_succ]
      refine wpAnyH_done (by kernel_rfl) ?_ _
      change wpList _ _ _ [_] _ _
      go_wp2
      exact bodyPost_ret (v := .tuple #[.agg #[.int .i64 m, .string T], .int .i64 x]) (by simp [results, Tryz.results96, go_sem, k0, k1]) rfl ⟨m, T, _, rfl, hm, hT, hxb, HF.out⟩
  · generalize hw3 : w2.alloc (.cells #[.int .i64 m, .string T] 25) = w3 at ST o0 o1 ⊢
    clear hw3
    go_wp2
    have STd : Hid (OutC w.heap.size 0 ⟨#[]⟩ w3.drew ∧ OutC w2.heap.size m T w3.drew ∧ Leaves b v n w1 w3.drew) := Lib.hid ⟨ST.out.1, ST.out.2.1, ST.out.2.2.drew⟩
    have hS0 := STd.out.2.1.1
    refine LastB.wp_region_last' (S := fun W => W.cell? ⟨w2.heap.size, 0, none⟩ = some (.int .i64 m) ∧ W.cell? ⟨w2.heap.size, 1, none⟩ = some (.string T)) 5 _ rfl rfl (by kernel_rfl) (by kernel_rfl) hS0 (fun hHeld => ?_)
    clear hS0 ST o0 o1
    generalize w3.drew = wd at *
    have HLT := Lib.hid (lit_cells wd [-1, 9999999, 0] 3)
    have hb4 : b < wd.heap.size := STd.out.2.2.lt
    have ST5 := Lib.hid (HB.out _ _ STd.out ((Below.refl wd.heap.size wd).alloc (Nat.le_refl _) (.cells #[.int .i64 (-1), .int .i64 9999999, .int .i64 0] 3)))
    simp only [List.take_succ_cons, List.take_zero]
    (refine wpAnyH_take (i := 0) (v := ?_) rfl (by kernel_rfl) (by kernel_rfl) (by kernel_rfl) (fun _ _ _ h => h) (Or.inl ⟨by rfl, ?_⟩) (by assumption) ?_; rotate_left; (focus (intro w hSw; (try dsimp only at hSw); go_simp; (try with_reducible rfl))); (simp only [Act.put, List.setIfInBounds_toArray]))
    (refine wpAnyH_take (i := 1) (v := ?_) rfl (by kernel_rfl) (by kernel_rfl) (by kernel_rfl) (fun _ _ _ h => h) (Or.inl ⟨by rfl, ?_⟩) (by assumption) ?_; rotate_left; (focus (intro w hSw; (try dsimp only at hSw); go_simp; (try with_reducible rfl))); (simp only [Act.put]))
    refine wpAnyH_ready (rs := [2]) (by kernel_rfl) (by simp) ?_
    refine AllReadyH.cons rfl (fun K hK => ?_) AllReadyH.nil
    go_simp
    refine hK.out _ _ ST5.out.2.1.1 (fun hHeld => ?_)
    clear hK K
    try simp only [Act.put, List.setIfInBounds_toArray, List.set_cons_zero, List.set_cons_succ]
    refine wpAnyH_ready (rs := [3]) (by kernel_rfl) (by simp) ?_
    refine AllReadyH.cons rfl (fun K hK => ?_) AllReadyH.nil
    go_simp
    refine (pickInt_any b wd.heap.size 3 v n [-1, 9999999, 0] (by decide) (by decide) _ ST5.out.2.2.1 ST5.out.2.2.2.1 HLT.out (by omega)).mono ?_
    rintro e w6 ⟨x, hx, rfl, hl⟩
    have ST6 := Lib.hid (HT.out _ _ ST5.out hl)
    clear hl ST5 HLT
    refine hK.out _ _ ST6.out.2.1.1 (fun hHeld => ?_)
    clear hK K
    try simp only [Act.put, List.setIfInBounds_toArray, List.set_cons_zero, List.set_cons_succ]
    have hxb : -1 ≤ x ∧ x ≤ 9999999 := by
      simp only [List.mem_cons, List.mem_nil_iff, or_false] at hx
      omega
    clear hx
    obtain ⟨⟨⟨e0, e1⟩, z0, z1⟩, hsb, hlv⟩ := ST6.out
    have BF := Lib.hid (leaves_below hlv (by omega) B1.out)
    clear hlv
    obtain ⟨k0, k1⟩ := ret_sg e0 e1 (.int .i64 m) (.string T)
    have HYF := Lib.hid (outC_off (outC_off hsb (so := w.heap.size) (by omega) 0 (.int .i64 m)) (so := w.heap.size) (by omega) 1 (.string T))
    clear hsb
    have HF := Lib.hid ((BF.out.setCell (p := ⟨w.heap.size, 0, none⟩) (by simp) (.int .i64 m)).setCell (p := ⟨w.heap.size, 1, none⟩) (by simp) (.string T))
    refine wpAnyH_ready (rs := [4]) (by kernel_rfl) (by simp) ?_
    refine AllReadyH.cons rfl (fun K hK => ?_) AllReadyH.nil
    go_simp
    refine hK.out _ _ HYF.out.1 (fun hHeld => ?_)
    clear hK K
    try simp only [Act.put, List.setIfInBounds_toArray, List.set_cons_zero, List.set_cons_succ]
    refine wpAnyH_done (by kernel_rfl) ?_ _
    change wpList _ _ _ [_] _ _
    go_wp2
    exact bodyPost_ret (v := .tuple #[.agg #[.int .i64 m, .string T], .int .i64 x]) (by simp [results, Tryz.results96, go_sem, k0, k1]) rfl ⟨m, T, _, rfl, hm, hT, hxb, HF.out⟩
set_option maxHeartbeats 1600000 in
set_option maxRecDepth 100000 in
theorem drawCrossing_any (v : Value) (n : Nat) (hn : n ≤ 9223372036854700000) (w : World) (hv : Bytes w v n w.heap.size) :
    Calls Tryz.prog 34 #[v] w fun e w' => ∃ (m : Nat) (T : ByteArray) (k : Int), e = .returned (.tuple #[sg m T, .int .i64 k]) ∧ (m ≤ 6 ∨ m = 8) ∧ T.size ≤ 21 ∧ (-1 ≤ k ∧ k ≤ 9999999) ∧ Below w.heap.size w w' := by
  have R0 := Lib.hid (outC_made w 0 ⟨#[]⟩ 25)
  have HA := Lib.hid ((Below.refl w.heap.size w).alloc (Nat.le_refl _) (.cells #[.int .i64 0, .string ⟨#[]⟩] 25))
  have HV := Lib.hid (bytes_up hv HA.out)
  clear hv
  go_enter Tryz.func34, Tryz.ntmps34
  go_wp2_with fail
  refine (l9Case_any v n hn _ HV.out).mono ?_
  rintro e w1 ⟨m, T, k, rfl, hm, hT, hk, hb1⟩
  have R1 := Lib.hid (R0.out.on hb1)
  have B1 := Lib.hid (HA.out.trans (hb1.mono HA.out.size))
  have hal := (Below.refl w1.heap.size w1).alloc (Nat.le_refl _) (.cells #[.int .i64 m, .string T] 25)
  have R2 := Lib.hid (R1.out.on hal)
  have B2 := Lib.hid (B1.out.trans (hal.mono B1.out.size))
  have Y2 := Lib.hid (outC_made w1 m T 25)
  clear hb1 hal
  obtain ⟨⟨e0, e1⟩, z0, z1⟩ := R2.out
  obtain ⟨⟨y0, y1⟩, -⟩ := Y2.out
  obtain ⟨k0, k1⟩ := ret_sg e0 e1 (.int .i64 m) (.string T)
  have HF := Lib.hid ((B2.out.setCell (p := ⟨w.heap.size, 0, none⟩) (by simp) (.int .i64 m)).setCell (p := ⟨w.heap.size, 1, none⟩) (by simp) (.string T))
  go_wp2
  exact bodyPost_ret (v := .tuple #[.agg #[.int .i64 m, .string T], .int .i64 k]) (by simp [results, Tryz.results34, go_sem, k0, k1]) rfl ⟨m, T, k, rfl, hm, hT, hk, HF.out⟩
end Go.Proofs.YtinlnafkmoabbaaGreatDoor.Cur
