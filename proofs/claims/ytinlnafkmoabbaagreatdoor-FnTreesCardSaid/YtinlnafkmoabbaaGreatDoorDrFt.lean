/- The draws of stage 11: DrawPlaneTrees, DrawIsTree, DrawDegreesOf. -/
import Derived.Test.YtinlnafkmoabbaaGreatDoorDrKrCase
import Derived.Test.YtinlnafkmoabbaaGreatDoorMgTc
namespace Go.Proofs.YtinlnafkmoabbaaGreatDoor.Cur
open Go.RowKit Pt Sg NewI
set_option maxHeartbeats 1600000 in
set_option maxRecDepth 100000 in
theorem drawDeg_any (v : Value) (n : Nat) (hn : n ≤ 9223372036854700000) (w : World) (hv : Bytes w v n w.heap.size) :
    Calls Tryz.prog 13 #[v] w fun e w' => ∃ x y : Int, e = .returned (.tuple #[.int .i64 x, .int .i64 y]) ∧ (2 ≤ x ∧ x ≤ 8) ∧ (-1 ≤ y ∧ y ≤ 1050) ∧ Below w.heap.size w w' := by
  go_enter Tryz.func13, Tryz.ntmps13
  go_wp2_with fail
  refine (new_any v n hn _ hv).mono ?_
  rintro e w1 ⟨b, rfl, hb, hv1, hc1, hb1⟩
  have B1 := Lib.hid hb1
  have HBW := Lib.hid (fun (m : Nat) (hm : m ≤ 2147483648) W (hl : Leaves b v n w1 W) => (below_any b v n m hm W hl.1 hl.2.1))
  have HON := Lib.hid (fun (m : Nat) (hm : m ≤ 2147483648) W (hl : Leaves b v n w1 W) => (once_any b v n m hm W hl.1 hl.2.1))
  have L1 := Lib.hid (Leaves.refl hv1 hc1)
  clear hb1 hv1 hc1
  go_wp2_with fail
  refine (HBW.out 6 (by omega) _ L1.out).mono ?_
  rintro e w2 ⟨x, hx, rfl, hl2⟩
  have hx6 : x ≤ 6 := by omega
  have L2 := Lib.hid (L1.out.trans hl2)
  clear hl2 hx L1
  go_wp2_with fail
  refine (HBW.out 1050 (by omega) _ L2.out).mono ?_
  rintro e w3 ⟨y, hy, rfl, hl3⟩
  have hy7 : y ≤ 1050 := by omega
  have L3 := Lib.hid (L2.out.trans hl3)
  clear hl3 hy L2
  go_wp2_with fail
  refine (HON.out 14 (by omega) _ L3.out).mono ?_
  rintro e w4 ⟨q, rfl, hl4⟩
  have L4 := Lib.hid (L3.out.trans hl4)
  clear hl4 L3
  go_wp2_with fail
  refine (bit_any q _).mono ?_
  rintro e w' ⟨rfl, rfl⟩
  have hq : bitI q = 0 ∨ bitI q = 1 := by cases q <;> simp [bitI]
  generalize bitI q = c at hq ⊢
  have e1 : IntKind.i64.wrap (2 + (x : Int)) = 2 + x := IntWalk.i64_in _ (by omega)
  have e2 : IntKind.i64.wrap ((y : Int) - c) = y - c := IntWalk.i64_in _ (by omega)
  have HF := Lib.hid (leaves_below L4.out hb B1.out)
  go_wp2
  exact bodyPost_ret (v := .tuple #[.int .i64 (2 + x), .int .i64 (y - c)]) (by simp [results, Tryz.results13, go_sem]) rfl ⟨_, _, rfl, by omega, by omega, HF.out⟩
set_option maxHeartbeats 1600000 in
set_option maxRecDepth 100000 in
theorem drawTree_any (v : Value) (n : Nat) (hn : n ≤ 9223372036854700000) (w : World) (hv : Bytes w v n w.heap.size) :
    Calls Tryz.prog 12 #[v] w fun e w' => ∃ x y : Int, e = .returned (.tuple #[.int .i64 x, .int .i64 y]) ∧ (2 ≤ x ∧ x ≤ 8) ∧ (-1 ≤ y ∧ y ≤ 1050) ∧ Below w.heap.size w w' := by
  go_enter Tryz.func12, Tryz.ntmps12
  go_wp2_with fail
  refine (new_any v n hn _ hv).mono ?_
  rintro e w1 ⟨b, rfl, hb, hv1, hc1, hb1⟩
  have B1 := Lib.hid hb1
  have HBW := Lib.hid (fun (m : Nat) (hm : m ≤ 2147483648) W (hl : Leaves b v n w1 W) => (below_any b v n m hm W hl.1 hl.2.1))
  have HON := Lib.hid (fun (m : Nat) (hm : m ≤ 2147483648) W (hl : Leaves b v n w1 W) => (once_any b v n m hm W hl.1 hl.2.1))
  have L1 := Lib.hid (Leaves.refl hv1 hc1)
  clear hb1 hv1 hc1
  go_wp2_with fail
  refine (HON.out 2 (by omega) _ L1.out).mono ?_
  rintro e w2 ⟨q0, rfl, hl2⟩
  have L2 := Lib.hid (L1.out.trans hl2)
  clear hl2 L1
  cases q0
  · go_wp2_with fail
    refine (HBW.out 4 (by omega) _ L2.out).mono ?_
    rintro e w3 ⟨x, hx, rfl, hl3⟩
    have hx6 : x ≤ 4 := by omega
    have L3 := Lib.hid (L2.out.trans hl3)
    clear hl3 hx L2
    go_wp2_with fail
    refine (HBW.out 1050 (by omega) _ L3.out).mono ?_
    rintro e w4 ⟨y, hy, rfl, hl4⟩
    have hy7 : y ≤ 1050 := by omega
    have L4 := Lib.hid (L3.out.trans hl4)
    clear hl4 hy L3
    go_wp2_with fail
    refine (HON.out 14 (by omega) _ L4.out).mono ?_
    rintro e w5 ⟨q, rfl, hl5⟩
    have L5 := Lib.hid (L4.out.trans hl5)
    clear hl5 L4
    go_wp2_with fail
    refine (bit_any q _).mono ?_
    rintro e w' ⟨rfl, rfl⟩
    have hq : bitI q = 0 ∨ bitI q = 1 := by cases q <;> simp [bitI]
    generalize bitI q = c at hq ⊢
    have e1 : IntKind.i64.wrap (2 + (x : Int)) = 2 + x := IntWalk.i64_in _ (by omega)
    have e2 : IntKind.i64.wrap ((y : Int) - c) = y - c := IntWalk.i64_in _ (by omega)
    have HF := Lib.hid (leaves_below L5.out hb B1.out)
    go_wp2
    exact bodyPost_ret (v := .tuple #[.int .i64 (2 + x), .int .i64 (y - c)]) (by simp [results, Tryz.results12, go_sem]) rfl ⟨_, _, rfl, by omega, by omega, HF.out⟩
  · go_wp2_with fail
    refine (HBW.out 64 (by omega) _ L2.out).mono ?_
    rintro e w3 ⟨y, hy, rfl, hl3⟩
    have hy6 : y ≤ 64 := by omega
    have L3 := Lib.hid (L2.out.trans hl3)
    clear hl3 hy L2
    have HF := Lib.hid (leaves_below L3.out hb B1.out)
    go_wp2
    exact bodyPost_ret (v := .tuple #[.int .i64 4, .int .i64 y]) (by simp [results, Tryz.results12, go_sem]) rfl ⟨_, _, rfl, by omega, by omega, HF.out⟩
set_option maxHeartbeats 1600000 in
set_option maxRecDepth 100000 in
/-- A draw that is one draw of signs over a new cursor. -/
theorem drawTrees_any (v : Value) (n : Nat) (hn : n ≤ 9223372036854700000) (w : World) (hv : Bytes w v n w.heap.size) :
    Calls Tryz.prog 7 #[v] w fun e w' => ∃ (m : Nat) (T : ByteArray), e = .returned (sg m T) ∧ (m ≤ 6 ∨ m = 8) ∧ T.size ≤ 21 ∧ Below w.heap.size w w' := by
  have R0 := Lib.hid (outC_made w 0 ⟨#[]⟩ 25)
  have HA := Lib.hid ((Below.refl w.heap.size w).alloc (Nat.le_refl _) (.cells #[.int .i64 0, .string ⟨#[]⟩] 25))
  have HV := Lib.hid (bytes_up hv HA.out)
  clear hv
  go_enter Tryz.func7, Tryz.ntmps7
  go_wp2_with fail
  refine (new_any v n hn _ HV.out).mono ?_
  rintro e w1 ⟨b, rfl, hb, hv1, hc1, hb1⟩
  have hwb : w.heap.size < b := by simp at hb; omega
  have R1 := Lib.hid (R0.out.on hb1)
  have B1 := Lib.hid (HA.out.trans (hb1.mono HA.out.size))
  have V1 := Lib.hid (⟨hv1, hc1⟩ : _ ∧ _)
  clear hb1 hv1 hc1 hb
  go_wp2_with fail
  refine (l5Draw_any b v n _ V1.out.1 V1.out.2).mono ?_
  rintro e w2 ⟨m, T, rfl, hm, hT, hl2⟩
  have R2 := Lib.hid (outC_leaves R1.out hl2 (by omega))
  have B2 := Lib.hid (leaves_below hl2 (by omega) B1.out)
  clear hl2
  obtain ⟨⟨e0, e1⟩, z0, z1⟩ := R2.out
  obtain ⟨k0, k1⟩ := ret_sg e0 e1 (.int .i64 m) (.string T)
  go_wp2
  exact bodyPost_ret (v := .agg #[.int .i64 m, .string T]) (by simp [results, Tryz.results7, go_sem, k0, k1]) rfl ⟨m, T, rfl, hm, hT, (B2.out.setCell (by simp) _).setCell (by simp) _⟩
end Go.Proofs.YtinlnafkmoabbaaGreatDoor.Cur
