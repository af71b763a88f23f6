/- Several texts in one: DrFive, DrSplit, QuFacts, LawLists. -/
import Derived.Test.YtfjimdmoindepaaMgC
import Derived.Test.YtfjimdmoindepaaMgB
import Derived.Test.YtfjimdmoindepaaMgE
/- The draws of signs of stage 5: l5Draw. -/
namespace Go.Proofs.Ytfjimdmoindepaa.Cur
open Go.RowKit Pt Sg NewI
set_option maxHeartbeats 3200000 in
set_option maxRecDepth 100000 in
theorem l5Draw_any (b : Nat) (v : Value) (n : Nat) (w : World) (hv : Bytes w v n b) (hc : At w b v n) :
    Calls Try.prog 33 #[.pointer (some ⟨b, 0, none⟩)] w fun e w' => ∃ (m : Nat) (T : ByteArray), e = .returned (sg m T) ∧ (m ≤ 6 ∨ m = 8) ∧ T.size ≤ 21 ∧ Leaves b v n w w' := by
  have hbw := hc.lt
  have HON := Lib.hid (fun (m : Nat) (hm : m ≤ 2147483648) W (hl : Leaves b v n w W) => (once_any b v n m hm W hl.1 hl.2.1))
  have R0 := Lib.hid (outC_made w 0 ⟨#[]⟩ 25)
  have L0 := Lib.hid ((Leaves.refl hv hc).alloc hbw (.cells #[.int .i64 0, .string ⟨#[]⟩] 25))
  clear hv hc
  go_enter Try.func33, Try.ntmps33
  go_wp2_with fail
  refine (HON.out 8 (by omega) _ L0.out).mono ?_
  rintro e w1 ⟨q, rfl, hl1⟩
  have L1 := Lib.hid (L0.out.trans hl1)
  have R1 := Lib.hid (outC_leaves R0.out hl1 (by omega))
  clear hl1
  cases q
  · -- points
    go_wp2_with fail
    refine (l2Draw_any b v n _ L1.out.1 L1.out.2.1).mono ?_
    rintro e w2 ⟨g, c, xs, rfl, ⟨hx3, hx6⟩, hat, hgl, hg2, hl2⟩
    have L2 := Lib.hid (L1.out.trans hl2)
    have R2 := Lib.hid (outC_leaves R1.out hl2 (by omega))
    have A2 := Lib.hid (⟨hat, hg2⟩ : RowA w2 g xs)
    clear hl2 hat
    obtain ⟨m, T, o, hpv, hm6, hT⟩ : ∃ (m : Nat) (T : ByteArray) (o : Bool), ptsV xs = .tuple #[sg m T, .bool o] ∧ m ≤ 6 ∧ T.size ≤ 20 := by
      cases h : Pt.okB xs
      · exact ⟨0, ⟨#[]⟩, false, ptsV_no h, by omega, by decide⟩
      · refine ⟨xs.length, _, true, ptsV_yes h, hx6, ?_⟩
        show (text3 xs.length (turnF xs)).toArray.size ≤ 20
        rw [List.size_toArray, text3_length (by omega)]
        rcases (by omega : xs.length = 3 ∨ xs.length = 4 ∨ xs.length = 5 ∨ xs.length = 6) with e | e | e | e <;> rw [e] <;> decide
    have HP := Lib.hid (specPtsA g c xs (by omega) w2 A2.out)
    rw [hpv] at HP
    clear hpv
    go_wp2_with fail
    refine HP.out.mono ?_
    rintro e w3 ⟨rfl, hb3⟩
    have hle2 := L2.out.2.2.size
    have L3 := Lib.hid ((L2.out.ext (hb3.mono hle2) hbw).alloc hbw (.cells #[.int .i64 m, .string T] 25))
    have R3 := Lib.hid ((R2.out.on hb3).on ((Below.refl _ _).alloc (Nat.le_refl _) (.cells #[.int .i64 m, .string T] 25)))
    have Y3 := Lib.hid (outC_made w3 m T 25)
    clear hb3
    obtain ⟨⟨e0, e1⟩, z0, z1⟩ := R3.out
    obtain ⟨⟨y0, y1⟩, -⟩ := Y3.out
    obtain ⟨k0, k1⟩ := ret_sg e0 e1 (.int .i64 m) (.string T)
    have LF := Lib.hid (L3.out.ext (((Below.refl w.heap.size _).setCell (p := ⟨w.heap.size, 0, none⟩) (by simp) (.int .i64 m)).setCell (p := ⟨w.heap.size, 1, none⟩) (by simp) (.string T)) hbw)
    go_wp2
    exact bodyPost_ret (v := .agg #[.int .i64 m, .string T]) (by simp [results, Try.results33, go_sem, k0, k1]) rfl ⟨m, T, rfl, by omega, by omega, LF.out⟩
  · go_wp2_with fail
    refine (l4Draw_any b v n _ L1.out.1 L1.out.2.1).mono ?_
    rintro e w2 ⟨m, T, rfl, hm, hT, hl2⟩
    have L2 := Lib.hid (L1.out.trans hl2)
    have R2 := Lib.hid (outC_leaves R1.out hl2 (by omega))
    clear hl2
    obtain ⟨⟨e0, e1⟩, z0, z1⟩ := R2.out
    obtain ⟨k0, k1⟩ := ret_sg e0 e1 (.int .i64 m) (.string T)
    have LF := Lib.hid (leaves_ret (x := .int .i64 m) (y := .string T) L2.out hbw)
    go_wp2
    exact bodyPost_ret (v := .agg #[.int .i64 m, .string T]) (by simp [results, Try.results33, go_sem, k0, k1]) rfl ⟨m, T, rfl, hm, hT, LF.out⟩
set_option maxHeartbeats 3200000 in
set_option maxRecDepth 100000 in
theorem l5Four_any (v : Value) (n : Nat) (hn : n ≤ 9223372036854700000) (w : World) (hv : Bytes w v n w.heap.size) :
    Calls Try.prog 28 #[v] w fun e w' => ∃ (m : Nat) (T : ByteArray) (g c : Nat) (z0 z1 z2 z3 : Int), e = .returned (.tuple #[sg m T, .slice (some ⟨g, 0, none⟩) 4 c]) ∧ (m ≤ 6 ∨ m = 8) ∧ T.size ≤ 21 ∧ Four w' g z0 z1 z2 z3 ∧ (Elem z0 ∧ Elem z1 ∧ Elem z2 ∧ Elem z3) ∧ w.heap.size < g ∧ g < w'.heap.size ∧ Below w.heap.size w w' := by
  have R0 := Lib.hid (outC_made w 0 ⟨#[]⟩ 25)
  have HA := Lib.hid ((Below.refl w.heap.size w).alloc (Nat.le_refl _) (.cells #[.int .i64 0, .string ⟨#[]⟩] 25))
  have HV := Lib.hid (bytes_up hv HA.out)
  clear hv
  go_enter Try.func28, Try.ntmps28
  go_wp2_with fail
  refine (new_any v n hn _ HV.out).mono ?_
  rintro e w1 ⟨b, rfl, hb, hv1, hc1, hb1⟩
  have hwb : w.heap.size < b := by simp at hb; omega
  have R1 := Lib.hid (R0.out.on hb1)
  have B1 := Lib.hid (HA.out.trans (hb1.mono HA.out.size))
  have V1 := Lib.hid (⟨hv1, hc1⟩ : _ ∧ _)
  have hbw := hc1.lt
  clear hb1 hv1 hc1 hb
  have HBW := Lib.hid (fun (m : Nat) (hm : m ≤ 2147483648) W (hl : Leaves b v n w1 W) => (below_any b v n m hm W hl.1 hl.2.1))
  have HON := Lib.hid (fun (m : Nat) (hm : m ≤ 2147483648) W (hl : Leaves b v n w1 W) => (once_any b v n m hm W hl.1 hl.2.1))
  have HOR := Lib.hid (fun (m : Nat) (hm : m ≤ 100) W (hl : Leaves b v n w1 W) => (l3Order_any b v n m hm W hl.1 hl.2.1))
  go_wp2_with fail
  refine (l5Draw_any b v n _ V1.out.1 V1.out.2).mono ?_
  rintro e w2 ⟨m, T, rfl, hm, hT, hl2⟩
  have R2 := Lib.hid (outC_leaves R1.out hl2 (by omega))
  have hw2 : w.heap.size < w2.heap.size := Kit.cell_lt R2.out.1.1
  have L3 := Lib.hid (hl2.alloc hbw (.cells #[.int .i64 m, .string T] 25))
  have R3 := Lib.hid (R2.out.on ((Below.refl w2.heap.size w2).alloc (Nat.le_refl _) (.cells #[.int .i64 m, .string T] 25)))
  have Y3 := Lib.hid (outC_made w2 m T 25)
  have hb2 : b < w2.heap.size := hl2.lt
  have hsz : (w2.alloc (.cells #[.int .i64 m, .string T] 25)).heap.size = w2.heap.size + 1 := by simp
  clear hl2
  obtain ⟨⟨y0, y1⟩, -⟩ := Y3.out
  go_wp2_with fail
  refine (max_any m (by omega) 4 (by omega) _).mono ?_
  rintro e w3 ⟨rfl, rfl⟩
  go_wp2_with fail
  refine (HOR.out (max 4 m) (by omega) _ L3.out).mono ?_
  rintro e w4 ⟨g, c, zs, rfl, hzl, hzc, hzs, hown, hl4⟩
  have hM : 4 ≤ max 4 m := by omega
  have hgB := (World.ownsRow.lt hown g rfl).1
  have hgl := (World.ownsRow.lt hown g rfl).2
  rw [hsz] at hgB
  obtain ⟨z0, z1, z2, z3, F4, HE, hfz⟩ := four_of hown hzl hM hzs
  have R4 := Lib.hid (outC_leaves R3.out hl4 (by omega))
  have Y4 := Lib.hid (outC_leaves Y3.out hl4 (by omega))
  have L4 := Lib.hid (L3.out.trans hl4)
  have HF4 := Lib.hid (⟨F4, hfz⟩ : _ ∧ _)
  clear F4 hfz hown hl4 hzs y0 y1
  generalize hMM : max 4 m = M at hM hzl hzc ⊢
  clear hMM
  go_wp2_with fail
  refine (HON.out 14 (by omega) _ L4.out).mono ?_
  rintro e w5 ⟨q, rfl, hl5⟩
  have RX := Lib.hid (outC_leaves R4.out hl5 (by omega))
  have YX := Lib.hid (outC_leaves Y4.out hl5 (by omega))
  have L5 := Lib.hid (L4.out.trans hl5)
  have FX := Lib.hid (four_leaves HF4.out.1 hl5 (by omega))
  have hg5 : g < w5.heap.size := Nat.lt_of_lt_of_le hgl hl5.2.2.size
  have hfz : w5.frozen? ⟨g, 0, none⟩ = false := by rw [World.frozen?_of_block (a := ⟨g, 0, none⟩) (hl5.2.2.block g hgl (fun e => by have h0 := Option.some.inj e; omega))]; exact HF4.out.2
  clear hl5
  cases q
  · have BX := Lib.hid (leaves_below L5.out (by omega) B1.out)
    have HEX := HE
    clear HE
    go_wp2
    have RXd : Hid (OutC w.heap.size 0 ⟨#[]⟩ w5.drew) := RX
    have YXd : Hid (OutC w2.heap.size m T w5.drew) := YX
    have FXd : Hid (Four w5.drew g z0 z1 z2 z3) := FX
    have BXd := Lib.hid BX.out.drew
    have hlt : g < w5.drew.heap.size := by simpa [World.setCell] using hg5
    have hS0 := YXd.out.1
    refine LastB.wp_region_last' (S := fun W => W.cell? ⟨w2.heap.size, 0, none⟩ = some (.int .i64 m) ∧ W.cell? ⟨w2.heap.size, 1, none⟩ = some (.string T)) 4 _ rfl rfl (by kernel_rfl) (by kernel_rfl) hS0 (fun hHeld => ?_)
    clear hS0 RX YX FX BX
    generalize w5.drew = wd at *
    obtain ⟨⟨e0, e1⟩, z0', z1'⟩ := RXd.out
    obtain ⟨k0, k1⟩ := ret_sg e0 e1 (.int .i64 m) (.string T)
    have FF := Lib.hid ((FXd.out.far (so := w.heap.size) (by omega) 0 (.int .i64 m)).far (so := w.heap.size) (by omega) 1 (.string T))
    have HYF := Lib.hid (outC_off (outC_off YXd.out (so := w.heap.size) (by omega) 0 (.int .i64 m)) (so := w.heap.size) (by omega) 1 (.string T))
    have HF := Lib.hid ((BXd.out.setCell (p := ⟨w.heap.size, 0, none⟩) (by simp) (.int .i64 m)).setCell (p := ⟨w.heap.size, 1, none⟩) (by simp) (.string T))
    simp only [List.take_succ_cons, List.take_zero]
    (refine wpAnyH_take (i := 0) (v := ?_) rfl (by kernel_rfl) (by kernel_rfl) (by kernel_rfl) (fun _ _ _ h => h) (Or.inl ⟨by rfl, ?_⟩) (by assumption) ?_; rotate_left; (focus (intro w hSw; (try dsimp only at hSw); go_simp; (try with_reducible rfl))); (simp only [Act.put, List.setIfInBounds_toArray]))
    (refine wpAnyH_take (i := 1) (v := ?_) rfl (by kernel_rfl) (by kernel_rfl) (by kernel_rfl) (fun _ _ _ h => h) (Or.inl ⟨by rfl, ?_⟩) (by assumption) ?_; rotate_left; (focus (intro w hSw; (try dsimp only at hSw); go_simp; (try with_reducible rfl))); (simp only [Act.put]))
    (refine wpAnyH_take (i := 2) (v := .slice (some ⟨g, 0, none⟩) 4 c) rfl (by kernel_rfl) (by kernel_rfl) (by kernel_rfl) (fun _ _ _ h => h) (Or.inl ⟨by rfl, ?_⟩) (by assumption) ?_; (focus (intro w hSw; (try dsimp only at hSw); simp [go_sem, execOp]; intro hlt4; omega)); (simp only [Act.put]))
    refine wpAnyH_ready (rs := [3]) (by kernel_rfl) (by simp) ?_
    refine AllReadyH.cons rfl (fun K hK => ?_) AllReadyH.nil
    go_simp
    refine hK.out _ _ HYF.out.1 (fun hHeld => ?_)
    clear hK K
    try simp only [Act.put, List.setIfInBounds_toArray, List.set_cons_zero, List.set_cons_succ]
    refine wpAnyH_done (by kernel_rfl) ?_ _
    change wpList _ _ _ [_] _ _
    go_wp2
    exact bodyPost_ret (v := .tuple #[.agg #[.int .i64 m, .string T], .slice (some ⟨g, 0, none⟩) 4 c]) (by simp [results, Try.results28, go_sem, k0, k1]) rfl ⟨m, T, g, c, _, _, _, _, rfl, hm, hT, FF.out, HEX, by omega, by simpa [World.setCell] using hlt, HF.out⟩
  · go_wp2_with fail
    refine (HBW.out 8 (by omega) _ L5.out).mono ?_
    rintro e w6 ⟨r, hr, rfl, hl6⟩
    have R6 := Lib.hid (outC_leaves RX.out hl6 (by omega))
    have Y6 := Lib.hid (outC_leaves YX.out hl6 (by omega))
    have L6 := Lib.hid (L5.out.trans hl6)
    have F6 := Lib.hid (four_leaves FX.out hl6 (by omega))
    have hfz6 : w6.frozen? ⟨g, 0, none⟩ = false := by rw [World.frozen?_of_block (a := ⟨g, 0, none⟩) (hl6.2.2.block g hg5 (fun e => by have h0 := Option.some.inj e; omega))]; exact hfz
    have hg6 : g < w6.heap.size := Nat.lt_of_lt_of_le hg5 hl6.2.2.size
    clear hl6 RX YX FX L5 hg5
    have c60 := F6.out.1
    have hg5 := hg6
    have B6 := Lib.hid (leaves_below L6.out (by omega) B1.out)
    have RX := Lib.hid (outC_off R6.out (so := g) (by omega) 0 (.int .i64 ((r : Int) - 1)))
    have YX := Lib.hid (outC_off Y6.out (so := g) (by omega) 0 (.int .i64 ((r : Int) - 1)))
    have FX := Lib.hid (F6.out.set ((r : Int) - 1))
    have BX := Lib.hid (B6.out.setCell (p := ⟨g, 0, none⟩) (by simp; omega) (.int .i64 ((r : Int) - 1)))
    have HEX : Elem ((r : Int) - 1) ∧ Elem z1 ∧ Elem z2 ∧ Elem z3 := ⟨by unfold Elem; omega, HE.2⟩
    clear HE
    go_wp2
    have RXd : Hid (OutC w.heap.size 0 ⟨#[]⟩ (w6.setCell ⟨g, 0, none⟩ (.int .i64 ((r : Int) - 1))).drew) := RX
    have YXd : Hid (OutC w2.heap.size m T (w6.setCell ⟨g, 0, none⟩ (.int .i64 ((r : Int) - 1))).drew) := YX
    have FXd : Hid (Four (w6.setCell ⟨g, 0, none⟩ (.int .i64 ((r : Int) - 1))).drew g ((r : Int) - 1) z1 z2 z3) := FX
    have BXd := Lib.hid BX.out.drew
    have hlt : g < (w6.setCell ⟨g, 0, none⟩ (.int .i64 ((r : Int) - 1))).drew.heap.size := by simpa [World.setCell] using hg5
    have hS0 := YXd.out.1
    refine LastB.wp_region_last' (S := fun W => W.cell? ⟨w2.heap.size, 0, none⟩ = some (.int .i64 m) ∧ W.cell? ⟨w2.heap.size, 1, none⟩ = some (.string T)) 4 _ rfl rfl (by kernel_rfl) (by kernel_rfl) hS0 (fun hHeld => ?_)
    clear hS0 RX YX FX BX
    generalize (w6.setCell ⟨g, 0, none⟩ (.int .i64 ((r : Int) - 1))).drew = wd at *
    obtain ⟨⟨e0, e1⟩, z0', z1'⟩ := RXd.out
    obtain ⟨k0, k1⟩ := ret_sg e0 e1 (.int .i64 m) (.string T)
    have FF := Lib.hid ((FXd.out.far (so := w.heap.size) (by omega) 0 (.int .i64 m)).far (so := w.heap.size) (by omega) 1 (.string T))
    have HYF := Lib.hid (outC_off (outC_off YXd.out (so := w.heap.size) (by omega) 0 (.int .i64 m)) (so := w.heap.size) (by omega) 1 (.string T))
    have HF := Lib.hid ((BXd.out.setCell (p := ⟨w.heap.size, 0, none⟩) (by simp) (.int .i64 m)).setCell (p := ⟨w.heap.size, 1, none⟩) (by simp) (.string T))
    simp only [List.take_succ_cons, List.take_zero]
    (refine wpAnyH_take (i := 0) (v := ?_) rfl (by kernel_rfl) (by kernel_rfl) (by kernel_rfl) (fun _ _ _ h => h) (Or.inl ⟨by rfl, ?_⟩) (by assumption) ?_; rotate_left; (focus (intro w hSw; (try dsimp only at hSw); go_simp; (try with_reducible rfl))); (simp only [Act.put, List.setIfInBounds_toArray]))
    (refine wpAnyH_take (i := 1) (v := ?_) rfl (by kernel_rfl) (by kernel_rfl) (by kernel_rfl) (fun _ _ _ h => h) (Or.inl ⟨by rfl, ?_⟩) (by assumption) ?_; rotate_left; (focus (intro w hSw; (try dsimp only at hSw); go_simp; (try with_reducible rfl))); (simp only [Act.put]))
    (refine wpAnyH_take (i := 2) (v := .slice (some ⟨g, 0, none⟩) 4 c) rfl (by kernel_rfl) (by kernel_rfl) (by kernel_rfl) (fun _ _ _ h => h) (Or.inl ⟨by rfl, ?_⟩) (by assumption) ?_; (focus (intro w hSw; (try dsimp only at hSw); simp [go_sem, execOp]; intro hlt4; omega)); (simp only [Act.put]))
    refine wpAnyH_ready (rs := [3]) (by kernel_rfl) (by simp) ?_
    refine AllReadyH.cons rfl (fun K hK => ?_) AllReadyH.nil
    go_simp
    refine hK.out _ _ HYF.out.1 (fun hHeld => ?_)
    clear hK K
    try simp only [Act.put, List.setIfInBounds_toArray, List.set_cons_zero, List.set_cons_succ]
    refine wpAnyH_done (by kernel_rfl) ?_ _
    change wpList _ _ _ [_] _ _
    go_wp2
    exact bodyPost_ret (v := .tuple #[.agg #[.int .i64 m, .string T], .slice (some ⟨g, 0, none⟩) 4 c]) (by simp [results, Try.results28, go_sem, k0, k1]) rfl ⟨m, T, g, c, _, _, _, _, rfl, hm, hT, FF.out, HEX, by omega, by simpa [World.setCell] using hlt, HF.out⟩
end Go.Proofs.Ytfjimdmoindepaa.Cur
/- The draws of signs of stage 5: DrawSplitOf, DrawIsInside, DrawQuadsOf. -/
namespace Go.Proofs.Ytfjimdmoindepaa.Cur
open Go.RowKit Pt Sg NewI
set_option maxHeartbeats 3200000 in
set_option maxRecDepth 100000 in
theorem drawSplit_any (v : Value) (n : Nat) (hn : n ≤ 9223372036854700000) (w : World) (hv : Bytes w v n w.heap.size) :
    Calls Try.prog 6 #[v] w fun e w' => ∃ (m : Nat) (T : ByteArray) (z0 z1 z2 z3 : Int), e = .returned (.tuple #[sg m T, .int .i64 z0, .int .i64 z1, .int .i64 z2, .int .i64 z3]) ∧ (m ≤ 6 ∨ m = 8) ∧ T.size ≤ 21 ∧ (Elem z0 ∧ Elem z1 ∧ Elem z2 ∧ Elem z3) ∧ Below w.heap.size w w' := by
  have R0 := Lib.hid (outC_made w 0 ⟨#[]⟩ 25)
  have HA := Lib.hid ((Below.refl w.heap.size w).alloc (Nat.le_refl _) (.cells #[.int .i64 0, .string ⟨#[]⟩] 25))
  have HV := Lib.hid (bytes_up hv HA.out)
  clear hv
  go_enter Try.func6, Try.ntmps6
  go_wp2_with fail
  refine (l5Four_any v n hn _ HV.out).mono ?_
  rintro e w1 ⟨m, T, g, c, z0, z1, z2, z3, rfl, hm, hT, hF, HE, hg, hgl, hb1⟩
  have R1 := Lib.hid (R0.out.on hb1)
  have B1 := Lib.hid (HA.out.trans (hb1.mono HA.out.size))
  have hw1 : w.heap.size < w1.heap.size := Kit.cell_lt R1.out.1.1
  have hwg : w.heap.size < g := by simp at hg; omega
  have B2 := Lib.hid (B1.out.alloc B1.out.size (.cells #[.int .i64 m, .string T] 25))
  have hba := (Below.refl w1.heap.size w1).alloc (Nat.le_refl _) (.cells #[.int .i64 m, .string T] 25)
  have R2 := Lib.hid (R1.out.on hba)
  have F2 := Lib.hid (hF.on hba)
  have Y2 := Lib.hid (outC_made w1 m T 25)
  clear hb1 hF hba
  go_wp2
  have RXd : Hid (OutC w.heap.size 0 ⟨#[]⟩ (w1.alloc (.cells #[.int .i64 m, .string T] 25)).drew) := R2
  have YXd : Hid (OutC w1.heap.size m T (w1.alloc (.cells #[.int .i64 m, .string T] 25)).drew) := Y2
  have FXd : Hid (Four (w1.alloc (.cells #[.int .i64 m, .string T] 25)).drew g z0 z1 z2 z3) := F2
  have BXd := Lib.hid B2.out.drew
  have hS0 := (⟨YXd.out.1.1, YXd.out.1.2, FXd.out⟩ : _ ∧ _ ∧ _)
  refine LastB.wp_region_last' (S := fun W => W.cell? ⟨w1.heap.size, 0, none⟩ = some (.int .i64 m) ∧ W.cell? ⟨w1.heap.size, 1, none⟩ = some (.string T) ∧ W.cell? ⟨g, 0, none⟩ = some (.int .i64 z0) ∧ W.cell? ⟨g, 1, none⟩ = some (.int .i64 z1) ∧ W.cell? ⟨g, 2, none⟩ = some (.int .i64 z2) ∧ W.cell? ⟨g, 3, none⟩ = some (.int .i64 z3)) 17 _ rfl rfl (by kernel_rfl) (by kernel_rfl) hS0 (fun hHeld => ?_)
  clear hS0 R2 Y2 F2 B2
  generalize (w1.alloc (.cells #[.int .i64 m, .string T] 25)).drew = wd at *
  obtain ⟨⟨e0, e1⟩, z0', z1'⟩ := RXd.out
  obtain ⟨k0, k1⟩ := ret_sg e0 e1 (.int .i64 m) (.string T)
  have FF := Lib.hid ((FXd.out.far (so := w.heap.size) (by omega) 0 (.int .i64 m)).far (so := w.heap.size) (by omega) 1 (.string T))
  have HYF := Lib.hid (outC_off (outC_off YXd.out (so := w.heap.size) (by omega) 0 (.int .i64 m)) (so := w.heap.size) (by omega) 1 (.string T))
  have HF := Lib.hid ((BXd.out.setCell (p := ⟨w.heap.size, 0, none⟩) (by simp) (.int .i64 m)).setCell (p := ⟨w.heap.size, 1, none⟩) (by simp) (.string T))
  simp only [List.take_succ_cons, List.take_zero]
  (refine wpAnyH_take (i := 0) (v := ?_) rfl (by kernel_rfl) (by kernel_rfl) (by kernel_rfl) (fun _ _ _ h => h) (Or.inl ⟨by rfl, ?_⟩) (by assumption) ?_; rotate_left; (focus (intro w hSw; (try dsimp only at hSw); go_simp; (try with_reducible rfl))); (simp only [Act.put, List.setIfInBounds_toArray]))
  (refine wpAnyH_take (i := 1) (v := ?_) rfl (by kernel_rfl) (by kernel_rfl) (by kernel_rfl) (fun _ _ _ h => h) (Or.inl ⟨by rfl, ?_⟩) (by assumption) ?_; rotate_left; (focus (intro w hSw; (try dsimp only at hSw); go_simp; (try with_reducible rfl))); (simp only [Act.put]))
  (refine wpAnyH_take (i := 2) (v := ?_) rfl (by kernel_rfl) (by kernel_rfl) (by kernel_rfl) (fun _ _ _ h => h) (Or.inl ⟨by rfl, ?_⟩) (by assumption) ?_; rotate_left; (focus (intro w hSw; (try dsimp only at hSw); go_simp; (try with_reducible rfl))); (simp only [Act.put]))
  (refine wpAnyH_take (i := 3) (v := ?_) rfl (by kernel_rfl) (by kernel_rfl) (by kernel_rfl) (fun _ _ _ h => h) (Or.inl ⟨by rfl, ?_⟩) (by assumption) ?_; rotate_left; (focus (intro w hSw; (try dsimp only at hSw); go_simp; (try with_reducible rfl))); (simp only [Act.put]))
  (refine wpAnyH_take (i := 4) (v := ?_) rfl (by kernel_rfl) (by kernel_rfl) (by kernel_rfl) (fun _ _ _ h => h) (Or.inl ⟨by rfl, ?_⟩) (by assumption) ?_; rotate_left; (focus (intro w hSw; (try dsimp only at hSw); go_simp; (try with_reducible rfl))); (simp only [Act.put]))
  (refine wpAnyH_take (i := 5) (v := ?_) rfl (by kernel_rfl) (by kernel_rfl) (by kernel_rfl) (fun _ _ _ h => h) (Or.inl ⟨by rfl, ?_⟩) (by assumption) ?_; rotate_left; (focus (intro w hSw; (try dsimp only at hSw); go_simp; (try with_reducible rfl))); (simp only [Act.put]))
  (refine wpAnyH_take (i := 6) (v := ?_) rfl (by kernel_rfl) (by kernel_rfl) (by kernel_rfl) (fun _ _ _ h => h) (Or.inl ⟨by rfl, ?_⟩) (by assumption) ?_; rotate_left; (focus (intro w hSw; (try dsimp only at hSw); go_simp; (try with_reducible rfl))); (simp only [Act.put]))
  (refine wpAnyH_take (i := 7) (v := ?_) rfl (by kernel_rfl) (by kernel_rfl) (by kernel_rfl) (fun _ _ _ h => h) (Or.inl ⟨by rfl, ?_⟩) (by assumption) ?_; rotate_left; (focus (intro w hSw; (try dsimp only at hSw); go_simp; (try with_reducible rfl))); (simp only [Act.put]))
  (refine wpAnyH_take (i := 8) (v := ?_) rfl (by kernel_rfl) (by kernel_rfl) (by kernel_rfl) (fun _ _ _ h => h) (Or.inl ⟨by rfl, ?_⟩) (by assumption) ?_; rotate_left; (focus (intro w hSw; (try dsimp only at hSw); go_simp; (try with_reducible rfl))); (simp only [Act.put]))
  (refine wpAnyH_take (i := 9) (v := ?_) rfl (by kernel_rfl) (by kernel_rfl) (by kernel_rfl) (fun _ _ _ h => h) (Or.inl ⟨by rfl, ?_⟩) (by assumption) ?_; rotate_left; (focus (intro w hSw; (try dsimp only at hSw); go_simp; (try with_reducible rfl))); (simp only [Act.put]))
  (refine wpAnyH_take (i := 10) (v := ?_) rfl (by kernel_rfl) (by kernel_rfl) (by kernel_rfl) (fun _ _ _ h => h) (Or.inl ⟨by rfl, ?_⟩) (by assumption) ?_; rotate_left; (focus (intro w hSw; (try dsimp only at hSw); go_simp; (try with_reducible rfl))); (simp only [Act.put]))
  (refine wpAnyH_take (i := 11) (v := ?_) rfl (by kernel_rfl) (by kernel_rfl) (by kernel_rfl) (fun _ _ _ h => h) (Or.inl ⟨by rfl, ?_⟩) (by assumption) ?_; rotate_left; (focus (intro w hSw; (try dsimp only at hSw); go_simp; (try with_reducible rfl))); (simp only [Act.put]))
  (refine wpAnyH_take (i := 12) (v := ?_) rfl (by kernel_rfl) (by kernel_rfl) (by kernel_rfl) (fun _ _ _ h => h) (Or.inl ⟨by rfl, ?_⟩) (by assumption) ?_; rotate_left; (focus (intro w hSw; (try dsimp only at hSw); go_simp; (try with_reducible rfl))); (simp only [Act.put]))
  refine wpAnyH_ready (rs := [13]) (by kernel_rfl) (by simp) ?_
  refine AllReadyH.cons rfl (fun K hK => ?_) AllReadyH.nil
  go_simp
  refine hK.out _ _ ⟨HYF.out.1.1, HYF.out.1.2, FF.out⟩ (fun hHeld => ?_)
  clear hK K
  try simp only [Act.put, List.setIfInBounds_toArray, List.set_cons_zero, List.set_cons_succ]
  (refine wpAnyH_take (i := 14) (v := ?_) rfl (by kernel_rfl) (by kernel_rfl) (by kernel_rfl) (fun _ _ _ h => h) (Or.inl ⟨by rfl, ?_⟩) (by assumption) ?_; rotate_left; (focus (intro w hSw; (try dsimp only at hSw); go_simp; (try with_reducible rfl))); (simp only [Act.put, List.setIfInBounds_toArray]))
  (refine wpAnyH_take (i := 15) (v := ?_) rfl (by kernel_rfl) (by kernel_rfl) (by kernel_rfl) (fun _ _ _ h => h) (Or.inl ⟨by rfl, ?_⟩) (by assumption) ?_; rotate_left; (focus (intro w hSw; (try dsimp only at hSw); go_simp; (try with_reducible rfl))); (simp only [Act.put]))
  (refine wpAnyH_take (i := 16) (v := ?_) rfl (by kernel_rfl) (by kernel_rfl) (by kernel_rfl) (fun _ _ _ h => h) (Or.inl ⟨by rfl, ?_⟩) (by assumption) ?_; rotate_left; (focus (intro w hSw; (try dsimp only at hSw); go_simp; (try with_reducible rfl))); (simp only [Act.put]))
  refine wpAnyH_done (by kernel_rfl) ?_ _
  change wpList _ _ _ [_] _ _
  go_wp2
  exact bodyPost_ret (v := .tuple #[.agg #[.int .i64 m, .string T], .int .i64 z0, .int .i64 z1, .int .i64 z2, .int .i64 z3]) (by simp [results, Try.results6, go_sem, k0, k1]) rfl ⟨m, T, _, _, _, _, rfl, hm, hT, HE, HF.out⟩
set_option maxHeartbeats 3200000 in
set_option maxRecDepth 100000 in
theorem drawInside_any (v : Value) (n : Nat) (hn : n ≤ 9223372036854700000) (w : World) (hv : Bytes w v n w.heap.size) :
    Calls Try.prog 11 #[v] w fun e w' => ∃ (m : Nat) (T : ByteArray) (z0 z1 z2 z3 : Int), e = .returned (.tuple #[sg m T, .int .i64 z0, .int .i64 z1, .int .i64 z2, .int .i64 z3]) ∧ (m ≤ 6 ∨ m = 8) ∧ T.size ≤ 21 ∧ (Elem z0 ∧ Elem z1 ∧ Elem z2 ∧ Elem z3) ∧ Below w.heap.size w w' := by
  have R0 := Lib.hid (outC_made w 0 ⟨#[]⟩ 25)
  have HA := Lib.hid ((Below.refl w.heap.size w).alloc (Nat.le_refl _) (.cells #[.int .i64 0, .string ⟨#[]⟩] 25))
  have HV := Lib.hid (bytes_up hv HA.out)
  clear hv
  go_enter Try.func11, Try.ntmps11
  go_wp2_with fail
  refine (l5Four_any v n hn _ HV.out).mono ?_
  rintro e w1 ⟨m, T, g, c, z0, z1, z2, z3, rfl, hm, hT, hF, HE, hg, hgl, hb1⟩
  have R1 := Lib.hid (R0.out.on hb1)
  have B1 := Lib.hid (HA.out.trans (hb1.mono HA.out.size))
  have hw1 : w.heap.size < w1.heap.size := Kit.cell_lt R1.out.1.1
  have hwg : w.heap.size < g := by simp at hg; omega
  have B2 := Lib.hid (B1.out.alloc B1.out.size (.cells #[.int .i64 m, .string T] 25))
  have hba := (Below.refl w1.heap.size w1).alloc (Nat.le_refl _) (.cells #[.int .i64 m, .string T] 25)
  have R2 := Lib.hid (R1.out.on hba)
  have F2 := Lib.hid (hF.on hba)
  have Y2 := Lib.hid (outC_made w1 m T 25)
  clear hb1 hF hba
  go_wp2
  have RXd : Hid (OutC w.heap.size 0 ⟨#[]⟩ (w1.alloc (.cells #[.int .i64 m, .string T] 25)).drew) := R2
  have YXd : Hid (OutC w1.heap.size m T (w1.alloc (.cells #[.int .i64 m, .string T] 25)).drew) := Y2
  have FXd : Hid (Four (w1.alloc (.cells #[.int .i64 m, .string T] 25)).drew g z0 z1 z2 z3) := F2
  have BXd := Lib.hid B2.out.drew
  have hS0 := (⟨YXd.out.1.1, YXd.out.1.2, FXd.out⟩ : _ ∧ _ ∧ _)
  refine LastB.wp_region_last' (S := fun W => W.cell? ⟨w1.heap.size, 0, none⟩ = some (.int .i64 m) ∧ W.cell? ⟨w1.heap.size, 1, none⟩ = some (.string T) ∧ W.cell? ⟨g, 0, none⟩ = some (.int .i64 z0) ∧ W.cell? ⟨g, 1, none⟩ = some (.int .i64 z1) ∧ W.cell? ⟨g, 2, none⟩ = some (.int .i64 z2) ∧ W.cell? ⟨g, 3, none⟩ = some (.int .i64 z3)) 17 _ rfl rfl (by kernel_rfl) (by kernel_rfl) hS0 (fun hHeld => ?_)
  clear hS0 R2 Y2 F2 B2
  generalize (w1.alloc (.cells #[.int .i64 m, .string T] 25)).drew = wd at *
  obtain ⟨⟨e0, e1⟩, z0', z1'⟩ := RXd.out
  obtain ⟨k0, k1⟩ := ret_sg e0 e1 (.int .i64 m) (.string T)
  have FF := Lib.hid ((FXd.out.far (so := w.heap.size) (by omega) 0 (.int .i64 m)).far (so := w.heap.size) (by omega) 1 (.string T))
  have HYF := Lib.hid (outC_off (outC_off YXd.out (so := w.heap.size) (by omega) 0 (.int .i64 m)) (so := w.heap.size) (by omega) 1 (.string T))
  have HF := Lib.hid ((BXd.out.setCell (p := ⟨w.heap.size, 0, none⟩) (by simp) (.int .i64 m)).setCell (p := ⟨w.heap.size, 1, none⟩) (by simp) (.string T))
  simp only [List.take_succ_cons, List.take_zero]
  (refine wpAnyH_take (i := 0) (v := ?_) rfl (by kernel_rfl) (by kernel_rfl) (by kernel_rfl) (fun _ _ _ h => h) (Or.inl ⟨by rfl, ?_⟩) (by assumption) ?_; rotate_left; (focus (intro w hSw; (try dsimp only at hSw); go_simp; (try with_reducible rfl))); (simp only [Act.put, List.setIfInBounds_toArray]))
  (refine wpAnyH_take (i := 1) (v := ?_) rfl (by kernel_rfl) (by kernel_rfl) (by kernel_rfl) (fun _ _ _ h => h) (Or.inl ⟨by rfl, ?_⟩) (by assumption) ?_; rotate_left; (focus (intro w hSw; (try dsimp only at hSw); go_simp; (try with_reducible rfl))); (simp only [Act.put]))
  (refine wpAnyH_take (i := 2) (v := ?_) rfl (by kernel_rfl) (by kernel_rfl) (by kernel_rfl) (fun _ _ _ h => h) (Or.inl ⟨by rfl, ?_⟩) (by assumption) ?_; rotate_left; (focus (intro w hSw; (try dsimp only at hSw); go_simp; (try with_reducible rfl))); (simp only [Act.put]))
  (refine wpAnyH_take (i := 3) (v := ?_) rfl (by kernel_rfl) (by kernel_rfl) (by kernel_rfl) (fun _ _ _ h => h) (Or.inl ⟨by rfl, ?_⟩) (by assumption) ?_; rotate_left; (focus (intro w hSw; (try dsimp only at hSw); go_simp; (try with_reducible rfl))); (simp only [Act.put]))
  (refine wpAnyH_take (i := 4) (v := ?_) rfl (by kernel_rfl) (by kernel_rfl) (by kernel_rfl) (fun _ _ _ h => h) (Or.inl ⟨by rfl, ?_⟩) (by assumption) ?_; rotate_left; (focus (intro w hSw; (try dsimp only at hSw); go_simp; (try with_reducible rfl))); (simp only [Act.put]))
  (refine wpAnyH_take (i := 5) (v := ?_) rfl (by kernel_rfl) (by kernel_rfl) (by kernel_rfl) (fun _ _ _ h => h) (Or.inl ⟨by rfl, ?_⟩) (by assumption) ?_; rotate_left; (focus (intro w hSw; (try dsimp only at hSw); go_simp; (try with_reducible rfl))); (simp only [Act.put]))
  (refine wpAnyH_take (i := 6) (v := ?_) rfl (by kernel_rfl) (by kernel_rfl) (by kernel_rfl) (fun _ _ _ h => h) (Or.inl ⟨by rfl, ?_⟩) (by assumption) ?_; rotate_left; (focus (intro w hSw; (try dsimp only at hSw); go_simp; (try with_reducible rfl))); (simp only [Act.put]))
  (refine wpAnyH_take (i := 7) (v := ?_) rfl (by kernel_rfl) (by kernel_rfl) (by kernel_rfl) (fun _ _ _ h => h) (Or.inl ⟨by rfl, ?_⟩) (by assumption) ?_; rotate_left; (focus (intro w hSw; (try dsimp only at hSw); go_simp; (try with_reducible rfl))); (simp only [Act.put]))
  (refine wpAnyH_take (i := 8) (v := ?_) rfl (by kernel_rfl) (by kernel_rfl) (by kernel_rfl) (fun _ _ _ h => h) (Or.inl ⟨by rfl, ?_⟩) (by assumption) ?_; rotate_left; (focus (intro w hSw; (try dsimp only at hSw); go_simp; (try with_reducible rfl))); (simp only [Act.put]))
  (refine wpAnyH_take (i := 9) (v := ?_) rfl (by kernel_rfl) (by kernel_rfl) (by kernel_rfl) (fun _ _ _ h => h) (Or.inl ⟨by rfl, ?_⟩) (by assumption) ?_; rotate_left; (focus (intro w hSw; (try dsimp only at hSw); go_simp; (try with_reducible rfl))); (simp only [Act.put]))
  (refine wpAnyH_take (i := 10) (v := ?_) rfl (by kernel_rfl) (by kernel_rfl) (by kernel_rfl) (fun _ _ _ h => h) (Or.inl ⟨by rfl, ?_⟩) (by assumption) ?_; rotate_left; (focus (intro w hSw; (try dsimp only at hSw); go_simp; (try with_reducible rfl))); (simp only [Act.put]))
  (refine wpAnyH_take (i := 11) (v := ?_) rfl (by kernel_rfl) (by kernel_rfl) (by kernel_rfl) (fun _ _ _ h => h) (Or.inl ⟨by rfl, ?_⟩) (by assumption) ?_; rotate_left; (focus (intro w hSw; (try dsimp only at hSw); go_simp; (try with_reducible rfl))); (simp only [Act.put]))
  (refine wpAnyH_take (i := 12) (v := ?_) rfl (by kernel_rfl) (by kernel_rfl) (by kernel_rfl) (fun _ _ _ h => h) (Or.inl ⟨by rfl, ?_⟩) (by assumption) ?_; rotate_left; (focus (intro w hSw; (try dsimp only at hSw); go_simp; (try with_reducible rfl))); (simp only [Act.put]))
  refine wpAnyH_ready (rs := [13]) (by kernel_rfl) (by simp) ?_
  refine AllReadyH.cons rfl (fun K hK => ?_) AllReadyH.nil
  go_simp
  refine hK.out _ _ ⟨HYF.out.1.1, HYF.out.1.2, FF.out⟩ (fun hHeld => ?_)
  clear hK K
  try simp only [Act.put, List.setIfInBounds_toArray, List.set_cons_zero, List.set_cons_succ]
  (refine wpAnyH_take (i := 14) (v := ?_) rfl (by kernel_rfl) (by kernel_rfl) (by kernel_rfl) (fun _ _ _ h => h) (Or.inl ⟨by rfl, ?_⟩) (by assumption) ?_; rotate_left; (focus (intro w hSw; (try dsimp only at hSw); go_simp; (try with_reducible rfl))); (simp only [Act.put, List.setIfInBounds_toArray]))
  (refine wpAnyH_take (i := 15) (v := ?_) rfl (by kernel_rfl) (by kernel_rfl) (by kernel_rfl) (fun _ _ _ h => h) (Or.inl ⟨by rfl, ?_⟩) (by assumption) ?_; rotate_left; (focus (intro w hSw; (try dsimp only at hSw); go_simp; (try with_reducible rfl))); (simp only [Act.put]))
  (refine wpAnyH_take (i := 16) (v := ?_) rfl (by kernel_rfl) (by kernel_rfl) (by kernel_rfl) (fun _ _ _ h => h) (Or.inl ⟨by rfl, ?_⟩) (by assumption) ?_; rotate_left; (focus (intro w hSw; (try dsimp only at hSw); go_simp; (try with_reducible rfl))); (simp only [Act.put]))
  refine wpAnyH_done (by kernel_rfl) ?_ _
  change wpList _ _ _ [_] _ _
  go_wp2
  exact bodyPost_ret (v := .tuple #[.agg #[.int .i64 m, .string T], .int .i64 z0, .int .i64 z1, .int .i64 z2, .int .i64 z3]) (by simp [results, Try.results11, go_sem, k0, k1]) rfl ⟨m, T, _, _, _, _, rfl, hm, hT, HE, HF.out⟩
set_option maxHeartbeats 1600000 in
set_option maxRecDepth 100000 in
/-- A draw that is one draw of signs over a new cursor. -/
theorem drawQuads_any (v : Value) (n : Nat) (hn : n ≤ 9223372036854700000) (w : World) (hv : Bytes w v n w.heap.size) :
    Calls Try.prog 9 #[v] w fun e w' => ∃ (m : Nat) (T : ByteArray), e = .returned (sg m T) ∧ (m ≤ 6 ∨ m = 8) ∧ T.size ≤ 21 ∧ Below w.heap.size w w' := by
  have R0 := Lib.hid (outC_made w 0 ⟨#[]⟩ 25)
  have HA := Lib.hid ((Below.refl w.heap.size w).alloc (Nat.le_refl _) (.cells #[.int .i64 0, .string ⟨#[]⟩] 25))
  have HV := Lib.hid (bytes_up hv HA.out)
  clear hv
  go_enter Try.func9, Try.ntmps9
  go_wp2_with fail
  refine (new_any v n hn _ HV.out).mono ?_
  rintro e w1 ⟨b, rfl, hb, hv1, hc1, hb1⟩
  have hwb : w.heap.size < b := by simp at hb; omega
  have R1 := Lib.hid (R0.out.on hb1)
  have B1 := Lib.hid (HA.out.trans (hb1.mono HA.out.size))
  have V1 := Lib.hid (⟨hv1, hc1⟩ : _ ∧ _)
  clear hb1 hv1 hc1 hb
  go_wp2_with fail
  refine (l5Draw_any b v n _ V1.out.1 V1.out.2).mono ?_
  rintro e w2 ⟨m, T, rfl, hm, hT, hl2⟩
  have R2 := Lib.hid (outC_leaves R1.out hl2 (by omega))
  have B2 := Lib.hid (leaves_below hl2 (by omega) B1.out)
  clear hl2
  obtain ⟨⟨e0, e1⟩, z0, z1⟩ := R2.out
  obtain ⟨k0, k1⟩ := ret_sg e0 e1 (.int .i64 m) (.string T)
  go_wp2
  exact bodyPost_ret (v := .agg #[.int .i64 m, .string T]) (by simp [results, Try.results9, go_sem, k0, k1]) rfl ⟨m, T, rfl, hm, hT, (B2.out.setCell (by simp) _).setCell (by simp) _⟩
end Go.Proofs.Ytfjimdmoindepaa.Cur
/- FnQuads: the facts of its answer: both sets of a circuit, five elements have a four without an inner one, the inner element and its triangle. -/
namespace Go.Proofs.Ytfjimdmoindepaa.Sg
/-- How many elements a set has: the first k bits. -/
def pcF : Nat → Nat → Nat
  | 0, _ => 0
  | k + 1, m => m % 2 + pcF k (m / 2)
def sz (m : Nat) : Nat := pcF 7 m
theorem pcF_zero : ∀ k, pcF k 0 = 0
  | 0 => rfl
  | k + 1 => by unfold pcF; rw [Nat.zero_div, pcF_zero k]
theorem pcF_le : ∀ k m, pcF k m ≤ k
  | 0, _ => Nat.le_refl _
  | k + 1, m => by unfold pcF; have := pcF_le k (m / 2); omega
/-- Both sets of a full circuit of different elements below 7. -/
def halfB (a b c d : Nat) (p q r : Bool) : Bool :=
  let l := 2 ^ a + (if p then 2 ^ b else 0) + (if q then 2 ^ c else 0) + (if r then 2 ^ d else 0)
  let m := 0 + (if p then 0 else 2 ^ b) + (if q then 0 else 2 ^ c) + (if r then 0 else 2 ^ d)
  (a == b || a == c || a == d || b == c || b == d || c == d || (p && q && r)) ||
  ((l &&& m == 0) && (sz l + sz m == 4) && decide (1 ≤ sz l) && decide (sz l ≤ 3) && decide (l < 128) && decide (m < 128) && decide (0 < l) &&
   (decide (inn4 (1, if p then 1 else -1, if q then 1 else -1, if r then 1 else -1) a b c d < 0) == decide (sz l = 2)))
theorem halfB_all : ((List.range 7).all fun a => (List.range 7).all fun b => (List.range 7).all fun c => (List.range 7).all fun d => [true, false].all fun p => [true, false].all fun q => [true, false].all fun r => halfB a b c d p q r) = true := by decide +kernel
/-- Two elements exchanged turn the sign. -/
theorem sgnF_s1 (f : Int → Int → Int → Int) {a b c : Int} (h1 : a ≠ b) (h2 : a ≠ c) (h3 : b ≠ c) : sgnF f b a c = -(sgnF f a b c) := by
  unfold sgnF srt
  rcases (by omega : (a < b ∧ b < c) ∨ (a < c ∧ c < b) ∨ (b < a ∧ a < c) ∨ (b < c ∧ c < a) ∨ (c < a ∧ a < b) ∨ (c < b ∧ b < a)) with ⟨x, y⟩ | ⟨x, y⟩ | ⟨x, y⟩ | ⟨x, y⟩ | ⟨x, y⟩ | ⟨x, y⟩ <;>
    simp [x, y, Int.not_lt.2 (Int.le_of_lt x), Int.not_lt.2 (Int.le_of_lt y), Int.lt_trans x y, Int.not_lt.2 (Int.le_of_lt (Int.lt_trans x y))]
theorem sgnF_s2 (f : Int → Int → Int → Int) {a b c : Int} (h1 : a ≠ b) (h2 : a ≠ c) (h3 : b ≠ c) : sgnF f a c b = -(sgnF f a b c) := by
  unfold sgnF srt
  rcases (by omega : (a < b ∧ b < c) ∨ (a < c ∧ c < b) ∨ (b < a ∧ a < c) ∨ (b < c ∧ c < a) ∨ (c < a ∧ a < b) ∨ (c < b ∧ b < a)) with ⟨x, y⟩ | ⟨x, y⟩ | ⟨x, y⟩ | ⟨x, y⟩ | ⟨x, y⟩ | ⟨x, y⟩ <;>
    simp [x, y, Int.not_lt.2 (Int.le_of_lt x), Int.not_lt.2 (Int.le_of_lt y), Int.lt_trans x y, Int.not_lt.2 (Int.le_of_lt (Int.lt_trans x y))]
/-- A circuit by its four signs. -/
def cv4 (v0 v1 v2 v3 : Int) : Int × Int × Int × Int := (v0 * v0, -v1 * v0, v2 * v0, -v3 * v0)
def posV (x : Int × Int × Int × Int) : Bool := x.1 == 1 && (x.2.1 == 1 && (x.2.2.1 == 1 && x.2.2.2 == 1))
theorem posC_v {f : Int → Int → Int → Int} {a b c d v0 v1 v2 v3 : Int} (h0 : f b c d = v0) (h1 : f a c d = v1) (h2 : f a b d = v2) (h3 : f a b c = v3) : posC f a b c d = posV (cv4 v0 v1 v2 v3) := by
  unfold posC
  rw [cir_of h0 h1 h2 h3]
  rfl
theorem pos_swaps {v0 v1 v2 v3 : Int} (s0 : v0 = 1 ∨ v0 = -1) (s1 : v1 = 1 ∨ v1 = -1) (s2 : v2 = 1 ∨ v2 = -1) (s3 : v3 = 1 ∨ v3 = -1) :
    posV (cv4 v1 v0 (-v2) (-v3)) = posV (cv4 v0 v1 v2 v3) ∧ posV (cv4 (-v0) v2 v1 (-v3)) = posV (cv4 v0 v1 v2 v3) ∧ posV (cv4 (-v0) (-v1) v3 v2) = posV (cv4 v0 v1 v2 v3) := by
  rcases s0 with rfl | rfl <;> rcases s1 with rfl | rfl <;> rcases s2 with rfl | rfl <;> rcases s3 with rfl | rfl <;> exact ⟨by decide, by decide, by decide⟩
/-- Different elements below n. -/
def Dis (n a b c d : Nat) : Prop := a < n ∧ b < n ∧ c < n ∧ d < n ∧ a ≠ b ∧ a ≠ c ∧ a ≠ d ∧ b ≠ c ∧ b ≠ d ∧ c ≠ d
theorem pos_perm {n : Nat} {s : List UInt8} (h : arB n s = true) {a b c d : Nat} (hd : Dis n a b c d) :
    posC (sgnF (lookS n s)) b a c d = posC (sgnF (lookS n s)) a b c d ∧ posC (sgnF (lookS n s)) a c b d = posC (sgnF (lookS n s)) a b c d ∧ posC (sgnF (lookS n s)) a b d c = posC (sgnF (lookS n s)) a b c d := by
  obtain ⟨ha, hb, hc, hd, d1, d2, d3, d4, d5, d6⟩ := hd
  have s0 := sgn_one h hb hc hd d4 d6 d5
  have s1 := sgn_one h ha hc hd d2 d6 d3
  have s2 := sgn_one h ha hb hd d1 d5 d3
  have s3 := sgn_one h ha hb hc d1 d4 d2
  have t := pos_swaps s0 s1 s2 s3
  refine ⟨?_, ?_, ?_⟩
  · rw [posC_v rfl rfl (sgnF_s1 _ (by omega) (by omega) (by omega)) (sgnF_s1 _ (by omega) (by omega) (by omega)), t.1, posC_v rfl rfl rfl rfl]
  · rw [posC_v (sgnF_s1 _ (by omega) (by omega) (by omega)) rfl rfl (sgnF_s2 _ (by omega) (by omega) (by omega)), t.2.1, posC_v rfl rfl rfl rfl]
  · rw [posC_v (sgnF_s2 _ (by omega) (by omega) (by omega)) (sgnF_s2 _ (by omega) (by omega) (by omega)) rfl rfl, t.2.2, posC_v rfl rfl rfl rfl]
/-- Acyclic signs have no circuit of one kind, in whatever order the elements come. -/
theorem pos_any {n : Nat} {s : List UInt8} (h : aciB n s = true) {a b c d : Nat} (hd : Dis n a b c d) : posC (sgnF (lookS n s)) a b c d = false := by
  have h' := h
  unfold aciB at h'
  obtain ⟨hm, hac⟩ := Bool.and_eq_true_iff.1 h'
  have har := matB_ar hm
  obtain ⟨-, h7, -⟩ := arB_yes har
  rw [Int.toNat_natCast] at hac
  have S1 := (acB_iff (f := sgnF (lookS n s)) (show n ≤ 7 by omega)).1 hac
  have sw := fun {a b c d : Nat} (hd : Dis n a b c d) => pos_perm har hd
  clear h h' hm hac
  have S2 : ∀ a b c d : Nat, Dis n a b c d → a < b → b < c → b < d → posC (sgnF (lookS n s)) a b c d = false := fun a b c d hd h1 h2 h3 => by
    rcases (by unfold Dis at hd; omega : c < d ∨ d < c) with h4 | h4
    · exact S1 a b c d h1 h2 h4 hd.2.2.2.1
    · rw [← (sw hd).2.2]; exact S1 a b d c h1 h3 h4 hd.2.2.1
  have S3 : ∀ a b c d : Nat, Dis n a b c d → a < b → a < c → a < d → posC (sgnF (lookS n s)) a b c d = false := fun a b c d hd h1 h2 h3 => by
    rcases (by unfold Dis at hd; omega : (b < c ∧ b < d) ∨ (c < b ∧ c < d) ∨ (d < b ∧ d < c)) with ⟨h4, h5⟩ | ⟨h4, h5⟩ | ⟨h4, h5⟩
    · exact S2 a b c d hd h1 h4 h5
    · rw [← (sw hd).2.1]; exact S2 a c b d (by unfold Dis at hd ⊢; omega) h2 h4 h5
    · rw [← (sw hd).2.2, ← (sw (a := a) (b := b) (c := d) (d := c) (by unfold Dis at hd ⊢; omega)).2.1]; exact S2 a d b c (by unfold Dis at hd ⊢; omega) h3 h4 h5
  rcases (by unfold Dis at hd; omega : (a < b ∧ a < c ∧ a < d) ∨ (b < a ∧ b < c ∧ b < d) ∨ (c < a ∧ c < b ∧ c < d) ∨ (d < a ∧ d < b ∧ d < c)) with ⟨h1, h2, h3⟩ | ⟨h1, h2, h3⟩ | ⟨h1, h2, h3⟩ | ⟨h1, h2, h3⟩
  · exact S3 a b c d hd h1 h2 h3
  · rw [← (sw hd).1]; exact S3 b a c d (by unfold Dis at hd ⊢; omega) h1 h2 h3
  · rw [← (sw hd).2.1, ← (sw (a := a) (b := c) (c := b) (d := d) (by unfold Dis at hd ⊢; omega)).1]; exact S3 c a b d (by unfold Dis at hd ⊢; omega) h1 h2 h3
  · rw [← (sw hd).2.2, ← (sw (a := a) (b := b) (c := d) (d := c) (by unfold Dis at hd ⊢; omega)).2.1, ← (sw (a := a) (b := d) (c := b) (d := c) (by unfold Dis at hd ⊢; omega)).1]; exact S3 d a b c (by unfold Dis at hd ⊢; omega) h1 h2 h3
/-- Both sets of the circuit with the first two elements exchanged. -/
theorem sets_swap {v0 v1 v2 v3 : Int} (s0 : v0 = 1 ∨ v0 = -1) (s1 : v1 = 1 ∨ v1 = -1) (s2 : v2 = 1 ∨ v2 = -1) (s3 : v3 = 1 ∨ v3 = -1) (a b c d : Int) :
    sets4 (cv4 v1 v0 (-v2) (-v3)) b a c d = sets4 (cv4 v0 v1 v2 v3) a b c d ∨ sets4 (cv4 v1 v0 (-v2) (-v3)) b a c d = ((sets4 (cv4 v0 v1 v2 v3) a b c d).2, (sets4 (cv4 v0 v1 v2 v3) a b c d).1) := by
  have e1 : ((-1 : Int) = 1) = False := by simp
  rcases s0 with rfl | rfl <;> rcases s1 with rfl | rfl <;> rcases s2 with rfl | rfl <;> rcases s3 with rfl | rfl <;> simp [sets4, cv4, full, e1] <;> omega
/-- What FnQuads asks of both sets. -/
theorem split_facts {n : Int} {s : List UInt8} {a b c d : Int} (hpos : 0 < (splitZ n s a b c d).1) :
    ∃ l m : Nat, splitZ n s a b c d = ((l : Int), (m : Int)) ∧ l < 128 ∧ m < 128 ∧ 0 < l ∧ l &&& m = 0 ∧ sz l + sz m = 4 ∧ 1 ≤ sz l ∧ sz l ≤ 3 ∧
      decide (inn4 (cir (sgnF (ordF n s)) a b c d) a b c d < 0) = decide (sz l = 2) ∧ (splitZ n s b a c d = ((l : Int), (m : Int)) ∨ splitZ n s b a c d = ((m : Int), (l : Int))) := by
  cases h : aciB n s
  · rw [splitZ_no h] at hpos; exact absurd hpos (by decide)
  · obtain ⟨h3, h7⟩ := aciB_n h
    obtain ⟨n, rfl⟩ : ∃ x : Nat, n = x := ⟨n.toNat, by omega⟩
    have har := matB_ar (aciB_mat h)
    have hfull : full (cir (sgnF (lookS n s)) a b c d) = true := by
      cases hf : full (cir (sgnF (lookS n s)) a b c d)
      · unfold splitZ at hpos
        rw [ordF_yes h, sets4_no hf] at hpos
        exact absurd hpos (by decide)
      · rfl
    obtain ⟨⟨a0, a1⟩, ⟨b0, b1⟩, ⟨c0, c1⟩, ⟨d0, d1⟩, k1, k2, k3, k4, k5, k6⟩ := difB4.1 (dif_of_full har hfull)
    obtain ⟨a, rfl⟩ : ∃ x : Nat, a = x := ⟨a.toNat, by omega⟩
    obtain ⟨b, rfl⟩ : ∃ x : Nat, b = x := ⟨b.toNat, by omega⟩
    obtain ⟨c, rfl⟩ : ∃ x : Nat, c = x := ⟨c.toNat, by omega⟩
    obtain ⟨d, rfl⟩ : ∃ x : Nat, d = x := ⟨d.toNat, by omega⟩
    have hdis : Dis n a b c d := by unfold Dis; omega
    have hpn := pos_any h hdis
    obtain ⟨p, q, r, hx⟩ := cir_form har (by omega) (by omega) (by omega) (by omega) (show a ≠ b by omega) (show a ≠ c by omega) (show a ≠ d by omega) (show b ≠ c by omega) (show b ≠ d by omega) (show c ≠ d by omega)
    have hnp : (p && q && r) = false := by
      unfold posC at hpn
      rw [hx] at hpn
      cases p <;> cases q <;> cases r <;> simp_all [sg1]
    have key := halfB_all
    simp only [List.all_eq_true, List.mem_range] at key
    have key := key a (by omega) b (by omega) c (by omega) d (by omega) p (by cases p <;> simp) q (by cases q <;> simp) r (by cases r <;> simp)
    have hsw : splitZ n s b a c d = splitZ n s a b c d ∨ splitZ n s b a c d = ((splitZ n s a b c d).2, (splitZ n s a b c d).1) := by
      have t := sets_swap (sgn_one har hdis.2.1 hdis.2.2.1 hdis.2.2.2.1 (by omega) (by omega) (by omega)) (sgn_one har hdis.1 hdis.2.2.1 hdis.2.2.2.1 (by omega) (by omega) (by omega)) (sgn_one har hdis.1 hdis.2.1 hdis.2.2.2.1 (by omega) (by omega) (by omega)) (sgn_one har hdis.1 hdis.2.1 hdis.2.2.1 (by omega) (by omega) (by omega)) (a : Int) b c d
      unfold splitZ
      rw [ordF_yes h, cir_of (f := sgnF (lookS n s)) (a := b) (b := a) rfl rfl (sgnF_s1 _ (by omega) (by omega) (by omega)) (sgnF_s1 _ (by omega) (by omega) (by omega)), cir_of (f := sgnF (lookS n s)) (a := a) (b := b) rfl rfl rfl rfl]
      exact t
    have hl : splitZ n s a b c d = (((2 ^ a + (if p then 2 ^ b else 0) + (if q then 2 ^ c else 0) + (if r then 2 ^ d else 0) : Nat) : Int), ((0 + (if p then 0 else 2 ^ b) + (if q then 0 else 2 ^ c) + (if r then 0 else 2 ^ d) : Nat) : Int)) := by
      unfold splitZ
      rw [ordF_yes h, hx, sets4_of]
      unfold pw
      simp only [Int.toNat_natCast]
      cases p <;> cases q <;> cases r <;> simp
    have hin : inn4 (cir (sgnF (ordF n s)) a b c d) a b c d = inn4 (1, if p then 1 else -1, if q then 1 else -1, if r then 1 else -1) a b c d := by
      rw [ordF_yes h, hx]; rfl
    unfold halfB at key
    rw [hnp] at key
    simp only [Bool.or_eq_true, Bool.and_eq_true, beq_iff_eq, decide_eq_true_eq, Bool.false_eq_true, or_false] at key
    rcases key with key | ⟨⟨⟨⟨⟨⟨⟨q1, q2⟩, q3⟩, q4⟩, q5⟩, q6⟩, q7⟩, q8⟩
    · exfalso; omega
    · rw [hl] at hsw
      exact ⟨_, _, hl, q5, q6, q7, q1, q2, q3, q4, by rw [hin]; exact q8, hsw⟩
/-- Five elements without a circuit of one kind have a four without an inner one. -/
def patV (x : Int × Int × Int × Int) : Bool := x == (1, -1, -1, -1) || (x == (1, -1, 1, 1) || (x == (1, 1, -1, 1) || x == (1, 1, 1, -1)))
theorem five0 : ∀ x0 x1 x2 x3 x4 x5 x6 x7 x8 x9 : Bool,
    ((posV (cv4 (sg1 x6) (sg1 x3) (sg1 x1) (sg1 x0)) || posV (cv4 (sg1 x7) (sg1 x4) (sg1 x2) (sg1 x0)) || posV (cv4 (sg1 x8) (sg1 x5) (sg1 x2) (sg1 x1)) || posV (cv4 (sg1 x9) (sg1 x5) (sg1 x4) (sg1 x3)) || posV (cv4 (sg1 x9) (sg1 x8) (sg1 x7) (sg1 x6))) ||
    (!patV (cv4 (sg1 x6) (sg1 x3) (sg1 x1) (sg1 x0)) || !patV (cv4 (sg1 x7) (sg1 x4) (sg1 x2) (sg1 x0)) || !patV (cv4 (sg1 x8) (sg1 x5) (sg1 x2) (sg1 x1)) || !patV (cv4 (sg1 x9) (sg1 x5) (sg1 x4) (sg1 x3)) || !patV (cv4 (sg1 x9) (sg1 x8) (sg1 x7) (sg1 x6)))) = true := by decide +kernel
theorem hasI_pat {f : Int → Int → Int → Int} {a b c d : Nat} (h : patV (cir f a b c d) = false) : hasI f (a, b, c, d) = false := by
  unfold patV at h
  simp only [Bool.or_eq_false_iff, beq_eq_false_iff_ne] at h
  unfold hasI inn4
  rw [if_neg h.1, if_neg h.2.1, if_neg h.2.2.1, if_neg h.2.2.2]
  rfl
theorem sg1_of {x : Int} (h : x = 1 ∨ x = -1) : ∃ b, x = sg1 b := by
  rcases h with rfl | rfl
  · exact ⟨true, rfl⟩
  · exact ⟨false, rfl⟩
theorem quads_five {n : Int} {s : List UInt8} (h : aciB n s = true) (h5 : 5 ≤ n) : quadsL n s ≠ [] := by
  obtain ⟨h3, h7⟩ := aciB_n h
  obtain ⟨n, rfl⟩ : ∃ x : Nat, n = x := ⟨n.toNat, by omega⟩
  have har := matB_ar (aciB_mat h)
  have one := fun (i j k : Nat) (h1 : i < j) (h2 : j < k) (h3 : k < 5) => sg1_of (sgn_one har (x := i) (y := j) (z := k) (by omega) (by omega) (by omega) (by omega) (by omega) (by omega))
  obtain ⟨x0, e0⟩ := one 0 1 2 (by omega) (by omega) (by omega)
  obtain ⟨x1, e1⟩ := one 0 1 3 (by omega) (by omega) (by omega)
  obtain ⟨x2, e2⟩ := one 0 1 4 (by omega) (by omega) (by omega)
  obtain ⟨x3, e3⟩ := one 0 2 3 (by omega) (by omega) (by omega)
  obtain ⟨x4, e4⟩ := one 0 2 4 (by omega) (by omega) (by omega)
  obtain ⟨x5, e5⟩ := one 0 3 4 (by omega) (by omega) (by omega)
  obtain ⟨x6, e6⟩ := one 1 2 3 (by omega) (by omega) (by omega)
  obtain ⟨x7, e7⟩ := one 1 2 4 (by omega) (by omega) (by omega)
  obtain ⟨x8, e8⟩ := one 1 3 4 (by omega) (by omega) (by omega)
  obtain ⟨x9, e9⟩ := one 2 3 4 (by omega) (by omega) (by omega)
  have p := fun (a b c d : Nat) (h1 : a < b) (h2 : b < c) (h3 : c < d) (h4 : d < 5) => pos_any h (a := a) (b := b) (c := c) (d := d) (by unfold Dis; omega)
  have p0 := p 0 1 2 3 (by omega) (by omega) (by omega) (by omega)
  have p1 := p 0 1 2 4 (by omega) (by omega) (by omega) (by omega)
  have p2 := p 0 1 3 4 (by omega) (by omega) (by omega) (by omega)
  have p3 := p 0 2 3 4 (by omega) (by omega) (by omega) (by omega)
  have p4 := p 1 2 3 4 (by omega) (by omega) (by omega) (by omega)
  rw [posC_v e6 e3 e1 e0] at p0
  rw [posC_v e7 e4 e2 e0] at p1
  rw [posC_v e8 e5 e2 e1] at p2
  rw [posC_v e9 e5 e4 e3] at p3
  rw [posC_v e9 e8 e7 e6] at p4
  have key := five0 x0 x1 x2 x3 x4 x5 x6 x7 x8 x9
  rw [p0, p1, p2, p3, p4] at key
  simp only [Bool.or_self, Bool.false_or, Bool.or_eq_true, Bool.not_eq_true'] at key
  have fin : ∀ a b c d : Nat, a < b → b < c → c < d → d < 5 → patV (cir (sgnF (lookS n s)) a b c d) = false → quadsL n s ≠ [] := fun a b c d h1 h2 h3 h4 hp he => by
    have hm : (a, b, c, d) ∈ quads (sgnF (lookS n s)) n := List.mem_filter.2 ⟨fours_has (by omega) h1 h2 h3 (by omega), by rw [hasI_pat hp]; rfl⟩
    unfold quadsL at he
    rw [if_pos h, Int.toNat_natCast] at he
    rw [he] at hm
    exact absurd hm (by simp)
  rcases key with (((k | k) | k) | k) | k
  · exact fin 0 1 2 3 (by omega) (by omega) (by omega) (by omega) (by rw [cir_of e6 e3 e1 e0]; exact k)
  · exact fin 0 1 2 4 (by omega) (by omega) (by omega) (by omega) (by rw [cir_of e7 e4 e2 e0]; exact k)
  · exact fin 0 1 3 4 (by omega) (by omega) (by omega) (by omega) (by rw [cir_of e8 e5 e2 e1]; exact k)
  · exact fin 0 2 3 4 (by omega) (by omega) (by omega) (by omega) (by rw [cir_of e9 e5 e4 e3]; exact k)
  · exact fin 1 2 3 4 (by omega) (by omega) (by omega) (by omega) (by rw [cir_of e9 e8 e7 e6]; exact k)
/-- A four of the list has no inner element. -/
theorem quads_inner {n : Int} {s : List UInt8} {t : T4} (h : t ∈ quadsL n s) : inn4 (cir (sgnF (ordF n s)) t.1 t.2.1 t.2.2.1 t.2.2.2) t.1 t.2.1 t.2.2.1 t.2.2.2 = -1 := by
  cases ha : aciB n s
  · rw [quadsL_no ha] at h; exact absurd h (by simp)
  · unfold quadsL at h
    rw [if_pos ha] at h
    have := (List.mem_filter.1 h).2
    rw [ordF_yes ha]
    unfold hasI at this
    simpa using this
/-- An element inside a triangle: none of the triangle's elements is inside the one with it, and the triangle has an inner element. -/
theorem in_facts {n : Int} {s : List UInt8} {p i j k : Int} (h : isIn (cir (sgnF (ordF n s)) p i j k) = true) :
    isIn (cir (sgnF (ordF n s)) i p j k) = false ∧ 1 ≤ insN n s i j k := by
  have hxv : cir (sgnF (ordF n s)) p i j k = (1, -1, -1, -1) := by
    unfold isIn at h
    simp only [Bool.and_eq_true, beq_iff_eq] at h
    obtain ⟨h1, h2, h3, h4⟩ := h
    exact Prod.ext h1 (Prod.ext h2 (Prod.ext h3 h4))
  have hf0 : full (cir (sgnF (ordF n s)) p i j k) = true := by rw [hxv]; decide
  cases ha : aciB n s
  · rw [full_no ha] at hf0; cases hf0
  · obtain ⟨h3, h7⟩ := aciB_n ha
    obtain ⟨n, rfl⟩ : ∃ x : Nat, n = x := ⟨n.toNat, by omega⟩
    have hfull := hf0
    rw [ordF_yes ha] at hfull
    obtain ⟨⟨a0, a1⟩, ⟨b0, b1⟩, ⟨c0, c1⟩, ⟨d0, d1⟩, k1, k2, k3, k4, k5, k6⟩ := difB4.1 (dif_of_full (matB_ar (aciB_mat ha)) hfull)
    have hne := (full_iff.1 hf0).1
    have hcx := hxv
    unfold cir at hcx
    simp only [Prod.mk.injEq] at hcx
    obtain ⟨q0, q1, q2, q3⟩ := hcx
    constructor
    · rw [cir_of (f := sgnF (ordF n s)) (a := i) (b := p) (c := j) (d := k) rfl rfl (sgnF_s1 _ k1 k3 k5) (sgnF_s1 _ k1 k2 k4)]
      have b0 := sgnO_bd n s i j k
      have b1 := sgnO_bd n s p j k
      have b2 := sgnO_bd n s p i k
      generalize sgnF (ordF n s) i j k = v0 at *
      generalize sgnF (ordF n s) p j k = v1 at *
      generalize sgnF (ordF n s) p i k = v2 at *
      generalize sgnF (ordF n s) p i j = v3 at *
      rcases (by omega : v0 = 1 ∨ v0 = -1 ∨ v0 = 0) with rfl | rfl | rfl
      · rcases (by omega : v1 = 1 ∨ v1 = -1 ∨ v1 = 0) with rfl | rfl | rfl <;> rcases (by omega : v2 = 1 ∨ v2 = -1 ∨ v2 = 0) with rfl | rfl | rfl <;> simp_all [isIn]
      · rcases (by omega : v1 = 1 ∨ v1 = -1 ∨ v1 = 0) with rfl | rfl | rfl <;> rcases (by omega : v2 = 1 ∨ v2 = -1 ∨ v2 = 0) with rfl | rfl | rfl <;> simp_all [isIn]
      · exact absurd rfl hne
    · unfold insN
      rw [if_neg hne]
      have hc : 0 < cntI (sgnF (ordF n s)) i j k (n : Int).toNat := by
        unfold cntI
        rw [List.countP_pos_iff]
        refine ⟨p.toNat, List.mem_range.2 (by omega), ?_⟩
        rw [Int.toNat_of_nonneg a0]
        exact h
      omega
end Go.Proofs.Ytfjimdmoindepaa.Sg
/- What FnQuads uses of lists of lists and of sets: sameLists of equal ones, the number of a set's elements. -/
namespace Go.Proofs.Ytfjimdmoindepaa.NewII
open Go.RowKit NewI
set_option maxHeartbeats 1600000 in
set_option maxRecDepth 100000 in
theorem same_rows (lo hi b c lo2 hi2 b2 c2 : Nat) (gs gs2 : List (Nat × Nat)) (xss : List (List Int)) (hp : pre xss xss.length ≤ 100000) (hl : xss.length ≤ 100000) (w : World) (h1 : Rows w lo hi b gs xss (org xss)) (h2 : Rows w lo2 hi2 b2 gs2 xss (org xss)) :
    Calls Try.prog 14 #[.slice (some ⟨b, 0, none⟩) xss.length c, .slice (some ⟨b2, 0, none⟩) xss.length c2] w fun e w' => e = .returned (.bool true) ∧ Below w.heap.size w w' := by
  have hne : ((xss.length : Int) != (xss.length : Int)) = false := by simp
  have H1 := Lib.hid h1
  have H2 := Lib.hid h2
  clear h1 h2
  go_enter Try.func14, Try.ntmps14
  go_wp2
  go_loopw [5] (fun i wr => ∃ k : Nat, k ≤ xss.length ∧ i = .int .i64 k ∧ Below w.heap.size w wr) (fun i _ => xss.length - (intOf i).toNat)
  case atStart => exact ⟨0, Nat.zero_le _, rfl, Below.refl _ _⟩
  case round =>
    obtain ⟨k, hk, rfl, HB⟩ := hrel
    by_cases hlt : k < xss.length
    · obtain ⟨g, hg⟩ : ∃ g, gs[k]? = some g := ⟨_, List.getElem?_eq_getElem (by rw [H1.out.len]; exact hlt)⟩
      obtain ⟨g2, hg2⟩ : ∃ g, gs2[k]? = some g := ⟨_, List.getElem?_eq_getElem (by rw [H2.out.len]; exact hlt)⟩
      obtain ⟨-, -, -, r1⟩ := H1.out.row k g hg
      obtain ⟨-, -, -, r2⟩ := H2.out.row k g2 hg2
      have hlk := ln_le (xss := xss) hlt
      have hln : (xss.getD k []).length ≤ 1048576 := by
        have e : ln xss k = (xss.getD k []).length := rfl
        omega
      have HX : Hid (∀ W, Below w.heap.size w W → W.cell? ⟨b, k, none⟩ = some (rowV g (ln xss k)) ∧ W.cell? ⟨b2, k, none⟩ = some (rowV g2 (ln xss k))) := Lib.hid (fun W hW => ⟨by rw [hW.cell H1.out.lt]; exact H1.out.outer k g hg, by rw [hW.cell H2.out.lt]; exact H2.out.outer k g2 hg2⟩)
      have HCC : Hid (∀ W, (W.cell? ⟨b, k, none⟩ = some (rowV g (ln xss k)) ∧ W.cell? ⟨b2, k, none⟩ = some (rowV g2 (ln xss k)) ∧ Below w.heap.size w W) → Calls Try.prog 39 #[rowV g (ln xss k), rowV g2 (ln xss k)] W fun e w' => e = .returned (.bool true) ∧ w'.cell? ⟨b, k, none⟩ = some (rowV g (ln xss k)) ∧ w'.cell? ⟨b2, k, none⟩ = some (rowV g2 (ln xss k)) ∧ Below w.heap.size w w') := Lib.hid (fun W hW => (sameInts_eq (some ⟨g.1, 0, none⟩) (some ⟨g2.1, 0, none⟩) g.2 g2.2 0 (g.1 + 1) 0 (g2.1 + 1) (xss.getD k []) hln W (.inr ⟨_, rfl, Nat.zero_le _, Nat.lt_succ_self _, r1.on hW.2.2⟩) (.inr ⟨_, rfl, Nat.zero_le _, Nat.lt_succ_self _, r2.on hW.2.2⟩)).mono fun e w' ⟨he, hb⟩ => by
        have hb2 := hW.2.2.trans (hb.mono hW.2.2.size)
        exact ⟨he, (HX.out _ hb2).1, (HX.out _ hb2).2, hb2⟩)
      obtain ⟨x1, x2⟩ := HX.out _ HB
      clear r1 r2 hg hg2
      go_wp2
      go_region_held3 (fun W => W.cell? ⟨b, k, none⟩ = some (rowV g (ln xss k)) ∧ W.cell? ⟨b2, k, none⟩ = some (rowV g2 (ln xss k)) ∧ Below w.heap.size w W)
        (first | exact ⟨by assumption, by assumption, by assumption⟩ | exact ⟨by assumption, by assumption, Below.drew (by assumption)⟩)
        (first | (go_at_call 39; refine (HCC.out _ ?_).mono ?_; (first | exact ⟨by assumption, by assumption, by assumption⟩ | exact ⟨by assumption, by assumption, Below.drew (by assumption)⟩); rintro e' w' ⟨rfl, q1, q2, q3⟩))
      all_goals
        go_wp2
        exact ⟨⟨k + 1, by omega, by go_num, by assumption⟩, by simp only [intOf]; omega⟩
    · go_wp2
      go_ret
      exact ⟨rfl, HB⟩
set_option maxRecDepth 100000 in
theorem same0 (a a2 : Option Addr) (c c2 : Nat) (w : World) : Calls Try.prog 14 #[.slice a 0 c, .slice a2 0 c2] w fun e w' => e = .returned (.bool true) ∧ w = w' := by
  go_enter Try.func14, Try.ntmps14
  go_wp2
  refine wp_loop_rounds 1 ?_
  rw [rounds_succ]
  go_wp2
  go_ret
  exact ⟨rfl, rfl⟩
theorem same_lists (lo hi lo2 hi2 : Nat) (a a2 : Option Addr) (c c2 : Nat) (xss : List (List Int)) (hp : pre xss xss.length ≤ 100000) (hl : xss.length ≤ 100000) (w : World) (h1 : Lists w lo hi a xss (org xss)) (h2 : Lists w lo2 hi2 a2 xss (org xss)) :
    Calls Try.prog 14 #[.slice a xss.length c, .slice a2 xss.length c2] w fun e w' => e = .returned (.bool true) ∧ Below w.heap.size w w' := by
  rcases h1 with rfl | ⟨b, gs, rfl, h1⟩
  · exact (same0 a a2 c c2 w).mono fun _ _ ⟨he, hw⟩ => ⟨he, by subst hw; exact Below.refl _ _⟩
  · rcases h2 with rfl | ⟨b2, gs2, rfl, h2⟩
    · exact (same0 _ a2 c c2 w).mono fun _ _ ⟨he, hw⟩ => ⟨he, by subst hw; exact Below.refl _ _⟩
    · exact same_rows lo hi b c lo2 hi2 b2 c2 gs gs2 xss hp hl w h1 h2
end Go.Proofs.Ytfjimdmoindepaa.NewII
namespace Go.Proofs.Ytfjimdmoindepaa.Sg
open Go.RowKit
set_option maxHeartbeats 800000 in
set_option maxRecDepth 100000 in
theorem size_any (m : Nat) (hm : m < 128) (w : World) :
    Calls Try.prog 24 #[.int .i64 m] w fun e w' => e = .returned (.int .i64 (sz m : Nat)) ∧ w = w' := by
  have hsz : sz m ≤ 7 := pcF_le 7 m
  go_enter Try.func24, Try.ntmps24
  go_wp2
  go_loop [0, 3] (fun x c => ∃ (f y k : Nat), x = .int .i64 y ∧ c = .int .i64 k ∧ y < 2 ^ f ∧ f ≤ 7 ∧ k ≤ 7 ∧ Hid (k + pcF f y = sz m)) (fun x _ => (intOf x).toNat)
  case atStart => exact ⟨7, m, 0, rfl, rfl, hm, by omega, by omega, Lib.hid (by unfold sz; omega)⟩
  case round =>
    obtain ⟨f, y, k, rfl, rfl, hy, hf, hk, HK⟩ := hrel
    by_cases h0 : 0 < y
    · obtain ⟨f, rfl⟩ : ∃ g, f = g + 1 := ⟨f - 1, by
        rcases f with _ | f
        · simp at hy; omega
        · rfl⟩
      have hk2 : k + (y % 2 + pcF f (y / 2)) = sz m := HK.out
      have e1 : (y : Int).tmod 2 = ((y % 2 : Nat) : Int) := by rw [Int.tmod_eq_emod_of_nonneg (by omega)]; rfl
      have e2 : (y : Int).tdiv 2 = ((y / 2 : Nat) : Int) := by rw [Int.tdiv_eq_ediv_of_nonneg (by omega)]; rfl
      have hy2 : y < 128 := Nat.lt_of_lt_of_le hy (Nat.pow_le_pow_right (n := 2) (by omega) hf)
      have hd : y / 2 < 2 ^ f := by rw [Nat.div_lt_iff_lt_mul (by omega)]; rw [Nat.pow_succ] at hy; exact hy
      have H2 := Lib.hid hk2
      have hkb : k + y % 2 ≤ 7 := by omega
      clear HK hk2 hy
      go_wp2
      go_round
      case rel => exact ⟨f, y / 2, k + y % 2, by go_num, by go_num, hd, by omega, hkb, Lib.hid (by have := H2.out; omega)⟩
      case measure => simp only [intOf]; omega
    · obtain rfl : y = 0 := by omega
      have hk2 : k = sz m := by have := HK.out; rw [pcF_zero] at this; omega
      subst hk2
      go_wp2
      go_ret
      exact ⟨rfl, rfl⟩
end Go.Proofs.Ytfjimdmoindepaa.Sg
