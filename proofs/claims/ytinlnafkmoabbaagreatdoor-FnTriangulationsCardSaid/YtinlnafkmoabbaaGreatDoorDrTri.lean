/- The draws of stage 10. -/
import Derived.Test.YtinlnafkmoabbaaGreatDoorDrKrCase
import Derived.Test.YtinlnafkmoabbaaGreatDoorMgTc
namespace Go.Proofs.YtinlnafkmoabbaaGreatDoor.Cur
open Go.RowKit Pt Sg NewI
theorem triZ_bd (n : Int) (s : List UInt8) : (triZ n s).length ≤ 2097152 ∧ ∀ x ∈ triZ n s, x < 2097152 := by
  unfold triZ
  split
  · rename_i h
    obtain ⟨ha, h6⟩ := fitB_n h
    have he := Nat.pow_le_pow_right (n := 2) (by omega) (eN_bd n.toNat (by have := aciB_n ha; omega))
    have hl : (triL (cS n.toNat s) (eN n.toNat)).length ≤ 2 ^ eN n.toNat := allT_len _ _ _ _
    refine ⟨by omega, fun x hx => ?_⟩
    have := (mem_triL.1 hx).2
    omega
  · exact ⟨by simp, fun x hx => by cases hx⟩
/-- Which cells hold the elements of a list. -/
def LsN (g : Nat) (L : List Nat) (W : World) : Prop := ∀ j : Nat, j < L.length → W.cell? ⟨g, j, none⟩ = some (.int .i64 (L.getD j 0 : Nat))
theorem LsN.leaves {b n g : Nat} {v : Value} {L : List Nat} {W W' : World} (h : LsN g L W) (hl : Leaves b v n W W') (hne : g ≠ b) : LsN g L W' := fun j hj => by
  have hc := h j hj
  have hlt : g < W.heap.size := Kit.cell_lt hc
  rw [World.cell?_of_block (a := ⟨g, j, none⟩) (hl.2.2.block g hlt (fun e => hne (Option.some.inj e)))]
  exact hc
theorem LsN.on {g : Nat} {L : List Nat} {W W' : World} (h : LsN g L W) (hb : Below W.heap.size W W') : LsN g L W' := fun j hj => by
  have hc := h j hj
  rw [World.cell?_of_block (a := ⟨g, j, none⟩) (hb.block g (Kit.cell_lt hc))]
  exact hc
set_option maxHeartbeats 6400000 in
set_option maxRecDepth 100000 in
theorem l10Case_any (v : Value) (n : Nat) (hn : n ≤ 9223372036854700000) (w : World) (hv : Bytes w v n w.heap.size) :
    Calls Tryz.prog 111 #[v] w fun e w' => ∃ (m : Nat) (T : ByteArray) (j k : Int), e = .returned (.tuple #[sg m T, .int .i64 j, .int .i64 k]) ∧ (m ≤ 6 ∨ m = 8) ∧ T.size ≤ 21 ∧ (-1 ≤ j ∧ j ≤ 9999999) ∧ (-1 ≤ k ∧ k ≤ 9999999) ∧ Below w.heap.size w w' := by
  have R0 := Lib.hid (outC_made w 0 ⟨#[]⟩ 25)
  have HA := Lib.hid ((Below.refl w.heap.size w).alloc (Nat.le_refl _) (.cells #[.int .i64 0, .string ⟨#[]⟩] 25))
  have HV0 := Lib.hid hv
  have HV := Lib.hid (bytes_up hv HA.out)
  clear hv
  go_enter Tryz.func111, Tryz.ntmps111
  go_wp2_with fail
  refine (new_any v n hn _ HV.out).mono ?_
  rintro e w1 ⟨b, rfl, hb, hv1, hc1, hb1⟩
  have hwb : w.heap.size < b := by simp at hb; omega
  have R1 := Lib.hid (R0.out.on hb1)
  have B1 := Lib.hid (HA.out.trans (hb1.mono HA.out.size))
  have V1 := Lib.hid (⟨hv1, hc1⟩ : _ ∧ _)
  have hbw := hc1.lt
  clear hb1 hv1 hc1 hb HV
  have HON := Lib.hid (fun (m : Nat) (hm : m ≤ 2147483648) W (hl : Leaves b v n w1 W) => (once_any b v n m hm W hl.1 hl.2.1))
  have HBW := Lib.hid (fun (m : Nat) (hm : m ≤ 2147483648) W (hl : Leaves b v n w1 W) => (below_any b v n m hm W hl.1 hl.2.1))
  have HCA : Hid (∀ W, Leaves b v n w1 W → Calls Tryz.prog 96 #[v] W fun e w' => ∃ (m : Nat) (T : ByteArray) (k : Int), e = .returned (.tuple #[sg m T, .int .i64 k]) ∧ (m ≤ 6 ∨ m = 8) ∧ T.size ≤ 21 ∧ (-1 ≤ k ∧ k ≤ 9999999) ∧ Below W.heap.size W w') := Lib.hid (fun W hl => l9Case_any v n hn W (bytes_up HV0.out (leaves_below hl (by omega) B1.out)))
  clear HV0
  go_wp2_with fail
  refine (l5Draw_any b v n _ V1.out.1 V1.out.2).mono ?_
  rintro e w2 ⟨m, T, rfl, hm, hT, hl2⟩
  have R2 := Lib.hid (outC_leaves R1.out hl2 (by omega))
  have hw2 : w.heap.size < w2.heap.size := Kit.cell_lt R2.out.1.1
  have hb2 : b < w2.heap.size := hl2.lt
  have ST : Hid (OutC w.heap.size 0 ⟨#[]⟩ (w2.alloc (.cells #[.int .i64 m, .string T] 25)) ∧ OutC w2.heap.size m T (w2.alloc (.cells #[.int .i64 m, .string T] 25)) ∧ Leaves b v n w1 (w2.alloc (.cells #[.int .i64 m, .string T] 25))) := Lib.hid ⟨R2.out.on ((Below.refl w2.heap.size w2).alloc (Nat.le_refl _) _), outC_made w2 m T 25, hl2.alloc hbw _⟩
  have HT : Hid (∀ W W', (OutC w.heap.size 0 ⟨#[]⟩ W ∧ OutC w2.heap.size m T W ∧ Leaves b v n w1 W) → Leaves b v n W W' → (OutC w.heap.size 0 ⟨#[]⟩ W' ∧ OutC w2.heap.size m T W' ∧ Leaves b v n w1 W')) := Lib.hid (fun W W' h hl => ⟨outC_leaves h.1 hl (by omega), outC_leaves h.2.1 hl (by omega), h.2.2.trans hl⟩)
  have HB : Hid (∀ W W', (OutC w.heap.size 0 ⟨#[]⟩ W ∧ OutC w2.heap.size m T W ∧ Leaves b v n w1 W) → Below W.heap.size W W' → (OutC w.heap.size 0 ⟨#[]⟩ W' ∧ OutC w2.heap.size m T W' ∧ Leaves b v n w1 W')) := Lib.hid (fun W W' h hl => ⟨h.1.on hl, h.2.1.on hl, h.2.2.ext (hl.mono h.2.2.2.2.size) hbw⟩)
  clear hl2 R0 R1 R2 V1 HA
  have HTR := Lib.hid (fun W => specTris (m : Int) T (by omega) W)
  obtain ⟨hL1, hL2⟩ := triZ_bd (m : Int) T.data.toList
  generalize triZ (m : Int) T.data.toList = L at HTR hL1 hL2
  obtain ⟨-, ⟨⟨o0, o1⟩, -⟩, -⟩ := ST.out
  go_wp2_with fail
  refine (HTR.out _).mono ?_
  rintro e w3 ⟨⟨a, c, rfl, hnew⟩, hb3⟩
  have ST3 := Lib.hid (HB.out _ _ ST.out hb3)
  clear o0 o1 HTR
  have hLs : L ≠ [] → ∃ g, a = some ⟨g, 0, none⟩ ∧ w2.heap.size < g ∧ LsN g L w3 := fun hne => by
    rcases hnew with h | ⟨g, h1, h2, -, h4⟩
    · exact absurd (List.eq_nil_of_length_eq_zero (by rw [zl_length] at h; exact h)) hne
    · refine ⟨g, h1, by simp at h2; omega, fun j hj => ?_⟩
      rw [h4.cell j (by rw [zl_length]; exact hj)]
      unfold zc zl
      rw [List.getD_eq_getElem?_getD, List.getElem?_map, List.getD_eq_getElem?_getD, List.getElem?_eq_getElem hj]
      rfl
  rw [zl_length]
  clear hnew hb3 ST
  have HLS := Lib.hid hLs
  clear hLs
  by_cases h0 : L = []
  · subst h0
    clear HLS
    go_wp2_with fail
    refine (HCA.out _ ST3.out.2.2).mono ?_
    rintro e w5 ⟨m', T', k', rfl, hm', hT', hk', hb5⟩
    have ST5 := Lib.hid (HB.out _ _ ST3.out hb5)
    have hal := (Below.refl w5.heap.size w5).alloc (Nat.le_refl _) (.cells #[.int .i64 m', .string T'] 25)
    have ST6 := Lib.hid (HB.out _ _ ST5.out hal)
    have Y6 := Lib.hid (outC_made w5 m' T' 25)
    clear hb5 hal ST5 ST3
    obtain ⟨⟨⟨e0, e1⟩, z0, z1⟩, -, hlv⟩ := ST6.out
    have BF := Lib.hid (leaves_below hlv (by omega) B1.out)
    clear hlv
    obtain ⟨⟨y0, y1⟩, -⟩ := Y6.out
    obtain ⟨k0, k1⟩ := ret_sg e0 e1 (.int .i64 m') (.string T')
    have HF := Lib.hid ((BF.out.setCell (p := ⟨w.heap.size, 0, none⟩) (by simp) (.int .i64 m')).setCell (p := ⟨w.heap.size, 1, none⟩) (by simp) (.string T'))
    go_wp2
    exact bodyPost_ret (v := .tuple #[.agg #[.int .i64 m', .string T'], .int .i64 k', .int .i64 k']) (by simp [results, Tryz.results111, go_sem, k0, k1]) rfl ⟨m', T', k', k', rfl, hm', hT', hk', hk', HF.out⟩
  · obtain ⟨g, rfl, hg, hls⟩ := HLS.out h0
    clear HLS
    have LS := Lib.hid hls
    clear hls
    have hq0 : L.length ≠ 0 := fun h => h0 (List.eq_nil_of_length_eq_zero h)
    have hq1 : (((L.length : Nat) : Int) == 0) = false := by simp; exact h0
    clear h0
    obtain ⟨q, hq⟩ : ∃ q : Nat, L.length = q := ⟨_, rfl⟩
    rw [hq] at hq0 hq1 hL1 ⊢
    go_wp2_with fail
    refine (HON.out 8 (by omega) _ ST3.out.2.2).mono ?_
    rintro e w4 ⟨t, rfl, hl⟩
    have ST4 := Lib.hid (HT.out _ _ ST3.out hl)
    have LS4 := Lib.hid (LS.out.leaves hl (by omega))
    clear hl ST3 LS
    cases t
    · go_wp2_with fail
      have STd : Hid (OutC w.heap.size 0 ⟨#[]⟩ w4.drew ∧ OutC w2.heap.size m T w4.drew ∧ Leaves b v n w1 w4.drew) := Lib.hid ⟨ST4.out.1, ST4.out.2.1, ST4.out.2.2.drew⟩
      have LSd : Hid (LsN g L w4.drew) := Lib.hid (LS4.out.on (Below.refl _ _).drew)
      have hS0 : w4.drew.cell? ⟨w2.heap.size, 0, none⟩ = some (.int .i64 m) ∧ w4.drew.cell? ⟨w2.heap.size, 1, none⟩ = some (.string T) ∧ LsN g L w4.drew := ⟨STd.out.2.1.1.1, STd.out.2.1.1.2, LSd.out⟩
      refine LastB.wp_region_last' (S := fun W => W.cell? ⟨w2.heap.size, 0, none⟩ = some (.int .i64 m) ∧ W.cell? ⟨w2.heap.size, 1, none⟩ = some (.string T) ∧ LsN g L W) 17 _ rfl rfl (by kernel_rfl) (by kernel_rfl) hS0 (fun hHeld => ?_)
      clear hS0 ST4 LS4
      generalize w4.drew = wd at *
      simp only [List.take_succ_cons, List.take_zero]
      (refine wpAnyH_take (i := 0) (v := ?_) rfl (by kernel_rfl) (by kernel_rfl) (by kernel_rfl) (fun _ _ _ h => h) (Or.inl ⟨by rfl, ?_⟩) (by assumption) ?_; rotate_left; (focus (intro w hSw; (try dsimp only at hSw); go_simp; (try with_reducible rfl))); (try simp only [Act.put, List.setIfInBounds_toArray]))
      (refine wpAnyH_take (i := 1) (v := ?_) rfl (by kernel_rfl) (by kernel_rfl) (by kernel_rfl) (fun _ _ _ h => h) (Or.inl ⟨by rfl, ?_⟩) (by assumption) ?_; rotate_left; (focus (intro w hSw; (try dsimp only at hSw); go_simp; (try with_reducible rfl))); (try simp only [Act.put]))
      (refine wpAnyH_take (i := 2) (v := ?_) rfl (by kernel_rfl) (by kernel_rfl) (by kernel_rfl) (fun _ _ _ h => h) (Or.inl ⟨by rfl, ?_⟩) (by assumption) ?_; rotate_left; (focus (intro w hSw; (try dsimp only at hSw); go_simp; (try with_reducible rfl))); (try simp only [Act.put]))
      (refine wpAnyH_take (i := 3) (v := ?_) rfl (by kernel_rfl) (by kernel_rfl) (by kernel_rfl) (fun _ _ _ h => h) (Or.inl ⟨by rfl, ?_⟩) (by assumption) ?_; rotate_left; (focus (intro w hSw; (try dsimp only at hSw); go_simp; (try with_reducible rfl))); (try simp only [Act.put]))
      (refine wpAnyH_take (i := 4) (v := ?_) rfl (by kernel_rfl) (by kernel_rfl) (by kernel_rfl) (fun _ _ _ h => h) (Or.inl ⟨by rfl, ?_⟩) (by assumption) ?_; rotate_left; (focus (intro w hSw; (try dsimp only at hSw); go_simp; (try with_reducible rfl))); (try simp only [Act.put]))
      (refine wpAnyH_take (i := 8) (v := ?_) rfl (by kernel_rfl) (by kernel_rfl) (by kernel_rfl) (fun _ _ _ h => h) (Or.inl ⟨by rfl, ?_⟩) (by assumption) ?_; rotate_left; (focus (intro w hSw; (try dsimp only at hSw); go_simp; (try with_reducible rfl))); (try simp only [Act.put]))
      (refine wpAnyH_take (i := 9) (v := ?_) rfl (by kernel_rfl) (by kernel_rfl) (by kernel_rfl) (fun _ _ _ h => h) (Or.inl ⟨by rfl, ?_⟩) (by assumption) ?_; rotate_left; (focus (intro w hSw; (try dsimp only at hSw); go_simp; (try with_reducible rfl))); (try simp only [Act.put]))
      (refine wpAnyH_take (i := 10) (v := ?_) rfl (by kernel_rfl) (by kernel_rfl) (by kernel_rfl) (fun _ _ _ h => h) (Or.inl ⟨by rfl, ?_⟩) (by assumption) ?_; rotate_left; (focus (intro w hSw; (try dsimp only at hSw); go_simp; (try with_reducible rfl))); (try simp only [Act.put]))
      (refine wpAnyH_take (i := 11) (v := ?_) rfl (by kernel_rfl) (by kernel_rfl) (by kernel_rfl) (fun _ _ _ h => h) (Or.inl ⟨by rfl, ?_⟩) (by assumption) ?_; rotate_left; (focus (intro w hSw; (try dsimp only at hSw); go_simp; (try with_reducible rfl))); (try simp only [Act.put]))
      refine wpAnyH_ready (rs := [5]) (by kernel_rfl) (by simp) ?_
      refine AllReadyH.cons rfl (fun K hK => ?_) AllReadyH.nil
      go_simp
      refine (HBW.out q (by omega) _ STd.out.2.2).mono ?_
      rintro e w5 ⟨r, hr, rfl, hl⟩
      have STw5 := Lib.hid (HT.out _ _ STd.out hl)
      have LSw5 := Lib.hid (LSd.out.leaves hl (by omega))
      have hr' : r < q := by omega
      clear hl hr STd LSd
      refine hK.out _ _ ⟨STw5.out.2.1.1.1, STw5.out.2.1.1.2, LSw5.out⟩ (fun hHeld => ?_)
      clear hK K
      try simp only [Act.put, List.setIfInBounds_toArray, List.set_cons_zero, List.set_cons_succ]
      (refine wpAnyH_take (i := 6) (v := .pointer (some ⟨g, r, none⟩)) rfl (by kernel_rfl) (by kernel_rfl) (by kernel_rfl) (fun _ _ _ h => h) (Or.inl ⟨by rfl, ?_⟩) (by assumption) ?_; (focus (intro w hSw; (try dsimp only at hSw); go_simp; (try rfl))); (try simp only [Act.put, List.setIfInBounds_toArray]))
      obtain ⟨x1, hex1, hx1⟩ : ∃ x : Nat, L.getD r 0 = x ∧ x < 2097152 := ⟨_, rfl, by rw [List.getD_eq_getElem?_getD, List.getElem?_eq_getElem (by omega)]; exact hL2 _ (List.getElem_mem _)⟩
      (refine wpAnyH_take (i := 7) (v := .int .i64 (x1 : Nat)) rfl (by kernel_rfl) (by kernel_rfl) (by kernel_rfl) (fun _ _ _ h => h) (Or.inl ⟨by rfl, ?_⟩) (by assumption) ?_; (focus (intro w hSw; (try dsimp only at hSw); have hc := hSw.2.2 r (by omega); rw [hex1] at hc; go_simp; (try rfl))); (try simp only [Act.put]))
      refine wpAnyH_ready (rs := [12]) (by kernel_rfl) (by simp) ?_
      refine AllReadyH.cons rfl (fun K hK => ?_) AllReadyH.nil
      go_simp
      refine (HBW.out q (by omega) _ STw5.out.2.2).mono ?_
      rintro e w6 ⟨u, hu, rfl, hl⟩
      have STw6 := Lib.hid (HT.out _ _ STw5.out hl)
      have LSw6 := Lib.hid (LSw5.out.leaves hl (by omega))
      have hu' : u < q := by omega
      clear hl hu STw5 LSw5
      refine hK.out _ _ ⟨STw6.out.2.1.1.1, STw6.out.2.1.1.2, LSw6.out⟩ (fun hHeld => ?_)
      clear hK K
      try simp only [Act.put, List.setIfInBounds_toArray, List.set_cons_zero, List.set_cons_succ]
      (refine wpAnyH_take (i := 13) (v := .pointer (some ⟨g, u, none⟩)) rfl (by kernel_rfl) (by kernel_rfl) (by kernel_rfl) (fun _ _ _ h => h) (Or.inl ⟨by rfl, ?_⟩) (by assumption) ?_; (focus (intro w hSw; (try dsimp only at hSw); go_simp; (try rfl))); (try simp only [Act.put, List.setIfInBounds_toArray]))
      obtain ⟨x2, hex2, hx2⟩ : ∃ x : Nat, L.getD u 0 = x ∧ x < 2097152 := ⟨_, rfl, by rw [List.getD_eq_getElem?_getD, List.getElem?_eq_getElem (by omega)]; exact hL2 _ (List.getElem_mem _)⟩
      (refine wpAnyH_take (i := 14) (v := .int .i64 (x2 : Nat)) rfl (by kernel_rfl) (by kernel_rfl) (by kernel_rfl) (fun _ _ _ h => h) (Or.inl ⟨by rfl, ?_⟩) (by assumption) ?_; (focus (intro w hSw; (try dsimp only at hSw); have hc := hSw.2.2 u (by omega); rw [hex2] at hc; go_simp; (try rfl))); (try simp only [Act.put]))
      obtain ⟨⟨⟨e0, e1⟩, z0, z1⟩, hsb, hlv⟩ := STw6.out
      have BF := Lib.hid (leaves_below hlv (by omega) B1.out)
      clear hlv
      obtain ⟨k0, k1⟩ := ret_sg e0 e1 (.int .i64 m) (.string T)
      have HYF := Lib.hid (outC_off (outC_off hsb (so := w.heap.size) (by omega) 0 (.int .i64 m)) (so := w.heap.size) (by omega) 1 (.string T))
      clear hsb
      have HF := Lib.hid ((BF.out.setCell (p := ⟨w.heap.size, 0, none⟩) (by simp) (.int .i64 m)).setCell (p := ⟨w.heap.size, 1, none⟩) (by simp) (.string T))
      have HLF : Hid (LsN g L ((w6.setCell ⟨w.heap.size, 0, none⟩ (.int .i64 m)).setCell ⟨w.heap.size, 1, none⟩ (.string T))) := Lib.hid (fun j hj => by rw [World.cell?_setCell_other _ _ _ _ (fun he => by injection he with h1 h2; omega), World.cell?_setCell_other _ _ _ _ (fun he => by injection he with h1 h2; omega)]; exact LSw6.out j hj)
      refine wpAnyH_ready (rs := [15]) (by kernel_rfl) (by simp) ?_
      refine AllReadyH.cons rfl (fun K hK => ?_) AllReadyH.nil
      go_simp
      refine hK.out _ _ ⟨HYF.out.1.1, HYF.out.1.2, HLF.out⟩ (fun hHeld => ?_)
      clear hK K
      try simp only [Act.put, List.setIfInBounds_toArray, List.set_cons_zero, List.set_cons_succ]
      (refine wpAnyH_take (i := 16) (v := ?_) rfl (by kernel_rfl) (by kernel_rfl) (by kernel_rfl) (fun _ _ _ h => h) (Or.inl ⟨by rfl, ?_⟩) (by assumption) ?_; rotate_left; (focus (intro w hSw; (try dsimp only at hSw); go_simp; (try with_reducible rfl))); (try simp only [Act.put, List.setIfInBounds_toArray]))
      refine wpAnyH_done (by kernel_rfl) ?_ _
      change wpList _ _ _ [_] _ _
      go_wp2
      exact bodyPost_ret (v := .tuple #[.agg #[.int .i64 m, .string T], .int .i64 x1, .int .i64 x2]) (by simp [results, Tryz.results111, go_sem, k0, k1]) rfl ⟨m, T, x1, x2, rfl, hm, hT, by omega, by omega, HF.out⟩
    · go_wp2_with fail
      refine (HCA.out _ ST4.out.2.2).mono ?_
      rintro e w5 ⟨m', T', k', rfl, hm', hT', hk', hb5⟩
      have ST5 := Lib.hid (HB.out _ _ ST4.out hb5)
      have hal := (Below.refl w5.heap.size w5).alloc (Nat.le_refl _) (.cells #[.int .i64 m', .string T'] 25)
      have ST6 := Lib.hid (HB.out _ _ ST5.out hal)
      have Y6 := Lib.hid (outC_made w5 m' T' 25)
      clear hb5 hal ST5 ST4
      obtain ⟨⟨⟨e0, e1⟩, z0, z1⟩, -, hlv⟩ := ST6.out
      have BF := Lib.hid (leaves_below hlv (by omega) B1.out)
      clear hlv
      obtain ⟨⟨y0, y1⟩, -⟩ := Y6.out
      obtain ⟨k0, k1⟩ := ret_sg e0 e1 (.int .i64 m') (.string T')
      have HF := Lib.hid ((BF.out.setCell (p := ⟨w.heap.size, 0, none⟩) (by simp) (.int .i64 m')).setCell (p := ⟨w.heap.size, 1, none⟩) (by simp) (.string T'))
      go_wp2
      exact bodyPost_ret (v := .tuple #[.agg #[.int .i64 m', .string T'], .int .i64 k', .int .i64 k']) (by simp [results, Tryz.results111, go_sem, k0, k1]) rfl ⟨m', T', k', k', rfl, hm', hT', hk', hk', HF.out⟩
set_option maxHeartbeats 1600000 in
set_option maxRecDepth 100000 in
theorem drawDist_any (v : Value) (n : Nat) (hn : n ≤ 9223372036854700000) (w : World) (hv : Bytes w v n w.heap.size) :
    Calls Tryz.prog 56 #[v] w fun e w' => ∃ (m : Nat) (T : ByteArray) (j k : Int), e = .returned (.tuple #[sg m T, .int .i64 j, .int .i64 k]) ∧ (m ≤ 6 ∨ m = 8) ∧ T.size ≤ 21 ∧ (-1 ≤ j ∧ j ≤ 9999999) ∧ (-1 ≤ k ∧ k ≤ 9999999) ∧ Below w.heap.size w w' := by
  have R0 := Lib.hid (outC_made w 0 ⟨#[]⟩ 25)
  have HA := Lib.hid ((Below.refl w.heap.size w).alloc (Nat.le_refl _) (.cells #[.int .i64 0, .string ⟨#[]⟩] 25))
  have HV := Lib.hid (bytes_up hv HA.out)
  clear hv
  go_enter Tryz.func56, Tryz.ntmps56
  go_wp2_with fail
  refine (l10Case_any v n hn _ HV.out).mono ?_
  rintro e w1 ⟨m, T, j, k, rfl, hm, hT, hj, hk, hb1⟩
  have R1 := Lib.hid (R0.out.on hb1)
  have B1 := Lib.hid (HA.out.trans (hb1.mono HA.out.size))
  have hal := (Below.refl w1.heap.size w1).alloc (Nat.le_refl _) (.cells #[.int .i64 m, .string T] 25)
  have R2 := Lib.hid (R1.out.on hal)
  have B2 := Lib.hid (B1.out.trans (hal.mono B1.out.size))
  have Y2 := Lib.hid (outC_made w1 m T 25)
  clear hb1 hal
  obtain ⟨⟨e0, e1⟩, z0, z1⟩ := R2.out
  obtain ⟨⟨y0, y1⟩, -⟩ := Y2.out
  obtain ⟨k0, k1⟩ := ret_sg e0 e1 (.int .i64 m) (.string T)
  have HF := Lib.hid ((B2.out.setCell (p := ⟨w.heap.size, 0, none⟩) (by simp) (.int .i64 m)).setCell (p := ⟨w.heap.size, 1, none⟩) (by simp) (.string T))
  go_wp2
  exact bodyPost_ret (v := .tuple #[.agg #[.int .i64 m, .string T], .int .i64 j, .int .i64 k]) (by simp [results, Tryz.results56, go_sem, k0, k1]) rfl ⟨m, T, j, k, rfl, hm, hT, hj, hk, HF.out⟩
set_option maxHeartbeats 1600000 in
set_option maxRecDepth 100000 in
theorem drawText_any (v : Value) (n : Nat) (hn : n ≤ 9223372036854700000) (w : World) (hv : Bytes w v n w.heap.size) :
    Calls Tryz.prog 58 #[v] w fun e w' => ∃ x y : Int, e = .returned (.tuple #[.int .i64 x, .int .i64 y]) ∧ (2 ≤ x ∧ x ≤ 8) ∧ (-1 ≤ y ∧ y ≤ 1100) ∧ Below w.heap.size w w' := by
  go_enter Tryz.func58, Tryz.ntmps58
  go_wp2_with fail
  refine (new_any v n hn _ hv).mono ?_
  rintro e w1 ⟨b, rfl, hb, hv1, hc1, hb1⟩
  have B1 := Lib.hid hb1
  have HBW := Lib.hid (fun (m : Nat) (hm : m ≤ 2147483648) W (hl : Leaves b v n w1 W) => (below_any b v n m hm W hl.1 hl.2.1))
  have HON := Lib.hid (fun (m : Nat) (hm : m ≤ 2147483648) W (hl : Leaves b v n w1 W) => (once_any b v n m hm W hl.1 hl.2.1))
  have L1 := Lib.hid (Leaves.refl hv1 hc1)
  clear hb1 hv1 hc1
  go_wp2_with fail
  refine (HBW.out 6 (by omega) _ L1.out).mono ?_
  rintro e w2 ⟨x, hx, rfl, hl2⟩
  have hx6 : x ≤ 6 := by omega
  have L2 := Lib.hid (L1.out.trans hl2)
  clear hl2 hx L1
  go_wp2_with fail
  refine (HBW.out 1100 (by omega) _ L2.out).mono ?_
  rintro e w3 ⟨y, hy, rfl, hl3⟩
  have hy7 : y ≤ 1100 := by omega
  have L3 := Lib.hid (L2.out.trans hl3)
  clear hl3 hy L2
  go_wp2_with fail
  refine (HON.out 14 (by omega) _ L3.out).mono ?_
  rintro e w4 ⟨q, rfl, hl4⟩
  have L4 := Lib.hid (L3.out.trans hl4)
  clear hl4 L3
  go_wp2_with fail
  refine (bit_any q _).mono ?_
  rintro e w' ⟨rfl, rfl⟩
  have hq : bitI q = 0 ∨ bitI q = 1 := by cases q <;> simp [bitI]
  generalize bitI q = c at hq ⊢
  have e1 : IntKind.i64.wrap (2 + (x : Int)) = 2 + x := IntWalk.i64_in _ (by omega)
  have e2 : IntKind.i64.wrap ((y : Int) - c) = y - c := IntWalk.i64_in _ (by omega)
  have HF := Lib.hid (leaves_below L4.out hb B1.out)
  go_wp2
  exact bodyPost_ret (v := .tuple #[.int .i64 (2 + x), .int .i64 (y - c)]) (by simp [results, Tryz.results58, go_sem]) rfl ⟨_, _, rfl, by omega, by omega, HF.out⟩
set_option maxHeartbeats 1600000 in
set_option maxRecDepth 100000 in
theorem drawFlip_any (v : Value) (n : Nat) (hn : n ≤ 9223372036854700000) (w : World) (hv : Bytes w v n w.heap.size) :
    Calls Tryz.prog 53 #[v] w fun e w' => ∃ (m : Nat) (T : ByteArray) (j k : Int), e = .returned (.tuple #[sg m T, .int .i64 j, .int .i64 k]) ∧ (m ≤ 6 ∨ m = 8) ∧ T.size ≤ 21 ∧ (-1 ≤ j ∧ j ≤ 9999999) ∧ (-1 ≤ k ∧ k ≤ 16) ∧ Below w.heap.size w w' := by
  have R0 := Lib.hid (outC_made w 0 ⟨#[]⟩ 25)
  have HA := Lib.hid ((Below.refl w.heap.size w).alloc (Nat.le_refl _) (.cells #[.int .i64 0, .string ⟨#[]⟩] 25))
  have HV := Lib.hid (bytes_up hv HA.out)
  clear hv
  go_enter Tryz.func53, Tryz.ntmps53
  go_wp2_with fail
  refine (l10Case_any v n hn _ HV.out).mono ?_
  rintro e w1 ⟨m, T, j, k, rfl, hm, hT, hj, hk, hb1⟩
  have R1 := Lib.hid (R0.out.on hb1)
  have V1 := Lib.hid (bytes_up HV.out hb1)
  have B1 := Lib.hid (HA.out.trans (hb1.mono HA.out.size))
  have hal := (Below.refl w1.heap.size w1).alloc (Nat.le_refl _) (.cells #[.int .i64 m, .string T] 25)
  have R2 := Lib.hid (R1.out.on hal)
  have V2 := Lib.hid (bytes_up V1.out hal)
  have B2 := Lib.hid (B1.out.trans (hal.mono B1.out.size))
  have Y2 := Lib.hid (outC_made w1 m T 25)
  have hw1 : w.heap.size < w1.heap.size := Kit.cell_lt R1.out.1.1
  clear hb1 hal hk R0 R1 V1 HV HA
  go_wp2_with fail
  refine (new_any v n hn _ V2.out).mono ?_
  rintro e w2 ⟨b, rfl, hb, hv1, hc1, hb1⟩
  have hwb : w1.heap.size < b := by simp at hb; omega
  have R3 := R2.out.on hb1
  have Y3 := Y2.out.on hb1
  have B3 := Lib.hid (B2.out.trans (hb1.mono B2.out.size))
  have HON := Lib.hid (fun (m : Nat) (hm : m ≤ 2147483648) W (hl : Leaves b v n w2 W) => (once_any b v n m hm W hl.1 hl.2.1))
  have HBW := Lib.hid (fun (m : Nat) (hm : m ≤ 2147483648) W (hl : Leaves b v n w2 W) => (below_any b v n m hm W hl.1 hl.2.1))
  have ST : Hid (OutC w.heap.size 0 ⟨#[]⟩ w2 ∧ OutC w1.heap.size m T w2 ∧ Leaves b v n w2 w2) := Lib.hid ⟨R3, Y3, Leaves.refl hv1 hc1⟩
  have HT : Hid (∀ W W', (OutC w.heap.size 0 ⟨#[]⟩ W ∧ OutC w1.heap.size m T W ∧ Leaves b v n w2 W) → Leaves b v n W W' → (OutC w.heap.size 0 ⟨#[]⟩ W' ∧ OutC w1.heap.size m T W' ∧ Leaves b v n w2 W')) := Lib.hid (fun W W' h hl => ⟨outC_leaves h.1 hl (by omega), outC_leaves h.2.1 hl (by omega), h.2.2.trans hl⟩)
  clear R2 V2 Y2 R3 Y3 B2 hv1 hc1 hb1 hb
  go_wp2_with fail
  have STd : Hid (OutC w.heap.size 0 ⟨#[]⟩ w2.drew ∧ OutC w1.heap.size m T w2.drew ∧ Leaves b v n w2 w2.drew) := Lib.hid ⟨ST.out.1, ST.out.2.1, ST.out.2.2.drew⟩
  have hS0 := STd.out.2.1.1
  refine LastB.wp_region_last' (S := fun W => W.cell? ⟨w1.heap.size, 0, none⟩ = some (.int .i64 m) ∧ W.cell? ⟨w1.heap.size, 1, none⟩ = some (.string T)) 10 _ rfl rfl (by kernel_rfl) (by kernel_rfl) hS0 (fun hHeld => ?_)
  clear hS0 ST
  have STD := STd
  clear STd
  generalize w2.drew = wd at *
  simp only [List.take_succ_cons, List.take_zero]
  (refine wpAnyH_take (i := 0) (v := ?_) rfl (by kernel_rfl) (by kernel_rfl) (by kernel_rfl) (fun _ _ _ h => h) (Or.inl ⟨by rfl, ?_⟩) (by assumption) ?_; rotate_left; (focus (intro w hSw; (try dsimp only at hSw); go_simp; (try with_reducible rfl))); (try simp only [Act.put, List.setIfInBounds_toArray]))
  (refine wpAnyH_take (i := 1) (v := ?_) rfl (by kernel_rfl) (by kernel_rfl) (by kernel_rfl) (fun _ _ _ h => h) (Or.inl ⟨by rfl, ?_⟩) (by assumption) ?_; rotate_left; (focus (intro w hSw; (try dsimp only at hSw); go_simp; (try with_reducible rfl))); (try simp only [Act.put]))
  (refine wpAnyH_take (i := 2) (v := ?_) rfl (by kernel_rfl) (by kernel_rfl) (by kernel_rfl) (fun _ _ _ h => h) (Or.inl ⟨by rfl, ?_⟩) (by assumption) ?_; rotate_left; (focus (intro w hSw; (try dsimp only at hSw); go_simp; (try with_reducible rfl))); (try simp only [Act.put]))
  (refine wpAnyH_take (i := 4) (v := ?_) rfl (by kernel_rfl) (by kernel_rfl) (by kernel_rfl) (fun _ _ _ h => h) (Or.inl ⟨by rfl, ?_⟩) (by assumption) ?_; rotate_left; (focus (intro w hSw; (try dsimp only at hSw); go_simp; (try with_reducible rfl))); (try simp only [Act.put]))
  refine wpAnyH_ready (rs := [3]) (by kernel_rfl) (by simp) ?_
  refine AllReadyH.cons rfl (fun K hK => ?_) AllReadyH.nil
  go_simp
  refine (HBW.out 16 (by omega) _ STD.out.2.2).mono ?_
  rintro e w5 ⟨x, hx, rfl, hl⟩
  have STw5 := Lib.hid (HT.out _ _ STD.out hl)
  clear hl STD
  refine hK.out _ _ STw5.out.2.1.1 (fun hHeld => ?_)
  clear hK K
  try simp only [Act.put, List.setIfInBounds_toArray, List.set_cons_zero, List.set_cons_succ]
  refine wpAnyH_ready (rs := [5]) (by kernel_rfl) (by simp) ?_
  refine AllReadyH.cons rfl (fun K hK => ?_) AllReadyH.nil
  go_simp
  refine (HON.out 14 (by omega) _ STw5.out.2.2).mono ?_
  rintro e w6 ⟨t, rfl, hl⟩
  have STw6 := Lib.hid (HT.out _ _ STw5.out hl)
  clear hl STw5
  refine hK.out _ _ STw6.out.2.1.1 (fun hHeld => ?_)
  clear hK K
  try simp only [Act.put, List.setIfInBounds_toArray, List.set_cons_zero, List.set_cons_succ]
  refine wpAnyH_ready (rs := [6]) (by kernel_rfl) (by simp) ?_
  refine AllReadyH.cons rfl (fun K hK => ?_) AllReadyH.nil
  go_simp
  refine (bit_any t _).mono ?_
  rintro e w' ⟨rfl, rfl⟩
  refine hK.out _ _ STw6.out.2.1.1 (fun hHeld => ?_)
  clear hK K
  try simp only [Act.put, List.setIfInBounds_toArray, List.set_cons_zero, List.set_cons_succ]
  have hq : bitI t = 0 ∨ bitI t = 1 := by cases t <;> simp [bitI]
  generalize bitI t = c at hq ⊢
  have hx6 : x ≤ 16 := by omega
  have e2 : IntKind.i64.wrap ((x : Int) - c) = x - c := IntWalk.i64_in _ (by omega)
  clear hx
  (refine wpAnyH_take (i := 7) (v := .int .i64 (x - c)) rfl (by kernel_rfl) (by kernel_rfl) (by kernel_rfl) (fun _ _ _ h => h) (Or.inl ⟨by rfl, ?_⟩) (by assumption) ?_; (focus (intro w hSw; (try dsimp only at hSw); go_simp; (try rfl))); (try simp only [Act.put, List.setIfInBounds_toArray]))
  obtain ⟨⟨⟨e0, e1⟩, z0, z1⟩, hsb, hlv⟩ := STw6.out
  have BF := Lib.hid (leaves_below hlv (by omega) B3.out)
  clear hlv
  obtain ⟨k0, k1⟩ := ret_sg e0 e1 (.int .i64 m) (.string T)
  have HYF := Lib.hid (outC_off (outC_off hsb (so := w.heap.size) (by omega) 0 (.int .i64 m)) (so := w.heap.size) (by omega) 1 (.string T))
  clear hsb
  have HF := Lib.hid ((BF.out.setCell (p := ⟨w.heap.size, 0, none⟩) (by simp) (.int .i64 m)).setCell (p := ⟨w.heap.size, 1, none⟩) (by simp) (.string T))
  refine wpAnyH_ready (rs := [8]) (by kernel_rfl) (by simp) ?_
  refine AllReadyH.cons rfl (fun K hK => ?_) AllReadyH.nil
  go_simp
  refine hK.out _ _ HYF.out.1 (fun hHeld => ?_)
  clear hK K
  try simp only [Act.put, List.setIfInBounds_toArray, List.set_cons_zero, List.set_cons_succ]
  (refine wpAnyH_take (i := 9) (v := ?_) rfl (by kernel_rfl) (by kernel_rfl) (by kernel_rfl) (fun _ _ _ h => h) (Or.inl ⟨by rfl, ?_⟩) (by assumption) ?_; rotate_left; (focus (intro w hSw; (try dsimp only at hSw); go_simp; (try with_reducible rfl))); (try simp only [Act.put, List.setIfInBounds_toArray]))
  refine wpAnyH_done (by kernel_rfl) ?_ _
  change wpList _ _ _ [_] _ _
  go_wp2
  exact bodyPost_ret (v := .tuple #[.agg #[.int .i64 m, .string T], .int .i64 j, .int .i64 (x - c)]) (by simp [results, Tryz.results53, go_sem, k0, k1]) rfl ⟨m, T, j, _, rfl, hm, hT, hj, by omega, HF.out⟩
set_option maxHeartbeats 1600000 in
set_option maxRecDepth 100000 in
/-- A draw that is one draw of signs over a new cursor. -/
theorem drawTriang_any (v : Value) (n : Nat) (hn : n ≤ 9223372036854700000) (w : World) (hv : Bytes w v n w.heap.size) :
    Calls Tryz.prog 51 #[v] w fun e w' => ∃ (m : Nat) (T : ByteArray), e = .returned (sg m T) ∧ (m ≤ 6 ∨ m = 8) ∧ T.size ≤ 21 ∧ Below w.heap.size w w' := by
  have R0 := Lib.hid (outC_made w 0 ⟨#[]⟩ 25)
  have HA := Lib.hid ((Below.refl w.heap.size w).alloc (Nat.le_refl _) (.cells #[.int .i64 0, .string ⟨#[]⟩] 25))
  have HV := Lib.hid (bytes_up hv HA.out)
  clear hv
  go_enter Tryz.func51, Tryz.ntmps51
  go_wp2_with fail
  refine (new_any v n hn _ HV.out).mono ?_
  rintro e w1 ⟨b, rfl, hb, hv1, hc1, hb1⟩
  have hwb : w.heap.size < b := by simp at hb; omega
  have R1 := Lib.hid (R0.out.on hb1)
  have B1 := Lib.hid (HA.out.trans (hb1.mono HA.out.size))
  have V1 := Lib.hid (⟨hv1, hc1⟩ : _ ∧ _)
  clear hb1 hv1 hc1 hb
  go_wp2_with fail
  refine (l5Draw_any b v n _ V1.out.1 V1.out.2).mono ?_
  rintro e w2 ⟨m, T, rfl, hm, hT, hl2⟩
  have R2 := Lib.hid (outC_leaves R1.out hl2 (by omega))
  have B2 := Lib.hid (leaves_below hl2 (by omega) B1.out)
  clear hl2
  obtain ⟨⟨e0, e1⟩, z0, z1⟩ := R2.out
  obtain ⟨k0, k1⟩ := ret_sg e0 e1 (.int .i64 m) (.string T)
  go_wp2
  exact bodyPost_ret (v := .agg #[.int .i64 m, .string T]) (by simp [results, Tryz.results51, go_sem, k0, k1]) rfl ⟨m, T, rfl, hm, hT, (B2.out.setCell (by simp) _).setCell (by simp) _⟩
end Go.Proofs.YtinlnafkmoabbaaGreatDoor.Cur
