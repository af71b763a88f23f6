/- Several texts in one: DrBent, DrBend, DrRule, LastB, DrOne, DrOrd, DrFour, DrFive. -/
import Derived.Test.YtinlnafkmoabbaaGreatDoorMgU
import Derived.Deep.RegionHeld3
import Derived.Test.YtinlnafkmoabbaaGreatDoorMgQ
import Derived.Test.YtinlnafkmoabbaaGreatDoorMgR
import Derived.Test.YtinlnafkmoabbaaGreatDoorMgP
import Derived.Test.YtinlnafkmoabbaaGreatDoorProg
import Derived.WalkKit
import Derived.OrdersHeld
import Derived.Deep.RegionHeld
import Derived.Test.YtinlnafkmoabbaaGreatDoorNewI
import Derived.Deep.AppendLies
import Derived.RegionTactic
/- The draws of signs: l3Draw, l3Bent, l4Draw. -/
namespace Go.Proofs.YtinlnafkmoabbaaGreatDoor.Cur
open Go.RowKit Pt Sg
def plusMinus : List ByteArray := [⟨#[43]⟩, ⟨#[45]⟩, ⟨#[43]⟩]
theorem plusMinus_sz : ∀ s ∈ plusMinus, s.size = 1 := by
  intro s hs
  simp only [plusMinus, List.mem_cons, List.mem_nil_iff, or_false] at hs
  rcases hs with rfl | rfl | rfl <;> rfl
theorem outC_far {ro so : Nat} {m : Int} {T : ByteArray} {W : World} (h : OutC ro m T W) (hne : so ≠ ro) (u : Value) : OutC ro m T (W.setCell ⟨so, 1, none⟩ u) := by
  obtain ⟨⟨h1, h2⟩, h3, h4⟩ := h
  exact ⟨⟨by rw [World.cell?_setCell_far _ _ _ _ (by simpa using hne)]; exact h1, by rw [World.cell?_setCell_far _ _ _ _ (by simpa using hne)]; exact h2⟩, by rw [World.frozen?_setCell]; exact h3, by rw [World.frozen?_setCell]; exact h4⟩
set_option maxHeartbeats 3200000 in
set_option maxRecDepth 100000 in
theorem l3Draw_any (b : Nat) (v : Value) (n : Nat) (w : World) (hv : Bytes w v n b) (hc : At w b v n) :
    Calls Tryz.prog 182 #[.pointer (some ⟨b, 0, none⟩)] w fun e w' => ∃ (m : Nat) (T : ByteArray), e = .returned (sg m T) ∧ m ≤ 6 ∧ T.size ≤ 20 ∧ Leaves b v n w w' := by
  have hbw := hc.lt
  have HBW := Lib.hid (fun (m : Nat) (hm : m ≤ 2147483648) W (hl : Leaves b v n w W) => (below_any b v n m hm W hl.1 hl.2.1))
  have HON := Lib.hid (fun (m : Nat) (hm : m ≤ 2147483648) W (hl : Leaves b v n w W) => (once_any b v n m hm W hl.1 hl.2.1))
  have R0 := Lib.hid (outC_made w 0 ⟨#[]⟩ 25)
  have L0 := Lib.hid ((Leaves.refl hv hc).alloc hbw (.cells #[.int .i64 0, .string ⟨#[]⟩] 25))
  clear hv hc
  go_enter Tryz.func182, Tryz.ntmps182
  go_wp2_with fail
  refine (HON.out 5 (by omega) _ L0.out).mono ?_
  rintro e w1 ⟨q, rfl, hl1⟩
  have L1 := Lib.hid (L0.out.trans hl1)
  have R1 := Lib.hid (outC_leaves R0.out hl1 (by omega))
  clear hl1
  cases q
  · -- points
    go_wp2_with fail
    refine (l2Draw_any b v n _ L1.out.1 L1.out.2.1).mono ?_
    rintro e w2 ⟨g, c, xs, rfl, ⟨hx3, hx6⟩, hat, hgl, hg2, hl2⟩
    have L2 := Lib.hid (L1.out.trans hl2)
    have R2 := Lib.hid (outC_leaves R1.out hl2 (by omega))
    have A2 := Lib.hid (⟨hat, hg2⟩ : RowA w2 g xs)
    clear hl2 hat
    obtain ⟨m, T, o, hpv, hm6, hT⟩ : ∃ (m : Nat) (T : ByteArray) (o : Bool), ptsV xs = .tuple #[sg m T, .bool o] ∧ m ≤ 6 ∧ T.size ≤ 20 := by
      cases h : Pt.okB xs
      · exact ⟨0, ⟨#[]⟩, false, ptsV_no h, by omega, by decide⟩
      · refine ⟨xs.length, _, true, ptsV_yes h, hx6, ?_⟩
        show (text3 xs.length (turnF xs)).toArray.size ≤ 20
        rw [List.size_toArray, text3_length (by omega)]
        rcases (by omega : xs.length = 3 ∨ xs.length = 4 ∨ xs.length = 5 ∨ xs.length = 6) with e | e | e | e <;> rw [e] <;> decide
    have HP := Lib.hid (specPtsA g c xs (by omega) w2 A2.out)
    rw [hpv] at HP
    clear hpv
    go_wp2_with fail
    refine HP.out.mono ?_
    rintro e w3 ⟨rfl, hb3⟩
    have hle2 := L2.out.2.2.size
    have L3 := Lib.hid ((L2.out.ext (hb3.mono hle2) hbw).alloc hbw (.cells #[.int .i64 m, .string T] 25))
    have R3 := Lib.hid ((R2.out.on hb3).on ((Below.refl _ _).alloc (Nat.le_refl _) (.cells #[.int .i64 m, .string T] 25)))
    have Y3 := Lib.hid (outC_made w3 m T 25)
    clear hb3
    obtain ⟨⟨e0, e1⟩, z0, z1⟩ := R3.out
    obtain ⟨⟨y0, y1⟩, -⟩ := Y3.out
    obtain ⟨k0, k1⟩ := ret_sg e0 e1 (.int .i64 m) (.string T)
    have LF := Lib.hid (L3.out.ext (((Below.refl w.heap.size _).setCell (p := ⟨w.heap.size, 0, none⟩) (by simp) (.int .i64 m)).setCell (p := ⟨w.heap.size, 1, none⟩) (by simp) (.string T)) hbw)
    go_wp2
    exact bodyPost_ret (v := .agg #[.int .i64 m, .string T]) (by simp [results, Tryz.results182, go_sem, k0, k1]) rfl ⟨m, T, rfl, hm6, hT, LF.out⟩
  · go_wp2_with fail
    refine (HBW.out 3 (by omega) _ L1.out).mono ?_
    rintro e w2 ⟨r, hr, rfl, hl2⟩
    have L2 := Lib.hid (L1.out.trans hl2)
    have R2 := Lib.hid (outC_leaves R1.out hl2 (by omega))
    have hr3 : r = 0 ∨ r = 1 ∨ r = 2 := by omega
    clear hl2 hr
    rcases hr3 with rfl | rfl | rfl
    · have O3 := Lib.hid (outC_made w2 3 ⟨#[]⟩ 25)
      have L3 := Lib.hid (L2.out.alloc hbw (.cells #[.int .i64 3, .string ⟨#[]⟩] 25))
      have R3 := Lib.hid (R2.out.on ((Below.refl w2.heap.size w2).alloc (Nat.le_refl _) (.cells #[.int .i64 3, .string ⟨#[]⟩] 25)))
      have hw2 : w.heap.size < w2.heap.size := Kit.cell_lt R2.out.1.1
      go_wp2
      go_loopw [5] (fun c wr => ∃ (k : Nat) (T : ByteArray), k ≤ 1 ∧ c = .int .i64 k ∧ T.size ≤ k ∧ Hid (OutC w2.heap.size 3 T wr ∧ OutC w.heap.size 0 ⟨#[]⟩ wr) ∧ Hid (Leaves b v n w wr)) (fun c _ => 1 - (intOf c).toNat)
      case atStart => exact ⟨0, ⟨#[]⟩, by omega, rfl, by decide, Lib.hid ⟨O3.out, R3.out⟩, L3⟩
      case round =>
        obtain ⟨k, T, hk, rfl, hT, HO, HL⟩ := hrel
        by_cases hlt : k < 1
        · obtain ⟨⟨⟨o0, o1⟩, f0, f1⟩, hres⟩ := HO.out
          have hr1 : ∀ W (x : ByteArray), x.size = 1 → (Op.stringOp .add T x).run Tryz.prog W = .ok (.string (T ++ x)) W := fun W x hx => run_string_add_sum W _ _ (by omega)
          have HLT := Lib.hid (fun (W : World) => lit_strs W plusMinus 9)
          go_wp2
          have hS0 := (⟨o1, f1, HO, Lib.hid HL.out.drew⟩ : wr.drew.cell? ⟨w2.heap.size, 1, none⟩ = some (.string T) ∧ wr.drew.frozen? ⟨w2.heap.size, 1, none⟩ = false ∧ Hid (OutC w2.heap.size 3 T wr.drew ∧ OutC w.heap.size 0 ⟨#[]⟩ wr.drew) ∧ Hid (Leaves b v n w wr.drew))
          refine Last.wp_region_last' (S := fun W => W.cell? ⟨w2.heap.size, 1, none⟩ = some (.string T) ∧ W.frozen? ⟨w2.heap.size, 1, none⟩ = false ∧ Hid (OutC w2.heap.size 3 T W ∧ OutC w.heap.size 0 ⟨#[]⟩ W) ∧ Hid (Leaves b v n w W)) 7 _ rfl rfl (by kernel_rfl) (by kernel_rfl) hS0 (fun hHeld => ?_)
          clear hS0 o0 o1 f0 f1
          simp only [List.take_succ_cons, List.take_zero]
          (refine wpAnyH_take (i := 0) (v := ?_) rfl (by kernel_rfl) (by kernel_rfl) (by kernel_rfl) (fun _ _ _ h => h) (Or.inl ⟨by rfl, ?_⟩) (by assumption) ?_; rotate_left; (focus (intro w hSw; (try dsimp only at hSw); go_simp; (try with_reducible rfl))); (simp only [Act.put, List.setIfInBounds_toArray]))
          (refine wpAnyH_take (i := 1) (v := ?_) rfl (by kernel_rfl) (by kernel_rfl) (by kernel_rfl) (fun _ _ _ h => h) (Or.inl ⟨by rfl, ?_⟩) (by assumption) ?_; rotate_left; (focus (intro w hSw; (try dsimp only at hSw); go_simp; (try with_reducible rfl))); (simp only [Act.put]))
          (refine wpAnyH_take (i := 2) (v := ?_) rfl (by kernel_rfl) (by kernel_rfl) (by kernel_rfl) (fun _ _ _ h => h) (Or.inl ⟨by rfl, ?_⟩) (by assumption) ?_; rotate_left; (focus (intro w hSw; (try dsimp only at hSw); go_simp; (try with_reducible rfl))); (simp only [Act.put]))
          refine wpAnyH_ready (rs := [3]) (by kernel_rfl) (by simp) ?_
          refine AllReadyH.cons rfl (fun K hK => ?_) AllReadyH.nil
          go_simp
          have HAL := Lib.hid (((Below.refl wr.heap.size wr).alloc (Nat.le_refl _) (.cells #[.string ⟨#[43]⟩, .string ⟨#[45]⟩, .string ⟨#[43]⟩] 9)).drew)
          have HOA := Lib.hid (⟨HO.out.1.on HAL.out, HO.out.2.on HAL.out⟩ : _ ∧ _)
          have HLA := Lib.hid (HL.out.ext (HAL.out.mono HL.out.2.2.size) hbw)
          refine hK.out _ _ ⟨HOA.out.1.1.2, HOA.out.1.2.2, HOA, HLA⟩ (fun hHeld => ?_)
          clear hK K
          try simp only [Act.put, List.setIfInBounds_toArray, List.set_cons_zero, List.set_cons_succ]
          refine wpAnyH_ready (rs := [4]) (by kernel_rfl) (by simp) ?_
          refine AllReadyH.cons rfl (fun K hK => ?_) AllReadyH.nil
          go_simp
          refine (pick_any b wr.heap.size 3 v n plusMinus (by decide) (by decide) _ hHeld.2.2.2.out.1 hHeld.2.2.2.out.2.1 (HLT.out wr) (by have := HL.out.lt; omega)).mono ?_
          rintro e w4 ⟨x, hx, rfl, hl4⟩
          have hx1 := plusMinus_sz x hx
          have hOO := Lib.hid (⟨outC_leaves hHeld.2.2.1.out.1 hl4 (by omega), outC_leaves hHeld.2.2.1.out.2 hl4 (by omega)⟩ : _ ∧ _)
          refine hK.out _ _ ⟨hOO.out.1.1.2, hOO.out.1.2.2, hOO, Lib.hid (hHeld.2.2.2.out.trans hl4)⟩ (fun hHeld => ?_)
          clear hK K hl4 hx
          have hr2 := fun W => hr1 W x hx1
          try simp only [Act.put, List.setIfInBounds_toArray, List.set_cons_zero, List.set_cons_succ]
          (refine wpAnyH_take (i := 5) (v := ?_) rfl (by kernel_rfl) (by kernel_rfl) (by kernel_rfl) (fun _ _ _ h => h) (Or.inl ⟨by rfl, ?_⟩) (by assumption) ?_; rotate_left; (focus (intro w hSw; (try dsimp only at hSw); go_simp; (try with_reducible rfl))); (simp only [Act.put, List.setIfInBounds_toArray]))
          (refine wpAnyH_take (i := 6) (v := ?_) rfl (by kernel_rfl) (by kernel_rfl) (by kernel_rfl) (fun _ _ _ h => h) (Or.inl ⟨by rfl, ?_⟩) (by assumption) ?_; rotate_left; (focus (intro w hSw; (try dsimp only at hSw); go_simp; (try with_reducible rfl))); (simp only [Act.put]))
          refine wpAnyH_done (by kernel_rfl) ?_ _
          obtain ⟨o1, f1, HO4, HL4⟩ := hHeld
          have HO5 : Hid (OutC w2.heap.size 3 (T ++ x) (w4.setCell ⟨w2.heap.size, 1, none⟩ (.string (T ++ x))) ∧ OutC w.heap.size 0 ⟨#[]⟩ (w4.setCell ⟨w2.heap.size, 1, none⟩ (.string (T ++ x)))) := Lib.hid ⟨HO4.out.1.set (T ++ x), outC_far HO4.out.2 (by omega) _⟩
          have HL5 := Lib.hid (HL4.out.ext ((Below.refl w.heap.size w4).setCell (p := ⟨w2.heap.size, 1, none⟩) (by simp; omega) (.string (T ++ x))) hbw)
          have hTx : (T ++ x).size = T.size + 1 := by rw [ByteArray.size_append, hx1]
          change wpList _ _ _ [_] _ _
          go_wp2
          exact ⟨⟨k + 1, T ++ x, by omega, by go_num, by omega, HO5, HL5⟩, by simp only [intOf]; omega⟩
        · obtain ⟨⟨⟨o0, o1⟩, f0, f1⟩, ⟨e0, e1⟩, z0, z1⟩ := HO.out
          obtain ⟨k0, k1⟩ := ret_sg e0 e1 (.int .i64 3) (.string T)
          have LF := Lib.hid (HL.out.ext (((Below.refl w.heap.size wr).setCell (p := ⟨w.heap.size, 0, none⟩) (by simp) (.int .i64 3)).setCell (p := ⟨w.heap.size, 1, none⟩) (by simp) (.string T)) hbw)
          go_wp2
          exact bodyPost_ret (v := .agg #[.int .i64 3, .string T]) (by simp [results, Tryz.results182, go_sem, k0, k1]) rfl ⟨3, T, rfl, by omega, by omega, LF.out⟩
    · have O3 := Lib.hid (outC_made w2 4 ⟨#[]⟩ 25)
      have L3 := Lib.hid (L2.out.alloc hbw (.cells #[.int .i64 4, .string ⟨#[]⟩] 25))
      have R3 := Lib.hid (R2.out.on ((Below.refl w2.heap.size w2).alloc (Nat.le_refl _) (.cells #[.int .i64 4, .string ⟨#[]⟩] 25)))
      have hw2 : w.heap.size < w2.heap.size := Kit.cell_lt R2.out.1.1
      go_wp2
      go_loopw [5] (fun c wr => ∃ (k : Nat) (T : ByteArray), k ≤ 4 ∧ c = .int .i64 k ∧ T.size ≤ k ∧ Hid (OutC w2.heap.size 4 T wr ∧ OutC w.heap.size 0 ⟨#[]⟩ wr) ∧ Hid (Leaves b v n w wr)) (fun c _ => 4 - (intOf c).toNat)
      case atStart => exact ⟨0, ⟨#[]⟩, by omega, rfl, by decide, Lib.hid ⟨O3.out, R3.out⟩, L3⟩
      case round =>
        obtain ⟨k, T, hk, rfl, hT, HO, HL⟩ := hrel
        by_cases hlt : k < 4
        · obtain ⟨⟨⟨o0, o1⟩, f0, f1⟩, hres⟩ := HO.out
          have hr1 : ∀ W (x : ByteArray), x.size = 1 → (Op.stringOp .add T x).run Tryz.prog W = .ok (.string (T ++ x)) W := fun W x hx => run_string_add_sum W _ _ (by omega)
          have HLT := Lib.hid (fun (W : World) => lit_strs W plusMinus 9)
          go_wp2
          have hS0 := (⟨o1, f1, HO, Lib.hid HL.out.drew⟩ : wr.drew.cell? ⟨w2.heap.size, 1, none⟩ = some (.string T) ∧ wr.drew.frozen? ⟨w2.heap.size, 1, none⟩ = false ∧ Hid (OutC w2.heap.size 4 T wr.drew ∧ OutC w.heap.size 0 ⟨#[]⟩ wr.drew) ∧ Hid (Leaves b v n w wr.drew))
          refine Last.wp_region_last' (S := fun W => W.cell? ⟨w2.heap.size, 1, none⟩ = some (.string T) ∧ W.frozen? ⟨w2.heap.size, 1, none⟩ = false ∧ Hid (OutC w2.heap.size 4 T W ∧ OutC w.heap.size 0 ⟨#[]⟩ W) ∧ Hid (Leaves b v n w W)) 7 _ rfl rfl (by kernel_rfl) (by kernel_rfl) hS0 (fun hHeld => ?_)
          clear hS0 o0 o1 f0 f1
          simp only [List.take_succ_cons, List.take_zero]
          (refine wpAnyH_take (i := 0) (v := ?_) rfl (by kernel_rfl) (by kernel_rfl) (by kernel_rfl) (fun _ _ _ h => h) (Or.inl ⟨by rfl, ?_⟩) (by assumption) ?_; rotate_left; (focus (intro w hSw; (try dsimp only at hSw); go_simp; (try with_reducible rfl))); (simp only [Act.put, List.setIfInBounds_toArray]))
          (refine wpAnyH_take (i := 1) (v := ?_) rfl (by kernel_rfl) (by kernel_rfl) (by kernel_rfl) (fun _ _ _ h => h) (Or.inl ⟨by rfl, ?_⟩) (by assumption) ?_; rotate_left; (focus (intro w hSw; (try dsimp only at hSw); go_simp; (try with_reducible rfl))); (simp only [Act.put]))
          (refine wpAnyH_take (i := 2) (v := ?_) rfl (by kernel_rfl) (by kernel_rfl) (by kernel_rfl) (fun _ _ _ h => h) (Or.inl ⟨by rfl, ?_⟩) (by assumption) ?_; rotate_left; (focus (intro w hSw; (try dsimp only at hSw); go_simp; (try with_reducible rfl))); (simp only [Act.put]))
          refine wpAnyH_ready (rs := [3]) (by kernel_rfl) (by simp) ?_
          refine AllReadyH.cons rfl (fun K hK => ?_) AllReadyH.nil
          go_simp
          have HAL := Lib.hid (((Below.refl wr.heap.size wr).alloc (Nat.le_refl _) (.cells #[.string ⟨#[43]⟩, .string ⟨#[45]⟩, .string ⟨#[43]⟩] 9)).drew)
          have HOA := Lib.hid (⟨HO.out.1.on HAL.out, HO.out.2.on HAL.out⟩ : _ ∧ _)
          have HLA := Lib.hid (HL.out.ext (HAL.out.mono HL.out.2.2.size) hbw)
          refine hK.out _ _ ⟨HOA.out.1.1.2, HOA.out.1.2.2, HOA, HLA⟩ (fun hHeld => ?_)
          clear hK K
          try simp only [Act.put, List.setIfInBounds_toArray, List.set_cons_zero, List.set_cons_succ]
          refine wpAnyH_ready (rs := [4]) (by kernel_rfl) (by simp) ?_
          refine AllReadyH.cons rfl (fun K hK => ?_) AllReadyH.nil
          go_simp
          refine (pick_any b wr.heap.size 3 v n plusMinus (by decide) (by decide) _ hHeld.2.2.2.out.1 hHeld.2.2.2.out.2.1 (HLT.out wr) (by have := HL.out.lt; omega)).mono ?_
          rintro e w4 ⟨x, hx, rfl, hl4⟩
          have hx1 := plusMinus_sz x hx
          have hOO := Lib.hid (⟨outC_leaves hHeld.2.2.1.out.1 hl4 (by omega), outC_leaves hHeld.2.2.1.out.2 hl4 (by omega)⟩ : _ ∧ _)
          refine hK.out _ _ ⟨hOO.out.1.1.2, hOO.out.1.2.2, hOO, Lib.hid (hHeld.2.2.2.out.trans hl4)⟩ (fun hHeld => ?_)
          clear hK K hl4 hx
          have hr2 := fun W => hr1 W x hx1
          try simp only [Act.put, List.setIfInBounds_toArray, List.set_cons_zero, List.set_cons_succ]
          (refine wpAnyH_take (i := 5) (v := ?_) rfl (by kernel_rfl) (by kernel_rfl) (by kernel_rfl) (fun _ _ _ h => h) (Or.inl ⟨by rfl, ?_⟩) (by assumption) ?_; rotate_left; (focus (intro w hSw; (try dsimp only at hSw); go_simp; (try with_reducible rfl))); (simp only [Act.put, List.setIfInBounds_toArray]))
          (refine wpAnyH_take (i := 6) (v := ?_) rfl (by kernel_rfl) (by kernel_rfl) (by kernel_rfl) (fun _ _ _ h => h) (Or.inl ⟨by rfl, ?_⟩) (by assumption) ?_; rotate_left; (focus (intro w hSw; (try dsimp only at hSw); go_simp; (try with_reducible rfl))); (simp only [Act.put]))
          refine wpAnyH_done (by kernel_rfl) ?_ _
          obtain ⟨o1, f1, HO4, HL4⟩ := hHeld
          have HO5 : Hid (OutC w2.heap.size 4 (T ++ x) (w4.setCell ⟨w2.heap.size, 1, none⟩ (.string (T ++ x))) ∧ OutC w.heap.size 0 ⟨#[]⟩ (w4.setCell ⟨w2.heap.size, 1, none⟩ (.string (T ++ x)))) := Lib.hid ⟨HO4.out.1.set (T ++ x), outC_far HO4.out.2 (by omega) _⟩
          have HL5 := Lib.hid (HL4.out.ext ((Below.refl w.heap.size w4).setCell (p := ⟨w2.heap.size, 1, none⟩) (by simp; omega) (.string (T ++ x))) hbw)
          have hTx : (T ++ x).size = T.size + 1 := by rw [ByteArray.size_append, hx1]
          change wpList _ _ _ [_] _ _
          go_wp2
          exact ⟨⟨k + 1, T ++ x, by omega, by go_num, by omega, HO5, HL5⟩, by simp only [intOf]; omega⟩
        · obtain ⟨⟨⟨o0, o1⟩, f0, f1⟩, ⟨e0, e1⟩, z0, z1⟩ := HO.out
          obtain ⟨k0, k1⟩ := ret_sg e0 e1 (.int .i64 4) (.string T)
          have LF := Lib.hid (HL.out.ext (((Below.refl w.heap.size wr).setCell (p := ⟨w.heap.size, 0, none⟩) (by simp) (.int .i64 4)).setCell (p := ⟨w.heap.size, 1, none⟩) (by simp) (.string T)) hbw)
          go_wp2
          exact bodyPost_ret (v := .agg #[.int .i64 4, .string T]) (by simp [results, Tryz.results182, go_sem, k0, k1]) rfl ⟨4, T, rfl, by omega, by omega, LF.out⟩
    · have O3 := Lib.hid (outC_made w2 5 ⟨#[]⟩ 25)
      have L3 := Lib.hid (L2.out.alloc hbw (.cells #[.int .i64 5, .string ⟨#[]⟩] 25))
      have R3 := Lib.hid (R2.out.on ((Below.refl w2.heap.size w2).alloc (Nat.le_refl _) (.cells #[.int .i64 5, .string ⟨#[]⟩] 25)))
      have hw2 : w.heap.size < w2.heap.size := Kit.cell_lt R2.out.1.1
      go_wp2
      go_loopw [5] (fun c wr => ∃ (k : Nat) (T : ByteArray), k ≤ 10 ∧ c = .int .i64 k ∧ T.size ≤ k ∧ Hid (OutC w2.heap.size 5 T wr ∧ OutC w.heap.size 0 ⟨#[]⟩ wr) ∧ Hid (Leaves b v n w wr)) (fun c _ => 10 - (intOf c).toNat)
      case atStart => exact ⟨0, ⟨#[]⟩, by omega, rfl, by decide, Lib.hid ⟨O3.out, R3.out⟩, L3⟩
      case round =>
        obtain ⟨k, T, hk, rfl, hT, HO, HL⟩ := hrel
        by_cases hlt : k < 10
        · obtain ⟨⟨⟨o0, o1⟩, f0, f1⟩, hres⟩ := HO.out
          have hr1 : ∀ W (x : ByteArray), x.size = 1 → (Op.stringOp .add T x).run Tryz.prog W = .ok (.string (T ++ x)) W := fun W x hx => run_string_add_sum W _ _ (by omega)
          have HLT := Lib.hid (fun (W : World) => lit_strs W plusMinus 9)
          go_wp2
          have hS0 := (⟨o1, f1, HO, Lib.hid HL.out.drew⟩ : wr.drew.cell? ⟨w2.heap.size, 1, none⟩ = some (.string T) ∧ wr.drew.frozen? ⟨w2.heap.size, 1, none⟩ = false ∧ Hid (OutC w2.heap.size 5 T wr.drew ∧ OutC w.heap.size 0 ⟨#[]⟩ wr.drew) ∧ Hid (Leaves b v n w wr.drew))
          refine Last.wp_region_last' (S := fun W => W.cell? ⟨w2.heap.size, 1, none⟩ = some (.string T) ∧ W.frozen? ⟨w2.heap.size, 1, none⟩ = false ∧ Hid (OutC w2.heap.size 5 T W ∧ OutC w.heap.size 0 ⟨#[]⟩ W) ∧ Hid (Leaves b v n w W)) 7 _ rfl rfl (by kernel_rfl) (by kernel_rfl) hS0 (fun hHeld => ?_)
          clear hS0 o0 o1 f0 f1
          simp only [List.take_succ_cons, List.take_zero]
          (refine wpAnyH_take (i := 0) (v := ?_) rfl (by kernel_rfl) (by kernel_rfl) (by kernel_rfl) (fun _ _ _ h => h) (Or.inl ⟨by rfl, ?_⟩) (by assumption) ?_; rotate_left; (focus (intro w hSw; (try dsimp only at hSw); go_simp; (try with_reducible rfl))); (simp only [Act.put, List.setIfInBounds_toArray]))
          (refine wpAnyH_take (i := 1) (v := ?_) rfl (by kernel_rfl) (by kernel_rfl) (by kernel_rfl) (fun _ _ _ h => h) (Or.inl ⟨by rfl, ?_⟩) (by assumption) ?_; rotate_left; (focus (intro w hSw; (try dsimp only at hSw); go_simp; (try with_reducible rfl))); (simp only [Act.put]))
          (refine wpAnyH_take (i := 2) (v := ?_) rfl (by kernel_rfl) (by kernel_rfl) (by kernel_rfl) (fun _ _ _ h => h) (Or.inl ⟨by rfl, ?_⟩) (by assumption) ?_; rotate_left; (focus (intro w hSw; (try dsimp only at hSw); go_simp; (try with_reducible rfl))); (simp only [Act.put]))
          refine wpAnyH_ready (rs := [3]) (by kernel_rfl) (by simp) ?_
          refine AllReadyH.cons rfl (fun K hK => ?_) AllReadyH.nil
          go_simp
          have HAL := Lib.hid (((Below.refl wr.heap.size wr).alloc (Nat.le_refl _) (.cells #[.string ⟨#[43]⟩, .string ⟨#[45]⟩, .string ⟨#[43]⟩] 9)).drew)
          have HOA := Lib.hid (⟨HO.out.1.on HAL.out, HO.out.2.on HAL.out⟩ : _ ∧ _)
          have HLA := Lib.hid (HL.out.ext (HAL.out.mono HL.out.2.2.size) hbw)
          refine hK.out _ _ ⟨HOA.out.1.1.2, HOA.out.1.2.2, HOA, HLA⟩ (fun hHeld => ?_)
          clear hK K
          try simp only [Act.put, List.setIfInBounds_toArray, List.set_cons_zero, List.set_cons_succ]
          refine wpAnyH_ready (rs := [4]) (by kernel_rfl) (by simp) ?_
          refine AllReadyH.cons rfl (fun K hK => ?_) AllReadyH.nil
          go_simp
          refine (pick_any b wr.heap.size 3 v n plusMinus (by decide) (by decide) _ hHeld.2.2.2.out.1 hHeld.2.2.2.out.2.1 (HLT.out wr) (by have := HL.out.lt; omega)).mono ?_
          rintro e w4 ⟨x, hx, rfl, hl4⟩
          have hx1 := plusMinus_sz x hx
          have hOO := Lib.hid (⟨outC_leaves hHeld.2.2.1.out.1 hl4 (by omega), outC_leaves hHeld.2.2.1.out.2 hl4 (by omega)⟩ : _ ∧ _)
          refine hK.out _ _ ⟨hOO.out.1.1.2, hOO.out.1.2.2, hOO, Lib.hid (hHeld.2.2.2.out.trans hl4)⟩ (fun hHeld => ?_)
          clear hK K hl4 hx
          have hr2 := fun W => hr1 W x hx1
          try simp only [Act.put, List.setIfInBounds_toArray, List.set_cons_zero, List.set_cons_succ]
          (refine wpAnyH_take (i := 5) (v := ?_) rfl (by kernel_rfl) (by kernel_rfl) (by kernel_rfl) (fun _ _ _ h => h) (Or.inl ⟨by rfl, ?_⟩) (by assumption) ?_; rotate_left; (focus (intro w hSw; (try dsimp only at hSw); go_simp; (try with_reducible rfl))); (simp only [Act.put, List.setIfInBounds_toArray]))
          (refine wpAnyH_take (i := 6) (v := ?_) rfl (by kernel_rfl) (by kernel_rfl) (by kernel_rfl) (fun _ _ _ h => h) (Or.inl ⟨by rfl, ?_⟩) (by assumption) ?_; rotate_left; (focus (intro w hSw; (try dsimp only at hSw); go_simp; (try with_reducible rfl))); (simp only [Act.put]))
          refine wpAnyH_done (by kernel_rfl) ?_ _
          obtain ⟨o1, f1, HO4, HL4⟩ := hHeld
          have HO5 : Hid (OutC w2.heap.size 5 (T ++ x) (w4.setCell ⟨w2.heap.size, 1, none⟩ (.string (T ++ x))) ∧ OutC w.heap.size 0 ⟨#[]⟩ (w4.setCell ⟨w2.heap.size, 1, none⟩ (.string (T ++ x)))) := Lib.hid ⟨HO4.out.1.set (T ++ x), outC_far HO4.out.2 (by omega) _⟩
          have HL5 := Lib.hid (HL4.out.ext ((Below.refl w.heap.size w4).setCell (p := ⟨w2.heap.size, 1, none⟩) (by simp; omega) (.string (T ++ x))) hbw)
          have hTx : (T ++ x).size = T.size + 1 := by rw [ByteArray.size_append, hx1]
          change wpList _ _ _ [_] _ _
          go_wp2
          exact ⟨⟨k + 1, T ++ x, by omega, by go_num, by omega, HO5, HL5⟩, by simp only [intOf]; omega⟩
        · obtain ⟨⟨⟨o0, o1⟩, f0, f1⟩, ⟨e0, e1⟩, z0, z1⟩ := HO.out
          obtain ⟨k0, k1⟩ := ret_sg e0 e1 (.int .i64 5) (.string T)
          have LF := Lib.hid (HL.out.ext (((Below.refl w.heap.size wr).setCell (p := ⟨w.heap.size, 0, none⟩) (by simp) (.int .i64 5)).setCell (p := ⟨w.heap.size, 1, none⟩) (by simp) (.string T)) hbw)
          go_wp2
          exact bodyPost_ret (v := .agg #[.int .i64 5, .string T]) (by simp [results, Tryz.results182, go_sem, k0, k1]) rfl ⟨5, T, rfl, by omega, by omega, LF.out⟩
end Go.Proofs.YtinlnafkmoabbaaGreatDoor.Cur
/- The draws of signs: l3Bent, l4Draw. -/
namespace Go.Proofs.YtinlnafkmoabbaaGreatDoor.Cur
open Go.RowKit Pt Sg
def plusZero : List ByteArray := [⟨#[43]⟩, ⟨#[48]⟩]
theorem plusZero_sz : ∀ s ∈ plusZero, s.size = 1 := by
  intro s hs
  simp only [plusZero, List.mem_cons, List.mem_nil_iff, or_false] at hs
  rcases hs with rfl | rfl <;> rfl
theorem outC_off {ro so : Nat} {m : Int} {T : ByteArray} {W : World} (h : OutC ro m T W) (hne : so ≠ ro) (j : Nat) (u : Value) : OutC ro m T (W.setCell ⟨so, j, none⟩ u) := by
  obtain ⟨⟨h1, h2⟩, h3, h4⟩ := h
  exact ⟨⟨by rw [World.cell?_setCell_far _ _ _ _ (by simpa using hne)]; exact h1, by rw [World.cell?_setCell_far _ _ _ _ (by simpa using hne)]; exact h2⟩, by rw [World.frozen?_setCell]; exact h3, by rw [World.frozen?_setCell]; exact h4⟩
/-- The result's cell is set, the call ends. -/
theorem leaves_ret {b n : Nat} {v : Value} {w W : World} {x y : Value} (h : Leaves b v n w W) (hb : b < w.heap.size) : Leaves b v n w ((W.setCell ⟨w.heap.size, 0, none⟩ x).setCell ⟨w.heap.size, 1, none⟩ y) :=
  h.ext (((Below.refl w.heap.size W).setCell (p := ⟨w.heap.size, 0, none⟩) (by simp) x).setCell (p := ⟨w.heap.size, 1, none⟩) (by simp) y) hb
set_option maxHeartbeats 3200000 in
set_option maxRecDepth 100000 in
theorem l3Bent_any (b : Nat) (v : Value) (n : Nat) (w : World) (hv : Bytes w v n b) (hc : At w b v n) :
    Calls Tryz.prog 158 #[.pointer (some ⟨b, 0, none⟩)] w fun e w' => ∃ (m : Nat) (T : ByteArray), e = .returned (sg m T) ∧ (m ≤ 6 ∨ m = 8) ∧ T.size ≤ 21 ∧ Leaves b v n w w' := by
  have hbw := hc.lt
  have HBW := Lib.hid (fun (m : Nat) (hm : m ≤ 2147483648) W (hl : Leaves b v n w W) => (below_any b v n m hm W hl.1 hl.2.1))
  have R0 := Lib.hid (outC_made w 0 ⟨#[]⟩ 25)
  have L0 := Lib.hid ((Leaves.refl hv hc).alloc hbw (.cells #[.int .i64 0, .string ⟨#[]⟩] 25))
  clear hv hc
  go_enter Tryz.func158, Tryz.ntmps158
  go_wp2_with fail
  refine (l3Draw_any b v n _ L0.out.1 L0.out.2.1).mono ?_
  rintro e w1 ⟨m, T, rfl, hm, hT, hl1⟩
  have L1 := Lib.hid (L0.out.trans hl1)
  have R1 := Lib.hid (outC_leaves R0.out hl1 (by omega))
  clear hl1
  have hw1 : w.heap.size < w1.heap.size := Kit.cell_lt R1.out.1.1
  have Y2 := Lib.hid (outC_made w1 m T 25)
  have L2 := Lib.hid (L1.out.alloc hbw (.cells #[.int .i64 m, .string T] 25))
  have R2 := Lib.hid (R1.out.on ((Below.refl w1.heap.size w1).alloc (Nat.le_refl _) (.cells #[.int .i64 m, .string T] 25)))
  go_wp2_with fail
  refine (HBW.out 18 (by omega) _ L2.out).mono ?_
  rintro e w3 ⟨r, hr, rfl, hl3⟩
  have L3 := Lib.hid (L2.out.trans hl3)
  have R3 := Lib.hid (outC_leaves R2.out hl3 (by omega))
  have Y3 := Lib.hid (outC_leaves Y2.out hl3 (by omega))
  have hw3 : w1.heap.size < w3.heap.size := Kit.cell_lt Y3.out.1.1
  clear hl3 hr
  rcases (by omega : r = 0 ∨ r = 1 ∨ 2 ≤ r) with rfl | rfl | hr2
  · have HLT := Lib.hid (lit_cells w3 [2, 8, 4, 5] 3)
    have HAL := Lib.hid ((Below.refl w3.heap.size w3).alloc (Nat.le_refl _) (.cells #[.int .i64 2, .int .i64 8, .int .i64 4, .int .i64 5] 3))
    have L4 := Lib.hid (L3.out.ext (HAL.out.mono L3.out.2.2.size) hbw)
    have R4 := Lib.hid (R3.out.on HAL.out)
    have Y4 := Lib.hid (Y3.out.on HAL.out)
    go_wp2_with fail
    refine (pickInt_any b w3.heap.size 4 v n [2, 8, 4, 5] (by decide) (by decide) _ L4.out.1 L4.out.2.1 HLT.out (by omega)).mono ?_
    rintro e w5 ⟨x, hx, rfl, hl5⟩
    have L5 := Lib.hid (L4.out.trans hl5)
    have R5 := Lib.hid (outC_leaves R4.out hl5 (by omega))
    have Y5 := Lib.hid (outC_leaves Y4.out hl5 (by omega))
    clear hl5
    obtain ⟨k, rfl, hk⟩ : ∃ k : Nat, x = (k : Int) ∧ (k ≤ 6 ∨ k = 8) := by
      simp only [List.mem_cons, List.mem_nil_iff, or_false] at hx
      rcases hx with rfl | rfl | rfl | rfl
      · exact ⟨2, rfl, by omega⟩
      · exact ⟨8, rfl, by omega⟩
      · exact ⟨4, rfl, by omega⟩
      · exact ⟨5, rfl, by omega⟩
    clear hx
    obtain ⟨⟨o0, o1⟩, f0, f1⟩ := Y5.out
    have R6 := Lib.hid (outC_off R5.out (so := w1.heap.size) (by omega) 0 (.int .i64 k))
    have L6 := Lib.hid (L5.out.ext ((Below.refl w.heap.size w5).setCell (p := ⟨w1.heap.size, 0, none⟩) (by simp; omega) (.int .i64 k)) hbw)
    obtain ⟨⟨e0, e1⟩, z0, z1⟩ := R6.out
    obtain ⟨k0, k1⟩ := ret_sg e0 e1 (.int .i64 k) (.string T)
    have LF := Lib.hid (leaves_ret (x := .int .i64 k) (y := .string T) L6.out hbw)
    go_wp2
    exact bodyPost_ret (v := .agg #[.int .i64 k, .string T]) (by simp [results, Tryz.results158, go_sem, k0, k1]) rfl ⟨k, T, rfl, hk, by omega, LF.out⟩
  · have HO := Lib.hid (⟨Y3.out, R3.out⟩ : OutC w1.heap.size m T w3 ∧ OutC w.heap.size 0 ⟨#[]⟩ w3)
    obtain ⟨⟨⟨o0, o1⟩, f0, f1⟩, hres⟩ := HO.out
    have hr1 : ∀ W (x : ByteArray), x.size = 1 → (Op.stringOp .add T x).run Tryz.prog W = .ok (.string (T ++ x)) W := fun W x hx => run_string_add_sum W _ _ (by omega)
    have HLT := Lib.hid (fun (W : World) => lit_strs W plusZero 9)
    have HL := L3
    go_wp2
    have hS0 := (⟨o1, f1, HO, Lib.hid HL.out.drew⟩ : w3.drew.cell? ⟨w1.heap.size, 1, none⟩ = some (.string T) ∧ w3.drew.frozen? ⟨w1.heap.size, 1, none⟩ = false ∧ Hid (OutC w1.heap.size m T w3.drew ∧ OutC w.heap.size 0 ⟨#[]⟩ w3.drew) ∧ Hid (Leaves b v n w w3.drew))
    refine Last.wp_region_last' (S := fun W => W.cell? ⟨w1.heap.size, 1, none⟩ = some (.string T) ∧ W.frozen? ⟨w1.heap.size, 1, none⟩ = false ∧ Hid (OutC w1.heap.size m T W ∧ OutC w.heap.size 0 ⟨#[]⟩ W) ∧ Hid (Leaves b v n w W)) 7 _ rfl rfl (by kernel_rfl) (by kernel_rfl) hS0 (fun hHeld => ?_)
    clear hS0 o0 o1 f0 f1
    simp only [List.take_succ_cons, List.take_zero]
    (refine wpAnyH_take (i := 0) (v := ?_) rfl (by kernel_rfl) (by kernel_rfl) (by kernel_rfl) (fun _ _ _ h => h) (Or.inl ⟨by rfl, ?_⟩) (by assumption) ?_; rotate_left; (focus (intro w hSw; (try dsimp only at hSw); go_simp; (try with_reducible rfl))); (simp only [Act.put, List.setIfInBounds_toArray]))
    (refine wpAnyH_take (i := 1) (v := ?_) rfl (by kernel_rfl) (by kernel_rfl) (by kernel_rfl) (fun _ _ _ h => h) (Or.inl ⟨by rfl, ?_⟩) (by assumption) ?_; rotate_left; (focus (intro w hSw; (try dsimp only at hSw); go_simp; (try with_reducible rfl))); (simp only [Act.put]))
    (refine wpAnyH_take (i := 2) (v := ?_) rfl (by kernel_rfl) (by kernel_rfl) (by kernel_rfl) (fun _ _ _ h => h) (Or.inl ⟨by rfl, ?_⟩) (by assumption) ?_; rotate_left; (focus (intro w hSw; (try dsimp only at hSw); go_simp; (try with_reducible rfl))); (simp only [Act.put]))
    refine wpAnyH_ready (rs := [3]) (by kernel_rfl) (by simp) ?_
    refine AllReadyH.cons rfl (fun K hK => ?_) AllReadyH.nil
    go_simp
    have HAL := Lib.hid (((Below.refl w3.heap.size w3).alloc (Nat.le_refl _) (.cells #[.string ⟨#[43]⟩, .string ⟨#[48]⟩] 9)).drew)
    have HOA := Lib.hid (⟨HO.out.1.on HAL.out, HO.out.2.on HAL.out⟩ : _ ∧ _)
    have HLA := Lib.hid (HL.out.ext (HAL.out.mono HL.out.2.2.size) hbw)
    refine hK.out _ _ ⟨HOA.out.1.1.2, HOA.out.1.2.2, HOA, HLA⟩ (fun hHeld => ?_)
    clear hK K
    try simp only [Act.put, List.setIfInBounds_toArray, List.set_cons_zero, List.set_cons_succ]
    refine wpAnyH_ready (rs := [4]) (by kernel_rfl) (by simp) ?_
    refine AllReadyH.cons rfl (fun K hK => ?_) AllReadyH.nil
    go_simp
    refine (pick_any b w3.heap.size 2 v n plusZero (by decide) (by decide) _ hHeld.2.2.2.out.1 hHeld.2.2.2.out.2.1 (HLT.out w3) (by have := HL.out.lt; omega)).mono ?_
    rintro e w4 ⟨x, hx, rfl, hl4⟩
    have hx1 := plusZero_sz x hx
    have hOO := Lib.hid (⟨outC_leaves hHeld.2.2.1.out.1 hl4 (by omega), outC_leaves hHeld.2.2.1.out.2 hl4 (by omega)⟩ : _ ∧ _)
    refine hK.out _ _ ⟨hOO.out.1.1.2, hOO.out.1.2.2, hOO, Lib.hid (hHeld.2.2.2.out.trans hl4)⟩ (fun hHeld => ?_)
    clear hK K hl4 hx
    have hr2 := fun W => hr1 W x hx1
    try simp only [Act.put, List.setIfInBounds_toArray, List.set_cons_zero, List.set_cons_succ]
    (refine wpAnyH_take (i := 5) (v := ?_) rfl (by kernel_rfl) (by kernel_rfl) (by kernel_rfl) (fun _ _ _ h => h) (Or.inl ⟨by rfl, ?_⟩) (by assumption) ?_; rotate_left; (focus (intro w hSw; (try dsimp only at hSw); go_simp; (try with_reducible rfl))); (simp only [Act.put, List.setIfInBounds_toArray]))
    (refine wpAnyH_take (i := 6) (v := ?_) rfl (by kernel_rfl) (by kernel_rfl) (by kernel_rfl) (fun _ _ _ h => h) (Or.inl ⟨by rfl, ?_⟩) (by assumption) ?_; rotate_left; (focus (intro w hSw; (try dsimp only at hSw); go_simp; (try with_reducible rfl))); (simp only [Act.put]))
    refine wpAnyH_done (by kernel_rfl) ?_ _
    obtain ⟨o1, f1, HO4, HL4⟩ := hHeld
    have hTx : (T ++ x).size = T.size + 1 := by rw [ByteArray.size_append, hx1]
    obtain ⟨⟨⟨o0, -⟩, f0, -⟩, hres⟩ := HO4.out
    have L6 := Lib.hid (HL4.out.ext ((Below.refl w.heap.size w4).setCell (p := ⟨w1.heap.size, 1, none⟩) (by simp; omega) (.string (T ++ x))) hbw)
    have R6 := Lib.hid (outC_off hres (so := w1.heap.size) (by omega) 1 (.string (T ++ x)))
    have Y6 := Lib.hid (HO4.out.1.set (T ++ x))
    clear hres
    change wpList _ _ _ [_] _ _
    obtain ⟨⟨e0, e1⟩, z0, z1⟩ := R6.out
    obtain ⟨k0, k1⟩ := ret_sg e0 e1 (.int .i64 m) (.string (T ++ x))
    have LF := Lib.hid (leaves_ret (x := .int .i64 m) (y := .string (T ++ x)) L6.out hbw)
    go_wp2
    exact bodyPost_ret (v := .agg #[.int .i64 m, .string (T ++ x)]) (by simp [results, Tryz.results158, go_sem, k0, k1]) rfl ⟨m, T ++ x, rfl, by omega, by omega, LF.out⟩
  · obtain ⟨⟨o0, o1⟩, f0, f1⟩ := Y3.out
    obtain ⟨⟨e0, e1⟩, z0, z1⟩ := R3.out
    obtain ⟨k0, k1⟩ := ret_sg e0 e1 (.int .i64 m) (.string T)
    have LF := Lib.hid (leaves_ret (x := .int .i64 m) (y := .string T) L3.out hbw)
    go_wp2
    exact bodyPost_ret (v := .agg #[.int .i64 m, .string T]) (by simp [results, Tryz.results158, go_sem, k0, k1]) rfl ⟨m, T, rfl, by omega, by omega, LF.out⟩
end Go.Proofs.YtinlnafkmoabbaaGreatDoor.Cur
/- The draws of signs: l4Draw. -/
namespace Go.Proofs.YtinlnafkmoabbaaGreatDoor.Cur
open Go.RowKit Pt Sg
theorem l4Rev_sg (m : Nat) (T : ByteArray) (set : Nat) (h3 : 3 ≤ m) (h6 : m ≤ 6) (har : arB m T.data.toList = true) (hs : set < 1024) (w : World) :
    Calls Tryz.prog 159 #[sg m T, .int .i64 set] w fun e w' => ∃ T' : ByteArray, e = .returned (sg m T') ∧ T'.size ≤ 20 ∧ Below w.heap.size w w' := by
  refine (l4Reverse_any m T set har hs w).mono ?_
  rintro e w' ⟨rfl, hb⟩
  refine ⟨_, rfl, ?_, hb⟩
  show (text3 m (rvF m T.data.toList set)).toArray.size ≤ 20
  rw [List.size_toArray, text3_length (by omega)]
  rcases (by omega : m = 3 ∨ m = 4 ∨ m = 5 ∨ m = 6) with e | e | e | e <;> rw [e] <;> decide
set_option maxHeartbeats 3200000 in
set_option maxRecDepth 100000 in
theorem l4Draw_any (b : Nat) (v : Value) (n : Nat) (w : World) (hv : Bytes w v n b) (hc : At w b v n) :
    Calls Tryz.prog 127 #[.pointer (some ⟨b, 0, none⟩)] w fun e w' => ∃ (m : Nat) (T : ByteArray), e = .returned (sg m T) ∧ (m ≤ 6 ∨ m = 8) ∧ T.size ≤ 21 ∧ Leaves b v n w w' := by
  have hbw := hc.lt
  have HBW := Lib.hid (fun (m : Nat) (hm : m ≤ 2147483648) W (hl : Leaves b v n w W) => (below_any b v n m hm W hl.1 hl.2.1))
  have HON := Lib.hid (fun (m : Nat) (hm : m ≤ 2147483648) W (hl : Leaves b v n w W) => (once_any b v n m hm W hl.1 hl.2.1))
  have R0 := Lib.hid (outC_made w 0 ⟨#[]⟩ 25)
  have L0 := Lib.hid ((Leaves.refl hv hc).alloc hbw (.cells #[.int .i64 0, .string ⟨#[]⟩] 25))
  clear hv hc
  go_enter Tryz.func127, Tryz.ntmps127
  go_wp2_with fail
  refine (l3Bent_any b v n _ L0.out.1 L0.out.2.1).mono ?_
  rintro e w1 ⟨m, T, rfl, hm, hT, hl1⟩
  have L1 := Lib.hid (L0.out.trans hl1)
  have R1 := Lib.hid (outC_leaves R0.out hl1 (by omega))
  clear hl1
  have hw1 : w.heap.size < w1.heap.size := Kit.cell_lt R1.out.1.1
  have Y2 := Lib.hid (outC_made w1 m T 25)
  have L2 := Lib.hid (L1.out.alloc hbw (.cells #[.int .i64 m, .string T] 25))
  have R2 := Lib.hid (R1.out.on ((Below.refl w1.heap.size w1).alloc (Nat.le_refl _) (.cells #[.int .i64 m, .string T] 25)))
  obtain ⟨⟨y0, y1⟩, -⟩ := Y2.out
  go_wp2_with fail
  refine (specAre_sg m T (by omega) _).mono ?_
  rintro e w2 ⟨rfl, hb2⟩
  have L3 := Lib.hid (L2.out.ext (hb2.mono L2.out.2.2.size) hbw)
  have R3 := Lib.hid (R2.out.on hb2)
  have Y3 := Lib.hid (Y2.out.on hb2)
  clear hb2 y0 y1
  cases har : arB m T.data.toList
  · obtain ⟨⟨o0, o1⟩, f0, f1⟩ := Y3.out
    obtain ⟨⟨e0, e1⟩, z0, z1⟩ := R3.out
    obtain ⟨k0, k1⟩ := ret_sg e0 e1 (.int .i64 m) (.string T)
    have LF := Lib.hid (leaves_ret (x := .int .i64 m) (y := .string T) L3.out hbw)
    go_wp2
    exact bodyPost_ret (v := .agg #[.int .i64 m, .string T]) (by simp [results, Tryz.results127, go_sem, k0, k1]) rfl ⟨m, T, rfl, by omega, by omega, LF.out⟩
  · go_wp2_with fail
    refine (HON.out 4 (by omega) _ L3.out).mono ?_
    rintro e w3 ⟨q, rfl, hl3⟩
    have L4 := Lib.hid (L3.out.trans hl3)
    have R4 := Lib.hid (outC_leaves R3.out hl3 (by omega))
    have Y4 := Lib.hid (outC_leaves Y3.out hl3 (by omega))
    clear hl3
    cases q
    · obtain ⟨⟨o0, o1⟩, f0, f1⟩ := Y4.out
      obtain ⟨⟨e0, e1⟩, z0, z1⟩ := R4.out
      obtain ⟨k0, k1⟩ := ret_sg e0 e1 (.int .i64 m) (.string T)
      have LF := Lib.hid (leaves_ret (x := .int .i64 m) (y := .string T) L4.out hbw)
      go_wp2
      exact bodyPost_ret (v := .agg #[.int .i64 m, .string T]) (by simp [results, Tryz.results127, go_sem, k0, k1]) rfl ⟨m, T, rfl, by omega, by omega, LF.out⟩
    · obtain ⟨hm3, hm7, -, -⟩ := arB_yes har
      have hm6 : 3 ≤ m ∧ m ≤ 6 := by omega
      clear hm3 hm7
      have HRV := Lib.hid (fun (set : Nat) (hs : set < 1024) W => l4Rev_sg m T set hm6.1 hm6.2 har hs W)
      have HO := Lib.hid (⟨Y4.out, R4.out⟩ : OutC w1.heap.size m T w3 ∧ OutC w.heap.size 0 ⟨#[]⟩ w3)
      obtain ⟨⟨⟨o0, o1⟩, -⟩, hres⟩ := HO.out
      clear hres
      go_wp2
      have hS0 := (⟨o0, o1, HO, Lib.hid L4.out.drew⟩ : w3.drew.cell? ⟨w1.heap.size, 0, none⟩ = some (.int .i64 m) ∧ w3.drew.cell? ⟨w1.heap.size, 1, none⟩ = some (.string T) ∧ Hid (OutC w1.heap.size m T w3.drew ∧ OutC w.heap.size 0 ⟨#[]⟩ w3.drew) ∧ Hid (Leaves b v n w w3.drew))
      refine Last.wp_region_last' (S := fun W => W.cell? ⟨w1.heap.size, 0, none⟩ = some (.int .i64 m) ∧ W.cell? ⟨w1.heap.size, 1, none⟩ = some (.string T) ∧ Hid (OutC w1.heap.size m T W ∧ OutC w.heap.size 0 ⟨#[]⟩ W) ∧ Hid (Leaves b v n w W)) 8 _ rfl rfl (by kernel_rfl) (by kernel_rfl) hS0 (fun hHeld => ?_)
      clear hS0 o0 o1
      simp only [List.take_succ_cons, List.take_zero]
      (refine wpAnyH_take (i := 0) (v := ?_) rfl (by kernel_rfl) (by kernel_rfl) (by kernel_rfl) (fun _ _ _ h => h) (Or.inl ⟨by rfl, ?_⟩) (by assumption) ?_; rotate_left; (focus (intro w hSw; (try dsimp only at hSw); go_simp; (try with_reducible rfl))); (simp only [Act.put, List.setIfInBounds_toArray]))
      (refine wpAnyH_take (i := 1) (v := ?_) rfl (by kernel_rfl) (by kernel_rfl) (by kernel_rfl) (fun _ _ _ h => h) (Or.inl ⟨by rfl, ?_⟩) (by assumption) ?_; rotate_left; (focus (intro w hSw; (try dsimp only at hSw); go_simp; (try with_reducible rfl))); (simp only [Act.put]))
      (refine wpAnyH_take (i := 2) (v := ?_) rfl (by kernel_rfl) (by kernel_rfl) (by kernel_rfl) (fun _ _ _ h => h) (Or.inl ⟨by rfl, ?_⟩) (by assumption) ?_; rotate_left; (focus (intro w hSw; (try dsimp only at hSw); go_simp; (try with_reducible rfl))); (simp only [Act.put]))
      (refine wpAnyH_take (i := 3) (v := ?_) rfl (by kernel_rfl) (by kernel_rfl) (by kernel_rfl) (fun _ _ _ h => h) (Or.inl ⟨by rfl, ?_⟩) (by assumption) ?_; rotate_left; (focus (intro w hSw; (try dsimp only at hSw); go_simp; (try with_reducible rfl))); (simp only [Act.put]))
      refine wpAnyH_ready (rs := [4]) (by kernel_rfl) (by simp) ?_
      refine AllReadyH.cons rfl (fun K hK => ?_) AllReadyH.nil
      go_simp
      refine (HBW.out m (by omega) _ hHeld.2.2.2.out).mono ?_
      rintro e w4 ⟨r, hr, rfl, hl4⟩
      have hOO := Lib.hid (⟨outC_leaves hHeld.2.2.1.out.1 hl4 (by omega), outC_leaves hHeld.2.2.1.out.2 hl4 (by omega)⟩ : _ ∧ _)
      refine hK.out _ _ ⟨hOO.out.1.1.1, hOO.out.1.1.2, hOO, Lib.hid (hHeld.2.2.2.out.trans hl4)⟩ (fun hHeld => ?_)
      clear hK K hl4
      try simp only [Act.put, List.setIfInBounds_toArray, List.set_cons_zero, List.set_cons_succ]
      have hr6 : r = 0 ∨ r = 1 ∨ r = 2 ∨ r = 3 ∨ r = 4 ∨ r = 5 := by omega
      clear hr
      rcases hr6 with rfl | rfl | rfl | rfl | rfl | rfl
      · (refine wpAnyH_take (i := 5) (v := ?_) rfl (by kernel_rfl) (by kernel_rfl) (by kernel_rfl) (fun _ _ _ h => h) (Or.inl ⟨by rfl, ?_⟩) (by assumption) ?_; rotate_left; (focus (intro w hSw; (try dsimp only at hSw); go_simp; (try with_reducible rfl))); (simp only [Act.put, List.setIfInBounds_toArray]))
        (refine wpAnyH_take (i := 6) (v := ?_) rfl (by kernel_rfl) (by kernel_rfl) (by kernel_rfl) (fun _ _ _ h => h) (Or.inl ⟨by rfl, ?_⟩) (by assumption) ?_; rotate_left; (focus (intro w hSw; (try dsimp only at hSw); go_simp; (try with_reducible rfl))); (simp only [Act.put]))
        refine wpAnyH_ready (rs := [7]) (by kernel_rfl) (by simp) ?_
        refine AllReadyH.cons rfl (fun K hK => ?_) AllReadyH.nil
        go_simp
        refine (HRV.out 1 (by omega) _).mono ?_
        rintro e w5 ⟨T', rfl, hT', hb5⟩
        have hOO5 := Lib.hid (⟨hHeld.2.2.1.out.1.on hb5, hHeld.2.2.1.out.2.on hb5⟩ : _ ∧ _)
        refine hK.out _ _ ⟨hOO5.out.1.1.1, hOO5.out.1.1.2, hOO5, Lib.hid (hHeld.2.2.2.out.ext (hb5.mono hHeld.2.2.2.out.2.2.size) hbw)⟩ (fun hHeld => ?_)
        clear hK K hb5
        try simp only [Act.put, List.setIfInBounds_toArray, List.set_cons_zero, List.set_cons_succ]
        refine wpAnyH_done (by kernel_rfl) ?_ _
        obtain ⟨-, -, HO6, HL6⟩ := hHeld
        obtain ⟨⟨e0, e1⟩, z0, z1⟩ := HO6.out.2
        change wpList _ _ _ [_] _ _
        obtain ⟨k0, k1⟩ := ret_sg e0 e1 (.int .i64 m) (.string T')
        have LF := Lib.hid (leaves_ret (x := .int .i64 m) (y := .string T') HL6.out hbw)
        go_wp2
        exact bodyPost_ret (v := .agg #[.int .i64 m, .string T']) (by simp [results, Tryz.results127, go_sem, k0, k1]) rfl ⟨m, T', rfl, by omega, by omega, LF.out⟩
      · (refine wpAnyH_take (i := 5) (v := ?_) rfl (by kernel_rfl) (by kernel_rfl) (by kernel_rfl) (fun _ _ _ h => h) (Or.inl ⟨by rfl, ?_⟩) (by assumption) ?_; rotate_left; (focus (intro w hSw; (try dsimp only at hSw); go_simp; (try with_reducible rfl))); (simp only [Act.put, List.setIfInBounds_toArray]))
        (refine wpAnyH_take (i := 6) (v := ?_) rfl (by kernel_rfl) (by kernel_rfl) (by kernel_rfl) (fun _ _ _ h => h) (Or.inl ⟨by rfl, ?_⟩) (by assumption) ?_; rotate_left; (focus (intro w hSw; (try dsimp only at hSw); go_simp; (try with_reducible rfl))); (simp only [Act.put]))
        refine wpAnyH_ready (rs := [7]) (by kernel_rfl) (by simp) ?_
        refine AllReadyH.cons rfl (fun K hK => ?_) AllReadyH.nil
        go_simp
        refine (HRV.out 2 (by omega) _).mono ?_
        rintro e w5 ⟨T', rfl, hT', hb5⟩
        have hOO5 := Lib.hid (⟨hHeld.2.2.1.out.1.on hb5, hHeld.2.2.1.out.2.on hb5⟩ : _ ∧ _)
        refine hK.out _ _ ⟨hOO5.out.1.1.1, hOO5.out.1.1.2, hOO5, Lib.hid (hHeld.2.2.2.out.ext (hb5.mono hHeld.2.2.2.out.2.2.size) hbw)⟩ (fun hHeld => ?_)
        clear hK K hb5
        try simp only [Act.put, List.setIfInBounds_toArray, List.set_cons_zero, List.set_cons_succ]
        refine wpAnyH_done (by kernel_rfl) ?_ _
        obtain ⟨-, -, HO6, HL6⟩ := hHeld
        obtain ⟨⟨e0, e1⟩, z0, z1⟩ := HO6.out.2
        change wpList _ _ _ [_] _ _
        obtain ⟨k0, k1⟩ := ret_sg e0 e1 (.int .i64 m) (.string T')
        have LF := Lib.hid (leaves_ret (x := .int .i64 m) (y := .string T') HL6.out hbw)
        go_wp2
        exact bodyPost_ret (v := .agg #[.int .i64 m, .string T']) (by simp [results, Tryz.results127, go_sem, k0, k1]) rfl ⟨m, T', rfl, by omega, by omega, LF.out⟩
      · (refine wpAnyH_take (i := 5) (v := ?_) rfl (by kernel_rfl) (by kernel_rfl) (by kernel_rfl) (fun _ _ _ h => h) (Or.inl ⟨by rfl, ?_⟩) (by assumption) ?_; rotate_left; (focus (intro w hSw; (try dsimp only at hSw); go_simp; (try with_reducible rfl))); (simp only [Act.put, List.setIfInBounds_toArray]))
        (refine wpAnyH_take (i := 6) (v := ?_) rfl (by kernel_rfl) (by kernel_rfl) (by kernel_rfl) (fun _ _ _ h => h) (Or.inl ⟨by rfl, ?_⟩) (by assumption) ?_; rotate_left; (focus (intro w hSw; (try dsimp only at hSw); go_simp; (try with_reducible rfl))); (simp only [Act.put]))
        refine wpAnyH_ready (rs := [7]) (by kernel_rfl) (by simp) ?_
        refine AllReadyH.cons rfl (fun K hK => ?_) AllReadyH.nil
        go_simp
        refine (HRV.out 4 (by omega) _).mono ?_
        rintro e w5 ⟨T', rfl, hT', hb5⟩
        have hOO5 := Lib.hid (⟨hHeld.2.2.1.out.1.on hb5, hHeld.2.2.1.out.2.on hb5⟩ : _ ∧ _)
        refine hK.out _ _ ⟨hOO5.out.1.1.1, hOO5.out.1.1.2, hOO5, Lib.hid (hHeld.2.2.2.out.ext (hb5.mono hHeld.2.2.2.out.2.2.size) hbw)⟩ (fun hHeld => ?_)
        clear hK K hb5
        try simp only [Act.put, List.setIfInBounds_toArray, List.set_cons_zero, List.set_cons_succ]
        refine wpAnyH_done (by kernel_rfl) ?_ _
        obtain ⟨-, -, HO6, HL6⟩ := hHeld
        obtain ⟨⟨e0, e1⟩, z0, z1⟩ := HO6.out.2
        change wpList _ _ _ [_] _ _
        obtain ⟨k0, k1⟩ := ret_sg e0 e1 (.int .i64 m) (.string T')
        have LF := Lib.hid (leaves_ret (x := .int .i64 m) (y := .string T') HL6.out hbw)
        go_wp2
        exact bodyPost_ret (v := .agg #[.int .i64 m, .string T']) (by simp [results, Tryz.results127, go_sem, k0, k1]) rfl ⟨m, T', rfl, by omega, by omega, LF.out⟩
      · (refine wpAnyH_take (i := 5) (v := ?_) rfl (by kernel_rfl) (by kernel_rfl) (by kernel_rfl) (fun _ _ _ h => h) (Or.inl ⟨by rfl, ?_⟩) (by assumption) ?_; rotate_left; (focus (intro w hSw; (try dsimp only at hSw); go_simp; (try with_reducible rfl))); (simp only [Act.put, List.setIfInBounds_toArray]))
        (refine wpAnyH_take (i := 6) (v := ?_) rfl (by kernel_rfl) (by kernel_rfl) (by kernel_rfl) (fun _ _ _ h => h) (Or.inl ⟨by rfl, ?_⟩) (by assumption) ?_; rotate_left; (focus (intro w hSw; (try dsimp only at hSw); go_simp; (try with_reducible rfl))); (simp only [Act.put]))
        refine wpAnyH_ready (rs := [7]) (by kernel_rfl) (by simp) ?_
        refine AllReadyH.cons rfl (fun K hK => ?_) AllReadyH.nil
        go_simp
        refine (HRV.out 8 (by omega) _).mono ?_
        rintro e w5 ⟨T', rfl, hT', hb5⟩
        have hOO5 := Lib.hid (⟨hHeld.2.2.1.out.1.on hb5, hHeld.2.2.1.out.2.on hb5⟩ : _ ∧ _)
        refine hK.out _ _ ⟨hOO5.out.1.1.1, hOO5.out.1.1.2, hOO5, Lib.hid (hHeld.2.2.2.out.ext (hb5.mono hHeld.2.2.2.out.2.2.size) hbw)⟩ (fun hHeld => ?_)
        clear hK K hb5
        try simp only [Act.put, List.setIfInBounds_toArray, List.set_cons_zero, List.set_cons_succ]
        refine wpAnyH_done (by kernel_rfl) ?_ _
        obtain ⟨-, -, HO6, HL6⟩ := hHeld
        obtain ⟨⟨e0, e1⟩, z0, z1⟩ := HO6.out.2
        change wpList _ _ _ [_] _ _
        obtain ⟨k0, k1⟩ := ret_sg e0 e1 (.int .i64 m) (.string T')
        have LF := Lib.hid (leaves_ret (x := .int .i64 m) (y := .string T') HL6.out hbw)
        go_wp2
        exact bodyPost_ret (v := .agg #[.int .i64 m, .string T']) (by simp [results, Tryz.results127, go_sem, k0, k1]) rfl ⟨m, T', rfl, by omega, by omega, LF.out⟩
      · (refine wpAnyH_take (i := 5) (v := ?_) rfl (by kernel_rfl) (by kernel_rfl) (by kernel_rfl) (fun _ _ _ h => h) (Or.inl ⟨by rfl, ?_⟩) (by assumption) ?_; rotate_left; (focus (intro w hSw; (try dsimp only at hSw); go_simp; (try with_reducible rfl))); (simp only [Act.put, List.setIfInBounds_toArray]))
        (refine wpAnyH_take (i := 6) (v := ?_) rfl (by kernel_rfl) (by kernel_rfl) (by kernel_rfl) (fun _ _ _ h => h) (Or.inl ⟨by rfl, ?_⟩) (by assumption) ?_; rotate_left; (focus (intro w hSw; (try dsimp only at hSw); go_simp; (try with_reducible rfl))); (simp only [Act.put]))
        refine wpAnyH_ready (rs := [7]) (by kernel_rfl) (by simp) ?_
        refine AllReadyH.cons rfl (fun K hK => ?_) AllReadyH.nil
        go_simp
        refine (HRV.out 16 (by omega) _).mono ?_
        rintro e w5 ⟨T', rfl, hT', hb5⟩
        have hOO5 := Lib.hid (⟨hHeld.2.2.1.out.1.on hb5, hHeld.2.2.1.out.2.on hb5⟩ : _ ∧ _)
        refine hK.out _ _ ⟨hOO5.out.1.1.1, hOO5.out.1.1.2, hOO5, Lib.hid (hHeld.2.2.2.out.ext (hb5.mono hHeld.2.2.2.out.2.2.size) hbw)⟩ (fun hHeld => ?_)
        clear hK K hb5
        try simp only [Act.put, List.setIfInBounds_toArray, List.set_cons_zero, List.set_cons_succ]
        refine wpAnyH_done (by kernel_rfl) ?_ _
        obtain ⟨-, -, HO6, HL6⟩ := hHeld
        obtain ⟨⟨e0, e1⟩, z0, z1⟩ := HO6.out.2
        change wpList _ _ _ [_] _ _
        obtain ⟨k0, k1⟩ := ret_sg e0 e1 (.int .i64 m) (.string T')
        have LF := Lib.hid (leaves_ret (x := .int .i64 m) (y := .string T') HL6.out hbw)
        go_wp2
        exact bodyPost_ret (v := .agg #[.int .i64 m, .string T']) (by simp [results, Tryz.results127, go_sem, k0, k1]) rfl ⟨m, T', rfl, by omega, by omega, LF.out⟩
      · (refine wpAnyH_take (i := 5) (v := ?_) rfl (by kernel_rfl) (by kernel_rfl) (by kernel_rfl) (fun _ _ _ h => h) (Or.inl ⟨by rfl, ?_⟩) (by assumption) ?_; rotate_left; (focus (intro w hSw; (try dsimp only at hSw); go_simp; (try with_reducible rfl))); (simp only [Act.put, List.setIfInBounds_toArray]))
        (refine wpAnyH_take (i := 6) (v := ?_) rfl (by kernel_rfl) (by kernel_rfl) (by kernel_rfl) (fun _ _ _ h => h) (Or.inl ⟨by rfl, ?_⟩) (by assumption) ?_; rotate_left; (focus (intro w hSw; (try dsimp only at hSw); go_simp; (try with_reducible rfl))); (simp only [Act.put]))
        refine wpAnyH_ready (rs := [7]) (by kernel_rfl) (by simp) ?_
        refine AllReadyH.cons rfl (fun K hK => ?_) AllReadyH.nil
        go_simp
        refine (HRV.out 32 (by omega) _).mono ?_
        rintro e w5 ⟨T', rfl, hT', hb5⟩
        have hOO5 := Lib.hid (⟨hHeld.2.2.1.out.1.on hb5, hHeld.2.2.1.out.2.on hb5⟩ : _ ∧ _)
        refine hK.out _ _ ⟨hOO5.out.1.1.1, hOO5.out.1.1.2, hOO5, Lib.hid (hHeld.2.2.2.out.ext (hb5.mono hHeld.2.2.2.out.2.2.size) hbw)⟩ (fun hHeld => ?_)
        clear hK K hb5
        try simp only [Act.put, List.setIfInBounds_toArray, List.set_cons_zero, List.set_cons_succ]
        refine wpAnyH_done (by kernel_rfl) ?_ _
        obtain ⟨-, -, HO6, HL6⟩ := hHeld
        obtain ⟨⟨e0, e1⟩, z0, z1⟩ := HO6.out.2
        change wpList _ _ _ [_] _ _
        obtain ⟨k0, k1⟩ := ret_sg e0 e1 (.int .i64 m) (.string T')
        have LF := Lib.hid (leaves_ret (x := .int .i64 m) (y := .string T') HL6.out hbw)
        go_wp2
        exact bodyPost_ret (v := .agg #[.int .i64 m, .string T']) (by simp [results, Tryz.results127, go_sem, k0, k1]) rfl ⟨m, T', rfl, by omega, by omega, LF.out⟩
end Go.Proofs.YtinlnafkmoabbaaGreatDoor.Cur
/- (Last with edges of other readings left aside.) A region that draws its order and ends by one operation that waits for all others (a store into a cell that the region reads): all but the last under a condition on the world, then the last. -/
namespace Go.Proofs.YtinlnafkmoabbaaGreatDoor.LastB
open Go
section
variable {P : Program} {Q : Exit → Act → World → Prop}
/-- What is asked behind all operations but the last: the last one. -/
def lastQ (P : Program) (ops : Array Oper) (o : Oper) (Q : Exit → Act → World → Prop) : Exit → Act → World → Prop
  | .normal, a, w => wpList P ops Q [o] a w
  | .panic c, a, w => Q (.panic c) a w
  | .outgrown, a, w => Q .outgrown a w
  | _, _, _ => False
/-- Each operation waits for, and is guarded by, earlier ones alone. -/
def edgesB : Nat → List Oper → Bool
  | _, [] => true
  | k, o :: r => o.after.all (fun e => !Region.binds .any e || decide (e.on < k)) && (match o.guard with | some (g, _) => decide (g < k) | none => true) && edgesB (k + 1) r
def lastB (l : List Oper) (o : Oper) : Bool :=
  edgesB 0 l && o.after.all (fun e => decide (e.on < l.length)) && (List.range l.length).all (fun i => o.after.any fun e => Region.binds .any e && e.on == i)
theorem edges_spec : ∀ (l : List Oper) (k : Nat), edgesB k l = true → ∀ (i : Nat) (o : Oper), l[i]? = some o → (∀ e ∈ o.after, Region.binds .any e = true → e.on < k + i) ∧ ∀ g b, o.guard = some (g, b) → g < k + i
  | [], _, _, i, o, h => by simp at h
  | x :: r, k, hB, 0, o, h => by
    simp only [List.getElem?_cons_zero, Option.some.injEq] at h
    subst h
    simp only [edgesB, Bool.and_eq_true, Array.all_eq_true_iff_forall_mem] at hB
    refine ⟨fun e he hb => by have := hB.1.1 e he; rw [hb] at this; simpa using this, fun g b hg => ?_⟩
    have h2 := hB.1.2
    rw [hg] at h2
    simpa using h2
  | x :: r, k, hB, i + 1, o, h => by
    simp only [edgesB, Bool.and_eq_true] at hB
    have := edges_spec r (k + 1) hB.2 i o (by simpa using h)
    rw [show k + (i + 1) = k + 1 + i by omega]
    exact this
theorem get_l {l : List Oper} {o : Oper} {i : Nat} (h : i < l.length) : (l ++ [o]).toArray[i]? = l.toArray[i]? := by
  simp [List.getElem?_append_left h]
theorem get_o {l : List Oper} {o : Oper} : (l ++ [o]).toArray[l.length]? = some o := by simp
theorem wanted_same {l : List Oper} {o o' : Oper} (h : ∀ g b, o'.guard = some (g, b) → g < l.length) (t : Array Value) : Region.wanted o' (yielded (l ++ [o]).toArray t) = Region.wanted o' (yielded l.toArray t) := by
  unfold Region.wanted
  cases hg : o'.guard with
  | none => rfl
  | some q =>
    obtain ⟨g, b⟩ := q
    have := h g b hg
    simp only [yielded, get_l this]
theorem upon_last (o' : Oper) (a : Act) (K : Act → World → Prop) (ops : Array Oper) (o : Oper) (r : Result Next) : o'.upon P a K (lastQ P ops o Q) r = o'.upon P a K Q r := by
  cases r with
  | ok n w => cases n <;> rfl
  | halt x w => cases x <;> rfl
theorem wpOp_last {l : List Oper} {o : Oper} {i : Nat} (hi : i < l.length) (hg : ∀ o', l[i]? = some o' → ∀ g b, o'.guard = some (g, b) → g < l.length) {K K' : Act → World → Prop} (hK : ∀ a w, K a w → K' a w) {a : Act} {w : World}
    (h : wpOp P l.toArray (lastQ P (l ++ [o]).toArray o Q) i K a w) : wpOp P (l ++ [o]).toArray Q i K' a w := by
  refine wpOp_mono hK ?_
  unfold wpOp at *
  rw [get_l hi]
  cases ho : l.toArray[i]? with
  | none => rw [ho] at h; exact h
  | some o' =>
    rw [ho] at h
    simp only [] at h ⊢
    rw [wanted_same (hg o' (by simpa using ho))]
    split
    · rename_i hw
      rw [if_pos hw] at h
      unfold Oper.wp at *
      rw [upon_last] at h
      exact h
    · rename_i hw
      rw [if_neg hw] at h
      exact h
theorem getD_push {listed : Array Bool} {i : Nat} (d : Bool) (h : i < listed.size) : (listed.push false).getD i d = listed.getD i d := by
  simp [Array.getD_eq_getD_getElem?, Array.getElem?_push, show i ≠ listed.size by omega]
theorem all_listed {l : List Oper} (hE : edgesB 0 l = true) {listed : Array Bool} (hs : listed.size = l.length) (hr : Region.ready .any l.toArray listed = []) : ∀ i, i < l.length → listed.getD i false = true := by
  intro i
  induction i using Nat.strongRecOn with
  | ind i ih =>
    intro hi
    cases hl : listed.getD i false with
    | true => rfl
    | false =>
      have hl2 : listed.getD i true = false := by
        rw [Array.getD_eq_getD_getElem?] at hl ⊢
        rw [Array.getElem?_eq_getElem (by omega)] at hl ⊢
        simpa using hl
      have ho := List.getElem?_eq_getElem hi
      obtain ⟨h1, -⟩ := edges_spec l 0 hE i _ ho
      have : i ∈ Region.ready .any l.toArray listed := mem_ready.2 ⟨hl2, l[i], by rw [List.getElem?_toArray]; exact ho, fun e he hb => ih e.on (by have := h1 e he hb; omega) (by have := h1 e he hb; omega)⟩
      rw [hr] at this
      cases this
theorem any_last {l : List Oper} {o : Oper} (hB : lastB l o = true) :
    ∀ (fuel : Nat) (listed : Array Bool) (a : Act) (w : World), listed.size = l.length → wpAny P .any l.toArray (lastQ P (l ++ [o]).toArray o Q) fuel listed a w → wpAny P .any (l ++ [o]).toArray Q (fuel + 1) (listed.push false) a w := by
  simp only [lastB, Bool.and_eq_true, Array.all_eq_true_iff_forall_mem, decide_eq_true_eq, List.all_eq_true, List.mem_range, Array.any_eq_true', beq_iff_eq] at hB
  obtain ⟨⟨hE, hO⟩, hW⟩ := hB
  have hgd : ∀ (i : Nat) (o' : Oper), l[i]? = some o' → ∀ g b, o'.guard = some (g, b) → g < l.length := fun i o' h g b hg => by
    have := (edges_spec l 0 hE i o' h).2 g b hg
    have := (List.getElem?_eq_some_iff.1 h).1
    omega
  -- where all but the last are listed
  have fin : ∀ (fuel : Nat) (listed : Array Bool) (a : Act) (w : World), listed.size = l.length → (∀ i, i < l.length → listed.getD i false = true) → wpList P (l ++ [o]).toArray Q [o] a w → wpAny P .any (l ++ [o]).toArray Q (fuel + 1) (listed.push false) a w := by
    intro fuel listed a w hs hall h
    have hmem : ∀ j, j ∈ Region.ready .any (l ++ [o]).toArray (listed.push false) → j = l.length := fun j hj => by
      obtain ⟨h1, o', ho', -⟩ := mem_ready.1 hj
      have hj2 : j < l.length + 1 := by have := (Array.getElem?_eq_some_iff.1 ho').1; simpa using this
      rcases Nat.lt_or_ge j l.length with h2 | h2
      · have := hall j h2
        rw [getD_push _ (by omega)] at h1
        rw [Array.getD_eq_getD_getElem?, Array.getElem?_eq_getElem (by omega)] at this h1
        simp at this h1
        rw [this] at h1
        cases h1
      · omega
    have hin : l.length ∈ Region.ready .any (l ++ [o]).toArray (listed.push false) := mem_ready.2 ⟨by rw [Array.getD_eq_getD_getElem?, ← hs, Array.getElem?_push_size]; rfl, o, get_o, fun e he _ => by rw [getD_push _ (by have := hO e he; omega)]; exact hall _ (hO e he)⟩
    have hdone : Region.ready .any (l ++ [o]).toArray ((listed.push false).setIfInBounds l.length true) = [] := by
      refine List.eq_nil_iff_forall_not_mem.2 fun j hj => ?_
      obtain ⟨h1, o', ho', -⟩ := mem_ready.1 hj
      have hj2 : j < l.length + 1 := by have := (Array.getElem?_eq_some_iff.1 ho').1; simpa using this
      rcases Nat.lt_or_ge j l.length with h2 | h2
      · rw [getD_set_ne true (by omega), getD_push _ (by omega)] at h1
        have := hall j h2
        rw [Array.getD_eq_getD_getElem?, Array.getElem?_eq_getElem (by omega)] at this h1
        simp at this h1
        rw [this] at h1
        cases h1
      · obtain rfl : j = l.length := by omega
        rw [Array.getD_eq_getD_getElem?, Array.getElem?_setIfInBounds] at h1
        simp [hs] at h1
    refine ⟨fun h0 => by rw [h0] at hin; (cases hin), fun i hi => ?_⟩
    obtain rfl := hmem i hi
    have hend : ∀ a w, Q .normal a w → wpAny P .any (l ++ [o]).toArray Q fuel ((listed.push false).setIfInBounds l.length true) a w := fun a w hq => by
      cases fuel with
      | zero => exact ⟨hdone, hq⟩
      | succ f => exact ⟨fun _ => hq, fun j hj => by rw [hdone] at hj; cases hj⟩
    refine wpOp_mono hend ?_
    unfold wpOp
    rw [get_o]
    exact h
  intro fuel
  induction fuel with
  | zero =>
    intro listed a w hs h
    exact fin 0 listed a w hs (all_listed hE hs h.1) h.2
  | succ fuel ih =>
    intro listed a w hs h
    by_cases hr : Region.ready .any l.toArray listed = []
    · exact fin (fuel + 1) listed a w hs (all_listed hE hs hr) (h.1 hr)
    · obtain ⟨i0, hi0⟩ : ∃ i0, i0 ∈ Region.ready .any l.toArray listed := List.exists_mem_of_ne_nil _ hr
      obtain ⟨u0, oi, hoi, w0⟩ := mem_ready.1 hi0
      have hl0 : i0 < l.length := by have := (Array.getElem?_eq_some_iff.1 hoi).1; simpa using this
      have key : ∀ j, j ∈ Region.ready .any (l ++ [o]).toArray (listed.push false) → j < l.length ∧ j ∈ Region.ready .any l.toArray listed := fun j hj => by
        obtain ⟨h1, o', ho', h2⟩ := mem_ready.1 hj
        have hj2 : j < l.length + 1 := by have := (Array.getElem?_eq_some_iff.1 ho').1; simpa using this
        rcases Nat.lt_or_ge j l.length with h3 | h3
        · refine ⟨h3, mem_ready.2 ⟨by rw [getD_push _ (by omega)] at h1; exact h1, o', by rw [get_l h3] at ho'; exact ho', fun e he hb => ?_⟩⟩
          have hlt : e.on < l.length := by have := (edges_spec l 0 hE j o' (by rw [get_l h3] at ho'; simpa using ho')).1 e he hb; omega
          have := h2 e he hb
          rw [getD_push _ (by omega)] at this
          exact this
        · obtain rfl : j = l.length := by omega
          rw [get_o] at ho'
          obtain rfl := Option.some.inj ho'
          obtain ⟨e, he, hb, hon⟩ := hW i0 hl0
          have := h2 e he hb
          rw [hon, getD_push _ (by omega)] at this
          rw [Array.getD_eq_getD_getElem?, Array.getElem?_eq_getElem (by omega)] at this u0
          simp at this u0
          rw [this] at u0
          cases u0
      have hi0L : i0 ∈ Region.ready .any (l ++ [o]).toArray (listed.push false) := mem_ready.2 ⟨by rw [getD_push _ (by omega)]; exact u0, oi, by rw [get_l hl0]; exact hoi, fun e he hb => by
        have hlt : e.on < l.length := by have := (edges_spec l 0 hE i0 oi (by simpa using hoi)).1 e he hb; omega
        rw [getD_push _ (by omega)]
        exact w0 e he hb⟩
      refine ⟨fun h0 => by rw [h0] at hi0L; (cases hi0L), fun i hi => ?_⟩
      obtain ⟨hil, hir⟩ := key i hi
      refine wpOp_last hil (fun o' ho' => hgd i o' ho') (fun a' w' h' => ?_) (h.2 i hir)
      have := ih (listed.setIfInBounds i true) a' w' (by simpa using hs) h'
      have e : (listed.setIfInBounds i true).push false = (listed.push false).setIfInBounds i true := by
        apply Array.toList_inj.1
        rw [Array.toList_push, Array.toList_setIfInBounds, Array.toList_setIfInBounds, Array.toList_push, List.set_append_left _ _ (by simp; omega)]
      rw [← e]
      exact this
/-- The beginning: all but the last under S, then the last. -/
theorem wp_region_last {S : World → Prop} {id : Nat} {a : Act} {w : World} (l : List Oper) (o : Oper) (hm : P.follows .mixedOrders = true) (hB : lastB l o = true) (hS : S w.drew)
    (h : S w.drew → wpAnyH P .any l.toArray (lastQ P (l ++ [o]).toArray o Q) S l.toArray.size (Array.replicate l.toArray.size false) a w.drew) : (Code.region id (l ++ [o]).toArray true).wp P Q a w := by
  refine wp_region_any hm ?_
  have h1 := any_last hB l.toArray.size (Array.replicate l.toArray.size false) a w.drew (by simp) (wpAny_of_held _ _ _ _ (h hS))
  have e1 : (l ++ [o]).toArray.size = l.toArray.size + 1 := by simp
  have e2 : Array.replicate (l.toArray.size + 1) false = (Array.replicate l.toArray.size false).push false := by
    rw [Array.replicate_succ]
  rw [e1, e2]
  exact h1
theorem wp_region_last' {S : World → Prop} {id : Nat} {a : Act} {w : World} {l : List Oper} (n : Nat) (o : Oper) (hl : l.drop n = [o]) (hn : (l.take n).length = n) (hm : P.follows .mixedOrders = true) (hB : lastB (l.take n) o = true) (hS : S w.drew)
    (h : S w.drew → wpAnyH P .any (l.take n).toArray (lastQ P l.toArray o Q) S n (Array.replicate n false) a w.drew) : (Code.region id l.toArray true).wp P Q a w := by
  have e : l = l.take n ++ [o] := by rw [← hl]; exact (List.take_append_drop n l).symm
  have h2 := wp_region_last (P := P) (Q := Q) (S := S) (id := id) (a := a) (w := w) (l.take n) o hm hB hS (by
    rw [← e]
    have hz : (l.take n).toArray.size = n := by simpa using hn
    rw [hz]
    exact h)
  rwa [← e] at h2
end
end Go.Proofs.YtinlnafkmoabbaaGreatDoor.LastB
/- The draws that hand back signs with an element: l3One, DrawReverseElement; those of signs alone: DrawFirstBreak, DrawAcyclicSets. -/
namespace Go.Proofs.YtinlnafkmoabbaaGreatDoor.Cur
open Go.RowKit Pt Sg
theorem leaves_below {b n : Nat} {v : Value} {w w1 W : World} (hl : Leaves b v n w1 W) (hb : w.heap.size ≤ b) (hB : Below w.heap.size w w1) : Below w.heap.size w W :=
  hB.trans ⟨hl.2.2.os, hl.2.2.tape, hl.2.2.output, hl.2.2.size, fun k hk => hl.2.2.block k (Nat.lt_of_lt_of_le hk hB.size) (fun e => by have := Option.some.inj e; omega)⟩
theorem bytes_up {w w' : World} {v : Value} {n : Nat} (hv : Bytes w v n w.heap.size) (hb : Below w.heap.size w w') : Bytes w' v n w'.heap.size := by
  obtain ⟨a, c, rfl, hn, h0 | ⟨cb, co, rfl, hcb, hby⟩⟩ := hv
  · exact ⟨a, c, rfl, hn, Or.inl h0⟩
  · refine ⟨_, c, rfl, hn, Or.inr ⟨cb, co, rfl, Nat.lt_of_lt_of_le hcb hb.size, fun j hj => ?_⟩⟩
    obtain ⟨x, hx, hc⟩ := hby j hj
    exact ⟨x, hx, by rw [hb.cell (by exact hcb)]; exact hc⟩
set_option maxRecDepth 100000 in
theorem max_any (m : Nat) (_hm : m ≤ 2147483648) (k : Nat) (_hk : k ≤ 2147483648) (w : World) :
    Calls Tryz.prog 141 #[.int .i64 k, .int .i64 m] w fun e w' => e = .returned (.int .i64 (max k m : Nat)) ∧ w' = w := by
  by_cases h : m < k
  · go_enter Tryz.func141, Tryz.ntmps141
    go_wp2
    go_ret
    exact ⟨by rw [Nat.max_eq_left (by omega)]; rfl, rfl⟩
  · go_enter Tryz.func141, Tryz.ntmps141
    go_wp2
    go_ret
    exact ⟨by rw [Nat.max_eq_right (by omega)]; rfl, rfl⟩
end Go.Proofs.YtinlnafkmoabbaaGreatDoor.Cur
/- The draws of an order: l3Order. -/
namespace Go.Proofs.YtinlnafkmoabbaaGreatDoor.Cur
open Go.RowKit Pt Sg NewI
theorem rowZ_take {w : World} {B g n c : Nat} {t : TypeId} {cs : List Value} (h : w.ownsRow B t 1 (.slice (some ⟨g, 0, none⟩) n c) n cs) (m : Nat) (hm : m ≤ n) : w.ownsRow B t 1 (.slice (some ⟨g, 0, none⟩) m c) m (cs.take m) := by
  obtain ⟨hl, ⟨hv, -⟩ | ⟨g', cap, cur, hv, hB, hh, hnc, hcm, hcs, ht⟩⟩ := h
  · cases hv
  · injection hv with h1 h2 h3
    injection h1 with h1
    injection h1 with h1
    subst h1 h3
    refine ⟨by rw [List.length_take, hl]; omega, .inr ⟨g, c, cur, rfl, hB, hh, by omega, hcm, hcs, ?_⟩⟩
    rw [← ht, List.take_take]
    congr 1
    omega
theorem rowZ_form {w : World} {B n : Nat} {t : TypeId} {v : Value} {cs : List Value} (h : w.ownsRow B t 1 v n cs) (hv : v ≠ .slice none 0 0) : ∃ g c, v = .slice (some ⟨g, 0, none⟩) n c ∧ B ≤ g ∧ g < w.heap.size ∧ n ≤ c := by
  have hlt := World.ownsRow.lt h
  obtain ⟨-, ⟨h1, -⟩ | ⟨g, cap, cur, rfl, hB, hh, hnc, -⟩⟩ := h
  · exact absurd h1 hv
  · exact ⟨g, cap, rfl, hB, (hlt g rfl).2, hnc⟩
theorem rowZ_cells {w : World} {B g n c : Nat} {t : TypeId} {cs : List Value} (h : w.ownsRow B t 1 (.slice (some ⟨g, 0, none⟩) n c) n cs) (m : Nat) : ∀ (j : Nat) u, (cs.drop m)[j]? = some u → w.cell? (Addr.add ⟨g, m, none⟩ j) = some u := fun j u hu => by
  rw [List.getElem?_drop] at hu
  have hn : cs.length = n := by have := h.1; omega
  have hlt : m + j < cs.length := (List.getElem?_eq_some_iff.1 hu).1
  have hc := World.ownsRow.cellAt h (m + j) (by omega)
  rw [hu] at hc
  rw [WideShapes.add_plain]
  exact hc
theorem rowZ_leaves {b n B k : Nat} {t : TypeId} {v vv : Value} {w wr : World} {cs : List Value} (h : w.ownsRow B t 1 vv k cs) (hl : Leaves b v n w wr) (hb : b < B) : wr.ownsRow B t 1 vv k cs :=
  World.ownsRow.kept h hl.2.2 (by
    cases ho : vv.ownBlock with
    | none => exact .inl rfl
    | some g => refine .inr (fun e => ?_); have := (World.ownsRow.lt h g ho).1; injection e with e; omega)
set_option maxRecDepth 100000 in
theorem infoZ : (Tryz.prog.info? 3).map (fun i => (i.zero, i.size, i.bytes)) = some (some (.int .i64 0), 1, 8) := by kernel_rfl
set_option maxHeartbeats 3200000 in
set_option maxRecDepth 100000 in
theorem l3Order_any (b : Nat) (v : Value) (n : Nat) (N : Nat) (hN : N ≤ 100) (w : World) (hv : Bytes w v n b) (hc : At w b v n) :
    Calls Tryz.prog 140 #[.pointer (some ⟨b, 0, none⟩), .int .i64 N] w fun e w' => ∃ (g c : Nat) (zs : List Int), e = .returned (.slice (some ⟨g, 0, none⟩) N c) ∧ zs.length = N ∧ N ≤ c ∧ (∀ z ∈ zs, 0 ≤ z ∧ z ≤ 100) ∧ w'.ownsRow w.heap.size 3 1 (.slice (some ⟨g, 0, none⟩) N c) N (zs.map (Value.int .i64)) ∧ Leaves b v n w w' := by
  have hbw := hc.lt
  have HBW := Lib.hid (fun (m : Nat) (hm : m ≤ 2147483648) W (hl : Leaves b v n w W) => (below_any b v n m hm W hl.1 hl.2.1))
  have L0 := Lib.hid (Leaves.refl hv hc)
  have O1 : Hid ((w.alloc (.cells #[] 3)).ownsRow w.heap.size 3 1 (.slice (some ⟨w.heap.size, 0, none⟩) 0 0) 0 (([] : List Int).map (Value.int .i64))) := Lib.hid (World.ownsRow_made (size := 1) w #[] 0 (Nat.le_refl _) (by decide) rfl)
  have L1 := Lib.hid (L0.out.alloc hbw (.cells #[] 3))
  obtain ⟨i0, hi, hz0, hz1, hz2⟩ := info_parts infoZ
  clear hv hc
  go_enter Tryz.func140, Tryz.ntmps140
  go_wp2
  go_loopw [5, 6] (fun vv c wr => ∃ (k g cap : Nat) (zs : List Int), k ≤ N ∧ c = .int .i64 k ∧ vv = .slice (some ⟨g, 0, none⟩) k cap ∧ k ≤ cap ∧ zs.length = k ∧ Hid (wr.ownsRow w.heap.size 3 1 vv k (zs.map (Value.int .i64)) ∧ ∀ z ∈ zs, 0 ≤ z ∧ z ≤ 100) ∧ Hid (Leaves b v n w wr)) (fun _ c _ => N - (intOf c).toNat)
  case atStart => exact ⟨0, _, 0, [], by omega, rfl, rfl, by omega, rfl, Lib.hid ⟨O1.out, by simp⟩, L1⟩
  case round =>
    obtain ⟨k, g, cap, zs, hk, rfl, rfl, hkc, hzl, HO, HL⟩ := hrel
    by_cases hlt : k < N
    · go_wp2_with fail
      refine (HBW.out (k + 1) (by omega) _ HL.out).mono ?_
      rintro e w2 ⟨at_, hat, rfl, hl2⟩
      have L2 := Lib.hid (HL.out.trans hl2)
      have O2 := Lib.hid (⟨rowZ_leaves HO.out.1 hl2 hbw, HO.out.2⟩ : _ ∧ _)
      have hatk : at_ ≤ k := by omega
      have hg2 : g < w2.heap.size := (World.ownsRow.lt O2.out.1 g rfl).2
      have hgB : w.heap.size ≤ g := (World.ownsRow.lt O2.out.1 g rfl).1
      clear hl2 hat
      have hle2 := L2.out.2.2.size
      have E3 : Hid ((w2.alloc (.cells #[] 3)).ownsRow w2.heap.size 3 1 (.slice (some ⟨w2.heap.size, 0, none⟩) 0 0) 0 []) := Lib.hid (World.ownsRow_made (size := 1) w2 #[] 0 (Nat.le_refl _) (by decide) rfl)
      have O3 := Lib.hid (O2.out.1.alloc (.cells #[] 3))
      obtain ⟨o, ho⟩ : ∃ o : Nat, o = if cap = at_ then 0 else at_ := ⟨_, rfl⟩
      have N3 : Hid (∀ (j : Nat) u, ((zs.map (Value.int .i64)).drop at_)[j]? = some u → (w2.alloc (.cells #[] 3)).cell? (Addr.add ⟨g, o, none⟩ j) = some u) := Lib.hid (by
        by_cases hca : cap = at_
        · intro j u hu
          rw [List.drop_eq_nil_of_le (by rw [List.length_map]; omega)] at hu
          simp at hu
        · rw [ho, if_neg hca]; exact rowZ_cells O3.out at_)
      have hdl : ((zs.map (Value.int .i64)).drop at_).length = (k - at_) * 1 := by rw [List.length_drop, List.length_map, hzl]; omega
      go_wp2_with (at_builtin; refine wpList_append_own _ rfl (.tmp 20) (.tmp 23) 27 rfl w2.heap.size 3 i0 _ 1 8 Tryz.underlying27 hi hz0 hz1 hz2 rfl (by decide) _ _ _ rfl E3.out ⟨g, o, none⟩ (k - at_) (cap - at_) ((zs.map (Value.int .i64)).drop at_) ?_ hdl N3.out ?_ ?_ ?_ ?_ ?_)
      · intro u hu
        obtain ⟨z, -, rfl⟩ := List.mem_map.1 (List.mem_of_mem_drop hu)
        rfl
      · simp only [maxLen]; omega
      · omega
      · simp
      all_goals
        intro v1 w3 hr1 hg1 hn1
        obtain ⟨r, cr, rfl, hrB, hrl, hrc⟩ := rowZ_form hr1 hn1
        have R4 := Lib.hid hr1
        have O4 := Lib.hid (World.ownsRow.kept O3.out hg1 (.inr (fun e => by have h0 := Option.some.inj e; dsimp only at h0; omega)))
        have L4 := Lib.hid (L2.out.ext (((Below.refl w.heap.size w2).alloc hle2 (.cells #[] 3)).grown hg1 (by simp; omega) (fun q hq => Nat.le_trans hle2 (World.ownsRow.lt E3.out q hq).1)) hbw)
        clear hr1 hg1 hn1
        obtain ⟨q, hq⟩ : ∃ q, q = cap := ⟨_, rfl⟩
        have hkq : k ≤ q := by omega
        have O4q : Hid (w3.ownsRow w.heap.size 3 1 (.slice (some ⟨g, 0, none⟩) k q) k (zs.map (Value.int .i64))) := by rw [hq]; exact O4
        first | rw [show Value.slice (some ⟨g, 0, none⟩) k at_ = Value.slice (some ⟨g, 0, none⟩) k q by rw [hq, h]] | rw [show Value.slice (some ⟨g, 0, none⟩) k cap = Value.slice (some ⟨g, 0, none⟩) k q by rw [hq]]
        clear hq h ho
        have hle3 := L4.out.2.2.size
        have O5 := Lib.hid ((rowZ_take O4q.out at_ hatk).alloc (.cells #[.int .i64 k] 3))
        go_wp2_with (at_builtin; refine wpList_append_own _ rfl (.tmp 27) (.tmp 29) 27 rfl w.heap.size 3 i0 _ 1 8 Tryz.underlying27 hi hz0 hz1 hz2 rfl (by decide) _ _ _ rfl O5.out ⟨w3.heap.size, 0, none⟩ 1 1 [.int .i64 k] rfl rfl ?_ ?_ ?_ ?_ ?_ ?_)
        · intro q u hu
          rw [WideShapes.add_plain, Nat.zero_add]
          rcases q with _ | q
          · simp only [List.getElem?_cons_zero, Option.some.injEq] at hu; subst hu; go_simp
          · simp at hu
        · intro u hu
          simp only [List.mem_cons, List.not_mem_nil, or_false] at hu
          subst hu; rfl
        · simp only [maxLen]; omega
        · omega
        · simp; omega
        intro v2 w4 hr2 hg2' hn2
        obtain ⟨g2, c2, rfl, hgB2, hgl2, hgc2⟩ := rowZ_form hr2 hn2
        have R5 := Lib.hid (World.ownsRow.kept (R4.out.alloc (.cells #[.int .i64 k] 3)) hg2' (.inr (fun e => by have h0 := Option.some.inj e; dsimp only at h0; omega)))
        have L5 := Lib.hid (L4.out.ext (((Below.refl w.heap.size w3).alloc hle3 (.cells #[.int .i64 k] 3)).grown hg2' (by simp; omega) (fun q hq => (World.ownsRow.lt O5.out q hq).1)) hbw)
        have O6 := Lib.hid hr2
        clear hr2 hg2' hn2
        have hle4 := L5.out.2.2.size
        go_wp2_with (at_builtin; refine wpList_append_own _ rfl (.tmp 30) (.tmp 31) 27 rfl w.heap.size 3 i0 _ 1 8 Tryz.underlying27 hi hz0 hz1 hz2 rfl (by decide) _ _ _ rfl O6.out ⟨r, 0, none⟩ (k - at_) cr ((zs.map (Value.int .i64)).drop at_) rfl hdl (fun j u hu => rowZ_cells R5.out 0 j u (by simpa using hu)) ?_ ?_ ?_ ?_ ?_)
        · intro u hu
          obtain ⟨z, -, rfl⟩ := List.mem_map.1 (List.mem_of_mem_drop hu)
          rfl
        · simp only [maxLen]; omega
        · omega
        · omega
        intro v3 w5 hr3 hg3 hn3
        have hk1 : at_ + 1 + (k - at_) = k + 1 := by omega
        rw [hk1] at hr3
        obtain ⟨g3, c3, rfl, hgB3, hgl3, hgc3⟩ := rowZ_form hr3 hn3
        have L6 := Lib.hid (L5.out.ext ((Below.refl w.heap.size w4).grown hg3 hle4 (fun q hq => (World.ownsRow.lt O6.out q hq).1)) hbw)
        have O7 : Hid (w5.ownsRow w.heap.size 3 1 (.slice (some ⟨g3, 0, none⟩) (k + 1) c3) (k + 1) ((zs.take at_ ++ [(k : Int)] ++ zs.drop at_).map (Value.int .i64)) ∧ ∀ z ∈ zs.take at_ ++ [(k : Int)] ++ zs.drop at_, 0 ≤ z ∧ z ≤ 100) := Lib.hid ⟨by
          simpa [List.map_take, List.map_drop] using hr3, fun z hz => by
          simp only [List.mem_append, List.mem_cons, List.not_mem_nil, or_false] at hz
          rcases hz with (hz | rfl) | hz
          · exact O2.out.2 z (List.mem_of_mem_take hz)
          · omega
          · exact O2.out.2 z (List.mem_of_mem_drop hz)⟩
        clear hr3 hg3 hn3
        go_wp2
        exact ⟨⟨k + 1, g3, c3, _, by omega, by go_num, rfl, hgc3, by simp; omega, O7, L6⟩, by simp only [intOf]; omega⟩
    · have hkN : k = N := by omega
      subst hkN
      go_wp2
      go_ret
      exact ⟨g, cap, zs, rfl, hzl, hkc, HO.out.2, HO.out.1, HL.out⟩
end Go.Proofs.YtinlnafkmoabbaaGreatDoor.Cur
/- The draws of signs with four elements: l4Four, DrawCircuitOf. -/
namespace Go.Proofs.YtinlnafkmoabbaaGreatDoor.Cur
open Go.RowKit Pt Sg NewI
/-- Four numbers at the beginning of block g. -/
def Four (w : World) (g : Nat) (z0 z1 z2 z3 : Int) : Prop := w.cell? ⟨g, 0, none⟩ = some (.int .i64 z0) ∧ w.cell? ⟨g, 1, none⟩ = some (.int .i64 z1) ∧ w.cell? ⟨g, 2, none⟩ = some (.int .i64 z2) ∧ w.cell? ⟨g, 3, none⟩ = some (.int .i64 z3)
def Elem (z : Int) : Prop := -1 ≤ z ∧ z ≤ 100
theorem four_of {w : World} {B g n c : Nat} {zs : List Int} (h : w.ownsRow B 3 1 (.slice (some ⟨g, 0, none⟩) n c) n (zs.map (Value.int .i64))) (hl : zs.length = n) (h4 : 4 ≤ n) (hz : ∀ z ∈ zs, 0 ≤ z ∧ z ≤ 100) :
    ∃ z0 z1 z2 z3, Four w g z0 z1 z2 z3 ∧ (Elem z0 ∧ Elem z1 ∧ Elem z2 ∧ Elem z3) ∧ w.frozen? ⟨g, 0, none⟩ = false := by
  have key : ∀ j (hj : j < zs.length), w.cell? ⟨g, j, none⟩ = some (.int .i64 zs[j]) ∧ Elem zs[j] := fun j hj => by
    have hc := World.ownsRow.cellAt h j (by omega)
    rw [List.getElem?_map, List.getElem?_eq_getElem hj] at hc
    have := hz _ (List.getElem_mem hj)
    exact ⟨hc, by unfold Elem; omega⟩
  refine ⟨_, _, _, _, ⟨(key 0 (by omega)).1, (key 1 (by omega)).1, (key 2 (by omega)).1, (key 3 (by omega)).1⟩, ⟨(key 0 (by omega)).2, (key 1 (by omega)).2, (key 2 (by omega)).2, (key 3 (by omega)).2⟩, World.ownsRow.frozenAt h 0⟩
theorem Four.on {w w' : World} {g : Nat} {z0 z1 z2 z3 : Int} (h : Four w g z0 z1 z2 z3) (hb : Below w.heap.size w w') : Four w' g z0 z1 z2 z3 := by
  obtain ⟨h0, h1, h2, h3⟩ := h
  exact ⟨by rw [hb.cell (Kit.cell_lt h0)]; exact h0, by rw [hb.cell (Kit.cell_lt h1)]; exact h1, by rw [hb.cell (Kit.cell_lt h2)]; exact h2, by rw [hb.cell (Kit.cell_lt h3)]; exact h3⟩
theorem Four.far {w : World} {g : Nat} {z0 z1 z2 z3 : Int} (h : Four w g z0 z1 z2 z3) {so : Nat} (hne : so ≠ g) (j : Nat) (u : Value) : Four (w.setCell ⟨so, j, none⟩ u) g z0 z1 z2 z3 := by
  obtain ⟨h0, h1, h2, h3⟩ := h
  exact ⟨by rw [World.cell?_setCell_far _ _ _ _ (by simpa using hne)]; exact h0, by rw [World.cell?_setCell_far _ _ _ _ (by simpa using hne)]; exact h1, by rw [World.cell?_setCell_far _ _ _ _ (by simpa using hne)]; exact h2, by rw [World.cell?_setCell_far _ _ _ _ (by simpa using hne)]; exact h3⟩
theorem Four.set {w : World} {g : Nat} {z0 z1 z2 z3 : Int} (h : Four w g z0 z1 z2 z3) (z : Int) : Four (w.setCell ⟨g, 0, none⟩ (.int .i64 z)) g z z1 z2 z3 := by
  obtain ⟨h0, h1, h2, h3⟩ := h
  refine ⟨World.cell?_setCell_same w ⟨g, 0, none⟩ _ h0, ?_, ?_, ?_⟩
  · rw [World.cell?_setCell_other w _ _ _ (by simp)]; exact h1
  · rw [World.cell?_setCell_other w _ _ _ (by simp)]; exact h2
  · rw [World.cell?_setCell_other w _ _ _ (by simp)]; exact h3
theorem four_leaves {b n g : Nat} {v : Value} {w wr : World} {z0 z1 z2 z3 : Int} (h : Four w g z0 z1 z2 z3) (hl : Leaves b v n w wr) (hne : g ≠ b) : Four wr g z0 z1 z2 z3 := by
  obtain ⟨h0, h1, h2, h3⟩ := h
  have hn : some g ≠ some b := fun e => hne (Option.some.inj e)
  exact ⟨hl.2.2.cell h0 hn, hl.2.2.cell h1 hn, hl.2.2.cell h2 hn, hl.2.2.cell h3 hn⟩
end Go.Proofs.YtinlnafkmoabbaaGreatDoor.Cur
/- The draws of signs of stage 5: l5Draw. -/
namespace Go.Proofs.YtinlnafkmoabbaaGreatDoor.Cur
open Go.RowKit Pt Sg NewI
set_option maxHeartbeats 3200000 in
set_option maxRecDepth 100000 in
theorem l5Draw_any (b : Nat) (v : Value) (n : Nat) (w : World) (hv : Bytes w v n b) (hc : At w b v n) :
    Calls Tryz.prog 69 #[.pointer (some ⟨b, 0, none⟩)] w fun e w' => ∃ (m : Nat) (T : ByteArray), e = .returned (sg m T) ∧ (m ≤ 6 ∨ m = 8) ∧ T.size ≤ 21 ∧ Leaves b v n w w' := by
  have hbw := hc.lt
  have HON := Lib.hid (fun (m : Nat) (hm : m ≤ 2147483648) W (hl : Leaves b v n w W) => (once_any b v n m hm W hl.1 hl.2.1))
  have R0 := Lib.hid (outC_made w 0 ⟨#[]⟩ 25)
  have L0 := Lib.hid ((Leaves.refl hv hc).alloc hbw (.cells #[.int .i64 0, .string ⟨#[]⟩] 25))
  clear hv hc
  go_enter Tryz.func69, Tryz.ntmps69
  go_wp2_with fail
  refine (HON.out 8 (by omega) _ L0.out).mono ?_
  rintro e w1 ⟨q, rfl, hl1⟩
  have L1 := Lib.hid (L0.out.trans hl1)
  have R1 := Lib.hid (outC_leaves R0.out hl1 (by omega))
  clear hl1
  cases q
  · -- points
    go_wp2_with fail
    refine (l2Draw_any b v n _ L1.out.1 L1.out.2.1).mono ?_
    rintro e w2 ⟨g, c, xs, rfl, ⟨hx3, hx6⟩, hat, hgl, hg2, hl2⟩
    have L2 := Lib.hid (L1.out.trans hl2)
    have R2 := Lib.hid (outC_leaves R1.out hl2 (by omega))
    have A2 := Lib.hid (⟨hat, hg2⟩ : RowA w2 g xs)
    clear hl2 hat
    obtain ⟨m, T, o, hpv, hm6, hT⟩ : ∃ (m : Nat) (T : ByteArray) (o : Bool), ptsV xs = .tuple #[sg m T, .bool o] ∧ m ≤ 6 ∧ T.size ≤ 20 := by
      cases h : Pt.okB xs
      · exact ⟨0, ⟨#[]⟩, false, ptsV_no h, by omega, by decide⟩
      · refine ⟨xs.length, _, true, ptsV_yes h, hx6, ?_⟩
        show (text3 xs.length (turnF xs)).toArray.size ≤ 20
        rw [List.size_toArray, text3_length (by omega)]
        rcases (by omega : xs.length = 3 ∨ xs.length = 4 ∨ xs.length = 5 ∨ xs.length = 6) with e | e | e | e <;> rw [e] <;> decide
    have HP := Lib.hid (specPtsA g c xs (by omega) w2 A2.out)
    rw [hpv] at HP
    clear hpv
    go_wp2_with fail
    refine HP.out.mono ?_
    rintro e w3 ⟨rfl, hb3⟩
    have hle2 := L2.out.2.2.size
    have L3 := Lib.hid ((L2.out.ext (hb3.mono hle2) hbw).alloc hbw (.cells #[.int .i64 m, .string T] 25))
    have R3 := Lib.hid ((R2.out.on hb3).on ((Below.refl _ _).alloc (Nat.le_refl _) (.cells #[.int .i64 m, .string T] 25)))
    have Y3 := Lib.hid (outC_made w3 m T 25)
    clear hb3
    obtain ⟨⟨e0, e1⟩, z0, z1⟩ := R3.out
    obtain ⟨⟨y0, y1⟩, -⟩ := Y3.out
    obtain ⟨k0, k1⟩ := ret_sg e0 e1 (.int .i64 m) (.string T)
    have LF := Lib.hid (L3.out.ext (((Below.refl w.heap.size _).setCell (p := ⟨w.heap.size, 0, none⟩) (by simp) (.int .i64 m)).setCell (p := ⟨w.heap.size, 1, none⟩) (by simp) (.string T)) hbw)
    go_wp2
    exact bodyPost_ret (v := .agg #[.int .i64 m, .string T]) (by simp [results, Tryz.results69, go_sem, k0, k1]) rfl ⟨m, T, rfl, by omega, by omega, LF.out⟩
  · go_wp2_with fail
    refine (l4Draw_any b v n _ L1.out.1 L1.out.2.1).mono ?_
    rintro e w2 ⟨m, T, rfl, hm, hT, hl2⟩
    have L2 := Lib.hid (L1.out.trans hl2)
    have R2 := Lib.hid (outC_leaves R1.out hl2 (by omega))
    clear hl2
    obtain ⟨⟨e0, e1⟩, z0, z1⟩ := R2.out
    obtain ⟨k0, k1⟩ := ret_sg e0 e1 (.int .i64 m) (.string T)
    have LF := Lib.hid (leaves_ret (x := .int .i64 m) (y := .string T) L2.out hbw)
    go_wp2
    exact bodyPost_ret (v := .agg #[.int .i64 m, .string T]) (by simp [results, Tryz.results69, go_sem, k0, k1]) rfl ⟨m, T, rfl, hm, hT, LF.out⟩
set_option maxHeartbeats 3200000 in
set_option maxRecDepth 100000 in
theorem l5Four_any (v : Value) (n : Nat) (hn : n ≤ 9223372036854700000) (w : World) (hv : Bytes w v n w.heap.size) :
    Calls Tryz.prog 95 #[v] w fun e w' => ∃ (m : Nat) (T : ByteArray) (g c : Nat) (z0 z1 z2 z3 : Int), e = .returned (.tuple #[sg m T, .slice (some ⟨g, 0, none⟩) 4 c]) ∧ (m ≤ 6 ∨ m = 8) ∧ T.size ≤ 21 ∧ Four w' g z0 z1 z2 z3 ∧ (Elem z0 ∧ Elem z1 ∧ Elem z2 ∧ Elem z3) ∧ w.heap.size < g ∧ g < w'.heap.size ∧ Below w.heap.size w w' := by
  have R0 := Lib.hid (outC_made w 0 ⟨#[]⟩ 25)
  have HA := Lib.hid ((Below.refl w.heap.size w).alloc (Nat.le_refl _) (.cells #[.int .i64 0, .string ⟨#[]⟩] 25))
  have HV := Lib.hid (bytes_up hv HA.out)
  clear hv
  go_enter Tryz.func95, Tryz.ntmps95
  go_wp2_with fail
  refine (new_any v n hn _ HV.out).mono ?_
  rintro e w1 ⟨b, rfl, hb, hv1, hc1, hb1⟩
  have hwb : w.heap.size < b := by simp at hb; omega
  have R1 := Lib.hid (R0.out.on hb1)
  have B1 := Lib.hid (HA.out.trans (hb1.mono HA.out.size))
  have V1 := Lib.hid (⟨hv1, hc1⟩ : _ ∧ _)
  have hbw := hc1.lt
  clear hb1 hv1 hc1 hb
  have HBW := Lib.hid (fun (m : Nat) (hm : m ≤ 2147483648) W (hl : Leaves b v n w1 W) => (below_any b v n m hm W hl.1 hl.2.1))
  have HON := Lib.hid (fun (m : Nat) (hm : m ≤ 2147483648) W (hl : Leaves b v n w1 W) => (once_any b v n m hm W hl.1 hl.2.1))
  have HOR := Lib.hid (fun (m : Nat) (hm : m ≤ 100) W (hl : Leaves b v n w1 W) => (l3Order_any b v n m hm W hl.1 hl.2.1))
  go_wp2_with fail
  refine (l5Draw_any b v n _ V1.out.1 V1.out.2).mono ?_
  rintro e w2 ⟨m, T, rfl, hm, hT, hl2⟩
  have R2 := Lib.hid (outC_leaves R1.out hl2 (by omega))
  have hw2 : w.heap.size < w2.heap.size := Kit.cell_lt R2.out.1.1
  have L3 := Lib.hid (hl2.alloc hbw (.cells #[.int .i64 m, .string T] 25))
  have R3 := Lib.hid (R2.out.on ((Below.refl w2.heap.size w2).alloc (Nat.le_refl _) (.cells #[.int .i64 m, .string T] 25)))
  have Y3 := Lib.hid (outC_made w2 m T 25)
  have hb2 : b < w2.heap.size := hl2.lt
  have hsz : (w2.alloc (.cells #[.int .i64 m, .string T] 25)).heap.size = w2.heap.size + 1 := by simp
  clear hl2
  obtain ⟨⟨y0, y1⟩, -⟩ := Y3.out
  go_wp2_with fail
  refine (max_any m (by omega) 4 (by omega) _).mono ?_
  rintro e w3 ⟨rfl, rfl⟩
  go_wp2_with fail
  refine (HOR.out (max 4 m) (by omega) _ L3.out).mono ?_
  rintro e w4 ⟨g, c, zs, rfl, hzl, hzc, hzs, hown, hl4⟩
  have hM : 4 ≤ max 4 m := by omega
  have hgB := (World.ownsRow.lt hown g rfl).1
  have hgl := (World.ownsRow.lt hown g rfl).2
  rw [hsz] at hgB
  obtain ⟨z0, z1, z2, z3, F4, HE, hfz⟩ := four_of hown hzl hM hzs
  have R4 := Lib.hid (outC_leaves R3.out hl4 (by omega))
  have Y4 := Lib.hid (outC_leaves Y3.out hl4 (by omega))
  have L4 := Lib.hid (L3.out.trans hl4)
  have HF4 := Lib.hid (⟨F4, hfz⟩ : _ ∧ _)
  clear F4 hfz hown hl4 hzs y0 y1
  generalize hMM : max 4 m = M at hM hzl hzc ⊢
  clear hMM
  go_wp2_with fail
  refine (HON.out 14 (by omega) _ L4.out).mono ?_
  rintro e w5 ⟨q, rfl, hl5⟩
  have RX := Lib.hid (outC_leaves R4.out hl5 (by omega))
  have YX := Lib.hid (outC_leaves Y4.out hl5 (by omega))
  have L5 := Lib.hid (L4.out.trans hl5)
  have FX := Lib.hid (four_leaves HF4.out.1 hl5 (by omega))
  have hg5 : g < w5.heap.size := Nat.lt_of_lt_of_le hgl hl5.2.2.size
  have hfz : w5.frozen? ⟨g, 0, none⟩ = false := by rw [World.frozen?_of_block (a := ⟨g, 0, none⟩) (hl5.2.2.block g hgl (fun e => by have h0 := Option.some.inj e; omega))]; exact HF4.out.2
  clear hl5
  cases q
  · have BX := Lib.hid (leaves_below L5.out (by omega) B1.out)
    have HEX := HE
    clear HE
    go_wp2
    have RXd : Hid (OutC w.heap.size 0 ⟨#[]⟩ w5.drew) := RX
    have YXd : Hid (OutC w2.heap.size m T w5.drew) := YX
    have FXd : Hid (Four w5.drew g z0 z1 z2 z3) := FX
    have BXd := Lib.hid BX.out.drew
    have hlt : g < w5.drew.heap.size := by simpa [World.setCell] using hg5
    have hS0 := YXd.out.1
    refine LastB.wp_region_last' (S := fun W => W.cell? ⟨w2.heap.size, 0, none⟩ = some (.int .i64 m) ∧ W.cell? ⟨w2.heap.size, 1, none⟩ = some (.string T)) 4 _ rfl rfl (by kernel_rfl) (by kernel_rfl) hS0 (fun hHeld => ?_)
    clear hS0 RX YX FX BX
    generalize w5.drew = wd at *
    obtain ⟨⟨e0, e1⟩, z0', z1'⟩ := RXd.out
    obtain ⟨k0, k1⟩ := ret_sg e0 e1 (.int .i64 m) (.string T)
    have FF := Lib.hid ((FXd.out.far (so := w.heap.size) (by omega) 0 (.int .i64 m)).far (so := w.heap.size) (by omega) 1 (.string T))
    have HYF := Lib.hid (outC_off (outC_off YXd.out (so := w.heap.size) (by omega) 0 (.int .i64 m)) (so := w.heap.size) (by omega) 1 (.string T))
    have HF := Lib.hid ((BXd.out.setCell (p := ⟨w.heap.size, 0, none⟩) (by simp) (.int .i64 m)).setCell (p := ⟨w.heap.size, 1, none⟩) (by simp) (.string T))
    simp only [List.take_succ_cons, List.take_zero]
    (refine wpAnyH_take (i := 0) (v := ?_) rfl (by kernel_rfl) (by kernel_rfl) (by kernel_rfl) (fun _ _ _ h => h) (Or.inl ⟨by rfl, ?_⟩) (by assumption) ?_; rotate_left; (focus (intro w hSw; (try dsimp only at hSw); go_simp; (try with_reducible rfl))); (simp only [Act.put, List.setIfInBounds_toArray]))
    (refine wpAnyH_take (i := 1) (v := ?_) rfl (by kernel_rfl) (by kernel_rfl) (by kernel_rfl) (fun _ _ _ h => h) (Or.inl ⟨by rfl, ?_⟩) (by assumption) ?_; rotate_left; (focus (intro w hSw; (try dsimp only at hSw); go_simp; (try with_reducible rfl))); (simp only [Act.put]))
    (refine wpAnyH_take (i := 2) (v := .slice (some ⟨g, 0, none⟩) 4 c) rfl (by kernel_rfl) (by kernel_rfl) (by kernel_rfl) (fun _ _ _ h => h) (Or.inl ⟨by rfl, ?_⟩) (by assumption) ?_; (focus (intro w hSw; (try dsimp only at hSw); simp [go_sem, execOp]; intro hlt4; omega)); (simp only [Act.put]))
    refine wpAnyH_ready (rs := [3]) (by kernel_rfl) (by simp) ?_
    refine AllReadyH.cons rfl (fun K hK => ?_) AllReadyH.nil
    go_simp
    refine hK.out _ _ HYF.out.1 (fun hHeld => ?_)
    clear hK K
    try simp only [Act.put, List.setIfInBounds_toArray, List.set_cons_zero, List.set_cons_succ]
    refine wpAnyH_done (by kernel_rfl) ?_ _
    change wpList _ _ _ [_] _ _
    go_wp2
    exact bodyPost_ret (v := .tuple #[.agg #[.int .i64 m, .string T], .slice (some ⟨g, 0, none⟩) 4 c]) (by simp [results, Tryz.results95, go_sem, k0, k1]) rfl ⟨m, T, g, c, _, _, _, _, rfl, hm, hT, FF.out, HEX, by omega, by simpa [World.setCell] using hlt, HF.out⟩
  · go_wp2_with fail
    refine (HBW.out 8 (by omega) _ L5.out).mono ?_
    rintro e w6 ⟨r, hr, rfl, hl6⟩
    have R6 := Lib.hid (outC_leaves RX.out hl6 (by omega))
    have Y6 := Lib.hid (outC_leaves YX.out hl6 (by omega))
    have L6 := Lib.hid (L5.out.trans hl6)
    have F6 := Lib.hid (four_leaves FX.out hl6 (by omega))
    have hfz6 : w6.frozen? ⟨g, 0, none⟩ = false := by rw [World.frozen?_of_block (a := ⟨g, 0, none⟩) (hl6.2.2.block g hg5 (fun e => by have h0 := Option.some.inj e; omega))]; exact hfz
    have hg6 : g < w6.heap.size := Nat.lt_of_lt_of_le hg5 hl6.2.2.size
    clear hl6 RX YX FX L5 hg5
    have c60 := F6.out.1
    have hg5 := hg6
    have B6 := Lib.hid (leaves_below L6.out (by omega) B1.out)
    have RX := Lib.hid (outC_off R6.out (so := g) (by omega) 0 (.int .i64 ((r : Int) - 1)))
    have YX := Lib.hid (outC_off Y6.out (so := g) (by omega) 0 (.int .i64 ((r : Int) - 1)))
    have FX := Lib.hid (F6.out.set ((r : Int) - 1))
    have BX := Lib.hid (B6.out.setCell (p := ⟨g, 0, none⟩) (by simp; omega) (.int .i64 ((r : Int) - 1)))
    have HEX : Elem ((r : Int) - 1) ∧ Elem z1 ∧ Elem z2 ∧ Elem z3 := ⟨by unfold Elem; omega, HE.2⟩
    clear HE
    go_wp2
    have RXd : Hid (OutC w.heap.size 0 ⟨#[]⟩ (w6.setCell ⟨g, 0, none⟩ (.int .i64 ((r : Int) - 1))).drew) := RX
    have YXd : Hid (OutC w2.heap.size m T (w6.setCell ⟨g, 0, none⟩ (.int .i64 ((r : Int) - 1))).drew) := YX
    have FXd : Hid (Four (w6.setCell ⟨g, 0, none⟩ (.int .i64 ((r : Int) - 1))).drew g ((r : Int) - 1) z1 z2 z3) := FX
    have BXd := Lib.hid BX.out.drew
    have hlt : g < (w6.setCell ⟨g, 0, none⟩ (.int .i64 ((r : Int) - 1))).drew.heap.size := by simpa [World.setCell] using hg5
    have hS0 := YXd.out.1
    refine LastB.wp_region_last' (S := fun W => W.cell? ⟨w2.heap.size, 0, none⟩ = some (.int .i64 m) ∧ W.cell? ⟨w2.heap.size, 1, none⟩ = some (.string T)) 4 _ rfl rfl (by kernel_rfl) (by kernel_rfl) hS0 (fun hHeld => ?_)
    clear hS0 RX YX FX BX
    generalize (w6.setCell ⟨g, 0, none⟩ (.int .i64 ((r : Int) - 1))).drew = wd at *
    obtain ⟨⟨e0, e1⟩, z0', z1'⟩ := RXd.out
    obtain ⟨k0, k1⟩ := ret_sg e0 e1 (.int .i64 m) (.string T)
    have FF := Lib.hid ((FXd.out.far (so := w.heap.size) (by omega) 0 (.int .i64 m)).far (so := w.heap.size) (by omega) 1 (.string T))
    have HYF := Lib.hid (outC_off (outC_off YXd.out (so := w.heap.size) (by omega) 0 (.int .i64 m)) (so := w.heap.size) (by omega) 1 (.string T))
    have HF := Lib.hid ((BXd.out.setCell (p := ⟨w.heap.size, 0, none⟩) (by simp) (.int .i64 m)).setCell (p := ⟨w.heap.size, 1, none⟩) (by simp) (.string T))
    simp only [List.take_succ_cons, List.take_zero]
    (refine wpAnyH_take (i := 0) (v := ?_) rfl (by kernel_rfl) (by kernel_rfl) (by kernel_rfl) (fun _ _ _ h => h) (Or.inl ⟨by rfl, ?_⟩) (by assumption) ?_; rotate_left; (focus (intro w hSw; (try dsimp only at hSw); go_simp; (try with_reducible rfl))); (simp only [Act.put, List.setIfInBounds_toArray]))
    (refine wpAnyH_take (i := 1) (v := ?_) rfl (by kernel_rfl) (by kernel_rfl) (by kernel_rfl) (fun _ _ _ h => h) (Or.inl ⟨by rfl, ?_⟩) (by assumption) ?_; rotate_left; (focus (intro w hSw; (try dsimp only at hSw); go_simp; (try with_reducible rfl))); (simp only [Act.put]))
    (refine wpAnyH_take (i := 2) (v := .slice (some ⟨g, 0, none⟩) 4 c) rfl (by kernel_rfl) (by kernel_rfl) (by kernel_rfl) (fun _ _ _ h => h) (Or.inl ⟨by rfl, ?_⟩) (by assumption) ?_; (focus (intro w hSw; (try dsimp only at hSw); simp [go_sem, execOp]; intro hlt4; omega)); (simp only [Act.put]))
    refine wpAnyH_ready (rs := [3]) (by kernel_rfl) (by simp) ?_
    refine AllReadyH.cons rfl (fun K hK => ?_) AllReadyH.nil
    go_simp
    refine hK.out _ _ HYF.out.1 (fun hHeld => ?_)
    clear hK K
    try simp only [Act.put, List.setIfInBounds_toArray, List.set_cons_zero, List.set_cons_succ]
    refine wpAnyH_done (by kernel_rfl) ?_ _
    change wpList _ _ _ [_] _ _
    go_wp2
    exact bodyPost_ret (v := .tuple #[.agg #[.int .i64 m, .string T], .slice (some ⟨g, 0, none⟩) 4 c]) (by simp [results, Tryz.results95, go_sem, k0, k1]) rfl ⟨m, T, g, c, _, _, _, _, rfl, hm, hT, FF.out, HEX, by omega, by simpa [World.setCell] using hlt, HF.out⟩
end Go.Proofs.YtinlnafkmoabbaaGreatDoor.Cur
