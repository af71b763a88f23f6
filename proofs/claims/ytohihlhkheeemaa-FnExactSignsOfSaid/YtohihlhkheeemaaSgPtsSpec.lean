/- SignsOf, as spec answers it; the law. -/
import Derived.Test.YtohihlhkheeemaaSgPts
namespace Go.Proofs.Ytohihlhkheeemaa.Sg
open Go.RowKit Pt
/-- Beside a call that writes nothing of what was there nine facts stand. -/
theorem held9 (wr : World) (Bo : Nat) (X : ByteArray) (a1 a2 a3 a4 a5 a6 : Addr) (v1 v2 v3 v4 v5 v6 : Value) {f : FuncId} {args : Array Value} {W : World} {v : Value} (h : Calls Try.prog f args W fun e w' => e = .returned v ∧ Below W.heap.size W w')
    (hS : W.cell? ⟨Bo, 1, none⟩ = some (.string X) ∧ W.frozen? ⟨Bo, 1, none⟩ = false ∧ W.cell? a1 = some v1 ∧ W.cell? a2 = some v2 ∧ W.cell? a3 = some v3 ∧ W.cell? a4 = some v4 ∧ W.cell? a5 = some v5 ∧ W.cell? a6 = some v6 ∧ Below wr.heap.size wr W) :
    Calls Try.prog f args W fun e w' => e = .returned v ∧ w'.cell? ⟨Bo, 1, none⟩ = some (.string X) ∧ w'.frozen? ⟨Bo, 1, none⟩ = false ∧ w'.cell? a1 = some v1 ∧ w'.cell? a2 = some v2 ∧ w'.cell? a3 = some v3 ∧ w'.cell? a4 = some v4 ∧ w'.cell? a5 = some v5 ∧ w'.cell? a6 = some v6 ∧ Below wr.heap.size wr w' := by
  obtain ⟨c0, f0, c1, c2, c3, c4, c5, c6, hB⟩ := hS
  have hl : Bo < W.heap.size := Kit.cell_lt c0
  exact h.mono fun _ _ ⟨he, hb⟩ => ⟨he, by rw [hb.cell hl]; exact c0, by rw [hb.frozen hl]; exact f0, by rw [hb.cell (Kit.cell_lt c1)]; exact c1, by rw [hb.cell (Kit.cell_lt c2)]; exact c2, by rw [hb.cell (Kit.cell_lt c3)]; exact c3, by rw [hb.cell (Kit.cell_lt c4)]; exact c4, by rw [hb.cell (Kit.cell_lt c5)]; exact c5, by rw [hb.cell (Kit.cell_lt c6)]; exact c6, hB.trans (hb.mono hB.size)⟩
set_option maxHeartbeats 800000 in
set_option maxRecDepth 100000 in
theorem specPts_no (b c : Nat) (xs : List P2) (hx : xs.length ≤ 1048576) (h : okB xs = false) (w : World) (hr : RowP w b xs) :
    Calls Try.prog 16 #[.slice (some ⟨b, 0, none⟩) xs.length c] w fun e w' => e = .returned (ptsV xs) ∧ Below w.heap.size w w' := by
  have HR := Lib.hid (ptsV_no h)
  have HM := Lib.hid (resC_made w 26)
  have HA := Lib.hid (fun W (hW : Below w.heap.size w W) => specAre b 0 c xs (by omega) W (hr.on hW).at (hr.on hW).lt)
  rw [h] at HA
  clear h hr
  go_enter Try.func16, Try.ntmps16
  go_wp2_with fail
  refine (HA.out _ HM.out.2.2).mono ?_
  rintro e w1 ⟨rfl, hb1⟩
  obtain ⟨⟨e0, e1⟩, ⟨z0, z1⟩, B⟩ := HM.out.on hb1
  obtain ⟨g0, g1⟩ := ret_sg e0 e1 (.int .i64 0) (.string ⟨#[]⟩)
  clear hb1
  go_wp2
  exact bodyPost_ret (v := .tuple #[.agg #[.int .i64 0, .string ⟨#[]⟩], .bool false]) (by simp [results, Try.results16, go_sem, g0, g1]) rfl ⟨ret_v HR.out.symm, (B.setCell (by simp) _).setCell (by simp) _⟩
set_option maxHeartbeats 3200000 in
set_option maxRecDepth 100000 in
theorem specPts_yes (b c : Nat) (xs : List P2) (h : okB xs = true) (w : World) (hr : RowP w b xs) :
    Calls Try.prog 16 #[.slice (some ⟨b, 0, none⟩) xs.length c] w fun e w' => e = .returned (ptsV xs) ∧ Below w.heap.size w w' := by
  have HR : Hid (ptsV xs = .tuple #[sg xs.length ⟨(text3 xs.length (areaF xs)).toArray⟩, .bool true]) := Lib.hid (by rw [text_points h]; exact ptsV_yes h)
  obtain ⟨⟨h3, hm7⟩, hfit, -⟩ := okB_ok h
  have HM := Lib.hid (resC_made w 26)
  have HA := Lib.hid (fun W (hW : Below w.heap.size w W) => specAre b 0 c xs (by omega) W (hr.on hW).at (hr.on hW).lt)
  rw [h] at HA
  have HL : Hid (∀ (i j k : Nat) (hi : i < xs.length) (hj : j < xs.length) (hk : k < xs.length) (W : World), Calls Try.prog 37 #[.agg #[.int .i64 xs[i].1, .int .i64 xs[i].2], .agg #[.int .i64 xs[j].1, .int .i64 xs[j].2], .agg #[.int .i64 xs[k].1, .int .i64 xs[k].2]] W fun e w' => e = .returned (.int .i64 (areaF xs i j k)) ∧ Below W.heap.size W w') := Lib.hid (fun i j k hi hj hk W => by
    have f : ∀ {i : Nat} (hi : i < xs.length), fitB xs[i].1 xs[i].2 1000 = true := fun {i} hi => fit_mono (hfit _ (List.getElem_mem hi)) (by omega)
    unfold areaF
    rw [getD_p hi, getD_p hj, getD_p hk]
    exact l2Area_any _ _ _ _ _ _ (f hi) (f hj) (f hk) W)
  have HRR := Lib.hid hr
  generalize areaF xs = F at HR HL
  clear h hr hfit
  go_enter Try.func16, Try.ntmps16
  go_wp2_with fail
  refine (HA.out _ HM.out.2.2).mono ?_
  rintro e w1 ⟨rfl, hb1⟩
  have R1 := Lib.hid (HM.out.on hb1)
  have hrl := R1.out.lt
  have P1 := Lib.hid (HRR.out.on R1.out.2.2)
  have hbw1 : b < w1.heap.size := P1.out.lt
  clear hb1
  go_wp2
  have O0 := Lib.hid (outC_made w1 xs.length ⟨#[]⟩ 26)
  have P0 : Hid (PickSt w1.heap.size w1 xs.length (textTo xs.length F 0 (0 + 1) (0 + 2)) (w1.alloc (.cells #[.int .i64 xs.length, .string ⟨#[]⟩] 26))) := Lib.hid ⟨by rw [textTo_zero hm7]; exact O0.out, (Below.refl w1.heap.size w1).alloc (Nat.le_refl _) _⟩
  clear O0
  go_loopw [5] (fun c wr => ∃ i : Nat, i ≤ xs.length ∧ c = .int .i64 i ∧ Hid (PickSt w1.heap.size w1 xs.length (textTo xs.length F i (i + 1) (i + 2)) wr)) (fun c _ => xs.length - (intOf c).toNat)
  case atStart => exact ⟨0, Nat.zero_le _, rfl, P0⟩
  case round =>
    obtain ⟨i, hin, rfl, HP⟩ := hrel
    by_cases hlt : i < xs.length
    · go_wp2
      go_loopw [6] (fun c wr => ∃ j : Nat, i < j ∧ j ≤ xs.length ∧ c = .int .i64 j ∧ Hid (PickSt w1.heap.size w1 xs.length (textTo xs.length F i j (j + 1)) wr)) (fun c _ => xs.length - (intOf c).toNat)
      case atStart => exact ⟨i + 1, by omega, by omega, by go_num, HP⟩
      case round =>
        obtain ⟨j, hij, hjn, rfl, HP⟩ := hrel
        by_cases hltj : j < xs.length
        · go_wp2
          go_loopw [7] (fun c wr => ∃ k : Nat, j < k ∧ k ≤ xs.length ∧ c = .int .i64 k ∧ Hid (PickSt w1.heap.size w1 xs.length (textTo xs.length F i j k) wr)) (fun c _ => xs.length - (intOf c).toNat)
          case atStart => exact ⟨j + 1, by omega, by omega, by go_num, HP⟩
          case round =>
            obtain ⟨k, hjk, hkn, rfl, HP⟩ := hrel
            by_cases hltk : k < xs.length
            · obtain ⟨⟨⟨o0, o1⟩, ⟨f0, f1⟩⟩, hbb⟩ := HP.out
              have hEt := P1.out.at.on hbb hbw1
              obtain ⟨x0, x1⟩ := hEt.get i hlt
              obtain ⟨y0, y1⟩ := hEt.get j hltj
              obtain ⟨z0, z1⟩ := hEt.get k hltk
              simp only [Nat.zero_add] at x0 x1 y0 y1 z0 z1
              have HC := Lib.hid (fun W => HL.out i j k hlt hltj hltk W)
              have hXl := textTo_le hm7 F i j k
              have HST : Hid (textTo xs.length F i j (k + 1) = textTo xs.length F i j k ++ [byteOf (F i j k)]) := Lib.hid (textTo_step hm7 F hij hjk hltk)
              generalize textTo xs.length F i j k = L at hXl HP HST o1
              generalize F i j k = v at HC HST
              have hr1 : ∀ W (x : UInt8), (Op.stringOp .add ⟨L.toArray⟩ ⟨#[x]⟩).run Try.prog W = .ok (.string (⟨L.toArray⟩ ++ ⟨#[x]⟩)) W := fun W x => run_string_add_sum W _ _ (by show L.toArray.size + 1 ≤ _; simp; omega)
              generalize xs[i] = p at x0 x1 HC
              generalize xs[j] = q at y0 y1 HC
              generalize xs[k] = r at z0 z1 HC
              clear hEt hbb o0 f0
              go_wp2
              have hS0 := (⟨o1, f1, x0, x1, y0, y1, z0, z1, (Below.refl wr.heap.size wr).drew⟩ : wr.drew.cell? ⟨w1.heap.size, 1, none⟩ = some (.string ⟨L.toArray⟩) ∧ wr.drew.frozen? ⟨w1.heap.size, 1, none⟩ = false ∧ wr.drew.cell? ⟨b, i * 2, none⟩ = some (.int .i64 p.1) ∧ wr.drew.cell? ⟨b, i * 2 + 1, none⟩ = some (.int .i64 p.2) ∧ wr.drew.cell? ⟨b, j * 2, none⟩ = some (.int .i64 q.1) ∧ wr.drew.cell? ⟨b, j * 2 + 1, none⟩ = some (.int .i64 q.2) ∧ wr.drew.cell? ⟨b, k * 2, none⟩ = some (.int .i64 r.1) ∧ wr.drew.cell? ⟨b, k * 2 + 1, none⟩ = some (.int .i64 r.2) ∧ Below wr.heap.size wr wr.drew)
              refine Last.wp_region_last' (S := fun W => W.cell? ⟨w1.heap.size, 1, none⟩ = some (.string ⟨L.toArray⟩) ∧ W.frozen? ⟨w1.heap.size, 1, none⟩ = false ∧ W.cell? ⟨b, i * 2, none⟩ = some (.int .i64 p.1) ∧ W.cell? ⟨b, i * 2 + 1, none⟩ = some (.int .i64 p.2) ∧ W.cell? ⟨b, j * 2, none⟩ = some (.int .i64 q.1) ∧ W.cell? ⟨b, j * 2 + 1, none⟩ = some (.int .i64 q.2) ∧ W.cell? ⟨b, k * 2, none⟩ = some (.int .i64 r.1) ∧ W.cell? ⟨b, k * 2 + 1, none⟩ = some (.int .i64 r.2) ∧ Below wr.heap.size wr W) 18 _ rfl rfl (by kernel_rfl) (by kernel_rfl) hS0 (fun hHeld => ?_)
              clear hS0 o1 f1 x0 x1 y0 y1 z0 z1
              simp only [List.take_succ_cons, List.take_zero]
              (refine wpAnyH_take (i := 0) (v := ?_) rfl (by kernel_rfl) (by kernel_rfl) (by kernel_rfl) (fun _ _ _ h => h) (Or.inl ⟨by rfl, ?_⟩) (by assumption) ?_; rotate_left; (focus (intro w hSw; (try dsimp only at hSw); go_simp; (try with_reducible rfl))); (simp only [Act.put, List.setIfInBounds_toArray, List.set_cons_zero, List.set_cons_succ]))
              (refine wpAnyH_take (i := 1) (v := ?_) rfl (by kernel_rfl) (by kernel_rfl) (by kernel_rfl) (fun _ _ _ h => h) (Or.inl ⟨by rfl, ?_⟩) (by assumption) ?_; rotate_left; (focus (intro w hSw; (try dsimp only at hSw); go_simp; (try with_reducible rfl))); (simp only [Act.put, List.setIfInBounds_toArray, List.set_cons_zero, List.set_cons_succ]))
              (refine wpAnyH_take (i := 2) (v := ?_) rfl (by kernel_rfl) (by kernel_rfl) (by kernel_rfl) (fun _ _ _ h => h) (Or.inl ⟨by rfl, ?_⟩) (by assumption) ?_; rotate_left; (focus (intro w hSw; (try dsimp only at hSw); go_simp; (try with_reducible rfl))); (simp only [Act.put, List.setIfInBounds_toArray, List.set_cons_zero, List.set_cons_succ]))
              (refine wpAnyH_take (i := 3) (v := ?_) rfl (by kernel_rfl) (by kernel_rfl) (by kernel_rfl) (fun _ _ _ h => h) (Or.inl ⟨by rfl, ?_⟩) (by assumption) ?_; rotate_left; (focus (intro w hSw; (try dsimp only at hSw); go_simp; (try with_reducible rfl))); (simp only [Act.put, List.setIfInBounds_toArray, List.set_cons_zero, List.set_cons_succ]))
              (refine wpAnyH_take (i := 4) (v := ?_) rfl (by kernel_rfl) (by kernel_rfl) (by kernel_rfl) (fun _ _ _ h => h) (Or.inl ⟨by rfl, ?_⟩) (by assumption) ?_; rotate_left; (focus (intro w hSw; (try dsimp only at hSw); go_simp; (try with_reducible rfl))); (simp only [Act.put, List.setIfInBounds_toArray, List.set_cons_zero, List.set_cons_succ]))
              (refine wpAnyH_take (i := 5) (v := ?_) rfl (by kernel_rfl) (by kernel_rfl) (by kernel_rfl) (fun _ _ _ h => h) (Or.inl ⟨by rfl, ?_⟩) (by assumption) ?_; rotate_left; (focus (intro w hSw; (try dsimp only at hSw); go_simp; (try with_reducible rfl))); (simp only [Act.put, List.setIfInBounds_toArray, List.set_cons_zero, List.set_cons_succ]))
              (refine wpAnyH_take (i := 6) (v := ?_) rfl (by kernel_rfl) (by kernel_rfl) (by kernel_rfl) (fun _ _ _ h => h) (Or.inl ⟨by rfl, ?_⟩) (by assumption) ?_; rotate_left; (focus (intro w hSw; (try dsimp only at hSw); go_simp; (try with_reducible rfl))); (simp only [Act.put, List.setIfInBounds_toArray, List.set_cons_zero, List.set_cons_succ]))
              (refine wpAnyH_take (i := 7) (v := ?_) rfl (by kernel_rfl) (by kernel_rfl) (by kernel_rfl) (fun _ _ _ h => h) (Or.inl ⟨by rfl, ?_⟩) (by assumption) ?_; rotate_left; (focus (intro w hSw; (try dsimp only at hSw); go_simp; (try with_reducible rfl))); (simp only [Act.put, List.setIfInBounds_toArray, List.set_cons_zero, List.set_cons_succ]))
              (refine wpAnyH_take (i := 8) (v := ?_) rfl (by kernel_rfl) (by kernel_rfl) (by kernel_rfl) (fun _ _ _ h => h) (Or.inl ⟨by rfl, ?_⟩) (by assumption) ?_; rotate_left; (focus (intro w hSw; (try dsimp only at hSw); go_simp; (try with_reducible rfl))); (simp only [Act.put, List.setIfInBounds_toArray, List.set_cons_zero, List.set_cons_succ]))
              (refine wpAnyH_take (i := 9) (v := ?_) rfl (by kernel_rfl) (by kernel_rfl) (by kernel_rfl) (fun _ _ _ h => h) (Or.inl ⟨by rfl, ?_⟩) (by assumption) ?_; rotate_left; (focus (intro w hSw; (try dsimp only at hSw); go_simp; (try with_reducible rfl))); (simp only [Act.put, List.setIfInBounds_toArray, List.set_cons_zero, List.set_cons_succ]))
              (refine wpAnyH_take (i := 10) (v := ?_) rfl (by kernel_rfl) (by kernel_rfl) (by kernel_rfl) (fun _ _ _ h => h) (Or.inl ⟨by rfl, ?_⟩) (by assumption) ?_; rotate_left; (focus (intro w hSw; (try dsimp only at hSw); go_simp; (try with_reducible rfl))); (simp only [Act.put, List.setIfInBounds_toArray, List.set_cons_zero, List.set_cons_succ]))
              (refine wpAnyH_take (i := 11) (v := ?_) rfl (by kernel_rfl) (by kernel_rfl) (by kernel_rfl) (fun _ _ _ h => h) (Or.inl ⟨by rfl, ?_⟩) (by assumption) ?_; rotate_left; (focus (intro w hSw; (try dsimp only at hSw); go_simp; (try with_reducible rfl))); (simp only [Act.put, List.setIfInBounds_toArray, List.set_cons_zero, List.set_cons_succ]))
              (refine wpAnyH_take (i := 12) (v := ?_) rfl (by kernel_rfl) (by kernel_rfl) (by kernel_rfl) (fun _ _ _ h => h) (Or.inl ⟨by rfl, ?_⟩) (by assumption) ?_; rotate_left; (focus (intro w hSw; (try dsimp only at hSw); go_simp; (try with_reducible rfl))); (simp only [Act.put, List.setIfInBounds_toArray, List.set_cons_zero, List.set_cons_succ]))
              (refine wpAnyH_take (i := 13) (v := ?_) rfl (by kernel_rfl) (by kernel_rfl) (by kernel_rfl) (fun _ _ _ h => h) (Or.inl ⟨by rfl, ?_⟩) (by assumption) ?_; rotate_left; (focus (intro w hSw; (try dsimp only at hSw); go_simp; (try with_reducible rfl))); (simp only [Act.put, List.setIfInBounds_toArray, List.set_cons_zero, List.set_cons_succ]))
              refine wpAnyH_ready (rs := [14]) (by kernel_rfl) (by simp) ?_
              refine AllReadyH.cons rfl (fun K hK => ?_) AllReadyH.nil
              go_simp
              refine (held9 wr w1.heap.size ⟨L.toArray⟩ ⟨b, i * 2, none⟩ ⟨b, i * 2 + 1, none⟩ ⟨b, j * 2, none⟩ ⟨b, j * 2 + 1, none⟩ ⟨b, k * 2, none⟩ ⟨b, k * 2 + 1, none⟩ (.int .i64 p.1) (.int .i64 p.2) (.int .i64 q.1) (.int .i64 q.2) (.int .i64 r.1) (.int .i64 r.2) (HC.out _) hHeld).mono ?_
              clear hHeld
              rintro e w' ⟨rfl, hc⟩
              refine hK.out _ _ hc (fun hHeld => ?_)
              clear hK K
              try simp only [Act.put, List.setIfInBounds_toArray, List.set_cons_zero, List.set_cons_succ]
              refine wpAnyH_ready (rs := [15]) (by kernel_rfl) (by simp) ?_
              refine AllReadyH.cons rfl (fun K hK => ?_) AllReadyH.nil
              go_simp
              refine (l3Byte_any _ _).mono ?_
              rintro e w2 ⟨rfl, rfl⟩
              refine hK.out _ _ hHeld (fun hHeld => ?_)
              clear hK K
              try simp only [Act.put, List.setIfInBounds_toArray, List.set_cons_zero, List.set_cons_succ]
              (refine wpAnyH_take (i := 16) (v := ?_) rfl (by kernel_rfl) (by kernel_rfl) (by kernel_rfl) (fun _ _ _ h => h) (Or.inl ⟨by rfl, ?_⟩) (by assumption) ?_; rotate_left; (focus (intro w hSw; (try dsimp only at hSw); go_simp; (try with_reducible rfl))); (simp only [Act.put, List.setIfInBounds_toArray, List.set_cons_zero, List.set_cons_succ]))
              (refine wpAnyH_take (i := 17) (v := ?_) rfl (by kernel_rfl) (by kernel_rfl) (by kernel_rfl) (fun _ _ _ h => h) (Or.inl ⟨by rfl, ?_⟩) (by assumption) ?_; rotate_left; (focus (intro w hSw; (try dsimp only at hSw); go_simp; (try with_reducible rfl))); (simp only [Act.put, List.setIfInBounds_toArray, List.set_cons_zero, List.set_cons_succ]))
              refine wpAnyH_done (by kernel_rfl) ?_ _
              obtain ⟨o1, f1, -, -, -, -, -, -, hbw2⟩ := hHeld
              have HP2 := Lib.hid (HP.out.store hbw2 (byteOf v))
              rw [← HST.out] at HP2
              clear hc
              change wpList _ _ _ [_] _ _
              go_wp2
              exact ⟨⟨k + 1, by omega, by omega, by go_num, HP2⟩, by simp only [intOf]; omega⟩
            · have HP2 : Hid (PickSt w1.heap.size w1 xs.length (textTo xs.length F i (j + 1) (j + 1 + 1)) wr) := Lib.hid (by
                have := HP.out
                rw [show k = xs.length by omega, textTo_inner hm7 F hij hltj] at this
                exact this)
              go_wp2
              exact ⟨⟨j + 1, by omega, by omega, by go_num, HP2⟩, by simp only [intOf]; omega⟩
        · have HP2 : Hid (PickSt w1.heap.size w1 xs.length (textTo xs.length F (i + 1) (i + 1 + 1) (i + 1 + 2)) wr) := Lib.hid (by
            have := HP.out
            rw [show j = xs.length by omega, textTo_mid hm7 F hlt] at this
            exact this)
          go_wp2
          exact ⟨⟨i + 1, by omega, by go_num, HP2⟩, by simp only [intOf]; omega⟩
    · have HP2 : Hid (PickSt w1.heap.size w1 xs.length (text3 xs.length F) wr) := Lib.hid (by
        have := HP.out
        rw [show i = xs.length by omega, textTo_end hm7 F] at this
        exact this)
      obtain ⟨⟨⟨o0, o1⟩, -⟩, hbb⟩ := HP2.out
      obtain ⟨⟨e0, e1⟩, ⟨z0, z1⟩, B⟩ := R1.out.on' hbb hrl (Nat.le_refl _)
      obtain ⟨k0, k1⟩ := ret_sg e0 e1 (.int .i64 xs.length) (.string ⟨(text3 xs.length F).toArray⟩)
      generalize (text3 xs.length F).toArray = T at o1 k0 k1 HR
      clear hbb
      go_wp2
      exact bodyPost_ret (v := .tuple #[.agg #[.int .i64 xs.length, .string ⟨T⟩], .bool true]) (by simp [results, Try.results16, go_sem, k0, k1]) rfl ⟨ret_v HR.out.symm, (B.setCell (by simp) _).setCell (by simp) _⟩
theorem pts_both (b c : Nat) (xs : List P2) (hx : xs.length ≤ 1048576) : ∃ m t z, ptsV xs = .tuple #[sg m t, .bool z] ∧
    (∀ b c W, RowP W b xs → Calls Try.prog 16 #[.slice (some ⟨b, 0, none⟩) xs.length c] W fun e w' => e = .returned (ptsV xs) ∧ Below W.heap.size W w') ∧
    (∀ b c W, RowP W b xs → Calls Try.prog 18 #[.slice (some ⟨b, 0, none⟩) xs.length c] W fun e w' => e = .returned (ptsV xs) ∧ Below W.heap.size W w') := by
  cases h : okB xs
  · exact ⟨_, _, _, ptsV_no h, fun b c W hr => specPts_no b c xs hx h W hr, fun b c W hr => implPts_no b c xs hx h W hr⟩
  · exact ⟨_, _, _, ptsV_yes h, fun b c W hr => specPts_yes b c xs h W hr, fun b c W hr => implPts_yes b c xs h W hr⟩
end Go.Proofs.Ytohihlhkheeemaa.Sg
