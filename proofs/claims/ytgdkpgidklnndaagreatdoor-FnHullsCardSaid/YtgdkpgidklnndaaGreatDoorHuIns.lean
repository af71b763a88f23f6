/- slices.SortFunc of a hull's elements behind the first one: insertion, by HullOf's own function. -/
import Derived.Test.YtgdkpgidklnndaaGreatDoorMgE
import Derived.Test.YtgdkpgidklnndaaGreatDoorMgK
import Derived.IntWalk
import Derived.Deep.QuietTactic
import Derived.BigQuiet
namespace Go.Proofs.YtgdkpgidklnndaaGreatDoor.Sg
open Go.RowKit Pt NewI HuSort
theorem zc_at (L : List Nat) (c : Nat) : zc (zl L) c = .int .i64 (L.getD c 0 : Nat) := by
  unfold zc zl
  rw [List.getD_eq_getElem?_getD, List.getD_eq_getElem?_getD, List.getElem?_map]
  cases L[c]? <;> rfl
theorem zc_next {h0 : Nat} {ys : List Nat} {j p : Nat} (h : ys[j]? = some p) : zc (zl (h0 :: ys)) (1 + j) = .int .i64 (p : Nat) := by
  rw [zc_at, List.getD_eq_getElem?_getD, Nat.add_comm, List.getElem?_cons_succ, h]; rfl
theorem swap_one (h0 : Nat) (ys zs : List Nat) (q j : Nat) (hj : j = q + 1) (s x : Nat) (h : ∀ k, zs[k]? = if k = j then some s else if k = q then some x else ys[k]?) (c : Nat) :
    (if c = 1 + q then Value.int .i64 (x : Nat) else if c = 1 + j then Value.int .i64 (s : Nat) else zc (zl (h0 :: ys)) c) = zc (zl (h0 :: zs)) c := by
  subst hj
  rw [zc_at, zc_at]
  cases c with
  | zero => rw [if_neg (by omega), if_neg (by omega)]; rfl
  | succ c =>
    have hz := h c
    rw [List.getD_eq_getElem?_getD, List.getD_eq_getElem?_getD, List.getElem?_cons_succ, List.getElem?_cons_succ, hz]
    by_cases e1 : c = q
    · subst e1; rw [if_pos (by omega), if_neg (by omega), if_pos rfl]; rfl
    · rw [if_neg (by omega)]
      by_cases e2 : c = q + 1
      · subst e2; rw [if_pos (by omega), if_pos rfl]; rfl
      · rw [if_neg (by omega), if_neg e2, if_neg e1]
/-- What HullOf's function keeps in memory. -/
structure SortD (W : World) (g pS pH b : Nat) (f : Int → Int → Int → Int) (m c : Nat) : Prop where
  sig : W.cell? ⟨pS, 0, none⟩ = some (.map (some b))
  hul : W.cell? ⟨pH, 0, none⟩ = some (.slice (some ⟨g, 0, none⟩) m c)
  map : MapIs W b f
  nS : some pS ≠ some g
  nH : some pH ≠ some g
  nb : some b ≠ some g
theorem SortD.keep {W W' : World} {g pS pH b : Nat} {f : Int → Int → Int → Int} {m c : Nat} (h : SortD W g pS pH b f m c) (hg : W.grownBy W' (some g)) : SortD W' g pS pH b f m c :=
  ⟨hg.cell h.sig h.nS, hg.cell h.hul h.nH, mapIs_keep h.map hg h.nb, h.nS, h.nH, h.nb⟩
set_option maxHeartbeats 800000 in
set_option maxRecDepth 100000 in
theorem less_hull (g pS pH b : Nat) (f : Int → Int → Int → Int) (m c : Nat) (hm : 0 < m) (h0 x y : Nat) (b0 : h0 < 7) (bx : x < 7) (by_ : y < 7) (W : World) (hd : SortD W g pS pH b f m c) (hc : W.cell? ⟨g, 0, none⟩ = some (.int .i64 h0)) :
    Calls Tryz.prog 29 #[.int .i64 x, .int .i64 y, .pointer (some ⟨pS, 0, none⟩), .pointer (some ⟨pH, 0, none⟩)] W fun e w' => e = .returned (.int .i64 (-(sgnF f h0 x y))) ∧ Below W.heap.size W w' := by
  obtain ⟨h1, h2, h3, -, -, -⟩ := hd
  have HA := Lib.hid (fun W' (hW : Below W.heap.size W W') => at_any b f h0 x y (by omega) (by omega) (by omega) W' (h3.on hW))
  have hbd := sgnF_bd h3.2 h0 x y
  have hneg : IntKind.i64.wrap (-(sgnF f h0 x y)) = -(sgnF f h0 x y) := IntWalk.i64_in _ (by omega)
  generalize sgnF f h0 x y = v at HA hneg
  clear h3 hbd
  go_enter Tryz.func29, Tryz.ntmps29
  go_wp2
  refine region_tail 6 (by kernel_rfl) (by kernel_rfl) ?_
  intro W1 hW
  have g0 : W1.cell? ⟨g, 0, none⟩ = some (.int .i64 h0) := by rw [hW]; exact hc
  have g1 : W1.cell? ⟨pS, 0, none⟩ = some (.map (some b)) := by rw [hW]; exact h1
  have g2 : W1.cell? ⟨pH, 0, none⟩ = some (.slice (some ⟨g, 0, none⟩) m c) := by rw [hW]; exact h2
  have HB : Hid (Below W.heap.size W W1) := Lib.hid (by rw [hW]; exact (Below.refl _ _).drew)
  clear hW hc h1 h2
  simp only [List.take_succ_cons, List.take_zero, List.drop_succ_cons, List.drop_zero]
  still_step
  still_step
  still_step
  still_step
  still_step
  still_step
  refine wpStill_nil ?_
  change wpList _ _ _ _ _ W1
  go_wp2_with fail
  refine (HA.out _ HB.out).mono ?_
  rintro e w' ⟨rfl, rfl⟩
  go_wp2
  go_ret
  exact ⟨rfl, HB.out⟩
theorem grown_set1 {w w' : World} {b : Nat} (h : w.grownBy w' (some b)) (j : Nat) (v : Value) : w.grownBy (w'.setCell ⟨b, j, none⟩ v) (some b) := grown_set h j v
theorem cells_drew {w : World} {b m : Nat} {f : Nat → Value} (h : Cells w b m f) : Cells w.drew b m f := ⟨h.cell, h.frozen, h.lt⟩
theorem cells_drewN {w : World} {b m : Nat} {f : Nat → Value} (h : Cells w b m f) (n : Nat) : Cells (w.drewN n) b m f := ⟨h.cell, h.frozen, h.lt⟩
theorem grown_drewN {w w' : World} {b : Nat} (h : w.grownBy w' (some b)) (n : Nat) : w.grownBy (w'.drewN n) (some b) := ⟨h.os, h.tape, h.output, h.size, h.block⟩
theorem grown_drew {w w' : World} {b : Nat} (h : w.grownBy w' (some b)) : w.grownBy w'.drew (some b) := ⟨h.os, h.tape, h.output, h.size, h.block⟩
/-- A call beside which two cells are read and a row is kept. -/
theorem heldTwo (w0 : World) (g m : Nat) (f : Nat → Value) (a1 a2 : Addr) (v1 v2 : Value) {k : FuncId} {args : Array Value} {W : World} {v : Value} (h : ∀ W, Cells W g m f → w0.grownBy W (some g) → Calls Tryz.prog k args W fun e w' => e = .returned v ∧ Below W.heap.size W w')
    (hS : W.cell? a1 = some v1 ∧ W.cell? a2 = some v2 ∧ Cells W g m f ∧ w0.grownBy W (some g)) :
    Calls Tryz.prog k args W fun e w' => e = .returned v ∧ w'.cell? a1 = some v1 ∧ w'.cell? a2 = some v2 ∧ Cells w' g m f ∧ w0.grownBy w' (some g) := by
  obtain ⟨c1, c2, c5, c6⟩ := hS
  exact (h W c5 c6).mono fun _ _ ⟨he, hb⟩ => ⟨he, by rw [hb.cell (World.block_lt_of_cell? W a1 c1)]; exact c1, by rw [hb.cell (World.block_lt_of_cell? W a2 c2)]; exact c2, c5.on hb, grown_on c6 hb⟩
theorem befO_neg {F : Int → Int → Int → Int} {h0 x y : Nat} (hb : -1 ≤ F h0 x y ∧ F h0 x y ≤ 1) : decide (-(F h0 x y) < 0) = befO F h0 x y := by
  unfold befO
  rw [Bool.eq_iff_iff, decide_eq_true_eq, decide_eq_true_eq]
  omega
set_option maxHeartbeats 3200000 in
set_option maxRecDepth 100000 in
theorem insertH_any (g c ch pS pH b : Nat) (f : Int → Int → Int → Int) (hbd : ∀ x y z, -1 ≤ f x y z ∧ f x y z ≤ 1) (h0 : Nat) (b0 : h0 < 7) (xs : List Nat) (hx7 : ∀ x ∈ xs, x < 7) (h1 : 1 ≤ xs.length) (h7 : xs.length ≤ 7) (w : World) (hd : SortD w g pS pH b f (xs.length + 1) ch) (hc : Cells w g (xs.length + 1) (zc (zl (h0 :: xs)))) :
    Calls Tryz.prog 80 #[.slice (some ⟨g, 1, none⟩) xs.length c, .int .i64 0, .int .i64 xs.length, .func (.func 29) #[] #[.pointer (some ⟨pS, 0, none⟩), .pointer (some ⟨pH, 0, none⟩)]] w fun e w' => e = .returned (.tuple #[]) ∧ Cells w' g (xs.length + 1) (zc (zl (h0 :: sortK (befO (sgnF f) h0) xs xs.length))) ∧ w.grownBy w' (some g) := by
  have HLS : Hid (∀ ys x y, x < 7 → y < 7 → ∀ W, Cells W g (xs.length + 1) (zc (zl (h0 :: ys))) → w.grownBy W (some g) → Calls Tryz.prog 29 #[.int .i64 (x : Nat), .int .i64 (y : Nat), .pointer (some ⟨pS, 0, none⟩), .pointer (some ⟨pH, 0, none⟩)] W fun e w' => e = .returned (.int .i64 (-(sgnF f h0 x y))) ∧ Below W.heap.size W w') :=
    Lib.hid (fun ys x y hx hy W hW hG => less_hull g pS pH b f (xs.length + 1) ch (by omega) h0 x y b0 hx hy W (hd.keep hG) (by rw [hW.cell 0 (by omega), zc_at]; rfl))
  have HBF := Lib.hid (fun (x y : Nat) => befO_neg (F := sgnF f) (h0 := h0) (x := x) (y := y) (sgnF_bd hbd h0 x y))
  have HMEM : Hid (∀ i, i < xs.length → get0 xs i < 7 ∧ ∀ q, q < i → get0 (sortK (befO (sgnF f) h0) xs i) q < 7) := Lib.hid (fun i hi => ⟨hx7 _ (get0_mem hi), fun q hq => by
    have hp := sortK_perm (befO (sgnF f) h0) xs i (by omega)
    exact hx7 _ (List.mem_of_mem_take (hp.mem_iff.1 (get0_mem (by rw [sortK_length]; exact hq))))⟩)
  generalize sgnF f = F at HLS HBF HMEM ⊢
  obtain ⟨bef, hbf⟩ : ∃ bf : Nat → Nat → Bool, bf = befO F h0 := ⟨_, rfl⟩
  have HBF2 : Hid (∀ x y : Nat, decide (-(F h0 x y) < 0) = bef x y) := Lib.hid (fun x y => by rw [hbf]; exact HBF.out x y)
  rw [← hbf] at HMEM ⊢
  have hx0 : xs = sortK bef xs 1 ++ xs.drop 1 := by
    rw [sortK_one, get0_of (List.getElem?_eq_getElem (show 0 < xs.length by omega))]
    exact (List.drop_eq_getElem_cons (show 0 < xs.length by omega))
  have H0 : Hid (Cells w g (xs.length + 1) (zc (zl (h0 :: (sortK bef xs 1 ++ xs.drop 1))))) := Lib.hid (by rw [← hx0]; exact hc)
  have HG0 : Hid (w.grownBy w (some g)) := Lib.hid (grown_refl w _)
  clear hc hx0 hd hbf HBF hbd hx7
  go_enter Tryz.func80, Tryz.ntmps80
  go_wp2
  go_loopw [8] (fun iv wr => ∃ i : Nat, 1 ≤ i ∧ i ≤ xs.length ∧ iv = .int .i64 i ∧ Hid (Cells wr g (xs.length + 1) (zc (zl (h0 :: (sortK bef xs i ++ xs.drop i))))) ∧ Hid (w.grownBy wr (some g))) (fun i _ => xs.length - (intOf i).toNat)
  case atStart => exact ⟨1, Nat.le_refl _, h1, rfl, H0, HG0⟩
  case round =>
    obtain ⟨i, hi1, hi, rfl, HC, HG⟩ := hrel
    by_cases hlt : i < xs.length
    · have HM : Hid (Cells wr g (xs.length + 1) (zc (zl (h0 :: mid bef xs i i)))) := Lib.hid (by rw [← mid_start bef xs i hlt]; exact HC.out)
      go_wp2
      go_loopw [9] (fun jv wr => ∃ j : Nat, j ≤ i ∧ jv = .int .i64 j ∧ Hid (Cells wr g (xs.length + 1) (zc (zl (h0 :: mid bef xs i j)))) ∧ Hid (pos bef (get0 xs i) (sortK bef xs i) i = pos bef (get0 xs i) (sortK bef xs i) j) ∧ Hid (w.grownBy wr (some g))) (fun j _ => (intOf j).toNat)
      case atStart => exact ⟨i, Nat.le_refl _, rfl, HM, Lib.hid rfl, HG⟩
      case round =>
        obtain ⟨j, hj, rfl, HM, HP, HG⟩ := hrel
        by_cases hj0 : j = 0
        · subst hj0
          have HE : Hid (Cells wr g (xs.length + 1) (zc (zl (h0 :: (sortK bef xs (i + 1) ++ xs.drop (i + 1)))))) := Lib.hid (by rw [← mid_end bef xs i 0 HP.out]; exact HM.out)
          have hgt0 : decide ((0 : Int) < ((0 : Nat) : Int)) = false := by simp
          go_wp2
          go_quiet (fail)
          go_wp2
          exact ⟨⟨i + 1, by omega, by omega, by go_num, Lib.hid (cells_drewN HE.out _), Lib.hid (grown_drewN HG.out _)⟩, by simp only [intOf]; omega⟩
        · obtain ⟨q, hq⟩ : ∃ q, j = q + 1 := ⟨j - 1, by omega⟩
          have hg1 := mid_get bef xs i j hj
          have hg2 := mid_prev bef xs i q (by omega)
          have HSW := Lib.hid (mid_swap bef xs i q hlt (by omega))
          rw [← hq] at hg2 HSW
          have x0 := HM.out.cell (1 + j) (by omega)
          have x1 := HM.out.cell (1 + q) (by omega)
          rw [zc_next hg1] at x0
          rw [zc_next hg2] at x1
          have hr7 := (HMEM.out i hlt).1
          have hs7 := (HMEM.out i hlt).2 q (by omega)
          have HPG : Hid (bef (get0 xs i) (get0 (sortK bef xs i) q) = true → pos bef (get0 xs i) (sortK bef xs i) i = pos bef (get0 xs i) (sortK bef xs i) q) := Lib.hid (fun h => by rw [HP.out, hq, pos_go h])
          have HPS : Hid (bef (get0 xs i) (get0 (sortK bef xs i) q) = false → pos bef (get0 xs i) (sortK bef xs i) i = j) := Lib.hid (fun h => by rw [HP.out, hq, pos_stop h])
          clear hg1 hg2
          generalize hxx : get0 xs i = x at x0 hr7 HPG HPS HSW
          generalize hss : get0 (sortK bef xs i) q = s at x1 hs7 HPG HPS HSW
          have HL := Lib.hid (HLS.out (mid bef xs i j) x s hr7 hs7)
          have hbz := HBF2.out x s
          generalize -(F h0 x s) = z at HL hbz
          have hw1 : IntKind.i64.wrap ((j : Int) - 1) = (q : Int) := by rw [IntWalk.i64_in _ (by omega)]; omega
          have hgt : decide ((0 : Int) < (j : Int)) = true := by simp; omega
          have hgt2 : decide (0 < j) = true := by simp; omega
          have hb0 : (0 : Int) ≤ (j : Int) := by omega
          have hb1 : (j : Int) < (xs.length : Int) := by omega
          have hb2 : (0 : Int) ≤ (q : Int) := by omega
          have hb3 : (q : Int) < (xs.length : Int) := by omega
          have hjq : q < j := by omega
          have HQ := Lib.hid hq
          clear hq hj0 hr7 hs7
          cases hbf : bef x s
          · have hzd : decide (z < 0) = false := by rw [hbz]; exact hbf
            have HE := Lib.hid (mid_end bef xs i j (by rw [hxx]; exact HPS.out hbf))
            clear hbz hxx hss hbf
            go_wp2
            go_region_held3 (fun W => W.cell? ⟨g, 1 + j, none⟩ = some (.int .i64 (x : Nat)) ∧ W.cell? ⟨g, 1 + q, none⟩ = some (.int .i64 (s : Nat))) (first | exact ⟨x0, x1⟩ | (refine ⟨?_, ?_⟩ <;> assumption))
              (first | (go_at_call 29; refine (heldTwo w g (xs.length + 1) (zc (zl (h0 :: mid bef xs i j))) ⟨g, 1 + j, none⟩ ⟨g, 1 + q, none⟩ (.int .i64 (x : Nat)) (.int .i64 (s : Nat)) HL.out ?_).mono ?_; (first | exact ⟨x0, x1, HM.out, HG.out⟩ | exact ⟨x0, x1, cells_drew HM.out, grown_drew HG.out⟩); rintro e w2 ⟨rfl, c1, c2, c5, c6⟩))
            go_wp2
            exact ⟨⟨i + 1, by omega, by omega, by go_num, Lib.hid (by rw [← HE.out]; exact c5), Lib.hid c6⟩, by simp only [intOf]; omega⟩
          · have hzd : decide (z < 0) = true := by rw [hbz]; exact hbf
            have HPN := Lib.hid (HPG.out hbf)
            clear hbz hxx hss hbf
            go_wp2
            go_region_held3 (fun W => W.cell? ⟨g, 1 + j, none⟩ = some (.int .i64 (x : Nat)) ∧ W.cell? ⟨g, 1 + q, none⟩ = some (.int .i64 (s : Nat))) (first | exact ⟨x0, x1⟩ | (refine ⟨?_, ?_⟩ <;> assumption))
              (first | (go_at_call 29; refine (heldTwo w g (xs.length + 1) (zc (zl (h0 :: mid bef xs i j))) ⟨g, 1 + j, none⟩ ⟨g, 1 + q, none⟩ (.int .i64 (x : Nat)) (.int .i64 (s : Nat)) HL.out ?_).mono ?_; (first | exact ⟨x0, x1, HM.out, HG.out⟩ | exact ⟨x0, x1, cells_drew HM.out, grown_drew HG.out⟩); rintro e w2 ⟨rfl, c1, c2, c5, c6⟩))
            have hf0 := c5.frozen (1 + j)
            have hf1 := c5.frozen (1 + q)
            have C5 := Lib.hid c5
            have C6 := Lib.hid c6
            clear c5 c6
            go_wp2
            go_region
            have HR1 := Lib.hid (((C5.out.set (1 + j) (by omega) (.int .i64 (s : Nat))).set (1 + q) (by omega) (.int .i64 (x : Nat))).congr (g := zc (zl (h0 :: mid bef xs i q))) (fun c _ => swap_one h0 _ _ q j HQ.out s x HSW.out c))
            have HG1 := Lib.hid (grown_set1 (grown_set1 C6.out (1 + j) (.int .i64 (s : Nat))) (1 + q) (.int .i64 (x : Nat)))
            go_wp2
            exact ⟨⟨q, by omega, by go_num, Lib.hid (cells_drew HR1.out), HPN, Lib.hid (grown_drew HG1.out)⟩, by simp only [intOf]; omega⟩
    · have e : i = xs.length := by omega
      have HE : Hid (Cells wr g (xs.length + 1) (zc (zl (h0 :: sortK bef xs xs.length)))) := Lib.hid (by have := HC.out; rw [e, List.drop_length, List.append_nil] at this; exact this)
      clear e
      go_wp2
      go_end0
      exact ⟨rfl, HE.out, HG.out⟩
end Go.Proofs.YtgdkpgidklnndaaGreatDoor.Sg
