/- slices.SortFunc of at most seven points: insertion. -/
import Derived.Test.YticekiniljemeaaPtSort
import Derived.IntWalk
import Derived.Deep.QuietTactic
import Derived.BigQuiet
namespace Go.Proofs.Yticekiniljemeaa.Pt
open Go.RowKit
theorem less_yes {ax ay bx by_ : Int} (h : befB ax ay bx by_ = true) : orI (cmpI ax bx) (cmpI ay by_) < 0 := by
  simp only [befB, decide_eq_true_eq] at h
  rcases h with h | ⟨rfl, h⟩
  · rw [cmpI_lt h, orI_no (by decide)]; decide
  · rw [cmpI_eq rfl, orI_yes rfl, cmpI_lt h]; decide
theorem less_no {ax ay bx by_ : Int} (h : befB ax ay bx by_ = false) : ¬ orI (cmpI ax bx) (cmpI ay by_) < 0 := by
  simp only [befB, decide_eq_false_iff_not] at h
  rcases (by omega : bx < ax ∨ (ax = bx ∧ by_ ≤ ay)) with h | ⟨rfl, h⟩
  · rw [cmpI_gt h, orI_no (by decide)]; decide
  · rw [cmpI_eq rfl, orI_yes rfl]
    rcases (by omega : by_ < ay ∨ ay = by_) with h | rfl
    · rw [cmpI_gt h]; decide
    · rw [cmpI_eq rfl]; decide
theorem swap_cells (ys zs : List P2) (q j : Nat) (hj : j = q + 1) (s x : P2) (h : ∀ k, zs[k]? = if k = j then some s else if k = q then some x else ys[k]?) (c : Nat) :
    (if c = q * 2 + 1 then Value.int .i64 x.2 else if c = q * 2 then Value.int .i64 x.1 else if c = j * 2 + 1 then Value.int .i64 s.2 else if c = j * 2 then Value.int .i64 s.1 else ptCell ys c) = ptCell zs c := by
  have hz := h (c / 2)
  subst hj
  unfold ptCell
  rw [List.getD_eq_getElem?_getD, List.getD_eq_getElem?_getD, hz]
  by_cases e1 : c = q * 2 + 1
  · subst e1; rw [if_pos rfl, if_neg (by omega), if_neg (by omega), if_pos (by omega)]; rfl
  · rw [if_neg e1]
    by_cases e2 : c = q * 2
    · subst e2; rw [if_pos rfl, if_pos (by omega), if_neg (by omega), if_pos (by omega)]; rfl
    · rw [if_neg e2]
      by_cases e3 : c = (q + 1) * 2 + 1
      · subst e3; rw [if_pos rfl, if_neg (by omega), if_pos (by omega)]; rfl
      · rw [if_neg e3]
        by_cases e4 : c = (q + 1) * 2
        · subst e4; rw [if_pos rfl, if_pos (by omega), if_pos (by omega)]; rfl
        · rw [if_neg e4, if_neg (show ¬ c / 2 = q + 1 by omega), if_neg (show ¬ c / 2 = q by omega)]
theorem grown_below {w w' w'' : World} {b : Nat} (h : w.grownBy w' (some b)) (hb : Below w'.heap.size w' w'') : w.grownBy w'' (some b) :=
  ⟨hb.os.trans h.os, hb.tape.trans h.tape, hb.output.trans h.output, Nat.le_trans h.size hb.size, fun i hi hn => (hb.block i (Nat.lt_of_lt_of_le hi h.size)).trans (h.block i hi hn)⟩
/-- A call beside which four cells are read and a row is kept. -/
theorem heldIns (w0 : World) (g m : Nat) (f : Nat → Value) (a1 a2 a3 a4 : Addr) (v1 v2 v3 v4 : Value) {k : FuncId} {args : Array Value} {W : World} {v : Value} (h : Calls Try.prog k args W fun e w' => e = .returned v ∧ Below W.heap.size W w')
    (hS : W.cell? a1 = some v1 ∧ W.cell? a2 = some v2 ∧ W.cell? a3 = some v3 ∧ W.cell? a4 = some v4 ∧ Cells W g m f ∧ w0.grownBy W (some g)) :
    Calls Try.prog k args W fun e w' => e = .returned v ∧ w'.cell? a1 = some v1 ∧ w'.cell? a2 = some v2 ∧ w'.cell? a3 = some v3 ∧ w'.cell? a4 = some v4 ∧ Cells w' g m f ∧ w0.grownBy w' (some g) := by
  obtain ⟨c1, c2, c3, c4, c5, c6⟩ := hS
  exact h.mono fun _ _ ⟨he, hb⟩ => ⟨he, by rw [hb.cell (lt_of_cell c1)]; exact c1, by rw [hb.cell (lt_of_cell c2)]; exact c2, by rw [hb.cell (lt_of_cell c3)]; exact c3, by rw [hb.cell (lt_of_cell c4)]; exact c4, c5.on hb, grown_below c6 hb⟩
theorem Cells.drew {w : World} {b m : Nat} {f : Nat → Value} (h : Cells w b m f) : Cells w.drew b m f := ⟨h.cell, h.frozen, h.lt⟩
theorem Cells.drewN {w : World} {b m : Nat} {f : Nat → Value} (h : Cells w b m f) (n : Nat) : Cells (w.drewN n) b m f := ⟨h.cell, h.frozen, h.lt⟩
theorem grown_drewN {w w' : World} {b : Nat} (h : w.grownBy w' (some b)) (n : Nat) : w.grownBy (w'.drewN n) (some b) := ⟨h.os, h.tape, h.output, h.size, h.block⟩
theorem grown_drew {w w' : World} {b : Nat} (h : w.grownBy w' (some b)) : w.grownBy w'.drew (some b) := ⟨h.os, h.tape, h.output, h.size, h.block⟩
theorem Cells.pt {w : World} {b m : Nat} {ys : List P2} (h : Cells w b m (ptCell ys)) {j : Nat} {p : P2} (hp : ys[j]? = some p) (hj : j * 2 + 1 < m) : w.cell? ⟨b, j * 2, none⟩ = some (.int .i64 p.1) ∧ w.cell? ⟨b, j * 2 + 1, none⟩ = some (.int .i64 p.2) := by
  obtain ⟨hlt, rfl⟩ := List.getElem?_eq_some_iff.1 hp
  have h1 := h.cell (j * 2) (by omega)
  have h2 := h.cell (j * 2 + 1) hj
  rw [ptCell_even ys j hlt] at h1
  rw [ptCell_odd ys j hlt] at h2
  exact ⟨h1, h2⟩

set_option maxHeartbeats 3200000 in
set_option maxRecDepth 100000 in
theorem insert_any (g c : Nat) (xs : List P2) (h1 : 1 ≤ xs.length) (h7 : xs.length ≤ 7) (w : World) (hc : Cells w g (xs.length * 2) (ptCell xs)) :
    Calls Try.prog 45 #[.slice (some ⟨g, 0, none⟩) xs.length c, .int .i64 0, .int .i64 xs.length, .func (.func 38) #[] #[]] w fun e w' => e = .returned (.tuple #[]) ∧ Cells w' g (xs.length * 2) (ptCell (sortK xs xs.length)) ∧ w.grownBy w' (some g) := by
  have hx0 : xs = sortK xs 1 ++ xs.drop 1 := by
    rw [sortK_one, get0_of (List.getElem?_eq_getElem (show 0 < xs.length by omega))]
    exact (List.drop_eq_getElem_cons (show 0 < xs.length by omega))
  have H0 : Hid (Cells w g (xs.length * 2) (ptCell (sortK xs 1 ++ xs.drop 1))) := Lib.hid (by rw [← hx0]; exact hc)
  have HG0 : Hid (w.grownBy w (some g)) := Lib.hid ⟨rfl, rfl, rfl, Nat.le_refl _, fun _ _ _ => rfl⟩
  clear hc hx0
  go_enter Try.func45, Try.ntmps45
  go_wp2
  go_loopw [8] (fun iv wr => ∃ i : Nat, 1 ≤ i ∧ i ≤ xs.length ∧ iv = .int .i64 i ∧ Hid (Cells wr g (xs.length * 2) (ptCell (sortK xs i ++ xs.drop i))) ∧ Hid (w.grownBy wr (some g))) (fun i _ => xs.length - (intOf i).toNat)
  case atStart => exact ⟨1, Nat.le_refl _, h1, rfl, H0, HG0⟩
  case round =>
    obtain ⟨i, hi1, hi, rfl, HC, HG⟩ := hrel
    by_cases hlt : i < xs.length
    · have HM : Hid (Cells wr g (xs.length * 2) (ptCell (mid xs i i))) := Lib.hid (by rw [← mid_start xs i hlt]; exact HC.out)
      go_wp2
      go_loopw [9] (fun jv wr => ∃ j : Nat, j ≤ i ∧ jv = .int .i64 j ∧ Hid (Cells wr g (xs.length * 2) (ptCell (mid xs i j))) ∧ Hid (pos (get0 xs i) (sortK xs i) i = pos (get0 xs i) (sortK xs i) j) ∧ Hid (w.grownBy wr (some g))) (fun j _ => (intOf j).toNat)
      case atStart => exact ⟨i, Nat.le_refl _, rfl, HM, Lib.hid rfl, HG⟩
      case round =>
        obtain ⟨j, hj, rfl, HM, HP, HG⟩ := hrel
        by_cases hj0 : j = 0
        · subst hj0
          have HE : Hid (Cells wr g (xs.length * 2) (ptCell (sortK xs (i + 1) ++ xs.drop (i + 1)))) := Lib.hid (by rw [← mid_end xs i 0 HP.out]; exact HM.out)
          have hgt0 : decide ((0 : Int) < ((0 : Nat) : Int)) = false := by simp
          go_wp2
          go_quiet (fail)
          go_wp2
          exact ⟨⟨i + 1, by omega, by omega, by go_num, Lib.hid (Cells.drewN HE.out _), Lib.hid (grown_drewN HG.out _)⟩, by simp only [intOf]; omega⟩
        · obtain ⟨q, hq⟩ : ∃ q, j = q + 1 := ⟨j - 1, by omega⟩
          have hg1 := mid_get xs i j hj
          have hg2 := mid_prev xs i q (by omega)
          have HSW := Lib.hid (mid_swap xs i q hlt (by omega))
          rw [← hq] at hg2 HSW
          obtain ⟨x0, y0⟩ := HM.out.pt hg1 (by omega)
          obtain ⟨x1, y1⟩ := HM.out.pt hg2 (by omega)
          have HPG : Hid (bef (get0 xs i) (get0 (sortK xs i) q) = true → pos (get0 xs i) (sortK xs i) i = pos (get0 xs i) (sortK xs i) q) := Lib.hid (fun h => by rw [HP.out, hq, pos_go h])
          have HPS : Hid (bef (get0 xs i) (get0 (sortK xs i) q) = false → pos (get0 xs i) (sortK xs i) i = j) := Lib.hid (fun h => by rw [HP.out, hq, pos_stop h])
          clear hg1 hg2
          generalize hxx : get0 xs i = x at x0 y0 HPG HPS HSW
          generalize hss : get0 (sortK xs i) q = s at x1 y1 HPG HPS HSW
          obtain ⟨z, hz⟩ : ∃ z, z = orI (cmpI x.1 s.1) (cmpI x.2 s.2) := ⟨_, rfl⟩
          have HL : Hid (∀ W, Calls Try.prog 38 #[.agg #[.int .i64 x.1, .int .i64 x.2], .agg #[.int .i64 s.1, .int .i64 s.2]] W fun e w' => e = .returned (.int .i64 z) ∧ Below W.heap.size W w') := Lib.hid (fun W => by rw [hz]; exact less_any _ _ _ _ W)
          have hw1 : IntKind.i64.wrap ((j : Int) - 1) = (q : Int) := by rw [IntWalk.i64_in _ (by omega)]; omega
          have hgt : decide ((0 : Int) < (j : Int)) = true := by simp; omega
          have hgt2 : decide (0 < j) = true := by simp; omega
          have hb0 : (0 : Int) ≤ (j : Int) := by omega
          have hb1 : (j : Int) < (xs.length : Int) := by omega
          have hb2 : (0 : Int) ≤ (q : Int) := by omega
          have hb3 : (q : Int) < (xs.length : Int) := by omega
          have hjq : q < j := by omega
          have HQ := Lib.hid hq
          clear hq hj0
          cases hbf : bef x s
          · have hzn : ¬ z < 0 := by rw [hz]; exact less_no hbf
            have hzd : decide (z < 0) = false := by simpa using hzn
            have HE := Lib.hid (mid_end xs i j (by rw [hxx]; exact HPS.out hbf))
            clear hz hzn hxx hss hbf
            go_wp2
            go_region_held3 (fun W => W.cell? ⟨g, j * 2, none⟩ = some (.int .i64 x.1) ∧ W.cell? ⟨g, j * 2 + 1, none⟩ = some (.int .i64 x.2) ∧ W.cell? ⟨g, q * 2, none⟩ = some (.int .i64 s.1) ∧ W.cell? ⟨g, q * 2 + 1, none⟩ = some (.int .i64 s.2)) (first | exact ⟨x0, y0, x1, y1⟩ | (refine ⟨?_, ?_, ?_, ?_⟩ <;> assumption))
              (first | (go_at_call 38; refine (heldIns w g (xs.length * 2) (ptCell (mid xs i j)) ⟨g, j * 2, none⟩ ⟨g, j * 2 + 1, none⟩ ⟨g, q * 2, none⟩ ⟨g, q * 2 + 1, none⟩ (.int .i64 x.1) (.int .i64 x.2) (.int .i64 s.1) (.int .i64 s.2) (HL.out _) ?_).mono ?_; (first | exact ⟨x0, y0, x1, y1, HM.out, HG.out⟩ | exact ⟨x0, y0, x1, y1, HM.out.drew, grown_drew HG.out⟩); rintro e w2 ⟨rfl, c1, c2, c3, c4, c5, c6⟩))
            go_wp2
            exact ⟨⟨i + 1, by omega, by omega, by go_num, Lib.hid (by rw [← HE.out]; exact c5), Lib.hid c6⟩, by simp only [intOf]; omega⟩
          · have hzn : z < 0 := by rw [hz]; exact less_yes hbf
            have hzd : decide (z < 0) = true := by simpa using hzn
            have HPN := Lib.hid (HPG.out hbf)
            clear hz hzn hxx hss hbf
            go_wp2
            go_region_held3 (fun W => W.cell? ⟨g, j * 2, none⟩ = some (.int .i64 x.1) ∧ W.cell? ⟨g, j * 2 + 1, none⟩ = some (.int .i64 x.2) ∧ W.cell? ⟨g, q * 2, none⟩ = some (.int .i64 s.1) ∧ W.cell? ⟨g, q * 2 + 1, none⟩ = some (.int .i64 s.2)) (first | exact ⟨x0, y0, x1, y1⟩ | (refine ⟨?_, ?_, ?_, ?_⟩ <;> assumption))
              (first | (go_at_call 38; refine (heldIns w g (xs.length * 2) (ptCell (mid xs i j)) ⟨g, j * 2, none⟩ ⟨g, j * 2 + 1, none⟩ ⟨g, q * 2, none⟩ ⟨g, q * 2 + 1, none⟩ (.int .i64 x.1) (.int .i64 x.2) (.int .i64 s.1) (.int .i64 s.2) (HL.out _) ?_).mono ?_; (first | exact ⟨x0, y0, x1, y1, HM.out, HG.out⟩ | exact ⟨x0, y0, x1, y1, HM.out.drew, grown_drew HG.out⟩); rintro e w2 ⟨rfl, c1, c2, c3, c4, c5, c6⟩))
            have hf0 := c5.frozen (j * 2)
            have hf1 := c5.frozen (j * 2 + 1)
            have hf2 := c5.frozen (q * 2)
            have hf3 := c5.frozen (q * 2 + 1)
            have C5 := Lib.hid c5
            have C6 := Lib.hid c6
            clear c5 c6
            go_wp2
            go_region
            have HR1 := Lib.hid (((((C5.out.set (j * 2) (by omega) (.int .i64 s.1)).set (j * 2 + 1) (by omega) (.int .i64 s.2)).set (q * 2) (by omega) (.int .i64 x.1)).set (q * 2 + 1) (by omega) (.int .i64 x.2)).congr (g := ptCell (mid xs i q)) (fun c _ => swap_cells _ _ q j HQ.out s x HSW.out c))
            have HG1 := Lib.hid (grown_set (grown_set (grown_set (grown_set C6.out (j * 2) (.int .i64 s.1)) (j * 2 + 1) (.int .i64 s.2)) (q * 2) (.int .i64 x.1)) (q * 2 + 1) (.int .i64 x.2))
            go_wp2
            exact ⟨⟨q, by omega, by go_num, Lib.hid HR1.out.drew, HPN, Lib.hid (grown_drew HG1.out)⟩, by simp only [intOf]; omega⟩
    · have e : i = xs.length := by omega
      have HE : Hid (Cells wr g (xs.length * 2) (ptCell (sortK xs xs.length))) := Lib.hid (by have := HC.out; rw [e, List.drop_length, List.append_nil] at this; exact this)
      clear e
      go_wp2
      go_end0
      exact ⟨rfl, HE.out, HG.out⟩

set_option maxRecDepth 100000 in
theorem bitsLen_any (n : Nat) (h3 : 3 ≤ n) (h7 : n ≤ 7) (w : World) : Calls Try.prog 44 #[.int .u64 n] w fun e w' => ∃ k : Int, e = .returned (.int .i64 k) ∧ w = w' := by
  rcases (by omega : n = 3 ∨ n = 4 ∨ n = 5 ∨ n = 6 ∨ n = 7) with rfl | rfl | rfl | rfl | rfl
  all_goals
    go_enter Try.func44, Try.ntmps44
    go_wp2
    go_ret
    exact ⟨_, rfl, rfl⟩
set_option maxHeartbeats 800000 in
set_option maxRecDepth 100000 in
theorem pdq_any (g c : Nat) (xs : List P2) (h1 : 1 ≤ xs.length) (h7 : xs.length ≤ 7) (k : Int) (w : World) (hc : Cells w g (xs.length * 2) (ptCell xs)) :
    Calls Try.prog 43 #[.slice (some ⟨g, 0, none⟩) xs.length c, .int .i64 0, .int .i64 xs.length, .int .i64 k, .func (.func 38) #[] #[]] w fun e w' => e = .returned (.tuple #[]) ∧ Cells w' g (xs.length * 2) (ptCell (sortK xs xs.length)) ∧ w.grownBy w' (some g) := by
  have HI := Lib.hid (insert_any g c xs h1 h7 w hc)
  clear hc
  go_enter Try.func43, Try.ntmps43
  go_wp2
  refine wp_loop_rounds 1 ?_
  rw [rounds_succ]
  go_wp2_with fail
  refine HI.out.mono ?_
  rintro e w1 ⟨rfl, hc1, hg1⟩
  have C1 := Lib.hid hc1
  clear hc1
  go_wp2
  go_returns
  exact ⟨rfl, C1.out, hg1⟩
set_option maxRecDepth 100000 in
theorem sortFunc_any (g c : Nat) (xs : List P2) (h3 : 3 ≤ xs.length) (h7 : xs.length ≤ 7) (w : World) (hc : Cells w g (xs.length * 2) (ptCell xs)) :
    Calls Try.prog 37 #[.slice (some ⟨g, 0, none⟩) xs.length c, .func (.func 38) #[] #[]] w fun e w' => e = .returned (.tuple #[]) ∧ Cells w' g (xs.length * 2) (ptCell (sortK xs xs.length)) ∧ w.grownBy w' (some g) := by
  have HP := Lib.hid (fun k => pdq_any g c xs (by omega) h7 k w hc)
  clear hc
  go_enter Try.func37, Try.ntmps37
  go_wp2_with fail
  refine (bitsLen_any xs.length h3 h7 _).mono ?_
  rintro e w' ⟨k, rfl, rfl⟩
  go_wp2_with fail
  refine (HP.out k).mono ?_
  rintro e w1 ⟨rfl, hc1, hg1⟩
  have C1 := Lib.hid hc1
  clear hc1
  go_wp2
  go_returns
  exact ⟨rfl, C1.out, hg1⟩
end Go.Proofs.Yticekiniljemeaa.Pt
