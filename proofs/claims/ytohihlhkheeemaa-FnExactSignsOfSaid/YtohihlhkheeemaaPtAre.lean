/- ArePoints, as impl and spec ask it. -/
import Derived.Test.YtohihlhkheeemaaPtEq
namespace Go.Proofs.Ytohihlhkheeemaa.Pt
open Go.RowKit
/-- A call beside which six cells are read. -/
theorem held6 (w0 : World) (a1 a2 a3 a4 a5 a6 : Addr) (v1 v2 v3 v4 v5 v6 : Value) {f : FuncId} {args : Array Value} {W : World} {v : Value} (h : Calls Try.prog f args W fun e w' => e = .returned v ∧ Below W.heap.size W w')
    (hS : W.cell? a1 = some v1 ∧ W.cell? a2 = some v2 ∧ W.cell? a3 = some v3 ∧ W.cell? a4 = some v4 ∧ W.cell? a5 = some v5 ∧ W.cell? a6 = some v6 ∧ Below w0.heap.size w0 W) :
    Calls Try.prog f args W fun e w' => e = .returned v ∧ w'.cell? a1 = some v1 ∧ w'.cell? a2 = some v2 ∧ w'.cell? a3 = some v3 ∧ w'.cell? a4 = some v4 ∧ w'.cell? a5 = some v5 ∧ w'.cell? a6 = some v6 ∧ Below w0.heap.size w0 w' := by
  obtain ⟨c1, c2, c3, c4, c5, c6, hB⟩ := hS
  exact h.mono fun _ _ ⟨he, hb⟩ => ⟨he, by rw [hb.cell (lt_of_cell c1)]; exact c1, by rw [hb.cell (lt_of_cell c2)]; exact c2, by rw [hb.cell (lt_of_cell c3)]; exact c3, by rw [hb.cell (lt_of_cell c4)]; exact c4, by rw [hb.cell (lt_of_cell c5)]; exact c5, by rw [hb.cell (lt_of_cell c6)]; exact c6, hB.trans (hb.mono hB.size)⟩

set_option maxHeartbeats 1600000 in
set_option maxRecDepth 100000 in
theorem hasThree_any (b o c : Nat) (xs : List P2) (hx : xs.length ≤ 7) (hfit : ∀ p ∈ xs, fit p 50 = true) (w : World) (hc : AtP w b o xs) (hbw : b < w.heap.size) :
    Calls Try.prog 59 #[.slice (some ⟨b, o, none⟩) xs.length c] w fun e w' => e = .returned (.bool (lineB xs)) ∧ Below w.heap.size w w' := by
  have HF := Lib.hid hfit
  clear hfit
  go_enter Try.func59, Try.ntmps59
  go_wp2
  go_loopw [8] (fun i wr => ∃ k : Nat, k ≤ xs.length ∧ i = .int .i64 k ∧ Hid (noLine xs k 0 0) ∧ Below w.heap.size w wr) (fun i _ => xs.length - (intOf i).toNat)
  case atStart => exact ⟨0, Nat.zero_le _, rfl, Lib.hid (noLine_zero xs), Below.refl _ _⟩
  case round =>
    obtain ⟨k, hk, rfl, HN, hb⟩ := hrel
    by_cases hlt : k < xs.length
    · go_wp2
      go_loopw [12] (fun i wr => ∃ j : Nat, j ≤ k ∧ i = .int .i64 j ∧ Hid (noLine xs k j 0) ∧ Below w.heap.size w wr) (fun i _ => k - (intOf i).toNat)
      case atStart => exact ⟨0, Nat.zero_le _, rfl, HN, hb⟩
      case round =>
        obtain ⟨j, hj, rfl, HN, hb⟩ := hrel
        by_cases hltj : j < k
        · go_wp2
          go_loopw [16] (fun i wr => ∃ i' : Nat, i' ≤ j ∧ i = .int .i64 i' ∧ Hid (noLine xs k j i') ∧ Below w.heap.size w wr) (fun i _ => j - (intOf i).toNat)
          case atStart => exact ⟨0, Nat.zero_le _, rfl, HN, hb⟩
          case round =>
            obtain ⟨i, hi, rfl, HN, hb⟩ := hrel
            by_cases hlti : i < j
            · have hi1 : i < xs.length := by omega
              have hj1 : j < xs.length := by omega
              obtain ⟨ax, ay⟩ := (hc.on hb hbw).get i hi1
              obtain ⟨bx, by_⟩ := (hc.on hb hbw).get j hj1
              obtain ⟨cx, cy⟩ := (hc.on hb hbw).get k hlt
              have ha? := List.getElem?_eq_getElem hi1
              have hb? := List.getElem?_eq_getElem hj1
              have hc? := List.getElem?_eq_getElem hlt
              have fa := HF.out _ (List.getElem_mem hi1)
              have fb := HF.out _ (List.getElem_mem hj1)
              have fc := HF.out _ (List.getElem_mem hlt)
              generalize xs[i] = a at ax ay ha? fa
              generalize xs[j] = p at bx by_ hb? fb
              generalize xs[k] = q at cx cy hc? fc
              by_cases hz : cross a p q = 0
              · have HL := Lib.hid (lineB_yes hlti hltj ha? hb? hc? hz)
                have ht := turn_zero fa fb fc hz
                have HT : ∀ W, Calls Try.prog 42 #[.agg #[.int .i64 a.1, .int .i64 a.2], .agg #[.int .i64 p.1, .int .i64 p.2], .agg #[.int .i64 q.1, .int .i64 q.2]] W fun e w' => e = .returned (.int .i64 0) ∧ Below W.heap.size W w' := by
                  intro W; rw [← ht]; exact implTurn_any _ _ _ _ _ _ W
                have HT := Lib.hid HT
                clear ha? hb? hc? fa fb fc hz ht
                go_wp2
                go_region_held3 (fun W => W.cell? ⟨b, o + i * 2, none⟩ = some (.int .i64 a.1) ∧ W.cell? ⟨b, o + i * 2 + 1, none⟩ = some (.int .i64 a.2) ∧ W.cell? ⟨b, o + j * 2, none⟩ = some (.int .i64 p.1) ∧ W.cell? ⟨b, o + j * 2 + 1, none⟩ = some (.int .i64 p.2) ∧ W.cell? ⟨b, o + k * 2, none⟩ = some (.int .i64 q.1) ∧ W.cell? ⟨b, o + k * 2 + 1, none⟩ = some (.int .i64 q.2) ∧ Below w.heap.size w W) (first | exact ⟨ax, ay, bx, by_, cx, cy, hb⟩ | exact ⟨ax, ay, bx, by_, cx, cy, hb.drew⟩ | (refine ⟨?_, ?_, ?_, ?_, ?_, ?_, ?_⟩ <;> assumption))
                  (first | (go_at_call 42; refine (held6 w ⟨b, o + i * 2, none⟩ ⟨b, o + i * 2 + 1, none⟩ ⟨b, o + j * 2, none⟩ ⟨b, o + j * 2 + 1, none⟩ ⟨b, o + k * 2, none⟩ ⟨b, o + k * 2 + 1, none⟩ (.int .i64 a.1) (.int .i64 a.2) (.int .i64 p.1) (.int .i64 p.2) (.int .i64 q.1) (.int .i64 q.2) (HT.out _) ?_).mono ?_; (first | exact ⟨ax, ay, bx, by_, cx, cy, hb⟩ | exact ⟨ax, ay, bx, by_, cx, cy, hb.drew⟩ | (refine ⟨?_, ?_, ?_, ?_, ?_, ?_, ?_⟩ <;> assumption)); rintro e w' ⟨rfl, c1, c2, c3, c4, c5, c6, c7⟩))
                go_wp2
                go_ret
                exact ⟨ret_bool HL.out.symm, by assumption⟩
              · have HS := Lib.hid (noLine_step HN.out ha? hb? hc? hz)
                have ht := turn_ne fa fb fc hz
                obtain ⟨z, hzt⟩ : ∃ z, z = turnB a.1 a.2 p.1 p.2 q.1 q.2 := ⟨_, rfl⟩
                have HT : ∀ W, Calls Try.prog 42 #[.agg #[.int .i64 a.1, .int .i64 a.2], .agg #[.int .i64 p.1, .int .i64 p.2], .agg #[.int .i64 q.1, .int .i64 q.2]] W fun e w' => e = .returned (.int .i64 z) ∧ Below W.heap.size W w' := by
                  intro W; rw [hzt]; exact implTurn_any _ _ _ _ _ _ W
                have HT := Lib.hid HT
                rw [← hzt] at ht
                have hz0 : (z == 0) = false := by simpa using ht
                clear ha? hb? hc? fa fb fc hz ht hzt
                go_wp2
                go_region_held3 (fun W => W.cell? ⟨b, o + i * 2, none⟩ = some (.int .i64 a.1) ∧ W.cell? ⟨b, o + i * 2 + 1, none⟩ = some (.int .i64 a.2) ∧ W.cell? ⟨b, o + j * 2, none⟩ = some (.int .i64 p.1) ∧ W.cell? ⟨b, o + j * 2 + 1, none⟩ = some (.int .i64 p.2) ∧ W.cell? ⟨b, o + k * 2, none⟩ = some (.int .i64 q.1) ∧ W.cell? ⟨b, o + k * 2 + 1, none⟩ = some (.int .i64 q.2) ∧ Below w.heap.size w W) (first | exact ⟨ax, ay, bx, by_, cx, cy, hb⟩ | exact ⟨ax, ay, bx, by_, cx, cy, hb.drew⟩ | (refine ⟨?_, ?_, ?_, ?_, ?_, ?_, ?_⟩ <;> assumption))
                  (first | (go_at_call 42; refine (held6 w ⟨b, o + i * 2, none⟩ ⟨b, o + i * 2 + 1, none⟩ ⟨b, o + j * 2, none⟩ ⟨b, o + j * 2 + 1, none⟩ ⟨b, o + k * 2, none⟩ ⟨b, o + k * 2 + 1, none⟩ (.int .i64 a.1) (.int .i64 a.2) (.int .i64 p.1) (.int .i64 p.2) (.int .i64 q.1) (.int .i64 q.2) (HT.out _) ?_).mono ?_; (first | exact ⟨ax, ay, bx, by_, cx, cy, hb⟩ | exact ⟨ax, ay, bx, by_, cx, cy, hb.drew⟩ | (refine ⟨?_, ?_, ?_, ?_, ?_, ?_, ?_⟩ <;> assumption)); rintro e w' ⟨rfl, c1, c2, c3, c4, c5, c6, c7⟩))
                go_wp2
                exact ⟨⟨i + 1, by omega, by go_num, HS, by assumption⟩, by simp only [intOf]; omega⟩
            · obtain rfl : i = j := by omega
              have HS := Lib.hid (noLine_inner HN.out)
              go_wp2
              exact ⟨⟨i + 1, by omega, by go_num, HS, hb⟩, by simp only [intOf]; omega⟩
        · obtain rfl : j = k := by omega
          have HS := Lib.hid (noLine_outer HN.out)
          go_wp2
          exact ⟨⟨j + 1, by omega, by go_num, HS, hb⟩, by simp only [intOf]; omega⟩
    · obtain rfl : k = xs.length := by omega
      have HL := Lib.hid (lineB_no HN.out)
      go_wp2
      go_ret
      exact ⟨ret_bool HL.out.symm, hb⟩
/-- The first k points fit. -/
def FitAll (xs : List P2) (k : Nat) : Prop := ∀ (j : Nat) p, j < k → xs[j]? = some p → fit p 50 = true
theorem FitAll.zero (xs : List P2) : FitAll xs 0 := fun j p h => by omega
theorem FitAll.step {xs : List P2} {k : Nat} (h : FitAll xs k) {p : P2} (hp : xs[k]? = some p) (hf : fit p 50 = true) : FitAll xs (k + 1) := fun j q hj hq => by
  by_cases e : j = k
  · subst e; rw [hp] at hq; cases hq; exact hf
  · exact h j q (by omega) hq
theorem FitAll.all {xs : List P2} (h : FitAll xs xs.length) : ∀ p ∈ xs, fit p 50 = true := fun p hp => by
  obtain ⟨i, hi, rfl⟩ := List.mem_iff_getElem.1 hp
  exact h i _ hi (List.getElem?_eq_getElem hi)

set_option maxRecDepth 100000 in
theorem implAre_short (a : Option Addr) (n c : Nat) (hn : ¬ (3 ≤ n ∧ n ≤ 7)) (hn2 : n ≤ 9223372036854775807) (w : World) :
    Calls Try.prog 39 #[.slice a n c] w fun e w' => e = .returned (.bool false) ∧ w = w' := by
  by_cases h3 : n < 3
  · go_enter Try.func39, Try.ntmps39
    go_wp2
    go_ret
    exact ⟨rfl, rfl⟩
  · have h7 : 7 < n := by omega
    have h3 : 3 ≤ n := by omega
    go_enter Try.func39, Try.ntmps39
    go_wp2
    go_ret
    exact ⟨rfl, rfl⟩

set_option maxHeartbeats 800000 in
set_option maxRecDepth 100000 in
theorem implAre_any (b o c : Nat) (xs : List P2) (hx : 3 ≤ xs.length) (hx7 : xs.length ≤ 7) (w : World) (hc : AtP w b o xs) (hbw : b < w.heap.size) :
    Calls Try.prog 39 #[.slice (some ⟨b, o, none⟩) xs.length c] w fun e w' => e = .returned (.bool (okB xs)) ∧ Below w.heap.size w w' := by
  go_enter Try.func39, Try.ntmps39
  go_wp2
  go_loopw [15] (fun i wr => ∃ k : Nat, k ≤ xs.length ∧ i = .int .i64 k ∧ Hid (FitAll xs k) ∧ Below w.heap.size w wr) (fun i _ => xs.length - (intOf i).toNat)
  case atStart => exact ⟨0, Nat.zero_le _, rfl, Lib.hid (FitAll.zero xs), Below.refl _ _⟩
  case round =>
    obtain ⟨k, hk, rfl, HF, hb⟩ := hrel
    by_cases hlt : k < xs.length
    · obtain ⟨ax, ay⟩ := (hc.on hb hbw).get k hlt
      have ha? := List.getElem?_eq_getElem hlt
      have hm := List.getElem_mem hlt
      generalize xs[k] = a at ax ay ha? hm
      cases hf : fitB a.1 a.2 50
      · have HE := Lib.hid (okB_fit hm hf)
        clear hm ha?
        go_wp2_with fail
        refine (isPointWithin_any _ _ _ (by omega) (by omega) _).mono ?_
        rintro e w1 ⟨rfl, hb1⟩
        have B1 : Below wr.heap.size wr w1 := below_call hb1 (by go_grown)
        have B2 := hb.trans (B1.mono hb.size)
        go_wp2
        go_ret
        exact ⟨ret_bool HE.out.symm, B2⟩
      · have HS := Lib.hid (HF.out.step ha? hf)
        clear hm ha?
        go_wp2_with fail
        refine (isPointWithin_any _ _ _ (by omega) (by omega) _).mono ?_
        rintro e w1 ⟨rfl, hb1⟩
        have B1 : Below wr.heap.size wr w1 := below_call hb1 (by go_grown)
        have B2 := hb.trans (B1.mono hb.size)
        go_wp2
        exact ⟨⟨k + 1, by omega, by go_num, HS, B2⟩, by simp only [intOf]; omega⟩
    · obtain rfl : k = xs.length := by omega
      have HL := Lib.hid (hasThree_any b o c xs hx7 HF.out.all wr (hc.on hb hbw) (Nat.lt_of_lt_of_le hbw hb.size))
      have HE := Lib.hid (okB_line_eq ⟨hx, hx7⟩ HF.out.all)
      go_wp2_with fail
      refine HL.out.mono ?_
      rintro e w1 ⟨rfl, hb1⟩
      have B2 := hb.trans (hb1.mono hb.size)
      go_wp2
      go_ret
      exact ⟨ret_bool HE.out.symm, B2⟩

set_option maxRecDepth 100000 in
theorem specAre_short (a : Option Addr) (n c : Nat) (hn : ¬ (3 ≤ n ∧ n ≤ 7)) (hn2 : n ≤ 9223372036854775807) (w : World) :
    Calls Try.prog 35 #[.slice a n c] w fun e w' => e = .returned (.bool false) ∧ w = w' := by
  have hB : inB n 3 7 = false := by simp [inB]; omega
  go_enter Try.func35, Try.ntmps35
  go_wp2_with fail
  refine (l1In_any _ _ _ _).mono ?_
  rintro e w' ⟨rfl, rfl⟩
  go_wp2
  go_ret
  exact ⟨rfl, rfl⟩

set_option maxHeartbeats 1600000 in
set_option maxRecDepth 100000 in
theorem specAre_any (b o c : Nat) (xs : List P2) (hx : 3 ≤ xs.length) (hx7 : xs.length ≤ 7) (w : World) (hc : AtP w b o xs) (hbw : b < w.heap.size) :
    Calls Try.prog 35 #[.slice (some ⟨b, o, none⟩) xs.length c] w fun e w' => e = .returned (.bool (okB xs)) ∧ Below w.heap.size w w' := by
  have hB : inB xs.length 3 7 = true := by simp [inB]; omega
  go_enter Try.func35, Try.ntmps35
  go_wp2_with fail
  refine (l1In_any _ _ _ _).mono ?_
  rintro e w' ⟨rfl, rfl⟩
  go_wp2
  go_loopw [3] (fun i wr => ∃ k : Nat, k ≤ xs.length ∧ i = .int .i64 k ∧ Hid (FitAll xs k) ∧ Hid (noLine xs k 0 0) ∧ Below w.heap.size w wr) (fun i _ => xs.length - (intOf i).toNat)
  case atStart => exact ⟨0, Nat.zero_le _, rfl, Lib.hid (FitAll.zero xs), Lib.hid (noLine_zero xs), Below.refl _ _⟩
  case round =>
    obtain ⟨k, hk, rfl, HF, HN, hb⟩ := hrel
    by_cases hlt : k < xs.length
    · obtain ⟨ax, ay⟩ := (hc.on hb hbw).get k hlt
      have ha? := List.getElem?_eq_getElem hlt
      have hm := List.getElem_mem hlt
      have HC := Lib.hid ha?
      generalize xs[k] = q at ax ay ha? hm HC
      cases hf : fitB q.1 q.2 50
      · have HE := Lib.hid (okB_fit hm hf)
        clear hm ha?
        go_wp2_with fail
        refine (l2Fits_any _ _ _ (by omega) (by omega) _).mono ?_
        rintro e w1 ⟨rfl, hb1⟩
        have B2 := hb.trans (hb1.mono hb.size)
        go_wp2
        go_ret
        exact ⟨ret_bool HE.out.symm, B2⟩
      · have HS := Lib.hid (HF.out.step ha? hf)
        have HQ := Lib.hid hf
        clear hm ha?
        go_wp2_with fail
        refine (l2Fits_any _ _ _ (by omega) (by omega) _).mono ?_
        rintro e w1 ⟨rfl, hb1⟩
        have B2 := hb.trans (hb1.mono hb.size)
        clear ax ay hb
        go_wp2
        clear hf
        go_loopw [4] (fun i wr => ∃ j : Nat, j ≤ k ∧ i = .int .i64 j ∧ Hid (noLine xs k j 0) ∧ Below w.heap.size w wr) (fun i _ => k - (intOf i).toNat)
        case atStart => exact ⟨0, Nat.zero_le _, rfl, HN, B2⟩
        case round =>
          obtain ⟨j, hj, rfl, HN, hb⟩ := hrel
          by_cases hltj : j < k
          · go_wp2
            go_loopw [5] (fun i wr => ∃ i' : Nat, i' ≤ j ∧ i = .int .i64 i' ∧ Hid (noLine xs k j i') ∧ Below w.heap.size w wr) (fun i _ => j - (intOf i).toNat)
            case atStart => exact ⟨0, Nat.zero_le _, rfl, HN, hb⟩
            case round =>
              obtain ⟨i, hi, rfl, HN, hb⟩ := hrel
              by_cases hlti : i < j
              · have hi1 : i < xs.length := by omega
                have hj1 : j < xs.length := by omega
                obtain ⟨ax, ay⟩ := (hc.on hb hbw).get i hi1
                obtain ⟨bx, by_⟩ := (hc.on hb hbw).get j hj1
                obtain ⟨cx, cy⟩ := (hc.on hb hbw) k q HC.out
                have ha? := List.getElem?_eq_getElem hi1
                have hb? := List.getElem?_eq_getElem hj1
                have fa := HS.out i _ (by omega) ha?
                have fb := HS.out j _ (by omega) hb?
                generalize xs[i] = a at ax ay ha? fa
                generalize xs[j] = p at bx by_ hb? fb
                obtain ⟨z, hzt⟩ : ∃ z, z = crs a.1 a.2 p.1 p.2 q.1 q.2 := ⟨_, rfl⟩
                have HT : ∀ W, Calls Try.prog 37 #[.agg #[.int .i64 a.1, .int .i64 a.2], .agg #[.int .i64 p.1, .int .i64 p.2], .agg #[.int .i64 q.1, .int .i64 q.2]] W fun e w' => e = .returned (.int .i64 z) ∧ Below W.heap.size W w' := by
                  intro W; rw [hzt]; exact l2Area_any _ _ _ _ _ _ (fit_mono fa (by omega)) (fit_mono fb (by omega)) (fit_mono (p := q) HQ.out (by omega)) W
                have HT := Lib.hid HT
                by_cases hz : cross a p q = 0
                · have HL := Lib.hid (okB_line hlti hltj ha? hb? HC.out hz)
                  have hz0 : z = 0 := hzt.trans hz
                  subst hz0
                  clear ha? hb? fa fb hz hzt
                  go_wp2
                  go_region_held3 (fun W => W.cell? ⟨b, o + i * 2, none⟩ = some (.int .i64 a.1) ∧ W.cell? ⟨b, o + i * 2 + 1, none⟩ = some (.int .i64 a.2) ∧ W.cell? ⟨b, o + j * 2, none⟩ = some (.int .i64 p.1) ∧ W.cell? ⟨b, o + j * 2 + 1, none⟩ = some (.int .i64 p.2) ∧ W.cell? ⟨b, o + k * 2, none⟩ = some (.int .i64 q.1) ∧ W.cell? ⟨b, o + k * 2 + 1, none⟩ = some (.int .i64 q.2) ∧ Below w.heap.size w W) (first | exact ⟨ax, ay, bx, by_, cx, cy, hb⟩ | exact ⟨ax, ay, bx, by_, cx, cy, hb.drew⟩ | (refine ⟨?_, ?_, ?_, ?_, ?_, ?_, ?_⟩ <;> assumption))
                    (first | (go_at_call 37; refine (held6 w ⟨b, o + i * 2, none⟩ ⟨b, o + i * 2 + 1, none⟩ ⟨b, o + j * 2, none⟩ ⟨b, o + j * 2 + 1, none⟩ ⟨b, o + k * 2, none⟩ ⟨b, o + k * 2 + 1, none⟩ (.int .i64 a.1) (.int .i64 a.2) (.int .i64 p.1) (.int .i64 p.2) (.int .i64 q.1) (.int .i64 q.2) (HT.out _) ?_).mono ?_; (first | exact ⟨ax, ay, bx, by_, cx, cy, hb⟩ | exact ⟨ax, ay, bx, by_, cx, cy, hb.drew⟩ | (refine ⟨?_, ?_, ?_, ?_, ?_, ?_, ?_⟩ <;> assumption)); rintro e w' ⟨rfl, c1, c2, c3, c4, c5, c6, c7⟩))
                  go_wp2
                  go_ret
                  exact ⟨ret_bool HL.out.symm, by assumption⟩
                · have HM := Lib.hid (noLine_step HN.out ha? hb? HC.out hz)
                  have hz0 : (z == 0) = false := by rw [hzt]; exact beq_eq_false_iff_ne.2 hz
                  clear ha? hb? fa fb hz hzt
                  go_wp2
                  go_region_held3 (fun W => W.cell? ⟨b, o + i * 2, none⟩ = some (.int .i64 a.1) ∧ W.cell? ⟨b, o + i * 2 + 1, none⟩ = some (.int .i64 a.2) ∧ W.cell? ⟨b, o + j * 2, none⟩ = some (.int .i64 p.1) ∧ W.cell? ⟨b, o + j * 2 + 1, none⟩ = some (.int .i64 p.2) ∧ W.cell? ⟨b, o + k * 2, none⟩ = some (.int .i64 q.1) ∧ W.cell? ⟨b, o + k * 2 + 1, none⟩ = some (.int .i64 q.2) ∧ Below w.heap.size w W) (first | exact ⟨ax, ay, bx, by_, cx, cy, hb⟩ | exact ⟨ax, ay, bx, by_, cx, cy, hb.drew⟩ | (refine ⟨?_, ?_, ?_, ?_, ?_, ?_, ?_⟩ <;> assumption))
                    (first | (go_at_call 37; refine (held6 w ⟨b, o + i * 2, none⟩ ⟨b, o + i * 2 + 1, none⟩ ⟨b, o + j * 2, none⟩ ⟨b, o + j * 2 + 1, none⟩ ⟨b, o + k * 2, none⟩ ⟨b, o + k * 2 + 1, none⟩ (.int .i64 a.1) (.int .i64 a.2) (.int .i64 p.1) (.int .i64 p.2) (.int .i64 q.1) (.int .i64 q.2) (HT.out _) ?_).mono ?_; (first | exact ⟨ax, ay, bx, by_, cx, cy, hb⟩ | exact ⟨ax, ay, bx, by_, cx, cy, hb.drew⟩ | (refine ⟨?_, ?_, ?_, ?_, ?_, ?_, ?_⟩ <;> assumption)); rintro e w' ⟨rfl, c1, c2, c3, c4, c5, c6, c7⟩))
                  go_wp2
                  exact ⟨⟨i + 1, by omega, by go_num, HM, by assumption⟩, by simp only [intOf]; omega⟩
              · obtain rfl : i = j := by omega
                have HM := Lib.hid (noLine_inner HN.out)
                go_wp2
                exact ⟨⟨i + 1, by omega, by go_num, HM, hb⟩, by simp only [intOf]; omega⟩
          · obtain rfl : j = k := by omega
            have HM := Lib.hid (noLine_outer HN.out)
            go_wp2
            exact ⟨⟨j + 1, by omega, by go_num, HS, HM, hb⟩, by simp only [intOf]; omega⟩
    · obtain rfl : k = xs.length := by omega
      have HL := Lib.hid (okB_yes ⟨⟨hx, hx7⟩, HF.out.all, noLine_all HN.out⟩)
      go_wp2
      go_ret
      exact ⟨ret_bool HL.out.symm, hb⟩
theorem specAre (b o c : Nat) (xs : List P2) (hx : xs.length ≤ 9223372036854775807) (w : World) (hc : AtP w b o xs) (hbw : b < w.heap.size) :
    Calls Try.prog 35 #[.slice (some ⟨b, o, none⟩) xs.length c] w fun e w' => e = .returned (.bool (okB xs)) ∧ Below w.heap.size w w' := by
  by_cases hl : 3 ≤ xs.length ∧ xs.length ≤ 7
  · exact specAre_any b o c xs hl.1 hl.2 w hc hbw
  · rw [okB_len hl]; exact (specAre_short _ _ _ hl hx w).mono fun _ _ ⟨he, hw⟩ => ⟨he, by subst hw; exact Below.refl _ _⟩
theorem implAre (b o c : Nat) (xs : List P2) (hx : xs.length ≤ 9223372036854775807) (w : World) (hc : AtP w b o xs) (hbw : b < w.heap.size) :
    Calls Try.prog 39 #[.slice (some ⟨b, o, none⟩) xs.length c] w fun e w' => e = .returned (.bool (okB xs)) ∧ Below w.heap.size w w' := by
  by_cases hl : 3 ≤ xs.length ∧ xs.length ≤ 7
  · exact implAre_any b o c xs hl.1 hl.2 w hc hbw
  · rw [okB_len hl]; exact (implAre_short _ _ _ hl hx w).mono fun _ _ ⟨he, hw⟩ => ⟨he, by subst hw; exact Below.refl _ _⟩
end Go.Proofs.Ytohihlhkheeemaa.Pt
