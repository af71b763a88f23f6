/- Wirings, as impl tells them: hasAllExchanges, firstOrder, exchange. -/
import Derived.Test.YtfpbehnpaedpmaaDoorWiLens
import Derived.Test.YtfpbehnpaedpmaaDoorSgInts
import Derived.Laws.CopyOwn
import Derived.BigRegion
namespace Go.Proofs.YtfpbehnpaedpmaaDoor.Sg
open Go.RowKit Pt NewI Wi
/-- Block b is a row of these m numbers. -/
def RwN (w : World) (b m : Nat) (L : List Nat) : Prop := w.rowIs b 3 m (zc (wl L))
theorem RwN.cells {w : World} {b m : Nat} {L : List Nat} (h : RwN w b m L) : Cells w b m (zc (wl L)) := ⟨fun _ hj => World.rowIs.cell h hj, World.rowIs.frozen h, World.rowIs.lt h⟩
theorem RwN.lt {w : World} {b m : Nat} {L : List Nat} (h : RwN w b m L) : b < w.heap.size := World.rowIs.lt h
theorem RwN.on {w w' : World} {b m : Nat} {L : List Nat} (h : RwN w b m L) (hb : Below w.heap.size w w') : RwN w' b m L := World.rowIs.of_block h (hb.block b (World.rowIs.lt h))
theorem RwN.int {w : World} {b m : Nat} {L : List Nat} (h : RwN w b m L) : ∃ cs, w.heap[b]? = some (.cells cs 3) := by
  obtain ⟨cs, h, -⟩ := h
  exact ⟨cs, h⟩
/-- There can be so many wires with so many exchanges. -/
def hasB (n e : Int) : Bool := inB n 3 6 && decide (e = ((n.toNat * (n.toNat - 1) / 2 : Nat) : Int))
set_option maxHeartbeats 800000 in
set_option maxRecDepth 100000 in
theorem hasAll_any (n e : Int) (W : World) :
    Calls Tryd.prog 41 #[.int .i64 n, .int .i64 e] W fun r w' => r = .returned (.bool (hasB n e)) ∧ W = w' := by
  unfold hasB
  by_cases h3 : 3 ≤ n
  · by_cases h6 : n ≤ 6
    · have hin : inB n 3 6 = true := by simp only [inB, decide_eq_true_eq]; omega
      rw [hin, Bool.true_and]
      have k1 : decide (n ≥ 3) = true := decide_eq_true h3
      have k2 : decide (n ≤ 6) = true := decide_eq_true h6
      have v0 : IntKind.i64.wrap (n - 1) = n - 1 := IntWalk.i64_in _ (by omega)
      obtain ⟨P, hP⟩ : ∃ P : Int, n * (n - 1) = P := ⟨_, rfl⟩
      obtain ⟨N, hN⟩ : ∃ N : Nat, n.toNat * (n.toNat - 1) / 2 = N := ⟨_, rfl⟩
      have hPN : P = 2 * (N : Int) ∧ N ≤ 15 := by
        rcases (by omega : n = 3 ∨ n = 4 ∨ n = 5 ∨ n = 6) with rfl | rfl | rfl | rfl <;> (simp at hN hP; omega)
      obtain ⟨hP2, hN15⟩ := hPN
      have v1 : IntKind.i64.wrap (n * (n - 1)) = P := by rw [hP]; exact IntWalk.i64_in _ (by omega)
      have v2 : P.tdiv 2 = (N : Int) := by rw [hP2]; rw [Int.tdiv_eq_ediv_of_nonneg (by omega)]; omega
      have v3 : IntKind.i64.wrap (N : Int) = (N : Int) := IntWalk.i64_in _ (by omega)
      rw [hN]
      by_cases he : e = (N : Int)
      · rw [decide_eq_true he]
        subst he
        have k3 : (((N : Nat) : Int) == ((N : Nat) : Int)) = true := by simp
        clear hin hP hP2 hN hN15
        go_enter Tryd.func41, Tryd.ntmps41
        go_wp2
        go_ret
        exact ⟨rfl, rfl⟩
      · rw [decide_eq_false he]
        have k3 : (e == ((N : Nat) : Int)) = false := by simpa using he
        clear hin hP hP2 hN hN15
        go_enter Tryd.func41, Tryd.ntmps41
        go_wp2
        go_ret
        exact ⟨rfl, rfl⟩
    · have hin : inB n 3 6 = false := by simp only [inB, decide_eq_false_iff_not]; omega
      rw [hin, Bool.false_and]
      have k1 : decide (n ≥ 3) = true := decide_eq_true h3
      have k2 : decide (n ≤ 6) = false := decide_eq_false h6
      clear hin
      go_enter Tryd.func41, Tryd.ntmps41
      go_wp2
      go_ret
      exact ⟨rfl, rfl⟩
  · have hin : inB n 3 6 = false := by simp only [inB, decide_eq_false_iff_not]; omega
    rw [hin, Bool.false_and]
    have k1 : decide (n ≥ 3) = false := decide_eq_false h3
    clear hin
    go_enter Tryd.func41, Tryd.ntmps41
    go_wp2
    go_ret
    exact ⟨rfl, rfl⟩
/-- The first k numbers laid, the others not yet. -/
def upTo (k j : Nat) : Value := if j < k then .int .i64 (j : Int) else .int .i64 0
theorem upTo_step (k i : Nat) : (if i = k then Value.int .i64 (k : Int) else upTo k i) = upTo (k + 1) i := by
  unfold upTo
  by_cases e : i = k
  · subst e; rw [if_pos rfl, if_pos (by omega)]
  · rw [if_neg e]
    by_cases h2 : i < k
    · rw [if_pos h2, if_pos (by omega)]
    · rw [if_neg h2, if_neg (by omega)]
theorem upTo_all (m i : Nat) (hi : i < m) : upTo m i = zc (wl (List.range m)) i := by
  unfold upTo
  rw [if_pos hi, zc_wl, List.getD_eq_getElem?_getD, List.getElem?_range hi]
  rfl
set_option maxHeartbeats 800000 in
set_option maxRecDepth 100000 in
theorem firstOrder_any (m : Nat) (hm : m ≤ 100) (W : World) :
    Calls Tryd.prog 42 #[.int .i64 m] W fun e w' => e = .returned (.slice (some ⟨W.heap.size, 0, none⟩) m m) ∧ RwN w' W.heap.size m (List.range m) ∧ Below W.heap.size W w' := by
  have hmk := run_make_row' (P := Tryd.prog) 24 3 (.int .i64 0) 8 Tryd.underlying24 infoZ rfl .i64 .i64 m (by omega) (by omega)
  have H0 := Lib.hid ((World.rowIs_made W (.int .i64 0) m 3).congr (g := upTo 0) (fun i _ => by simp [upTo]))
  have HB0 := Lib.hid ((Below.refl W.heap.size W).alloc (Nat.le_refl _) (.cells (madeCells #[.int .i64 0] m) 3))
  go_enter Tryd.func42, Tryd.ntmps42
  go_wp2
  go_loopw [9] (fun i wr => ∃ k : Nat, k ≤ m ∧ i = .int .i64 k ∧ wr.rowIs W.heap.size 3 m (upTo k) ∧ Below W.heap.size W wr) (fun i _ => m - (intOf i).toNat)
  case atStart => exact ⟨0, Nat.zero_le _, rfl, H0.out, HB0.out⟩
  case round =>
    obtain ⟨k, hk, rfl, hrow, hb⟩ := hrel
    by_cases hlt : k < m
    · have hdst := hrow.cell hlt
      have hfz := hrow.frozen k
      have HR := Lib.hid ((hrow.set k (.int .i64 (k : Int))).congr (g := upTo (k + 1)) (fun i _ => upTo_step k i))
      have HB := Lib.hid (hb.setCell (p := ⟨W.heap.size, k, none⟩) (Nat.le_refl _) (.int .i64 (k : Int)))
      clear hrow
      go_wp2
      exact ⟨⟨k + 1, by omega, by go_num, HR.out, HB.out⟩, by simp only [intOf]; omega⟩
    · obtain rfl : k = m := by omega
      have HR : Hid (RwN wr W.heap.size k (List.range k)) := Lib.hid (hrow.congr (fun i hi => upTo_all k i hi))
      clear hrow
      go_wp2
      go_ret
      exact ⟨rfl, HR.out, hb⟩
end Go.Proofs.YtfpbehnpaedpmaaDoor.Sg
