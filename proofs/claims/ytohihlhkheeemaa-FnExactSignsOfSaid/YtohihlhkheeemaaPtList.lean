/- Slices of points: what the laws' helpers make of them. -/
import Derived.Test.YtohihlhkheeemaaPtTurn
import Derived.Test.YtohihlhkheeemaaPtOpen
import Derived.Deep.OwnRows
import Derived.Deep.QuietTactic
import Derived.BigQuiet
import Derived.RegionTactic
import Derived.OwnWalk
import Derived.Laws.MakeOwn
import Derived.Laws.Entries
import Derived.Deep.RegionHeld3
namespace Go.Proofs.Ytohihlhkheeemaa.Pt
open Go.RowKit

theorem AtP.get {w : World} {b o : Nat} {xs : List P2} (h : AtP w b o xs) (k : Nat) (hk : k < xs.length) : w.cell? ⟨b, o + k * 2, none⟩ = some (.int .i64 xs[k].1) ∧ w.cell? ⟨b, o + k * 2 + 1, none⟩ = some (.int .i64 xs[k].2) := h k _ (List.getElem?_eq_getElem hk)
theorem AtP.on {w w' : World} {B b o : Nat} {xs : List P2} (h : AtP w b o xs) (hb : Below B w w') (hB : b < B) : AtP w' b o xs := fun j x hx => by rw [hb.cell hB, hb.cell hB]; exact h j x hx

def szN (left : Int) (n : Nat) : Int := if left - n < 0 then -1 else left - n
set_option maxRecDepth 100000 in
theorem sz_any (a : Option Addr) (n c : Nat) (left : Int) (h0 : 0 ≤ left) (h1 : left ≤ 1048576) (hx : n ≤ 9223372036854775807) (w : World) :
    Calls Try.prog 15 #[.slice a n c, .int .i64 left] w fun e w' => e = .returned (.int .i64 (szN left n)) ∧ w = w' := by
  by_cases hs : left - n < 0
  · have HE : Hid (szN left n = -1) := Lib.hid (by unfold szN; rw [if_pos hs])
    go_enter Try.func15, Try.ntmps15
    go_wp2
    go_ret
    exact ⟨ret_int HE.out.symm, rfl⟩
  · have HE : Hid (szN left n = left - n) := Lib.hid (by unfold szN; rw [if_neg hs])
    go_enter Try.func15, Try.ntmps15
    go_wp2
    go_ret
    exact ⟨ret_int HE.out.symm, rfl⟩

/-- The cells of a row of points. -/
def ptCell (xs : List P2) (j : Nat) : Value := .int .i64 (if j % 2 = 0 then (xs.getD (j / 2) (0, 0)).1 else (xs.getD (j / 2) (0, 0)).2)
theorem ptCell_even (xs : List P2) (k : Nat) (h : k < xs.length) : ptCell xs (k * 2) = .int .i64 xs[k].1 := by
  unfold ptCell
  rw [if_pos (by omega), show k * 2 / 2 = k by omega, List.getD_eq_getElem?_getD, List.getElem?_eq_getElem h]; rfl
theorem ptCell_odd (xs : List P2) (k : Nat) (h : k < xs.length) : ptCell xs (k * 2 + 1) = .int .i64 xs[k].2 := by
  unfold ptCell
  rw [if_neg (by omega), show (k * 2 + 1) / 2 = k by omega, List.getD_eq_getElem?_getD, List.getElem?_eq_getElem h]; rfl
/-- Of the cells of a row of points those before number m; behind them zeros. -/
def sofar (xs : List P2) (m : Nat) (j : Nat) : Value := if j < m then ptCell xs j else .int .i64 0
theorem AtP.of_row {w : World} {b : Nat} {t : TypeId} {xs : List P2} (h : w.rowIs b t (xs.length * 2) (ptCell xs)) : AtP w b 0 xs := fun j x hx => by
  obtain ⟨hj, rfl⟩ := List.getElem?_eq_some_iff.1 hx
  have h1 := h.cell (show j * 2 < xs.length * 2 by omega)
  have h2 := h.cell (show j * 2 + 1 < xs.length * 2 by omega)
  rw [ptCell_even xs j hj] at h1
  rw [ptCell_odd xs j hj] at h2
  exact ⟨by simpa using h1, by simpa using h2⟩
theorem row_on {w w' : World} {B b : Nat} {t : TypeId} {n : Nat} {f : Nat → Value} (h : w.rowIs b t n f) (hb : Below B w w') (hB : b < B) : w'.rowIs b t n f := h.of_block (hb.block b hB)

theorem madeRow2 (w : World) (z : Value) (n : Nat) (t : TypeId) : (w.alloc (.cells (madeCells #[z, z] n) t)).rowIs w.heap.size t n (fun _ => z) := by
  have h := World.rowIs_alloc w (madeCells #[z, z] n) t (fun _ => z) (fun i hi => by
    rw [size_madeCells] at hi
    have h2 : i % 2 = 0 ∨ i % 2 = 1 := by omega
    rcases h2 with h2 | h2 <;> simp [madeCells, hi, h2])
  rwa [size_madeCells] at h
set_option maxRecDepth 100000 in
theorem infoPt : (Try.prog.info? 60).map (fun i => (i.zero, i.size, i.bytes)) = some (some (.agg #[.int .i64 0, .int .i64 0]), 2, 16) := by kernel_rfl
theorem run_make_pts (n : Nat) (hn : n ≤ 2000000) (w : World) :
    (Instr.makeSlice 35 (.int .i64 (n : Int)) (.int .i64 (n : Int))).run Try.prog w = .ok (.slice (some ⟨w.heap.size, 0, none⟩) n n) (w.alloc (.cells (madeCells #[.int .i64 0, .int .i64 0] (n * 2)) 60)) := by
  obtain ⟨i, hi, hzz⟩ := Option.map_eq_some_iff.1 infoPt
  simp only [Prod.mk.injEq] at hzz
  obtain ⟨hz, hs, hb⟩ := hzz
  have hr := run_make (P := Try.prog) w 35 60 i _ Try.underlying35 hi hz .i64 .i64 n n (by omega) (by omega) (by rw [hb]; omega) (by omega)
  rw [hs] at hr
  exact hr

theorem sofar_step (xs : List P2) (k : Nat) (hlt : k < xs.length) (i : Nat) (_ : i < xs.length * 2) :
    (if i = k * 2 + 1 then Value.int .i64 xs[k].2 else if i = k * 2 then Value.int .i64 xs[k].1 else sofar xs (k * 2) i) = sofar xs ((k + 1) * 2) i := by
  unfold sofar
  by_cases e1 : i = k * 2 + 1
  · subst e1; rw [if_pos rfl, if_pos (by omega), ptCell_odd xs k hlt]
  · rw [if_neg e1]
    by_cases e : i = k * 2
    · subst e; rw [if_pos rfl, if_pos (by omega), ptCell_even xs k hlt]
    · rw [if_neg e]
      by_cases h2 : i < k * 2
      · rw [if_pos h2, if_pos (by omega)]
      · rw [if_neg h2, if_neg (by omega)]
set_option maxHeartbeats 400000 in
set_option maxRecDepth 100000 in
theorem to_any (b o c : Nat) (xs : List P2) (hx : xs.length ≤ 1048576) (w : World) (hc : AtP w b o xs) (hbw : b < w.heap.size) :
    Calls Try.prog 17 #[.slice (some ⟨b, o, none⟩) xs.length c] w fun e w' => e = .returned (.slice (some ⟨w.heap.size, 0, none⟩) xs.length xs.length) ∧ w'.rowIs w.heap.size 60 (xs.length * 2) (ptCell xs) ∧ Below w.heap.size w w' := by
  have hmk := run_make_pts xs.length (by omega)
  have H0 := Lib.hid ((madeRow2 w (.int .i64 0) (xs.length * 2) 60).congr (g := sofar xs (0 * 2)) (fun i _ => by simp [sofar]))
  have HB0 := Lib.hid ((Below.refl w.heap.size w).alloc (Nat.le_refl _) (.cells (madeCells #[.int .i64 0, .int .i64 0] (xs.length * 2)) 60))
  go_enter Try.func17, Try.ntmps17
  go_wp2
  go_loopw [4] (fun i wr => ∃ k : Nat, k ≤ xs.length ∧ i = .int .i64 k ∧ wr.rowIs w.heap.size 60 (xs.length * 2) (sofar xs (k * 2)) ∧ Below w.heap.size w wr) (fun i _ => xs.length - (intOf i).toNat)
  case atStart => exact ⟨0, Nat.zero_le _, rfl, H0.out, HB0.out⟩
  case round =>
    obtain ⟨k, hk, rfl, hrow, hb⟩ := hrel
    by_cases hlt : k < xs.length
    · obtain ⟨hx0, hy0⟩ := (hc.on hb hbw).get k hlt
      have HR := Lib.hid hrow
      clear hrow
      go_wp2_with fail
      refine (toPoint_any _ _ _).mono ?_
      rintro e w1 ⟨rfl, hb1⟩
      have hrow1 := row_on HR.out hb1 HR.out.lt
      have hd0 := hrow1.cell (show k * 2 < xs.length * 2 by omega)
      have hd1 := hrow1.cell (show k * 2 + 1 < xs.length * 2 by omega)
      have hf0 := hrow1.frozen (k * 2)
      have hf1 := hrow1.frozen (k * 2 + 1)
      have HR2 := Lib.hid (((hrow1.set (k * 2) (.int .i64 xs[k].1)).set (k * 2 + 1) (.int .i64 xs[k].2)).congr (g := sofar xs ((k + 1) * 2)) (sofar_step xs k hlt))
      have HB2 := Lib.hid (((hb.trans (hb1.mono hb.size)).setCell (p := ⟨w.heap.size, k * 2, none⟩) (Nat.le_refl _) (.int .i64 xs[k].1)).setCell (p := ⟨w.heap.size, k * 2 + 1, none⟩) (Nat.le_refl _) (.int .i64 xs[k].2))
      clear hrow1
      go_wp2
      exact ⟨⟨k + 1, by omega, by go_num, HR2.out, HB2.out⟩, by simp only [intOf]; omega⟩
    · have HR := Lib.hid (hrow.congr (g := ptCell xs) (fun i hi => by unfold sofar; rw [if_pos (by omega)]))
      clear hrow
      go_wp2
      go_ret
      exact ⟨rfl, HR.out, hb⟩
set_option maxRecDepth 100000 in
theorem to_none (a : Option Addr) (c : Nat) (w : World) :
    Calls Try.prog 17 #[.slice a 0 c] w fun e w' => e = .returned (.slice (some ⟨w.heap.size, 0, none⟩) 0 0) ∧ w'.rowIs w.heap.size 60 0 (ptCell []) ∧ Below w.heap.size w w' := by
  have hmk := run_make_pts 0 (by omega)
  simp only [Int.natCast_zero, Nat.zero_mul] at hmk
  have H0 := Lib.hid ((madeRow2 w (.int .i64 0) 0 60).congr (g := ptCell []) (fun i hi => by omega))
  have HB0 := Lib.hid (((Below.refl w.heap.size w).alloc (Nat.le_refl _) (.cells (madeCells #[.int .i64 0, .int .i64 0] 0) 60)))
  go_enter Try.func17, Try.ntmps17
  go_wp2
  refine wp_loop_rounds 1 ?_
  rw [rounds_succ]
  go_wp2
  go_ret
  exact ⟨rfl, H0.out, HB0.out⟩

/-- eqPoint of a point and itself. -/
theorem eqPt_same (x y : Int) (w : World) :
    Calls Try.prog 43 #[.agg #[.int .i64 x, .int .i64 y], .agg #[.int .i64 x, .int .i64 y]] w fun e w' => e = .returned (.bool true) ∧ Below w.heap.size w w' := by
  have hx : (x != x) = false := by simp
  have hy : (y != y) = false := by simp
  go_enter Try.func43, Try.ntmps43
  go_wp2
  go_ret
  exact ⟨rfl, by go_grown⟩
end Go.Proofs.Ytohihlhkheeemaa.Pt
