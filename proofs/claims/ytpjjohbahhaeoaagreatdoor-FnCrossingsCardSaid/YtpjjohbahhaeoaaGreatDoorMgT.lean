/- Several texts in one: PtOpen, PtList, PtEq, PtAre, PtArg, SgPts, SgPtsSpec, PtNew. -/
import Derived.Test.YtpjjohbahhaeoaaGreatDoorProg
import Derived.Test.YtpjjohbahhaeoaaGreatDoorMgP
import Derived.WalkKit
import Derived.ProofKit
import Derived.OpenShut
import Derived.Below
import Derived.Deep.Slices
import Derived.Deep.Fields
import Derived.ChangeSame
import Derived.Lib.SmallJoins
import Derived.Deep.OwnRows
import Derived.Deep.QuietTactic
import Derived.BigQuiet
import Derived.RegionTactic
import Derived.OwnWalk
import Derived.Laws.MakeOwn
import Derived.Laws.Entries
import Derived.Deep.RegionHeld3
import Derived.Test.YtpjjohbahhaeoaaGreatDoorMgQ
import Derived.Laws.AppendOwn
import Derived.Laws.OwnMore
import Derived.Deep.AppendLies
/- A law's point, or slice of points, as an argument: opened to its numbers and cells. -/
namespace Go.Proofs.YtpjjohbahhaeoaaGreatDoor.Pt
open Go.RowKit Go.ChangeShapes Go.WideShapes Go.Deep Go.Joins

/-- A pair of integers that fit. -/
def WfP (p : P2) : Prop := (-9223372036854775808 ≤ p.1 ∧ p.1 ≤ 9223372036854775807) ∧ (-9223372036854775808 ≤ p.2 ∧ p.2 ≤ 9223372036854775807)
/-- The cells from offset o of block b on hold the points xs. -/
def AtP (w : World) (b o : Nat) (xs : List P2) : Prop := ∀ (j : Nat) p, xs[j]? = some p → w.cell? ⟨b, o + j * 2, none⟩ = some (.int .i64 p.1) ∧ w.cell? ⟨b, o + j * 2 + 1, none⟩ = some (.int .i64 p.2)
/-- A slice of points as an argument: its cells, where it has any. -/
def PtsArg (w : World) (v : Value) (xs : List P2) : Prop :=
  ∃ (a : Option Addr) (c : Nat), v = .slice a xs.length c ∧ xs.length ≤ 9223372036854775807 ∧ (∀ p ∈ xs, WfP p) ∧
    (xs.length = 0 ∨ ∃ b o, a = some ⟨b, o, none⟩ ∧ AtP w b o xs ∧ b < w.heap.size ∧ xs.length ≤ c)

section
variable {H : Type} {enc : TypeId × Value → H} {P : Program} {w : World} {base : Nat} {spare : Nat → Bool} {held : Bool}
theorem open_slice_fields {t e : TypeId} {fs : Array Field} {fuel : Nat} {cs : List Value} {x : DataW H × List MemPlace} (ht : P.underlying t = some (.slice e)) (he : P.underlying e = some (.struct fs))
    (hone : oneCellFields P fs = true) (hC : P.cellsOf e = fs.size) (h : DataW.trod enc P w base spare held fuel t cs = some x) :
    (cs = [.slice none 0 0]) ∨
    ∃ (a : Addr) (len cap m : Nat), cs = [.slice (some a) len cap] ∧ len ≤ cap ∧ cap ≤ maxLen ∧ m = (if spare a.block then cap else len) ∧
      ∀ i, i < m → ∀ (j : Nat) (f : Field), fs[j]? = some f → ∃ (v : Value) (n : Nat) (y : DataW H × List MemPlace), w.cell? (a.add (i * fs.size + j)) = some v ∧ DataW.trod enc P w base spare held n f.type [v] = some y := by
  rcases open_slice ht h with h0 | ⟨a, len, cap, m, n, D, Pl, hcs, hb, hl, hm, hmm, hx, hi⟩
  · exact .inl h0.1
  · refine .inr ⟨a, len, cap, m, hcs, hl, hm, hmm, fun i him j f hj => ?_⟩
    obtain ⟨cs', hc, ht'⟩ := hi i him
    rw [hC] at hc
    obtain ⟨ys, n', hn', hy, hlen, hyl, hf⟩ := DataW.trod_struct he ht'
    obtain ⟨_, hcl, hat⟩ := World.cells?_some hc
    obtain ⟨ho, hk⟩ := hone_of hone j f hj
    have hjl : j < fs.size := (Array.getElem?_eq_some_iff.1 hj).1
    have hcell := hat j hjl
    have hv : cs'[j]? = some (cs'[j]'(by omega)) := List.getElem?_eq_getElem (by omega)
    have h1 := hf j f hj
    rw [ho, hk] at h1
    have hone' : (cs'.drop j).take 1 = [cs'[j]'(by omega)] := by
      rw [List.drop_eq_getElem_cons (by omega)]
      rfl
    rw [hone'] at h1
    have hys : ys[j]? = some (ys[j]'(by omega)) := List.getElem?_eq_getElem (by omega)
    refine ⟨_, _, _, ?_, h1.trans hys⟩
    rw [← Go.Deep.add_add, hcell, hv]
end

def ptRead (w : World) (a : Addr) (i : Nat) : P2 := match w.cell? (a.add (i * 2)), w.cell? (a.add (i * 2 + 1)) with
  | some (.int _ x), some (.int _ y) => (x, y)
  | _, _ => (0, 0)
end Go.Proofs.YtpjjohbahhaeoaaGreatDoor.Pt
/- Slices of points: what the laws' helpers make of them. -/
namespace Go.Proofs.YtpjjohbahhaeoaaGreatDoor.Pt
open Go.RowKit

theorem AtP.get {w : World} {b o : Nat} {xs : List P2} (h : AtP w b o xs) (k : Nat) (hk : k < xs.length) : w.cell? ⟨b, o + k * 2, none⟩ = some (.int .i64 xs[k].1) ∧ w.cell? ⟨b, o + k * 2 + 1, none⟩ = some (.int .i64 xs[k].2) := h k _ (List.getElem?_eq_getElem hk)
theorem AtP.on {w w' : World} {B b o : Nat} {xs : List P2} (h : AtP w b o xs) (hb : Below B w w') (hB : b < B) : AtP w' b o xs := fun j x hx => by rw [hb.cell hB, hb.cell hB]; exact h j x hx

def szN (left : Int) (n : Nat) : Int := if left - n < 0 then -1 else left - n
/-- The cells of a row of points. -/
def ptCell (xs : List P2) (j : Nat) : Value := .int .i64 (if j % 2 = 0 then (xs.getD (j / 2) (0, 0)).1 else (xs.getD (j / 2) (0, 0)).2)
theorem ptCell_even (xs : List P2) (k : Nat) (h : k < xs.length) : ptCell xs (k * 2) = .int .i64 xs[k].1 := by
  unfold ptCell
  rw [if_pos (by omega), show k * 2 / 2 = k by omega, List.getD_eq_getElem?_getD, List.getElem?_eq_getElem h]; rfl
theorem ptCell_odd (xs : List P2) (k : Nat) (h : k < xs.length) : ptCell xs (k * 2 + 1) = .int .i64 xs[k].2 := by
  unfold ptCell
  rw [if_neg (by omega), show (k * 2 + 1) / 2 = k by omega, List.getD_eq_getElem?_getD, List.getElem?_eq_getElem h]; rfl
/-- Of the cells of a row of points those before number m; behind them zeros. -/
def sofar (xs : List P2) (m : Nat) (j : Nat) : Value := if j < m then ptCell xs j else .int .i64 0
theorem AtP.of_row {w : World} {b : Nat} {t : TypeId} {xs : List P2} (h : w.rowIs b t (xs.length * 2) (ptCell xs)) : AtP w b 0 xs := fun j x hx => by
  obtain ⟨hj, rfl⟩ := List.getElem?_eq_some_iff.1 hx
  have h1 := h.cell (show j * 2 < xs.length * 2 by omega)
  have h2 := h.cell (show j * 2 + 1 < xs.length * 2 by omega)
  rw [ptCell_even xs j hj] at h1
  rw [ptCell_odd xs j hj] at h2
  exact ⟨by simpa using h1, by simpa using h2⟩
theorem row_on {w w' : World} {B b : Nat} {t : TypeId} {n : Nat} {f : Nat → Value} (h : w.rowIs b t n f) (hb : Below B w w') (hB : b < B) : w'.rowIs b t n f := h.of_block (hb.block b hB)

theorem madeRow2 (w : World) (z : Value) (n : Nat) (t : TypeId) : (w.alloc (.cells (madeCells #[z, z] n) t)).rowIs w.heap.size t n (fun _ => z) := by
  have h := World.rowIs_alloc w (madeCells #[z, z] n) t (fun _ => z) (fun i hi => by
    rw [size_madeCells] at hi
    have h2 : i % 2 = 0 ∨ i % 2 = 1 := by omega
    rcases h2 with h2 | h2 <;> simp [madeCells, hi, h2])
  rwa [size_madeCells] at h
set_option maxRecDepth 100000 in
theorem infoPt : (Tryz.prog.info? 106).map (fun i => (i.zero, i.size, i.bytes)) = some (some (.agg #[.int .i64 0, .int .i64 0]), 2, 16) := by kernel_rfl
theorem run_make_pts (n : Nat) (hn : n ≤ 2000000) (w : World) :
    (Instr.makeSlice 84 (.int .i64 (n : Int)) (.int .i64 (n : Int))).run Tryz.prog w = .ok (.slice (some ⟨w.heap.size, 0, none⟩) n n) (w.alloc (.cells (madeCells #[.int .i64 0, .int .i64 0] (n * 2)) 106)) := by
  obtain ⟨i, hi, hzz⟩ := Option.map_eq_some_iff.1 infoPt
  simp only [Prod.mk.injEq] at hzz
  obtain ⟨hz, hs, hb⟩ := hzz
  have hr := run_make (P := Tryz.prog) w 84 106 i _ Tryz.underlying84 hi hz .i64 .i64 n n (by omega) (by omega) (by rw [hb]; omega) (by omega)
  rw [hs] at hr
  exact hr

theorem sofar_step (xs : List P2) (k : Nat) (hlt : k < xs.length) (i : Nat) (_ : i < xs.length * 2) :
    (if i = k * 2 + 1 then Value.int .i64 xs[k].2 else if i = k * 2 then Value.int .i64 xs[k].1 else sofar xs (k * 2) i) = sofar xs ((k + 1) * 2) i := by
  unfold sofar
  by_cases e1 : i = k * 2 + 1
  · subst e1; rw [if_pos rfl, if_pos (by omega), ptCell_odd xs k hlt]
  · rw [if_neg e1]
    by_cases e : i = k * 2
    · subst e; rw [if_pos rfl, if_pos (by omega), ptCell_even xs k hlt]
    · rw [if_neg e]
      by_cases h2 : i < k * 2
      · rw [if_pos h2, if_pos (by omega)]
      · rw [if_neg h2, if_neg (by omega)]
end Go.Proofs.YtpjjohbahhaeoaaGreatDoor.Pt
/- eqPointS of two slices that read alike; markPointS and heldPointS. -/
namespace Go.Proofs.YtpjjohbahhaeoaaGreatDoor.Pt
open Go.RowKit
theorem lt_of_cell {w : World} {a : Addr} {v : Value} (h : w.cell? a = some v) : a.block < w.heap.size := by
  rcases Nat.lt_or_ge a.block w.heap.size with h1 | h1
  · exact h1
  · simp [World.cell?, Array.getElem?_eq_none h1] at h
/-- A call beside which four cells are read. -/
theorem held4 (w0 : World) (a1 a2 a3 a4 : Addr) (v1 v2 v3 v4 : Value) {f : FuncId} {args : Array Value} {W : World} {v : Value} (h : Calls Tryz.prog f args W fun e w' => e = .returned v ∧ Below W.heap.size W w')
    (hS : W.cell? a1 = some v1 ∧ W.cell? a2 = some v2 ∧ W.cell? a3 = some v3 ∧ W.cell? a4 = some v4 ∧ Below w0.heap.size w0 W) :
    Calls Tryz.prog f args W fun e w' => e = .returned v ∧ w'.cell? a1 = some v1 ∧ w'.cell? a2 = some v2 ∧ w'.cell? a3 = some v3 ∧ w'.cell? a4 = some v4 ∧ Below w0.heap.size w0 w' :=
  h.mono fun _ _ ⟨he, hb⟩ => ⟨he, by rw [hb.cell (lt_of_cell hS.1)]; exact hS.1, by rw [hb.cell (lt_of_cell hS.2.1)]; exact hS.2.1, by rw [hb.cell (lt_of_cell hS.2.2.1)]; exact hS.2.2.1, by rw [hb.cell (lt_of_cell hS.2.2.2.1)]; exact hS.2.2.2.1, hS.2.2.2.2.trans (hb.mono hS.2.2.2.2.size)⟩

end Go.Proofs.YtpjjohbahhaeoaaGreatDoor.Pt
/- ArePoints, as impl and spec ask it. -/
namespace Go.Proofs.YtpjjohbahhaeoaaGreatDoor.Pt
open Go.RowKit
/-- A call beside which six cells are read. -/
theorem held6 (w0 : World) (a1 a2 a3 a4 a5 a6 : Addr) (v1 v2 v3 v4 v5 v6 : Value) {f : FuncId} {args : Array Value} {W : World} {v : Value} (h : Calls Tryz.prog f args W fun e w' => e = .returned v ∧ Below W.heap.size W w')
    (hS : W.cell? a1 = some v1 ∧ W.cell? a2 = some v2 ∧ W.cell? a3 = some v3 ∧ W.cell? a4 = some v4 ∧ W.cell? a5 = some v5 ∧ W.cell? a6 = some v6 ∧ Below w0.heap.size w0 W) :
    Calls Tryz.prog f args W fun e w' => e = .returned v ∧ w'.cell? a1 = some v1 ∧ w'.cell? a2 = some v2 ∧ w'.cell? a3 = some v3 ∧ w'.cell? a4 = some v4 ∧ w'.cell? a5 = some v5 ∧ w'.cell? a6 = some v6 ∧ Below w0.heap.size w0 w' := by
  obtain ⟨c1, c2, c3, c4, c5, c6, hB⟩ := hS
  exact h.mono fun _ _ ⟨he, hb⟩ => ⟨he, by rw [hb.cell (lt_of_cell c1)]; exact c1, by rw [hb.cell (lt_of_cell c2)]; exact c2, by rw [hb.cell (lt_of_cell c3)]; exact c3, by rw [hb.cell (lt_of_cell c4)]; exact c4, by rw [hb.cell (lt_of_cell c5)]; exact c5, by rw [hb.cell (lt_of_cell c6)]; exact c6, hB.trans (hb.mono hB.size)⟩

/-- The first k points fit. -/
def FitAll (xs : List P2) (k : Nat) : Prop := ∀ (j : Nat) p, j < k → xs[j]? = some p → fit p 50 = true
theorem FitAll.zero (xs : List P2) : FitAll xs 0 := fun j p h => by omega
theorem FitAll.step {xs : List P2} {k : Nat} (h : FitAll xs k) {p : P2} (hp : xs[k]? = some p) (hf : fit p 50 = true) : FitAll xs (k + 1) := fun j q hj hq => by
  by_cases e : j = k
  · subst e; rw [hp] at hq; cases hq; exact hf
  · exact h j q (by omega) hq
theorem FitAll.all {xs : List P2} (h : FitAll xs xs.length) : ∀ p ∈ xs, fit p 50 = true := fun p hp => by
  obtain ⟨i, hi, rfl⟩ := List.mem_iff_getElem.1 hp
  exact h i _ hi (List.getElem?_eq_getElem hi)

set_option maxRecDepth 100000 in
theorem specAre_short (a : Option Addr) (n c : Nat) (hn : ¬ (3 ≤ n ∧ n ≤ 7)) (hn2 : n ≤ 9223372036854775807) (w : World) :
    Calls Tryz.prog 88 #[.slice a n c] w fun e w' => e = .returned (.bool false) ∧ w = w' := by
  have hB : inB n 3 7 = false := by simp [inB]; omega
  go_enter Tryz.func88, Tryz.ntmps88
  go_wp2_with fail
  refine (l1In_any _ _ _ _).mono ?_
  rintro e w' ⟨rfl, rfl⟩
  go_wp2
  go_ret
  exact ⟨rfl, rfl⟩

set_option maxHeartbeats 1600000 in
set_option maxRecDepth 100000 in
theorem specAre_any (b o c : Nat) (xs : List P2) (hx : 3 ≤ xs.length) (hx7 : xs.length ≤ 7) (w : World) (hc : AtP w b o xs) (hbw : b < w.heap.size) :
    Calls Tryz.prog 88 #[.slice (some ⟨b, o, none⟩) xs.length c] w fun e w' => e = .returned (.bool (okB xs)) ∧ Below w.heap.size w w' := by
  have hB : inB xs.length 3 7 = true := by simp [inB]; omega
  go_enter Tryz.func88, Tryz.ntmps88
  go_wp2_with fail
  refine (l1In_any _ _ _ _).mono ?_
  rintro e w' ⟨rfl, rfl⟩
  go_wp2
  go_loopw [3] (fun i wr => ∃ k : Nat, k ≤ xs.length ∧ i = .int .i64 k ∧ Hid (FitAll xs k) ∧ Hid (noLine xs k 0 0) ∧ Below w.heap.size w wr) (fun i _ => xs.length - (intOf i).toNat)
  case atStart => exact ⟨0, Nat.zero_le _, rfl, Lib.hid (FitAll.zero xs), Lib.hid (noLine_zero xs), Below.refl _ _⟩
  case round =>
    obtain ⟨k, hk, rfl, HF, HN, hb⟩ := hrel
    by_cases hlt : k < xs.length
    · obtain ⟨ax, ay⟩ := (hc.on hb hbw).get k hlt
      have ha? := List.getElem?_eq_getElem hlt
      have hm := List.getElem_mem hlt
      have HC := Lib.hid ha?
      generalize xs[k] = q at ax ay ha? hm HC
      cases hf : fitB q.1 q.2 50
      · have HE := Lib.hid (okB_fit hm hf)
        clear hm ha?
        go_wp2_with fail
        refine (l2Fits_any _ _ _ (by omega) (by omega) _).mono ?_
        rintro e w1 ⟨rfl, hb1⟩
        have B2 := hb.trans (hb1.mono hb.size)
        go_wp2
        go_ret
        exact ⟨ret_bool HE.out.symm, B2⟩
      · have HS := Lib.hid (HF.out.step ha? hf)
        have HQ := Lib.hid hf
        clear hm ha?
        go_wp2_with fail
        refine (l2Fits_any _ _ _ (by omega) (by omega) _).mono ?_
        rintro e w1 ⟨rfl, hb1⟩
        have B2 := hb.trans (hb1.mono hb.size)
        clear ax ay hb
        go_wp2
        clear hf
        go_loopw [4] (fun i wr => ∃ j : Nat, j ≤ k ∧ i = .int .i64 j ∧ Hid (noLine xs k j 0) ∧ Below w.heap.size w wr) (fun i _ => k - (intOf i).toNat)
        case atStart => exact ⟨0, Nat.zero_le _, rfl, HN, B2⟩
        case round =>
          obtain ⟨j, hj, rfl, HN, hb⟩ := hrel
          by_cases hltj : j < k
          · go_wp2
            go_loopw [5] (fun i wr => ∃ i' : Nat, i' ≤ j ∧ i = .int .i64 i' ∧ Hid (noLine xs k j i') ∧ Below w.heap.size w wr) (fun i _ => j - (intOf i).toNat)
            case atStart => exact ⟨0, Nat.zero_le _, rfl, HN, hb⟩
            case round =>
              obtain ⟨i, hi, rfl, HN, hb⟩ := hrel
              by_cases hlti : i < j
              · have hi1 : i < xs.length := by omega
                have hj1 : j < xs.length := by omega
                obtain ⟨ax, ay⟩ := (hc.on hb hbw).get i hi1
                obtain ⟨bx, by_⟩ := (hc.on hb hbw).get j hj1
                obtain ⟨cx, cy⟩ := (hc.on hb hbw) k q HC.out
                have ha? := List.getElem?_eq_getElem hi1
                have hb? := List.getElem?_eq_getElem hj1
                have fa := HS.out i _ (by omega) ha?
                have fb := HS.out j _ (by omega) hb?
                generalize xs[i] = a at ax ay ha? fa
                generalize xs[j] = p at bx by_ hb? fb
                obtain ⟨z, hzt⟩ : ∃ z, z = crs a.1 a.2 p.1 p.2 q.1 q.2 := ⟨_, rfl⟩
                have HT : ∀ W, Calls Tryz.prog 89 #[.agg #[.int .i64 a.1, .int .i64 a.2], .agg #[.int .i64 p.1, .int .i64 p.2], .agg #[.int .i64 q.1, .int .i64 q.2]] W fun e w' => e = .returned (.int .i64 z) ∧ Below W.heap.size W w' := by
                  intro W; rw [hzt]; exact l2Area_any _ _ _ _ _ _ (fit_mono fa (by omega)) (fit_mono fb (by omega)) (fit_mono (p := q) HQ.out (by omega)) W
                have HT := Lib.hid HT
                by_cases hz : cross a p q = 0
                · have HL := Lib.hid (okB_line hlti hltj ha? hb? HC.out hz)
                  have hz0 : z = 0 := hzt.trans hz
                  subst hz0
                  clear ha? hb? fa fb hz hzt
                  go_wp2
                  go_region_held3 (fun W => W.cell? ⟨b, o + i * 2, none⟩ = some (.int .i64 a.1) ∧ W.cell? ⟨b, o + i * 2 + 1, none⟩ = some (.int .i64 a.2) ∧ W.cell? ⟨b, o + j * 2, none⟩ = some (.int .i64 p.1) ∧ W.cell? ⟨b, o + j * 2 + 1, none⟩ = some (.int .i64 p.2) ∧ W.cell? ⟨b, o + k * 2, none⟩ = some (.int .i64 q.1) ∧ W.cell? ⟨b, o + k * 2 + 1, none⟩ = some (.int .i64 q.2) ∧ Below w.heap.size w W) (first | exact ⟨ax, ay, bx, by_, cx, cy, hb⟩ | exact ⟨ax, ay, bx, by_, cx, cy, hb.drew⟩ | (refine ⟨?_, ?_, ?_, ?_, ?_, ?_, ?_⟩ <;> assumption))
                    (first | (go_at_call 89; refine (held6 w ⟨b, o + i * 2, none⟩ ⟨b, o + i * 2 + 1, none⟩ ⟨b, o + j * 2, none⟩ ⟨b, o + j * 2 + 1, none⟩ ⟨b, o + k * 2, none⟩ ⟨b, o + k * 2 + 1, none⟩ (.int .i64 a.1) (.int .i64 a.2) (.int .i64 p.1) (.int .i64 p.2) (.int .i64 q.1) (.int .i64 q.2) (HT.out _) ?_).mono ?_; (first | exact ⟨ax, ay, bx, by_, cx, cy, hb⟩ | exact ⟨ax, ay, bx, by_, cx, cy, hb.drew⟩ | (refine ⟨?_, ?_, ?_, ?_, ?_, ?_, ?_⟩ <;> assumption)); rintro e w' ⟨rfl, c1, c2, c3, c4, c5, c6, c7⟩))
                  go_wp2
                  go_ret
                  exact ⟨ret_bool HL.out.symm, by assumption⟩
                · have HM := Lib.hid (noLine_step HN.out ha? hb? HC.out hz)
                  have hz0 : (z == 0) = false := by rw [hzt]; exact beq_eq_false_iff_ne.2 hz
                  clear ha? hb? fa fb hz hzt
                  go_wp2
                  go_region_held3 (fun W => W.cell? ⟨b, o + i * 2, none⟩ = some (.int .i64 a.1) ∧ W.cell? ⟨b, o + i * 2 + 1, none⟩ = some (.int .i64 a.2) ∧ W.cell? ⟨b, o + j * 2, none⟩ = some (.int .i64 p.1) ∧ W.cell? ⟨b, o + j * 2 + 1, none⟩ = some (.int .i64 p.2) ∧ W.cell? ⟨b, o + k * 2, none⟩ = some (.int .i64 q.1) ∧ W.cell? ⟨b, o + k * 2 + 1, none⟩ = some (.int .i64 q.2) ∧ Below w.heap.size w W) (first | exact ⟨ax, ay, bx, by_, cx, cy, hb⟩ | exact ⟨ax, ay, bx, by_, cx, cy, hb.drew⟩ | (refine ⟨?_, ?_, ?_, ?_, ?_, ?_, ?_⟩ <;> assumption))
                    (first | (go_at_call 89; refine (held6 w ⟨b, o + i * 2, none⟩ ⟨b, o + i * 2 + 1, none⟩ ⟨b, o + j * 2, none⟩ ⟨b, o + j * 2 + 1, none⟩ ⟨b, o + k * 2, none⟩ ⟨b, o + k * 2 + 1, none⟩ (.int .i64 a.1) (.int .i64 a.2) (.int .i64 p.1) (.int .i64 p.2) (.int .i64 q.1) (.int .i64 q.2) (HT.out _) ?_).mono ?_; (first | exact ⟨ax, ay, bx, by_, cx, cy, hb⟩ | exact ⟨ax, ay, bx, by_, cx, cy, hb.drew⟩ | (refine ⟨?_, ?_, ?_, ?_, ?_, ?_, ?_⟩ <;> assumption)); rintro e w' ⟨rfl, c1, c2, c3, c4, c5, c6, c7⟩))
                  go_wp2
                  exact ⟨⟨i + 1, by omega, by go_num, HM, by assumption⟩, by simp only [intOf]; omega⟩
              · obtain rfl : i = j := by omega
                have HM := Lib.hid (noLine_inner HN.out)
                go_wp2
                exact ⟨⟨i + 1, by omega, by go_num, HM, hb⟩, by simp only [intOf]; omega⟩
          · obtain rfl : j = k := by omega
            have HM := Lib.hid (noLine_outer HN.out)
            go_wp2
            exact ⟨⟨j + 1, by omega, by go_num, HS, HM, hb⟩, by simp only [intOf]; omega⟩
    · obtain rfl : k = xs.length := by omega
      have HL := Lib.hid (okB_yes ⟨⟨hx, hx7⟩, HF.out.all, noLine_all HN.out⟩)
      go_wp2
      go_ret
      exact ⟨ret_bool HL.out.symm, hb⟩
theorem specAre (b o c : Nat) (xs : List P2) (hx : xs.length ≤ 9223372036854775807) (w : World) (hc : AtP w b o xs) (hbw : b < w.heap.size) :
    Calls Tryz.prog 88 #[.slice (some ⟨b, o, none⟩) xs.length c] w fun e w' => e = .returned (.bool (okB xs)) ∧ Below w.heap.size w w' := by
  by_cases hl : 3 ≤ xs.length ∧ xs.length ≤ 7
  · exact specAre_any b o c xs hl.1 hl.2 w hc hbw
  · rw [okB_len hl]; exact (specAre_short _ _ _ hl hx w).mono fun _ _ ⟨he, hw⟩ => ⟨he, by subst hw; exact Below.refl _ _⟩
end Go.Proofs.YtpjjohbahhaeoaaGreatDoor.Pt
/- A slice of points that came in, empty or not: its copy, its length. -/
namespace Go.Proofs.YtpjjohbahhaeoaaGreatDoor.Pt
open Go.RowKit
/-- Where the points of a slice that came in lie. -/
def Src (w : World) (a : Option Addr) (c : Nat) (xs : List P2) : Prop := xs.length = 0 ∨ ∃ b o, a = some ⟨b, o, none⟩ ∧ AtP w b o xs ∧ b < w.heap.size ∧ xs.length ≤ c
theorem Src.on {w w' : World} {a : Option Addr} {c : Nat} {xs : List P2} (h : Src w a c xs) (hb : Below w.heap.size w w') : Src w' a c xs := by
  rcases h with h | ⟨b, o, h1, h2, h3, h4⟩
  · exact .inl h
  · exact .inr ⟨b, o, h1, h2.on hb h3, Nat.lt_of_lt_of_le h3 hb.size, h4⟩
theorem szN_neg {left : Int} {n : Nat} (h : left < n) : szN left n = -1 := by unfold szN; rw [if_pos (by omega)]
theorem szN_pos {left : Int} {n : Nat} (h : (n : Int) ≤ left) : szN left n = left - n := by unfold szN; rw [if_neg (by omega)]
/-- Block b is a row of the points xs. -/
def RowP (w : World) (b : Nat) (xs : List P2) : Prop := w.rowIs b 106 (xs.length * 2) (ptCell xs)
theorem RowP.at {w : World} {b : Nat} {xs : List P2} (h : RowP w b xs) : AtP w b 0 xs := AtP.of_row h
theorem RowP.lt {w : World} {b : Nat} {xs : List P2} (h : RowP w b xs) : b < w.heap.size := World.rowIs.lt h
theorem RowP.on {w w' : World} {b : Nat} {xs : List P2} (h : RowP w b xs) (hb : Below w.heap.size w w') : RowP w' b xs := row_on h hb h.lt
theorem rowP_drewN {w : World} {b : Nat} {xs : List P2} (h : RowP w b xs) (n : Nat) : RowP (w.drewN n) b xs := h
theorem below_drewN {B : Nat} {a w : World} (h : Below B a w) (n : Nat) : Below B a (w.drewN n) := ⟨h.os, h.tape, h.output, h.size, h.block⟩
end Go.Proofs.YtpjjohbahhaeoaaGreatDoor.Pt
/- SignsOf, as impl and spec answer it. -/
namespace Go.Proofs.YtpjjohbahhaeoaaGreatDoor.Sg
open Go.RowKit Pt
/-- The turn of three of these points, and twice their area. -/
def turnF (xs : List P2) (i j k : Nat) : Int := turnB (xs.getD i (0, 0)).1 (xs.getD i (0, 0)).2 (xs.getD j (0, 0)).1 (xs.getD j (0, 0)).2 (xs.getD k (0, 0)).1 (xs.getD k (0, 0)).2
def areaF (xs : List P2) (i j k : Nat) : Int := crs (xs.getD i (0, 0)).1 (xs.getD i (0, 0)).2 (xs.getD j (0, 0)).1 (xs.getD j (0, 0)).2 (xs.getD k (0, 0)).1 (xs.getD k (0, 0)).2
theorem getD_p {xs : List P2} {i : Nat} (h : i < xs.length) : xs.getD i (0, 0) = xs[i] := by rw [List.getD_eq_getElem?_getD, List.getElem?_eq_getElem h]; rfl
theorem byteOf_sgn (x : Int) : byteOf (sgn x) = byteOf x := by
  unfold byteOf sgn
  by_cases h : 0 < x
  · simp [h]
  · by_cases h2 : x < 0
    · simp [h, h2]
    · simp [h, h2]
theorem text3_bytes {n : Nat} (h7 : n ≤ 7) {f g : Nat → Nat → Nat → Int} (h : ∀ i j k, i < j → j < k → k < n → byteOf (f i j k) = byteOf (g i j k)) : text3 n f = text3 n g := by
  unfold text3
  refine List.map_congr_left fun t ht => ?_
  obtain ⟨h1, h2, h3⟩ := threes_mem h7 ht
  exact h _ _ _ h1 h2 h3
theorem text_points {xs : List P2} (h : Pt.okB xs = true) : text3 xs.length (areaF xs) = text3 xs.length (turnF xs) := by
  obtain ⟨⟨-, h7⟩, hfit, -⟩ := okB_ok h
  refine text3_bytes h7 fun i j k h1 h2 h3 => ?_
  have f : ∀ {i : Nat} (hi : i < xs.length), fitB (xs.getD i (0, 0)).1 (xs.getD i (0, 0)).2 1000 = true := fun {i} hi => by
    rw [getD_p hi]
    exact fit_mono (hfit _ (List.getElem_mem hi)) (by omega)
  unfold turnF turnB
  rw [byteOf_sgn, areaB_yes (f (by omega)) (f (by omega)) (f h3)]
  rfl
/-- What SignsOf answers. -/
noncomputable def ptsV (xs : List P2) : Value := if Pt.okB xs = true then .tuple #[sg xs.length ⟨(text3 xs.length (turnF xs)).toArray⟩, .bool true] else .tuple #[sg 0 ⟨#[]⟩, .bool false]
theorem ptsV_no {xs : List P2} (h : Pt.okB xs = false) : ptsV xs = .tuple #[sg 0 ⟨#[]⟩, .bool false] := by unfold ptsV; rw [h]; rfl
theorem ptsV_yes {xs : List P2} (h : Pt.okB xs = true) : ptsV xs = .tuple #[sg xs.length ⟨(text3 xs.length (turnF xs)).toArray⟩, .bool true] := by unfold ptsV; rw [if_pos h]
end Go.Proofs.YtpjjohbahhaeoaaGreatDoor.Sg
/- SignsOf, as spec answers it; the law. -/
namespace Go.Proofs.YtpjjohbahhaeoaaGreatDoor.Sg
open Go.RowKit Pt
/-- Beside a call that writes nothing of what was there nine facts stand. -/
theorem held9 (wr : World) (Bo : Nat) (X : ByteArray) (a1 a2 a3 a4 a5 a6 : Addr) (v1 v2 v3 v4 v5 v6 : Value) {f : FuncId} {args : Array Value} {W : World} {v : Value} (h : Calls Tryz.prog f args W fun e w' => e = .returned v ∧ Below W.heap.size W w')
    (hS : W.cell? ⟨Bo, 1, none⟩ = some (.string X) ∧ W.frozen? ⟨Bo, 1, none⟩ = false ∧ W.cell? a1 = some v1 ∧ W.cell? a2 = some v2 ∧ W.cell? a3 = some v3 ∧ W.cell? a4 = some v4 ∧ W.cell? a5 = some v5 ∧ W.cell? a6 = some v6 ∧ Below wr.heap.size wr W) :
    Calls Tryz.prog f args W fun e w' => e = .returned v ∧ w'.cell? ⟨Bo, 1, none⟩ = some (.string X) ∧ w'.frozen? ⟨Bo, 1, none⟩ = false ∧ w'.cell? a1 = some v1 ∧ w'.cell? a2 = some v2 ∧ w'.cell? a3 = some v3 ∧ w'.cell? a4 = some v4 ∧ w'.cell? a5 = some v5 ∧ w'.cell? a6 = some v6 ∧ Below wr.heap.size wr w' := by
  obtain ⟨c0, f0, c1, c2, c3, c4, c5, c6, hB⟩ := hS
  have hl : Bo < W.heap.size := Kit.cell_lt c0
  exact h.mono fun _ _ ⟨he, hb⟩ => ⟨he, by rw [hb.cell hl]; exact c0, by rw [hb.frozen hl]; exact f0, by rw [hb.cell (Kit.cell_lt c1)]; exact c1, by rw [hb.cell (Kit.cell_lt c2)]; exact c2, by rw [hb.cell (Kit.cell_lt c3)]; exact c3, by rw [hb.cell (Kit.cell_lt c4)]; exact c4, by rw [hb.cell (Kit.cell_lt c5)]; exact c5, by rw [hb.cell (Kit.cell_lt c6)]; exact c6, hB.trans (hb.mono hB.size)⟩
set_option maxHeartbeats 800000 in
set_option maxRecDepth 100000 in
theorem specPts_no (b c : Nat) (xs : List P2) (hx : xs.length ≤ 1048576) (h : Pt.okB xs = false) (w : World) (hr : RowP w b xs) :
    Calls Tryz.prog 71 #[.slice (some ⟨b, 0, none⟩) xs.length c] w fun e w' => e = .returned (ptsV xs) ∧ Below w.heap.size w w' := by
  have HR := Lib.hid (ptsV_no h)
  have HM := Lib.hid (resC_made w 30)
  have HA := Lib.hid (fun W (hW : Below w.heap.size w W) => specAre b 0 c xs (by omega) W (hr.on hW).at (hr.on hW).lt)
  rw [h] at HA
  clear h hr
  go_enter Tryz.func71, Tryz.ntmps71
  go_wp2_with fail
  refine (HA.out _ HM.out.2.2).mono ?_
  rintro e w1 ⟨rfl, hb1⟩
  obtain ⟨⟨e0, e1⟩, ⟨z0, z1⟩, B⟩ := HM.out.on hb1
  obtain ⟨g0, g1⟩ := ret_sg e0 e1 (.int .i64 0) (.string ⟨#[]⟩)
  clear hb1
  go_wp2
  exact bodyPost_ret (v := .tuple #[.agg #[.int .i64 0, .string ⟨#[]⟩], .bool false]) (by simp [results, Tryz.results71, go_sem, g0, g1]) rfl ⟨ret_v HR.out.symm, (B.setCell (by simp) _).setCell (by simp) _⟩
set_option maxHeartbeats 3200000 in
set_option maxRecDepth 100000 in
theorem specPts_yes (b c : Nat) (xs : List P2) (h : Pt.okB xs = true) (w : World) (hr : RowP w b xs) :
    Calls Tryz.prog 71 #[.slice (some ⟨b, 0, none⟩) xs.length c] w fun e w' => e = .returned (ptsV xs) ∧ Below w.heap.size w w' := by
  have HR : Hid (ptsV xs = .tuple #[sg xs.length ⟨(text3 xs.length (areaF xs)).toArray⟩, .bool true]) := Lib.hid (by rw [text_points h]; exact ptsV_yes h)
  obtain ⟨⟨h3, hm7⟩, hfit, -⟩ := okB_ok h
  have HM := Lib.hid (resC_made w 30)
  have HA := Lib.hid (fun W (hW : Below w.heap.size w W) => specAre b 0 c xs (by omega) W (hr.on hW).at (hr.on hW).lt)
  rw [h] at HA
  have HL : Hid (∀ (i j k : Nat) (hi : i < xs.length) (hj : j < xs.length) (hk : k < xs.length) (W : World), Calls Tryz.prog 89 #[.agg #[.int .i64 xs[i].1, .int .i64 xs[i].2], .agg #[.int .i64 xs[j].1, .int .i64 xs[j].2], .agg #[.int .i64 xs[k].1, .int .i64 xs[k].2]] W fun e w' => e = .returned (.int .i64 (areaF xs i j k)) ∧ Below W.heap.size W w') := Lib.hid (fun i j k hi hj hk W => by
    have f : ∀ {i : Nat} (hi : i < xs.length), fitB xs[i].1 xs[i].2 1000 = true := fun {i} hi => fit_mono (hfit _ (List.getElem_mem hi)) (by omega)
    unfold areaF
    rw [getD_p hi, getD_p hj, getD_p hk]
    exact l2Area_any _ _ _ _ _ _ (f hi) (f hj) (f hk) W)
  have HRR := Lib.hid hr
  generalize areaF xs = F at HR HL
  clear h hr hfit
  go_enter Tryz.func71, Tryz.ntmps71
  go_wp2_with fail
  refine (HA.out _ HM.out.2.2).mono ?_
  rintro e w1 ⟨rfl, hb1⟩
  have R1 := Lib.hid (HM.out.on hb1)
  have hrl := R1.out.lt
  have P1 := Lib.hid (HRR.out.on R1.out.2.2)
  have hbw1 : b < w1.heap.size := P1.out.lt
  clear hb1
  go_wp2
  have O0 := Lib.hid (outC_made w1 xs.length ⟨#[]⟩ 30)
  have P0 : Hid (PickSt w1.heap.size w1 xs.length (textTo xs.length F 0 (0 + 1) (0 + 2)) (w1.alloc (.cells #[.int .i64 xs.length, .string ⟨#[]⟩] 30))) := Lib.hid ⟨by rw [textTo_zero hm7]; exact O0.out, (Below.refl w1.heap.size w1).alloc (Nat.le_refl _) _⟩
  clear O0
  go_loopw [5] (fun c wr => ∃ i : Nat, i ≤ xs.length ∧ c = .int .i64 i ∧ Hid (PickSt w1.heap.size w1 xs.length (textTo xs.length F i (i + 1) (i + 2)) wr)) (fun c _ => xs.length - (intOf c).toNat)
  case atStart => exact ⟨0, Nat.zero_le _, rfl, P0⟩
  case round =>
    obtain ⟨i, hin, rfl, HP⟩ := hrel
    by_cases hlt : i < xs.length
    · go_wp2
      go_loopw [6] (fun c wr => ∃ j : Nat, i < j ∧ j ≤ xs.length ∧ c = .int .i64 j ∧ Hid (PickSt w1.heap.size w1 xs.length (textTo xs.length F i j (j + 1)) wr)) (fun c _ => xs.length - (intOf c).toNat)
      case atStart => exact ⟨i + 1, by omega, by omega, by go_num, HP⟩
      case round =>
        obtain ⟨j, hij, hjn, rfl, HP⟩ := hrel
        by_cases hltj : j < xs.length
        · go_wp2
          go_loopw [7] (fun c wr => ∃ k : Nat, j < k ∧ k ≤ xs.length ∧ c = .int .i64 k ∧ Hid (PickSt w1.heap.size w1 xs.length (textTo xs.length F i j k) wr)) (fun c _ => xs.length - (intOf c).toNat)
          case atStart => exact ⟨j + 1, by omega, by omega, by go_num, HP⟩
          case round =>
            obtain ⟨k, hjk, hkn, rfl, HP⟩ := hrel
            by_cases hltk : k < xs.length
            · obtain ⟨⟨⟨o0, o1⟩, ⟨f0, f1⟩⟩, hbb⟩ := HP.out
              have hEt := P1.out.at.on hbb hbw1
              obtain ⟨x0, x1⟩ := hEt.get i hlt
              obtain ⟨y0, y1⟩ := hEt.get j hltj
              obtain ⟨z0, z1⟩ := hEt.get k hltk
              simp only [Nat.zero_add] at x0 x1 y0 y1 z0 z1
              have HC := Lib.hid (fun W => HL.out i j k hlt hltj hltk W)
              have hXl := textTo_le hm7 F i j k
              have HST : Hid (textTo xs.length F i j (k + 1) = textTo xs.length F i j k ++ [byteOf (F i j k)]) := Lib.hid (textTo_step hm7 F hij hjk hltk)
              generalize textTo xs.length F i j k = L at hXl HP HST o1
              generalize F i j k = v at HC HST
              have hr1 : ∀ W (x : UInt8), (Op.stringOp .add ⟨L.toArray⟩ ⟨#[x]⟩).run Tryz.prog W = .ok (.string (⟨L.toArray⟩ ++ ⟨#[x]⟩)) W := fun W x => run_string_add_sum W _ _ (by show L.toArray.size + 1 ≤ _; simp; omega)
              generalize xs[i] = p at x0 x1 HC
              generalize xs[j] = q at y0 y1 HC
              generalize xs[k] = r at z0 z1 HC
              clear hEt hbb o0 f0
              go_wp2
              have hS0 := (⟨o1, f1, x0, x1, y0, y1, z0, z1, (Below.refl wr.heap.size wr).drew⟩ : wr.drew.cell? ⟨w1.heap.size, 1, none⟩ = some (.string ⟨L.toArray⟩) ∧ wr.drew.frozen? ⟨w1.heap.size, 1, none⟩ = false ∧ wr.drew.cell? ⟨b, i * 2, none⟩ = some (.int .i64 p.1) ∧ wr.drew.cell? ⟨b, i * 2 + 1, none⟩ = some (.int .i64 p.2) ∧ wr.drew.cell? ⟨b, j * 2, none⟩ = some (.int .i64 q.1) ∧ wr.drew.cell? ⟨b, j * 2 + 1, none⟩ = some (.int .i64 q.2) ∧ wr.drew.cell? ⟨b, k * 2, none⟩ = some (.int .i64 r.1) ∧ wr.drew.cell? ⟨b, k * 2 + 1, none⟩ = some (.int .i64 r.2) ∧ Below wr.heap.size wr wr.drew)
              refine Last.wp_region_last' (S := fun W => W.cell? ⟨w1.heap.size, 1, none⟩ = some (.string ⟨L.toArray⟩) ∧ W.frozen? ⟨w1.heap.size, 1, none⟩ = false ∧ W.cell? ⟨b, i * 2, none⟩ = some (.int .i64 p.1) ∧ W.cell? ⟨b, i * 2 + 1, none⟩ = some (.int .i64 p.2) ∧ W.cell? ⟨b, j * 2, none⟩ = some (.int .i64 q.1) ∧ W.cell? ⟨b, j * 2 + 1, none⟩ = some (.int .i64 q.2) ∧ W.cell? ⟨b, k * 2, none⟩ = some (.int .i64 r.1) ∧ W.cell? ⟨b, k * 2 + 1, none⟩ = some (.int .i64 r.2) ∧ Below wr.heap.size wr W) 18 _ rfl rfl (by kernel_rfl) (by kernel_rfl) hS0 (fun hHeld => ?_)
              clear hS0 o1 f1 x0 x1 y0 y1 z0 z1
              simp only [List.take_succ_cons, List.take_zero]
              (refine wpAnyH_take (i := 0) (v := ?_) rfl (by kernel_rfl) (by kernel_rfl) (by kernel_rfl) (fun _ _ _ h => h) (Or.inl ⟨by rfl, ?_⟩) (by assumption) ?_; rotate_left; (focus (intro w hSw; (try dsimp only at hSw); go_simp; (try with_reducible rfl))); (simp only [Act.put, List.setIfInBounds_toArray]))
              (refine wpAnyH_take (i := 1) (v := ?_) rfl (by kernel_rfl) (by kernel_rfl) (by kernel_rfl) (fun _ _ _ h => h) (Or.inl ⟨by rfl, ?_⟩) (by assumption) ?_; rotate_left; (focus (intro w hSw; (try dsimp only at hSw); go_simp; (try with_reducible rfl))); (simp only [Act.put]))
              (refine wpAnyH_take (i := 2) (v := ?_) rfl (by kernel_rfl) (by kernel_rfl) (by kernel_rfl) (fun _ _ _ h => h) (Or.inl ⟨by rfl, ?_⟩) (by assumption) ?_; rotate_left; (focus (intro w hSw; (try dsimp only at hSw); go_simp; (try with_reducible rfl))); (simp only [Act.put]))
              (refine wpAnyH_take (i := 3) (v := ?_) rfl (by kernel_rfl) (by kernel_rfl) (by kernel_rfl) (fun _ _ _ h => h) (Or.inl ⟨by rfl, ?_⟩) (by assumption) ?_; rotate_left; (focus (intro w hSw; (try dsimp only at hSw); go_simp; (try with_reducible rfl))); (simp only [Act.put]))
              (refine wpAnyH_take (i := 4) (v := ?_) rfl (by kernel_rfl) (by kernel_rfl) (by kernel_rfl) (fun _ _ _ h => h) (Or.inl ⟨by rfl, ?_⟩) (by assumption) ?_; rotate_left; (focus (intro w hSw; (try dsimp only at hSw); go_simp; (try with_reducible rfl))); (simp only [Act.put]))
              (refine wpAnyH_take (i := 5) (v := ?_) rfl (by kernel_rfl) (by kernel_rfl) (by kernel_rfl) (fun _ _ _ h => h) (Or.inl ⟨by rfl, ?_⟩) (by assumption) ?_; rotate_left; (focus (intro w hSw; (try dsimp only at hSw); go_simp; (try with_reducible rfl))); (simp only [Act.put]))
              (refine wpAnyH_take (i := 6) (v := ?_) rfl (by kernel_rfl) (by kernel_rfl) (by kernel_rfl) (fun _ _ _ h => h) (Or.inl ⟨by rfl, ?_⟩) (by assumption) ?_; rotate_left; (focus (intro w hSw; (try dsimp only at hSw); go_simp; (try with_reducible rfl))); (simp only [Act.put]))
              (refine wpAnyH_take (i := 7) (v := ?_) rfl (by kernel_rfl) (by kernel_rfl) (by kernel_rfl) (fun _ _ _ h => h) (Or.inl ⟨by rfl, ?_⟩) (by assumption) ?_; rotate_left; (focus (intro w hSw; (try dsimp only at hSw); go_simp; (try with_reducible rfl))); (simp only [Act.put]))
              (refine wpAnyH_take (i := 8) (v := ?_) rfl (by kernel_rfl) (by kernel_rfl) (by kernel_rfl) (fun _ _ _ h => h) (Or.inl ⟨by rfl, ?_⟩) (by assumption) ?_; rotate_left; (focus (intro w hSw; (try dsimp only at hSw); go_simp; (try with_reducible rfl))); (simp only [Act.put]))
              (refine wpAnyH_take (i := 9) (v := ?_) rfl (by kernel_rfl) (by kernel_rfl) (by kernel_rfl) (fun _ _ _ h => h) (Or.inl ⟨by rfl, ?_⟩) (by assumption) ?_; rotate_left; (focus (intro w hSw; (try dsimp only at hSw); go_simp; (try with_reducible rfl))); (simp only [Act.put]))
              (refine wpAnyH_take (i := 10) (v := ?_) rfl (by kernel_rfl) (by kernel_rfl) (by kernel_rfl) (fun _ _ _ h => h) (Or.inl ⟨by rfl, ?_⟩) (by assumption) ?_; rotate_left; (focus (intro w hSw; (try dsimp only at hSw); go_simp; (try with_reducible rfl))); (simp only [Act.put]))
              (refine wpAnyH_take (i := 11) (v := ?_) rfl (by kernel_rfl) (by kernel_rfl) (by kernel_rfl) (fun _ _ _ h => h) (Or.inl ⟨by rfl, ?_⟩) (by assumption) ?_; rotate_left; (focus (intro w hSw; (try dsimp only at hSw); go_simp; (try with_reducible rfl))); (simp only [Act.put]))
              (refine wpAnyH_take (i := 12) (v := ?_) rfl (by kernel_rfl) (by kernel_rfl) (by kernel_rfl) (fun _ _ _ h => h) (Or.inl ⟨by rfl, ?_⟩) (by assumption) ?_; rotate_left; (focus (intro w hSw; (try dsimp only at hSw); go_simp; (try with_reducible rfl))); (simp only [Act.put]))
              (refine wpAnyH_take (i := 13) (v := ?_) rfl (by kernel_rfl) (by kernel_rfl) (by kernel_rfl) (fun _ _ _ h => h) (Or.inl ⟨by rfl, ?_⟩) (by assumption) ?_; rotate_left; (focus (intro w hSw; (try dsimp only at hSw); go_simp; (try with_reducible rfl))); (simp only [Act.put]))
              refine wpAnyH_ready (rs := [14]) (by kernel_rfl) (by simp) ?_
              refine AllReadyH.cons rfl (fun K hK => ?_) AllReadyH.nil
              go_simp
              refine (held9 wr w1.heap.size ⟨L.toArray⟩ ⟨b, i * 2, none⟩ ⟨b, i * 2 + 1, none⟩ ⟨b, j * 2, none⟩ ⟨b, j * 2 + 1, none⟩ ⟨b, k * 2, none⟩ ⟨b, k * 2 + 1, none⟩ (.int .i64 p.1) (.int .i64 p.2) (.int .i64 q.1) (.int .i64 q.2) (.int .i64 r.1) (.int .i64 r.2) (HC.out _) hHeld).mono ?_
              clear hHeld
              rintro e w' ⟨rfl, hc⟩
              refine hK.out _ _ hc (fun hHeld => ?_)
              clear hK K
              try simp only [Act.put, List.setIfInBounds_toArray, List.set_cons_zero, List.set_cons_succ]
              refine wpAnyH_ready (rs := [15]) (by kernel_rfl) (by simp) ?_
              refine AllReadyH.cons rfl (fun K hK => ?_) AllReadyH.nil
              go_simp
              refine (l3Byte_any _ _).mono ?_
              rintro e w2 ⟨rfl, rfl⟩
              refine hK.out _ _ hHeld (fun hHeld => ?_)
              clear hK K
              try simp only [Act.put, List.setIfInBounds_toArray, List.set_cons_zero, List.set_cons_succ]
              (refine wpAnyH_take (i := 16) (v := ?_) rfl (by kernel_rfl) (by kernel_rfl) (by kernel_rfl) (fun _ _ _ h => h) (Or.inl ⟨by rfl, ?_⟩) (by assumption) ?_; rotate_left; (focus (intro w hSw; (try dsimp only at hSw); go_simp; (try with_reducible rfl))); (simp only [Act.put, List.setIfInBounds_toArray]))
              (refine wpAnyH_take (i := 17) (v := ?_) rfl (by kernel_rfl) (by kernel_rfl) (by kernel_rfl) (fun _ _ _ h => h) (Or.inl ⟨by rfl, ?_⟩) (by assumption) ?_; rotate_left; (focus (intro w hSw; (try dsimp only at hSw); go_simp; (try with_reducible rfl))); (simp only [Act.put]))
              refine wpAnyH_done (by kernel_rfl) ?_ _
              obtain ⟨o1, f1, -, -, -, -, -, -, hbw2⟩ := hHeld
              have HP2 := Lib.hid (HP.out.store hbw2 (byteOf v))
              rw [← HST.out] at HP2
              clear hc
              change wpList _ _ _ [_] _ _
              go_wp2
              exact ⟨⟨k + 1, by omega, by omega, by go_num, HP2⟩, by simp only [intOf]; omega⟩
            · have HP2 : Hid (PickSt w1.heap.size w1 xs.length (textTo xs.length F i (j + 1) (j + 1 + 1)) wr) := Lib.hid (by
                have := HP.out
                rw [show k = xs.length by omega, textTo_inner hm7 F hij hltj] at this
                exact this)
              go_wp2
              exact ⟨⟨j + 1, by omega, by omega, by go_num, HP2⟩, by simp only [intOf]; omega⟩
        · have HP2 : Hid (PickSt w1.heap.size w1 xs.length (textTo xs.length F (i + 1) (i + 1 + 1) (i + 1 + 2)) wr) := Lib.hid (by
            have := HP.out
            rw [show j = xs.length by omega, textTo_mid hm7 F hlt] at this
            exact this)
          go_wp2
          exact ⟨⟨i + 1, by omega, by go_num, HP2⟩, by simp only [intOf]; omega⟩
    · have HP2 : Hid (PickSt w1.heap.size w1 xs.length (text3 xs.length F) wr) := Lib.hid (by
        have := HP.out
        rw [show i = xs.length by omega, textTo_end hm7 F] at this
        exact this)
      obtain ⟨⟨⟨o0, o1⟩, -⟩, hbb⟩ := HP2.out
      obtain ⟨⟨e0, e1⟩, ⟨z0, z1⟩, B⟩ := R1.out.on' hbb hrl (Nat.le_refl _)
      obtain ⟨k0, k1⟩ := ret_sg e0 e1 (.int .i64 xs.length) (.string ⟨(text3 xs.length F).toArray⟩)
      generalize (text3 xs.length F).toArray = T at o1 k0 k1 HR
      clear hbb
      go_wp2
      exact bodyPost_ret (v := .tuple #[.agg #[.int .i64 xs.length, .string ⟨T⟩], .bool true]) (by simp [results, Tryz.results71, go_sem, k0, k1]) rfl ⟨ret_v HR.out.symm, (B.setCell (by simp) _).setCell (by simp) _⟩
end Go.Proofs.YtpjjohbahhaeoaaGreatDoor.Sg
/- A slice of points of a call's own, empty or not: asked, marked, asked again. -/
namespace Go.Proofs.YtpjjohbahhaeoaaGreatDoor.Pt
open Go.RowKit
/-- The first m cells of block b hold f; none is frozen. -/
structure Cells (w : World) (b m : Nat) (f : Nat → Value) : Prop where
  cell : ∀ j, j < m → w.cell? ⟨b, j, none⟩ = some (f j)
  frozen : ∀ j, w.frozen? ⟨b, j, none⟩ = false
  lt : b < w.heap.size
theorem Cells.congr {w : World} {b m : Nat} {f g : Nat → Value} (h : Cells w b m f) (e : ∀ i, i < m → f i = g i) : Cells w b m g := ⟨fun j hj => by rw [h.cell j hj, e j hj], h.frozen, h.lt⟩
theorem Cells.block {w w' : World} {b m : Nat} {f : Nat → Value} (h : Cells w b m f) (e : w'.heap[b]? = w.heap[b]?) (hs : w.heap.size ≤ w'.heap.size) : Cells w' b m f :=
  ⟨fun j hj => by rw [World.cell?_of_block (a := ⟨b, j, none⟩) e]; exact h.cell j hj, fun j => by rw [World.frozen?_of_block (a := ⟨b, j, none⟩) e]; exact h.frozen j, Nat.lt_of_lt_of_le h.lt hs⟩
theorem Cells.on {w w' : World} {b m : Nat} {f : Nat → Value} (h : Cells w b m f) (hb : Below w.heap.size w w') : Cells w' b m f := h.block (hb.block b h.lt) hb.size
theorem Cells.set {w : World} {b m : Nat} {f : Nat → Value} (h : Cells w b m f) (i : Nat) (hi : i < m) (v : Value) : Cells (w.setCell ⟨b, i, none⟩ v) b m (fun j => if j = i then v else f j) :=
  ⟨fun j hj => by
    by_cases e : j = i
    · subst e
      rw [if_pos rfl]
      exact World.cell?_setCell_same w ⟨b, j, none⟩ v (h.cell j hj)
    · rw [if_neg e, World.cell?_setCell_other w _ _ v (fun he => e (by injection he with _ h2; exact h2.symm))]
      exact h.cell j hj, fun j => by rw [World.frozen?_setCell]; exact h.frozen j, by simpa [World.setCell] using h.lt⟩
theorem Cells.of_row {w : World} {b m : Nat} {t : TypeId} {f : Nat → Value} (h : w.rowIs b t m f) : Cells w b m f := ⟨fun _ hj => h.cell hj, h.frozen, h.lt⟩
theorem Cells.atP {w : World} {b : Nat} {xs : List P2} (h : Cells w b (xs.length * 2) (ptCell xs)) : AtP w b 0 xs := fun j x hx => by
  obtain ⟨hj, rfl⟩ := List.getElem?_eq_some_iff.1 hx
  have h1 := h.cell (j * 2) (by omega)
  have h2 := h.cell (j * 2 + 1) (by omega)
  rw [ptCell_even xs j hj] at h1
  rw [ptCell_odd xs j hj] at h2
  exact ⟨by simpa using h1, by simpa using h2⟩
/-- The cells of a list of points. -/
def ptCells : List P2 → List Value
  | [] => []
  | p :: r => .int .i64 p.1 :: .int .i64 p.2 :: ptCells r
theorem ptCells_length : ∀ xs : List P2, (ptCells xs).length = xs.length * 2
  | [] => rfl
  | p :: r => by simp [ptCells, ptCells_length r]; omega
theorem ptCells_append : ∀ xs ys : List P2, ptCells (xs ++ ys) = ptCells xs ++ ptCells ys
  | [], ys => rfl
  | p :: r, ys => by simp [ptCells, ptCells_append r ys]
theorem ptCells_get : ∀ (xs : List P2) (j : Nat), j < xs.length * 2 → (ptCells xs)[j]? = some (ptCell xs j)
  | [], j, h => by simp at h
  | p :: r, 0, _ => rfl
  | p :: r, 1, _ => rfl
  | p :: r, j + 2, h => by
    have := ptCells_get r j (by simp at h; omega)
    simp only [ptCells, List.getElem?_cons_succ, this]
    unfold ptCell
    rw [show (j + 2) % 2 = j % 2 by omega, show (j + 2) / 2 = j / 2 + 1 by omega]
    simp
/-- A value that owns just these points. -/
def Owns (w : World) (B : Nat) (v : Value) (xs : List P2) : Prop := w.ownsRow B 106 2 v xs.length (ptCells xs)

/-- A slice that is empty, or whose cells lie in a block from lo on and before hi. -/
def New (w : World) (lo hi : Nat) (a : Option Addr) (n : Nat) (f : Nat → Value) : Prop := n = 0 ∨ ∃ b, a = some ⟨b, 0, none⟩ ∧ lo ≤ b ∧ b < hi ∧ Cells w b (n * 2) f
theorem New.on {w w' : World} {lo hi n : Nat} {a : Option Addr} {f : Nat → Value} (h : New w lo hi a n f) (hb : Below w.heap.size w w') : New w' lo hi a n f := by
  rcases h with h | ⟨b, h1, h2, h3, h4⟩
  · exact .inl h
  · exact .inr ⟨b, h1, h2, h3, h4.on hb⟩
/-- Below B and from hi on nothing has changed; the heap has grown. -/
structure Out (lo hi : Nat) (w w' : World) : Prop where
  os : w'.os = w.os
  tape : w'.tape = w.tape
  output : w'.output = w.output
  size : w.heap.size ≤ w'.heap.size
  block : ∀ i, i < w.heap.size → ¬ (lo ≤ i ∧ i < hi) → w'.heap[i]? = w.heap[i]?
theorem Out.refl (lo hi : Nat) (w : World) : Out lo hi w w := ⟨rfl, rfl, rfl, Nat.le_refl _, fun _ _ _ => rfl⟩
theorem Out.below {lo hi B : Nat} {w w' : World} (h : Out lo hi w w') (hB : B ≤ lo) (hBw : B ≤ w.heap.size) : Below B w w' := ⟨h.os, h.tape, h.output, h.size, fun i hi => h.block i (by omega) (by omega)⟩
theorem New.far {w w' : World} {lo hi lo' hi' n : Nat} {a : Option Addr} {f : Nat → Value} (h : New w lo hi a n f) (ho : Out lo' hi' w w') (hd : hi ≤ lo' ∨ hi' ≤ lo) : New w' lo hi a n f := by
  rcases h with h | ⟨b, h1, h2, h3, h4⟩
  · exact .inl h
  · exact .inr ⟨b, h1, h2, h3, h4.block (ho.block b h4.lt (by omega)) ho.size⟩
theorem New.of_row {w : World} {b : Nat} {xs : List P2} (h : RowP w b xs) : New w b (b + 1) (some ⟨b, 0, none⟩) xs.length (ptCell xs) := .inr ⟨b, rfl, Nat.le_refl _, by omega, Cells.of_row h⟩
theorem New.of_own {w : World} {B : Nat} {v : Value} {xs : List P2} (h : Owns w B v xs) : ∃ a c, v = .slice a xs.length c ∧ New w B w.heap.size a xs.length (ptCell xs) := by
  obtain ⟨-, ⟨rfl, h1⟩ | ⟨g, cap, cur, rfl, hB, hh, hr⟩⟩ := id h
  · exact ⟨none, 0, by rw [h1], .inl h1⟩
  · have hlt := (World.ownsRow.lt h g rfl).2
    refine ⟨some ⟨g, 0, none⟩, cap, rfl, .inr ⟨g, rfl, hB, hlt, fun j hj => ?_, fun j => World.ownsRow.frozenAt h j, hlt⟩⟩
    rw [World.ownsRow.cellAt h j hj, ptCells_get xs j hj]

/-- Of the cells of a row: the first m bear the marks from k on. -/
def marked (k m : Nat) (f : Nat → Value) (j : Nat) : Value := if j < m then .int .i64 (k + j : Nat) else f j
theorem marked_step (k0 k : Nat) (f : Nat → Value) (n i : Nat) (_ : i < n) :
    (if i = k * 2 + 1 then Value.int .i64 ((k0 + k * 2 + 1 : Nat) : Int) else if i = k * 2 then Value.int .i64 ((k0 + k * 2 : Nat) : Int) else marked k0 (k * 2) f i) = marked k0 ((k + 1) * 2) f i := by
  unfold marked
  by_cases e1 : i = k * 2 + 1
  · subst e1; rw [if_pos rfl, if_pos (by omega), show k0 + k * 2 + 1 = k0 + (k * 2 + 1) by omega]
  · rw [if_neg e1]
    by_cases e : i = k * 2
    · subst e; rw [if_pos rfl, if_pos (by omega)]
    · rw [if_neg e]
      by_cases h2 : i < k * 2
      · rw [if_pos h2, if_pos (by omega)]
      · rw [if_neg h2, if_neg (by omega)]
theorem grown_set {w w' : World} {b : Nat} (h : w.grownBy w' (some b)) (j : Nat) (v : Value) : w.grownBy (w'.setCell ⟨b, j, none⟩ v) (some b) :=
  ⟨h.os, h.tape, h.output, by simpa [World.setCell] using h.size, fun i hi hn => (Below.heap_setCell w' ⟨b, j, none⟩ v i (fun e => hn (by rw [e]))).trans (h.block i hi hn)⟩

theorem ptCell_int (xs : List P2) (j : Nat) : ∃ x, ptCell xs j = .int .i64 x := ⟨_, rfl⟩
end Go.Proofs.YtpjjohbahhaeoaaGreatDoor.Pt
