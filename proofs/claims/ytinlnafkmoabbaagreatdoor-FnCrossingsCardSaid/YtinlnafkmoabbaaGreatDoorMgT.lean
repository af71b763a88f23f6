/- Several texts in one: PtOpen, PtList, PtEq, PtAre, PtArg, SgPts, SgPtsSpec, PtNew. -/
import Derived.Test.YtinlnafkmoabbaaGreatDoorProg
import Derived.Test.YtinlnafkmoabbaaGreatDoorMgP
import Derived.WalkKit
import Derived.ProofKit
import Derived.OpenShut
import Derived.Below
import Derived.Deep.Slices
import Derived.Deep.Fields
import Derived.ChangeSame
import Derived.Lib.SmallJoins
import Derived.Deep.OwnRows
import Derived.Deep.QuietTactic
import Derived.BigQuiet
import Derived.RegionTactic
import Derived.OwnWalk
import Derived.Laws.MakeOwn
import Derived.Laws.Entries
import Derived.Deep.RegionHeld3
import Derived.Test.YtinlnafkmoabbaaGreatDoorMgQ
import Derived.Laws.AppendOwn
import Derived.Laws.OwnMore
import Derived.Deep.AppendLies
/- A law's point, or slice of points, as an argument: opened to its numbers and cells. -/
namespace Go.Proofs.YtinlnafkmoabbaaGreatDoor.Pt
open Go.RowKit Go.ChangeShapes Go.WideShapes Go.Deep Go.Joins

/-- The cells from offset o of block b on hold the points xs. -/
def AtP (w : World) (b o : Nat) (xs : List P2) : Prop := ∀ (j : Nat) p, xs[j]? = some p → w.cell? ⟨b, o + j * 2, none⟩ = some (.int .i64 p.1) ∧ w.cell? ⟨b, o + j * 2 + 1, none⟩ = some (.int .i64 p.2)
section
variable {H : Type} {enc : TypeId × Value → H} {P : Program} {w : World} {base : Nat} {spare : Nat → Bool} {held : Bool}
end

end Go.Proofs.YtinlnafkmoabbaaGreatDoor.Pt
/- Slices of points: what the laws' helpers make of them. -/
namespace Go.Proofs.YtinlnafkmoabbaaGreatDoor.Pt
open Go.RowKit

theorem AtP.get {w : World} {b o : Nat} {xs : List P2} (h : AtP w b o xs) (k : Nat) (hk : k < xs.length) : w.cell? ⟨b, o + k * 2, none⟩ = some (.int .i64 xs[k].1) ∧ w.cell? ⟨b, o + k * 2 + 1, none⟩ = some (.int .i64 xs[k].2) := h k _ (List.getElem?_eq_getElem hk)
theorem AtP.on {w w' : World} {B b o : Nat} {xs : List P2} (h : AtP w b o xs) (hb : Below B w w') (hB : b < B) : AtP w' b o xs := fun j x hx => by rw [hb.cell hB, hb.cell hB]; exact h j x hx

/-- The cells of a row of points. -/
def ptCell (xs : List P2) (j : Nat) : Value := .int .i64 (if j % 2 = 0 then (xs.getD (j / 2) (0, 0)).1 else (xs.getD (j / 2) (0, 0)).2)
theorem ptCell_even (xs : List P2) (k : Nat) (h : k < xs.length) : ptCell xs (k * 2) = .int .i64 xs[k].1 := by
  unfold ptCell
  rw [if_pos (by omega), show k * 2 / 2 = k by omega, List.getD_eq_getElem?_getD, List.getElem?_eq_getElem h]; rfl
theorem ptCell_odd (xs : List P2) (k : Nat) (h : k < xs.length) : ptCell xs (k * 2 + 1) = .int .i64 xs[k].2 := by
  unfold ptCell
  rw [if_neg (by omega), show (k * 2 + 1) / 2 = k by omega, List.getD_eq_getElem?_getD, List.getElem?_eq_getElem h]; rfl
theorem AtP.of_row {w : World} {b : Nat} {t : TypeId} {xs : List P2} (h : w.rowIs b t (xs.length * 2) (ptCell xs)) : AtP w b 0 xs := fun j x hx => by
  obtain ⟨hj, rfl⟩ := List.getElem?_eq_some_iff.1 hx
  have h1 := h.cell (show j * 2 < xs.length * 2 by omega)
  have h2 := h.cell (show j * 2 + 1 < xs.length * 2 by omega)
  rw [ptCell_even xs j hj] at h1
  rw [ptCell_odd xs j hj] at h2
  exact ⟨by simpa using h1, by simpa using h2⟩
theorem row_on {w w' : World} {B b : Nat} {t : TypeId} {n : Nat} {f : Nat → Value} (h : w.rowIs b t n f) (hb : Below B w w') (hB : b < B) : w'.rowIs b t n f := h.of_block (hb.block b hB)

end Go.Proofs.YtinlnafkmoabbaaGreatDoor.Pt
/- eqPointS of two slices that read alike; markPointS and heldPointS. -/
namespace Go.Proofs.YtinlnafkmoabbaaGreatDoor.Pt
open Go.RowKit
theorem lt_of_cell {w : World} {a : Addr} {v : Value} (h : w.cell? a = some v) : a.block < w.heap.size := by
  rcases Nat.lt_or_ge a.block w.heap.size with h1 | h1
  · exact h1
  · simp [World.cell?, Array.getElem?_eq_none h1] at h
end Go.Proofs.YtinlnafkmoabbaaGreatDoor.Pt
/- ArePoints, as impl and spec ask it. -/
namespace Go.Proofs.YtinlnafkmoabbaaGreatDoor.Pt
open Go.RowKit
/-- A call beside which six cells are read. -/
theorem held6 (w0 : World) (a1 a2 a3 a4 a5 a6 : Addr) (v1 v2 v3 v4 v5 v6 : Value) {f : FuncId} {args : Array Value} {W : World} {v : Value} (h : Calls Tryz.prog f args W fun e w' => e = .returned v ∧ Below W.heap.size W w')
    (hS : W.cell? a1 = some v1 ∧ W.cell? a2 = some v2 ∧ W.cell? a3 = some v3 ∧ W.cell? a4 = some v4 ∧ W.cell? a5 = some v5 ∧ W.cell? a6 = some v6 ∧ Below w0.heap.size w0 W) :
    Calls Tryz.prog f args W fun e w' => e = .returned v ∧ w'.cell? a1 = some v1 ∧ w'.cell? a2 = some v2 ∧ w'.cell? a3 = some v3 ∧ w'.cell? a4 = some v4 ∧ w'.cell? a5 = some v5 ∧ w'.cell? a6 = some v6 ∧ Below w0.heap.size w0 w' := by
  obtain ⟨c1, c2, c3, c4, c5, c6, hB⟩ := hS
  exact h.mono fun _ _ ⟨he, hb⟩ => ⟨he, by rw [hb.cell (lt_of_cell c1)]; exact c1, by rw [hb.cell (lt_of_cell c2)]; exact c2, by rw [hb.cell (lt_of_cell c3)]; exact c3, by rw [hb.cell (lt_of_cell c4)]; exact c4, by rw [hb.cell (lt_of_cell c5)]; exact c5, by rw [hb.cell (lt_of_cell c6)]; exact c6, hB.trans (hb.mono hB.size)⟩

/-- The first k points fit. -/
def FitAll (xs : List P2) (k : Nat) : Prop := ∀ (j : Nat) p, j < k → xs[j]? = some p → fit p 50 = true
theorem FitAll.zero (xs : List P2) : FitAll xs 0 := fun j p h => by omega
theorem FitAll.step {xs : List P2} {k : Nat} (h : FitAll xs k) {p : P2} (hp : xs[k]? = some p) (hf : fit p 50 = true) : FitAll xs (k + 1) := fun j q hj hq => by
  by_cases e : j = k
  · subst e; rw [hp] at hq; cases hq; exact hf
  · exact h j q (by omega) hq
theorem FitAll.all {xs : List P2} (h : FitAll xs xs.length) : ∀ p ∈ xs, fit p 50 = true := fun p hp => by
  obtain ⟨i, hi, rfl⟩ := List.mem_iff_getElem.1 hp
  exact h i _ hi (List.getElem?_eq_getElem hi)

set_option maxRecDepth 100000 in
theorem specAre_short (a : Option Addr) (n c : Nat) (hn : ¬ (3 ≤ n ∧ n ≤ 7)) (hn2 : n ≤ 9223372036854775807) (w : World) :
    Calls Tryz.prog 160 #[.slice a n c] w fun e w' => e = .returned (.bool false) ∧ w = w' := by
  have hB : inB n 3 7 = false := by simp [inB]; omega
  go_enter Tryz.func160, Tryz.ntmps160
  go_wp2_with fail
  refine (l1In_any _ _ _ _).mono ?_
  rintro e w' ⟨rfl, rfl⟩
  go_wp2
  go_ret
  exact ⟨rfl, rfl⟩

set_option maxHeartbeats 1600000 in
set_option maxRecDepth 100000 in
theorem specAre_any (b o c : Nat) (xs : List P2) (hx : 3 ≤ xs.length) (hx7 : xs.length ≤ 7) (w : World) (hc : AtP w b o xs) (hbw : b < w.heap.size) :
    Calls Tryz.prog 160 #[.slice (some ⟨b, o, none⟩) xs.length c] w fun e w' => e = .returned (.bool (okB xs)) ∧ Below w.heap.size w w' := by
  have hB : inB xs.length 3 7 = true := by simp [inB]; omega
  go_enter Tryz.func160, Tryz.ntmps160
  go_wp2_with fail
  refine (l1In_any _ _ _ _).mono ?_
  rintro e w' ⟨rfl, rfl⟩
  go_wp2
  go_loopw [3] (fun i wr => ∃ k : Nat, k ≤ xs.length ∧ i = .int .i64 k ∧ Hid (FitAll xs k) ∧ Hid (noLine xs k 0 0) ∧ Below w.heap.size w wr) (fun i _ => xs.length - (intOf i).toNat)
  case atStart => exact ⟨0, Nat.zero_le _, rfl, Lib.hid (FitAll.zero xs), Lib.hid (noLine_zero xs), Below.refl _ _⟩
  case round =>
    obtain ⟨k, hk, rfl, HF, HN, hb⟩ := hrel
    by_cases hlt : k < xs.length
    · obtain ⟨ax, ay⟩ := (hc.on hb hbw).get k hlt
      have ha? := List.getElem?_eq_getElem hlt
      have hm := List.getElem_mem hlt
      have HC := Lib.hid ha?
      generalize xs[k] = q at ax ay ha? hm HC
      cases hf : fitB q.1 q.2 50
      · have HE := Lib.hid (okB_fit hm hf)
        clear hm ha?
        go_wp2_with fail
        refine (l2Fits_any _ _ _ (by omega) (by omega) _).mono ?_
        rintro e w1 ⟨rfl, hb1⟩
        have B2 := hb.trans (hb1.mono hb.size)
        go_wp2
        go_ret
        exact ⟨ret_bool HE.out.symm, B2⟩
      · have HS := Lib.hid (HF.out.step ha? hf)
        have HQ := Lib.hid hf
        clear hm ha?
        go_wp2_with fail
        refine (l2Fits_any _ _ _ (by omega) (by omega) _).mono ?_
        rintro e w1 ⟨rfl, hb1⟩
        have B2 := hb.trans (hb1.mono hb.size)
        clear ax ay hb
        go_wp2
        clear hf
        go_loopw [4] (fun i wr => ∃ j : Nat, j ≤ k ∧ i = .int .i64 j ∧ Hid (noLine xs k j 0) ∧ Below w.heap.size w wr) (fun i _ => k - (intOf i).toNat)
        case atStart => exact ⟨0, Nat.zero_le _, rfl, HN, B2⟩
        case round =>
          obtain ⟨j, hj, rfl, HN, hb⟩ := hrel
          by_cases hltj : j < k
          · go_wp2
            go_loopw [5] (fun i wr => ∃ i' : Nat, i' ≤ j ∧ i = .int .i64 i' ∧ Hid (noLine xs k j i') ∧ Below w.heap.size w wr) (fun i _ => j - (intOf i).toNat)
            case atStart => exact ⟨0, Nat.zero_le _, rfl, HN, hb⟩
            case round =>
              obtain ⟨i, hi, rfl, HN, hb⟩ := hrel
              by_cases hlti : i < j
              · have hi1 : i < xs.length := by omega
                have hj1 : j < xs.length := by omega
                obtain ⟨ax, ay⟩ := (hc.on hb hbw).get i hi1
                obtain ⟨bx, by_⟩ := (hc.on hb hbw).get j hj1
                obtain ⟨cx, cy⟩ := (hc.on hb hbw) k q HC.out
                have ha? := List.getElem?_eq_getElem hi1
                have hb? := List.getElem?_eq_getElem hj1
                have fa := HS.out i _ (by omega) ha?
                have fb := HS.out j _ (by omega) hb?
                generalize xs[i] = a at ax ay ha? fa
                generalize xs[j] = p at bx by_ hb? fb
                obtain ⟨z, hzt⟩ : ∃ z, z = crs a.1 a.2 p.1 p.2 q.1 q.2 := ⟨_, rfl⟩
                have HT : ∀ W, Calls Tryz.prog 162 #[.agg #[.int .i64 a.1, .int .i64 a.2], .agg #[.int .i64 p.1, .int .i64 p.2], .agg #[.int .i64 q.1, .int .i64 q.2]] W fun e w' => e = .returned (.int .i64 z) ∧ Below W.heap.size W w' := by
                  intro W; rw [hzt]; exact l2Area_any _ _ _ _ _ _ (fit_mono fa (by omega)) (fit_mono fb (by omega)) (fit_mono (p := q) HQ.out (by omega)) W
                have HT := Lib.hid HT
                by_cases hz : cross a p q = 0
                · have HL := Lib.hid (okB_line hlti hltj ha? hb? HC.out hz)
                  have hz0 : z = 0 := hzt.trans hz
                  subst hz0
                  clear ha? hb? fa fb hz hzt
                  go_wp2
                  go_region_held3 (fun W => W.cell? ⟨b, o + i * 2, none⟩ = some (.int .i64 a.1) ∧ W.cell? ⟨b, o + i * 2 + 1, none⟩ = some (.int .i64 a.2) ∧ W.cell? ⟨b, o + j * 2, none⟩ = some (.int .i64 p.1) ∧ W.cell? ⟨b, o + j * 2 + 1, none⟩ = some (.int .i64 p.2) ∧ W.cell? ⟨b, o + k * 2, none⟩ = some (.int .i64 q.1) ∧ W.cell? ⟨b, o + k * 2 + 1, none⟩ = some (.int .i64 q.2) ∧ Below w.heap.size w W) (first | exact ⟨ax, ay, bx, by_, cx, cy, hb⟩ | exact ⟨ax, ay, bx, by_, cx, cy, hb.drew⟩ | (refine ⟨?_, ?_, ?_, ?_, ?_, ?_, ?_⟩ <;> assumption))
                    (first | (go_at_call 162; refine (held6 w ⟨b, o + i * 2, none⟩ ⟨b, o + i * 2 + 1, none⟩ ⟨b, o + j * 2, none⟩ ⟨b, o + j * 2 + 1, none⟩ ⟨b, o + k * 2, none⟩ ⟨b, o + k * 2 + 1, none⟩ (.int .i64 a.1) (.int .i64 a.2) (.int .i64 p.1) (.int .i64 p.2) (.int .i64 q.1) (.int .i64 q.2) (HT.out _) ?_).mono ?_; (first | exact ⟨ax, ay, bx, by_, cx, cy, hb⟩ | exact ⟨ax, ay, bx, by_, cx, cy, hb.drew⟩ | (refine ⟨?_, ?_, ?_, ?_, ?_, ?_, ?_⟩ <;> assumption)); rintro e w' ⟨rfl, c1, c2, c3, c4, c5, c6, c7⟩))
                  go_wp2
                  go_ret
                  exact ⟨ret_bool HL.out.symm, by assumption⟩
                · have HM := Lib.hid (noLine_step HN.out ha? hb? HC.out hz)
                  have hz0 : (z == 0) = false := by rw [hzt]; exact beq_eq_false_iff_ne.2 hz
                  clear ha? hb? fa fb hz hzt
                  go_wp2
                  go_region_held3 (fun W => W.cell? ⟨b, o + i * 2, none⟩ = some (.int .i64 a.1) ∧ W.cell? ⟨b, o + i * 2 + 1, none⟩ = some (.int .i64 a.2) ∧ W.cell? ⟨b, o + j * 2, none⟩ = some (.int .i64 p.1) ∧ W.cell? ⟨b, o + j * 2 + 1, none⟩ = some (.int .i64 p.2) ∧ W.cell? ⟨b, o + k * 2, none⟩ = some (.int .i64 q.1) ∧ W.cell? ⟨b, o + k * 2 + 1, none⟩ = some (.int .i64 q.2) ∧ Below w.heap.size w W) (first | exact ⟨ax, ay, bx, by_, cx, cy, hb⟩ | exact ⟨ax, ay, bx, by_, cx, cy, hb.drew⟩ | (refine ⟨?_, ?_, ?_, ?_, ?_, ?_, ?_⟩ <;> assumption))
                    (first | (go_at_call 162; refine (held6 w ⟨b, o + i * 2, none⟩ ⟨b, o + i * 2 + 1, none⟩ ⟨b, o + j * 2, none⟩ ⟨b, o + j * 2 + 1, none⟩ ⟨b, o + k * 2, none⟩ ⟨b, o + k * 2 + 1, none⟩ (.int .i64 a.1) (.int .i64 a.2) (.int .i64 p.1) (.int .i64 p.2) (.int .i64 q.1) (.int .i64 q.2) (HT.out _) ?_).mono ?_; (first | exact ⟨ax, ay, bx, by_, cx, cy, hb⟩ | exact ⟨ax, ay, bx, by_, cx, cy, hb.drew⟩ | (refine ⟨?_, ?_, ?_, ?_, ?_, ?_, ?_⟩ <;> assumption)); rintro e w' ⟨rfl, c1, c2, c3, c4, c5, c6, c7⟩))
                  go_wp2
                  exact ⟨⟨i + 1, by omega, by go_num, HM, by assumption⟩, by simp only [intOf]; omega⟩
              · obtain rfl : i = j := by omega
                have HM := Lib.hid (noLine_inner HN.out)
                go_wp2
                exact ⟨⟨i + 1, by omega, by go_num, HM, hb⟩, by simp only [intOf]; omega⟩
          · obtain rfl : j = k := by omega
            have HM := Lib.hid (noLine_outer HN.out)
            go_wp2
            exact ⟨⟨j + 1, by omega, by go_num, HS, HM, hb⟩, by simp only [intOf]; omega⟩
    · obtain rfl : k = xs.length := by omega
      have HL := Lib.hid (okB_yes ⟨⟨hx, hx7⟩, HF.out.all, noLine_all HN.out⟩)
      go_wp2
      go_ret
      exact ⟨ret_bool HL.out.symm, hb⟩
theorem specAre (b o c : Nat) (xs : List P2) (hx : xs.length ≤ 9223372036854775807) (w : World) (hc : AtP w b o xs) (hbw : b < w.heap.size) :
    Calls Tryz.prog 160 #[.slice (some ⟨b, o, none⟩) xs.length c] w fun e w' => e = .returned (.bool (okB xs)) ∧ Below w.heap.size w w' := by
  by_cases hl : 3 ≤ xs.length ∧ xs.length ≤ 7
  · exact specAre_any b o c xs hl.1 hl.2 w hc hbw
  · rw [okB_len hl]; exact (specAre_short _ _ _ hl hx w).mono fun _ _ ⟨he, hw⟩ => ⟨he, by subst hw; exact Below.refl _ _⟩
end Go.Proofs.YtinlnafkmoabbaaGreatDoor.Pt
/- A slice of points that came in, empty or not: its copy, its length. -/
namespace Go.Proofs.YtinlnafkmoabbaaGreatDoor.Pt
open Go.RowKit
/-- Where the points of a slice that came in lie. -/
def Src (w : World) (a : Option Addr) (c : Nat) (xs : List P2) : Prop := xs.length = 0 ∨ ∃ b o, a = some ⟨b, o, none⟩ ∧ AtP w b o xs ∧ b < w.heap.size ∧ xs.length ≤ c
theorem Src.on {w w' : World} {a : Option Addr} {c : Nat} {xs : List P2} (h : Src w a c xs) (hb : Below w.heap.size w w') : Src w' a c xs := by
  rcases h with h | ⟨b, o, h1, h2, h3, h4⟩
  · exact .inl h
  · exact .inr ⟨b, o, h1, h2.on hb h3, Nat.lt_of_lt_of_le h3 hb.size, h4⟩
/-- Block b is a row of the points xs. -/
def RowP (w : World) (b : Nat) (xs : List P2) : Prop := w.rowIs b 127 (xs.length * 2) (ptCell xs)
theorem RowP.at {w : World} {b : Nat} {xs : List P2} (h : RowP w b xs) : AtP w b 0 xs := AtP.of_row h
theorem RowP.lt {w : World} {b : Nat} {xs : List P2} (h : RowP w b xs) : b < w.heap.size := World.rowIs.lt h
theorem RowP.on {w w' : World} {b : Nat} {xs : List P2} (h : RowP w b xs) (hb : Below w.heap.size w w') : RowP w' b xs := row_on h hb h.lt
end Go.Proofs.YtinlnafkmoabbaaGreatDoor.Pt
/- SignsOf, as impl and spec answer it. -/
namespace Go.Proofs.YtinlnafkmoabbaaGreatDoor.Sg
open Go.RowKit Pt
/-- The turn of three of these points, and twice their area. -/
def turnF (xs : List P2) (i j k : Nat) : Int := turnB (xs.getD i (0, 0)).1 (xs.getD i (0, 0)).2 (xs.getD j (0, 0)).1 (xs.getD j (0, 0)).2 (xs.getD k (0, 0)).1 (xs.getD k (0, 0)).2
def areaF (xs : List P2) (i j k : Nat) : Int := crs (xs.getD i (0, 0)).1 (xs.getD i (0, 0)).2 (xs.getD j (0, 0)).1 (xs.getD j (0, 0)).2 (xs.getD k (0, 0)).1 (xs.getD k (0, 0)).2
theorem getD_p {xs : List P2} {i : Nat} (h : i < xs.length) : xs.getD i (0, 0) = xs[i] := by rw [List.getD_eq_getElem?_getD, List.getElem?_eq_getElem h]; rfl
theorem byteOf_sgn (x : Int) : byteOf (sgn x) = byteOf x := by
  unfold byteOf sgn
  by_cases h : 0 < x
  · simp [h]
  · by_cases h2 : x < 0
    · simp [h, h2]
    · simp [h, h2]
theorem text3_bytes {n : Nat} (h7 : n ≤ 7) {f g : Nat → Nat → Nat → Int} (h : ∀ i j k, i < j → j < k → k < n → byteOf (f i j k) = byteOf (g i j k)) : text3 n f = text3 n g := by
  unfold text3
  refine List.map_congr_left fun t ht => ?_
  obtain ⟨h1, h2, h3⟩ := threes_mem h7 ht
  exact h _ _ _ h1 h2 h3
theorem text_points {xs : List P2} (h : Pt.okB xs = true) : text3 xs.length (areaF xs) = text3 xs.length (turnF xs) := by
  obtain ⟨⟨-, h7⟩, hfit, -⟩ := okB_ok h
  refine text3_bytes h7 fun i j k h1 h2 h3 => ?_
  have f : ∀ {i : Nat} (hi : i < xs.length), fitB (xs.getD i (0, 0)).1 (xs.getD i (0, 0)).2 1000 = true := fun {i} hi => by
    rw [getD_p hi]
    exact fit_mono (hfit _ (List.getElem_mem hi)) (by omega)
  unfold turnF turnB
  rw [byteOf_sgn, areaB_yes (f (by omega)) (f (by omega)) (f h3)]
  rfl
/-- What SignsOf answers. -/
noncomputable def ptsV (xs : List P2) : Value := if Pt.okB xs = true then .tuple #[sg xs.length ⟨(text3 xs.length (turnF xs)).toArray⟩, .bool true] else .tuple #[sg 0 ⟨#[]⟩, .bool false]
theorem ptsV_no {xs : List P2} (h : Pt.okB xs = false) : ptsV xs = .tuple #[sg 0 ⟨#[]⟩, .bool false] := by unfold ptsV; rw [h]; rfl
theorem ptsV_yes {xs : List P2} (h : Pt.okB xs = true) : ptsV xs = .tuple #[sg xs.length ⟨(text3 xs.length (turnF xs)).toArray⟩, .bool true] := by unfold ptsV; rw [if_pos h]
end Go.Proofs.YtinlnafkmoabbaaGreatDoor.Sg
/- SignsOf, as spec answers it; the law. -/
namespace Go.Proofs.YtinlnafkmoabbaaGreatDoor.Sg
open Go.RowKit Pt
/-- Beside a call that writes nothing of what was there nine facts stand. -/
theorem held9 (wr : World) (Bo : Nat) (X : ByteArray) (a1 a2 a3 a4 a5 a6 : Addr) (v1 v2 v3 v4 v5 v6 : Value) {f : FuncId} {args : Array Value} {W : World} {v : Value} (h : Calls Tryz.prog f args W fun e w' => e = .returned v ∧ Below W.heap.size W w')
    (hS : W.cell? ⟨Bo, 1, none⟩ = some (.string X) ∧ W.frozen? ⟨Bo, 1, none⟩ = false ∧ W.cell? a1 = some v1 ∧ W.cell? a2 = some v2 ∧ W.cell? a3 = some v3 ∧ W.cell? a4 = some v4 ∧ W.cell? a5 = some v5 ∧ W.cell? a6 = some v6 ∧ Below wr.heap.size wr W) :
    Calls Tryz.prog f args W fun e w' => e = .returned v ∧ w'.cell? ⟨Bo, 1, none⟩ = some (.string X) ∧ w'.frozen? ⟨Bo, 1, none⟩ = false ∧ w'.cell? a1 = some v1 ∧ w'.cell? a2 = some v2 ∧ w'.cell? a3 = some v3 ∧ w'.cell? a4 = some v4 ∧ w'.cell? a5 = some v5 ∧ w'.cell? a6 = some v6 ∧ Below wr.heap.size wr w' := by
  obtain ⟨c0, f0, c1, c2, c3, c4, c5, c6, hB⟩ := hS
  have hl : Bo < W.heap.size := Kit.cell_lt c0
  exact h.mono fun _ _ ⟨he, hb⟩ => ⟨he, by rw [hb.cell hl]; exact c0, by rw [hb.frozen hl]; exact f0, by rw [hb.cell (Kit.cell_lt c1)]; exact c1, by rw [hb.cell (Kit.cell_lt c2)]; exact c2, by rw [hb.cell (Kit.cell_lt c3)]; exact c3, by rw [hb.cell (Kit.cell_lt c4)]; exact c4, by rw [hb.cell (Kit.cell_lt c5)]; exact c5, by rw [hb.cell (Kit.cell_lt c6)]; exact c6, hB.trans (hb.mono hB.size)⟩
end Go.Proofs.YtinlnafkmoabbaaGreatDoor.Sg
/- A slice of points of a call's own, empty or not: asked, marked, asked again. -/
namespace Go.Proofs.YtinlnafkmoabbaaGreatDoor.Pt
open Go.RowKit
/-- The first m cells of block b hold f; none is frozen. -/
structure Cells (w : World) (b m : Nat) (f : Nat → Value) : Prop where
  cell : ∀ j, j < m → w.cell? ⟨b, j, none⟩ = some (f j)
  frozen : ∀ j, w.frozen? ⟨b, j, none⟩ = false
  lt : b < w.heap.size
theorem Cells.congr {w : World} {b m : Nat} {f g : Nat → Value} (h : Cells w b m f) (e : ∀ i, i < m → f i = g i) : Cells w b m g := ⟨fun j hj => by rw [h.cell j hj, e j hj], h.frozen, h.lt⟩
theorem Cells.block {w w' : World} {b m : Nat} {f : Nat → Value} (h : Cells w b m f) (e : w'.heap[b]? = w.heap[b]?) (hs : w.heap.size ≤ w'.heap.size) : Cells w' b m f :=
  ⟨fun j hj => by rw [World.cell?_of_block (a := ⟨b, j, none⟩) e]; exact h.cell j hj, fun j => by rw [World.frozen?_of_block (a := ⟨b, j, none⟩) e]; exact h.frozen j, Nat.lt_of_lt_of_le h.lt hs⟩
theorem Cells.on {w w' : World} {b m : Nat} {f : Nat → Value} (h : Cells w b m f) (hb : Below w.heap.size w w') : Cells w' b m f := h.block (hb.block b h.lt) hb.size
theorem Cells.set {w : World} {b m : Nat} {f : Nat → Value} (h : Cells w b m f) (i : Nat) (hi : i < m) (v : Value) : Cells (w.setCell ⟨b, i, none⟩ v) b m (fun j => if j = i then v else f j) :=
  ⟨fun j hj => by
    by_cases e : j = i
    · subst e
      rw [if_pos rfl]
      exact World.cell?_setCell_same w ⟨b, j, none⟩ v (h.cell j hj)
    · rw [if_neg e, World.cell?_setCell_other w _ _ v (fun he => e (by injection he with _ h2; exact h2.symm))]
      exact h.cell j hj, fun j => by rw [World.frozen?_setCell]; exact h.frozen j, by simpa [World.setCell] using h.lt⟩
theorem Cells.of_row {w : World} {b m : Nat} {t : TypeId} {f : Nat → Value} (h : w.rowIs b t m f) : Cells w b m f := ⟨fun _ hj => h.cell hj, h.frozen, h.lt⟩
/-- The cells of a list of points. -/
def ptCells : List P2 → List Value
  | [] => []
  | p :: r => .int .i64 p.1 :: .int .i64 p.2 :: ptCells r
theorem ptCells_append : ∀ xs ys : List P2, ptCells (xs ++ ys) = ptCells xs ++ ptCells ys
  | [], ys => rfl
  | p :: r, ys => by simp [ptCells, ptCells_append r ys]
theorem ptCells_get : ∀ (xs : List P2) (j : Nat), j < xs.length * 2 → (ptCells xs)[j]? = some (ptCell xs j)
  | [], j, h => by simp at h
  | p :: r, 0, _ => rfl
  | p :: r, 1, _ => rfl
  | p :: r, j + 2, h => by
    have := ptCells_get r j (by simp at h; omega)
    simp only [ptCells, List.getElem?_cons_succ, this]
    unfold ptCell
    rw [show (j + 2) % 2 = j % 2 by omega, show (j + 2) / 2 = j / 2 + 1 by omega]
    simp
/-- A value that owns just these points. -/
def Owns (w : World) (B : Nat) (v : Value) (xs : List P2) : Prop := w.ownsRow B 127 2 v xs.length (ptCells xs)

/-- A slice that is empty, or whose cells lie in a block from lo on and before hi. -/
def New (w : World) (lo hi : Nat) (a : Option Addr) (n : Nat) (f : Nat → Value) : Prop := n = 0 ∨ ∃ b, a = some ⟨b, 0, none⟩ ∧ lo ≤ b ∧ b < hi ∧ Cells w b (n * 2) f
theorem New.on {w w' : World} {lo hi n : Nat} {a : Option Addr} {f : Nat → Value} (h : New w lo hi a n f) (hb : Below w.heap.size w w') : New w' lo hi a n f := by
  rcases h with h | ⟨b, h1, h2, h3, h4⟩
  · exact .inl h
  · exact .inr ⟨b, h1, h2, h3, h4.on hb⟩
/-- Below B and from hi on nothing has changed; the heap has grown. -/
structure Out (lo hi : Nat) (w w' : World) : Prop where
  os : w'.os = w.os
  tape : w'.tape = w.tape
  output : w'.output = w.output
  size : w.heap.size ≤ w'.heap.size
  block : ∀ i, i < w.heap.size → ¬ (lo ≤ i ∧ i < hi) → w'.heap[i]? = w.heap[i]?
theorem Out.refl (lo hi : Nat) (w : World) : Out lo hi w w := ⟨rfl, rfl, rfl, Nat.le_refl _, fun _ _ _ => rfl⟩
theorem Out.below {lo hi B : Nat} {w w' : World} (h : Out lo hi w w') (hB : B ≤ lo) (hBw : B ≤ w.heap.size) : Below B w w' := ⟨h.os, h.tape, h.output, h.size, fun i hi => h.block i (by omega) (by omega)⟩
theorem New.far {w w' : World} {lo hi lo' hi' n : Nat} {a : Option Addr} {f : Nat → Value} (h : New w lo hi a n f) (ho : Out lo' hi' w w') (hd : hi ≤ lo' ∨ hi' ≤ lo) : New w' lo hi a n f := by
  rcases h with h | ⟨b, h1, h2, h3, h4⟩
  · exact .inl h
  · exact .inr ⟨b, h1, h2, h3, h4.block (ho.block b h4.lt (by omega)) ho.size⟩
theorem New.of_row {w : World} {b : Nat} {xs : List P2} (h : RowP w b xs) : New w b (b + 1) (some ⟨b, 0, none⟩) xs.length (ptCell xs) := .inr ⟨b, rfl, Nat.le_refl _, by omega, Cells.of_row h⟩
theorem New.of_own {w : World} {B : Nat} {v : Value} {xs : List P2} (h : Owns w B v xs) : ∃ a c, v = .slice a xs.length c ∧ New w B w.heap.size a xs.length (ptCell xs) := by
  obtain ⟨-, ⟨rfl, h1⟩ | ⟨g, cap, cur, rfl, hB, hh, hr⟩⟩ := id h
  · exact ⟨none, 0, by rw [h1], .inl h1⟩
  · have hlt := (World.ownsRow.lt h g rfl).2
    refine ⟨some ⟨g, 0, none⟩, cap, rfl, .inr ⟨g, rfl, hB, hlt, fun j hj => ?_, fun j => World.ownsRow.frozenAt h j, hlt⟩⟩
    rw [World.ownsRow.cellAt h j hj, ptCells_get xs j hj]

theorem grown_set {w w' : World} {b : Nat} (h : w.grownBy w' (some b)) (j : Nat) (v : Value) : w.grownBy (w'.setCell ⟨b, j, none⟩ v) (some b) :=
  ⟨h.os, h.tape, h.output, by simpa [World.setCell] using h.size, fun i hi hn => (Below.heap_setCell w' ⟨b, j, none⟩ v i (fun e => hn (by rw [e]))).trans (h.block i hi hn)⟩

end Go.Proofs.YtinlnafkmoabbaaGreatDoor.Pt
