/- Several texts in one: HuIns. -/
import Derived.Test.YtflcpgdgoencgaaGreatDoorMgE
import Derived.Test.YtflcpgdgoencgaaGreatDoorMgK
import Derived.IntWalk
import Derived.Deep.QuietTactic
import Derived.BigQuiet
/- slices.SortFunc of a hull's elements behind the first one: insertion, by HullOf's own function. -/
namespace Go.Proofs.YtflcpgdgoencgaaGreatDoor.Sg
open Go.RowKit Pt NewI HuSort
theorem zc_at (L : List Nat) (c : Nat) : zc (zl L) c = .int .i64 (L.getD c 0 : Nat) := by
  unfold zc zl
  rw [List.getD_eq_getElem?_getD, List.getD_eq_getElem?_getD, List.getElem?_map]
  cases L[c]? <;> rfl
theorem zc_next {h0 : Nat} {ys : List Nat} {j p : Nat} (h : ys[j]? = some p) : zc (zl (h0 :: ys)) (1 + j) = .int .i64 (p : Nat) := by
  rw [zc_at, List.getD_eq_getElem?_getD, Nat.add_comm, List.getElem?_cons_succ, h]; rfl
theorem swap_one (h0 : Nat) (ys zs : List Nat) (q j : Nat) (hj : j = q + 1) (s x : Nat) (h : ∀ k, zs[k]? = if k = j then some s else if k = q then some x else ys[k]?) (c : Nat) :
    (if c = 1 + q then Value.int .i64 (x : Nat) else if c = 1 + j then Value.int .i64 (s : Nat) else zc (zl (h0 :: ys)) c) = zc (zl (h0 :: zs)) c := by
  subst hj
  rw [zc_at, zc_at]
  cases c with
  | zero => rw [if_neg (by omega), if_neg (by omega)]; rfl
  | succ c =>
    have hz := h c
    rw [List.getD_eq_getElem?_getD, List.getD_eq_getElem?_getD, List.getElem?_cons_succ, List.getElem?_cons_succ, hz]
    by_cases e1 : c = q
    · subst e1; rw [if_pos (by omega), if_neg (by omega), if_pos rfl]; rfl
    · rw [if_neg (by omega)]
      by_cases e2 : c = q + 1
      · subst e2; rw [if_pos (by omega), if_pos rfl]; rfl
      · rw [if_neg (by omega), if_neg e2, if_neg e1]
/-- What HullOf's function keeps in memory. -/
structure SortD (W : World) (g pS pH b : Nat) (f : Int → Int → Int → Int) (m c : Nat) : Prop where
  sig : W.cell? ⟨pS, 0, none⟩ = some (.map (some b))
  hul : W.cell? ⟨pH, 0, none⟩ = some (.slice (some ⟨g, 0, none⟩) m c)
  map : MapIs W b f
  nS : some pS ≠ some g
  nH : some pH ≠ some g
  nb : some b ≠ some g
theorem SortD.keep {W W' : World} {g pS pH b : Nat} {f : Int → Int → Int → Int} {m c : Nat} (h : SortD W g pS pH b f m c) (hg : W.grownBy W' (some g)) : SortD W' g pS pH b f m c :=
  ⟨hg.cell h.sig h.nS, hg.cell h.hul h.nH, mapIs_keep h.map hg h.nb, h.nS, h.nH, h.nb⟩
theorem grown_set1 {w w' : World} {b : Nat} (h : w.grownBy w' (some b)) (j : Nat) (v : Value) : w.grownBy (w'.setCell ⟨b, j, none⟩ v) (some b) := grown_set h j v
theorem cells_drew {w : World} {b m : Nat} {f : Nat → Value} (h : Cells w b m f) : Cells w.drew b m f := ⟨h.cell, h.frozen, h.lt⟩
theorem cells_drewN {w : World} {b m : Nat} {f : Nat → Value} (h : Cells w b m f) (n : Nat) : Cells (w.drewN n) b m f := ⟨h.cell, h.frozen, h.lt⟩
theorem grown_drewN {w w' : World} {b : Nat} (h : w.grownBy w' (some b)) (n : Nat) : w.grownBy (w'.drewN n) (some b) := ⟨h.os, h.tape, h.output, h.size, h.block⟩
theorem grown_drew {w w' : World} {b : Nat} (h : w.grownBy w' (some b)) : w.grownBy w'.drew (some b) := ⟨h.os, h.tape, h.output, h.size, h.block⟩
/-- A call beside which two cells are read and a row is kept. -/
theorem heldTwo (w0 : World) (g m : Nat) (f : Nat → Value) (a1 a2 : Addr) (v1 v2 : Value) {k : FuncId} {args : Array Value} {W : World} {v : Value} (h : ∀ W, Cells W g m f → w0.grownBy W (some g) → Calls Tryz.prog k args W fun e w' => e = .returned v ∧ Below W.heap.size W w')
    (hS : W.cell? a1 = some v1 ∧ W.cell? a2 = some v2 ∧ Cells W g m f ∧ w0.grownBy W (some g)) :
    Calls Tryz.prog k args W fun e w' => e = .returned v ∧ w'.cell? a1 = some v1 ∧ w'.cell? a2 = some v2 ∧ Cells w' g m f ∧ w0.grownBy w' (some g) := by
  obtain ⟨c1, c2, c5, c6⟩ := hS
  exact (h W c5 c6).mono fun _ _ ⟨he, hb⟩ => ⟨he, by rw [hb.cell (World.block_lt_of_cell? W a1 c1)]; exact c1, by rw [hb.cell (World.block_lt_of_cell? W a2 c2)]; exact c2, c5.on hb, grown_on c6 hb⟩
theorem befO_neg {F : Int → Int → Int → Int} {h0 x y : Nat} (hb : -1 ≤ F h0 x y ∧ F h0 x y ≤ 1) : decide (-(F h0 x y) < 0) = befO F h0 x y := by
  unfold befO
  rw [Bool.eq_iff_iff, decide_eq_true_eq, decide_eq_true_eq]
  omega
end Go.Proofs.YtflcpgdgoencgaaGreatDoor.Sg
