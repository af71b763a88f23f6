/- Several texts in one: HuIns, HuImplHull, LeSort. -/
import Derived.Test.YtflcpgdgoencgaaDoorMgE
import Derived.Test.YtflcpgdgoencgaaDoorMgK
import Derived.IntWalk
import Derived.Deep.QuietTactic
import Derived.BigQuiet
import Derived.Test.YtflcpgdgoencgaaDoorHuImpl
import Derived.Lib.SliceRun
import Derived.Test.YtflcpgdgoencgaaDoorMgP
import Derived.Test.YtflcpgdgoencgaaDoorLeHit
/- slices.SortFunc of a hull's elements behind the first one: insertion, by HullOf's own function. -/
namespace Go.Proofs.YtflcpgdgoencgaaDoor.Sg
open Go.RowKit Pt NewI HuSort
theorem zc_at (L : List Nat) (c : Nat) : zc (zl L) c = .int .i64 (L.getD c 0 : Nat) := by
  unfold zc zl
  rw [List.getD_eq_getElem?_getD, List.getD_eq_getElem?_getD, List.getElem?_map]
  cases L[c]? <;> rfl
theorem zc_next {h0 : Nat} {ys : List Nat} {j p : Nat} (h : ys[j]? = some p) : zc (zl (h0 :: ys)) (1 + j) = .int .i64 (p : Nat) := by
  rw [zc_at, List.getD_eq_getElem?_getD, Nat.add_comm, List.getElem?_cons_succ, h]; rfl
theorem swap_one (h0 : Nat) (ys zs : List Nat) (q j : Nat) (hj : j = q + 1) (s x : Nat) (h : ∀ k, zs[k]? = if k = j then some s else if k = q then some x else ys[k]?) (c : Nat) :
    (if c = 1 + q then Value.int .i64 (x : Nat) else if c = 1 + j then Value.int .i64 (s : Nat) else zc (zl (h0 :: ys)) c) = zc (zl (h0 :: zs)) c := by
  subst hj
  rw [zc_at, zc_at]
  cases c with
  | zero => rw [if_neg (by omega), if_neg (by omega)]; rfl
  | succ c =>
    have hz := h c
    rw [List.getD_eq_getElem?_getD, List.getD_eq_getElem?_getD, List.getElem?_cons_succ, List.getElem?_cons_succ, hz]
    by_cases e1 : c = q
    · subst e1; rw [if_pos (by omega), if_neg (by omega), if_pos rfl]; rfl
    · rw [if_neg (by omega)]
      by_cases e2 : c = q + 1
      · subst e2; rw [if_pos (by omega), if_pos rfl]; rfl
      · rw [if_neg (by omega), if_neg e2, if_neg e1]
/-- What HullOf's function keeps in memory. -/
structure SortD (W : World) (g pS pH b : Nat) (f : Int → Int → Int → Int) (m c : Nat) : Prop where
  sig : W.cell? ⟨pS, 0, none⟩ = some (.map (some b))
  hul : W.cell? ⟨pH, 0, none⟩ = some (.slice (some ⟨g, 0, none⟩) m c)
  map : MapIs W b f
  nS : some pS ≠ some g
  nH : some pH ≠ some g
  nb : some b ≠ some g
theorem SortD.keep {W W' : World} {g pS pH b : Nat} {f : Int → Int → Int → Int} {m c : Nat} (h : SortD W g pS pH b f m c) (hg : W.grownBy W' (some g)) : SortD W' g pS pH b f m c :=
  ⟨hg.cell h.sig h.nS, hg.cell h.hul h.nH, mapIs_keep h.map hg h.nb, h.nS, h.nH, h.nb⟩
theorem grown_set1 {w w' : World} {b : Nat} (h : w.grownBy w' (some b)) (j : Nat) (v : Value) : w.grownBy (w'.setCell ⟨b, j, none⟩ v) (some b) := grown_set h j v
theorem cells_drew {w : World} {b m : Nat} {f : Nat → Value} (h : Cells w b m f) : Cells w.drew b m f := ⟨h.cell, h.frozen, h.lt⟩
theorem cells_drewN {w : World} {b m : Nat} {f : Nat → Value} (h : Cells w b m f) (n : Nat) : Cells (w.drewN n) b m f := ⟨h.cell, h.frozen, h.lt⟩
theorem grown_drewN {w w' : World} {b : Nat} (h : w.grownBy w' (some b)) (n : Nat) : w.grownBy (w'.drewN n) (some b) := ⟨h.os, h.tape, h.output, h.size, h.block⟩
theorem grown_drew {w w' : World} {b : Nat} (h : w.grownBy w' (some b)) : w.grownBy w'.drew (some b) := ⟨h.os, h.tape, h.output, h.size, h.block⟩
/-- A call beside which two cells are read and a row is kept. -/
theorem heldTwo (w0 : World) (g m : Nat) (f : Nat → Value) (a1 a2 : Addr) (v1 v2 : Value) {k : FuncId} {args : Array Value} {W : World} {v : Value} (h : ∀ W, Cells W g m f → w0.grownBy W (some g) → Calls Tryd.prog k args W fun e w' => e = .returned v ∧ Below W.heap.size W w')
    (hS : W.cell? a1 = some v1 ∧ W.cell? a2 = some v2 ∧ Cells W g m f ∧ w0.grownBy W (some g)) :
    Calls Tryd.prog k args W fun e w' => e = .returned v ∧ w'.cell? a1 = some v1 ∧ w'.cell? a2 = some v2 ∧ Cells w' g m f ∧ w0.grownBy w' (some g) := by
  obtain ⟨c1, c2, c5, c6⟩ := hS
  exact (h W c5 c6).mono fun _ _ ⟨he, hb⟩ => ⟨he, by rw [hb.cell (World.block_lt_of_cell? W a1 c1)]; exact c1, by rw [hb.cell (World.block_lt_of_cell? W a2 c2)]; exact c2, c5.on hb, grown_on c6 hb⟩
theorem befO_neg {F : Int → Int → Int → Int} {h0 x y : Nat} (hb : -1 ≤ F h0 x y ∧ F h0 x y ≤ 1) : decide (-(F h0 x y) < 0) = befO F h0 x y := by
  unfold befO
  rw [Bool.eq_iff_iff, decide_eq_true_eq, decide_eq_true_eq]
  omega
end Go.Proofs.YtflcpgdgoencgaaDoor.Sg
/- HullOf, as impl answers it. -/
namespace Go.Proofs.YtflcpgdgoencgaaDoor.Sg
open Go.RowKit Pt NewI HuSort
theorem hullZ_no {n : Int} {s : List UInt8} (h : aciB n s = false) : hullZ n s = [] := by unfold hullZ; rw [h]; rfl
end Go.Proofs.YtflcpgdgoencgaaDoor.Sg
/- slices.SortFunc of at most twelve pairs by slices.Compare: insertion. -/
namespace Go.Proofs.YtflcpgdgoencgaaDoor.Sg
open Go.RowKit Pt NewI HuSort
/-- The value of a pair's row: G and C tell its block and what it can hold. -/
def kv (G C : Nat → Nat) (k : Nat) : Value := .slice (some ⟨G k, 0, none⟩) 2 (C k)
def kc (G C : Nat → Nat) (L : List Nat) (c : Nat) : Value := kv G C (L.getD c 0)
theorem kc_get {G C : Nat → Nat} {ys : List Nat} {j p : Nat} (h : ys[j]? = some p) : kc G C ys j = .slice (some ⟨G p, 0, none⟩) 2 (C p) := by
  unfold kc kv
  rw [List.getD_eq_getElem?_getD, h]; rfl
theorem swap_kc (G C : Nat → Nat) (ys zs : List Nat) (q j : Nat) (hj : j = q + 1) (s x : Nat) (h : ∀ k, zs[k]? = if k = j then some s else if k = q then some x else ys[k]?) (c : Nat) :
    (if c = q then Value.slice (some ⟨G x, 0, none⟩) 2 (C x) else if c = j then Value.slice (some ⟨G s, 0, none⟩) 2 (C s) else kc G C ys c) = kc G C zs c := by
  subst hj
  unfold kc kv
  have hz := h c
  rw [List.getD_eq_getElem?_getD, List.getD_eq_getElem?_getD, hz]
  by_cases e1 : c = q
  · subst e1; rw [if_pos rfl, if_neg (by omega), if_pos rfl]; rfl
  · rw [if_neg e1]
    by_cases e2 : c = q + 1
    · subst e2; rw [if_pos rfl, if_pos rfl]; rfl
    · rw [if_neg e2, if_neg e2, if_neg e1]
/-- The pairs' rows in memory. -/
def Krow (W : World) (g : Nat) (G : Nat → Nat) (xs : List Nat) : Prop := ∀ k ∈ xs, some (G k) ≠ some g ∧ W.cell? ⟨G k, 0, none⟩ = some (.int .i64 (k / 8 : Nat)) ∧ W.cell? ⟨G k, 1, none⟩ = some (.int .i64 (k % 8 : Nat))
theorem Krow.keep {W W' : World} {g : Nat} {G : Nat → Nat} {xs : List Nat} (h : Krow W g G xs) (hg : W.grownBy W' (some g)) : Krow W' g G xs := fun k hk => by
  obtain ⟨h1, h2, h3⟩ := h k hk
  exact ⟨h1, hg.cell h2 h1, hg.cell h3 h1⟩
/-- How Compare tells two pairs. -/
def cmpZ (x y : Nat) : Int := if (cmpI ((x / 8 : Nat) : Int) ((y / 8 : Nat) : Int) != 0) = true then cmpI ((x / 8 : Nat) : Int) ((y / 8 : Nat) : Int) else cmpI ((x % 8 : Nat) : Int) ((y % 8 : Nat) : Int)
def befK (x y : Nat) : Bool := decide (x < y)
theorem befK_neg (x y : Nat) : decide (cmpZ x y < 0) = befK x y := by
  unfold cmpZ befK cmpI
  rw [Bool.eq_iff_iff, decide_eq_true_eq, decide_eq_true_eq]
  have h1 : x = 8 * (x / 8) + x % 8 := by omega
  have h2 : y = 8 * (y / 8) + y % 8 := by omega
  have h3 : x % 8 < 8 := by omega
  have h4 : y % 8 < 8 := by omega
  generalize x / 8 = a at *
  generalize y / 8 = b at *
  generalize x % 8 = c at *
  generalize y % 8 = d at *
  subst h1 h2
  rcases (by omega : a < b ∨ a = b ∨ b < a) with e | e | e
  · have k1 : ((a : Int) < (b : Int)) := by omega
    simp [k1]
    omega
  · subst e
    rcases (by omega : c < d ∨ c = d ∨ d < c) with e | e | e
    · have k1 : ((c : Int) < (d : Int)) := by omega
      simp [k1]
      omega
    · subst e; simp
    · have k1 : ¬ ((c : Int) < (d : Int)) := by omega
      have k2 : ((d : Int) < (c : Int)) := by omega
      simp [k1, k2]
      omega
  · have k1 : ¬ ((a : Int) < (b : Int)) := by omega
    have k2 : ((b : Int) < (a : Int)) := by omega
    simp [k1, k2]
    omega
set_option maxHeartbeats 1600000 in
set_option maxRecDepth 100000 in
theorem compare2_any (gx gy cx cy : Nat) (x y : Nat) (w : World) (x0 : w.cell? ⟨gx, 0, none⟩ = some (.int .i64 (x / 8 : Nat))) (x1 : w.cell? ⟨gx, 1, none⟩ = some (.int .i64 (x % 8 : Nat))) (y0 : w.cell? ⟨gy, 0, none⟩ = some (.int .i64 (y / 8 : Nat))) (y1 : w.cell? ⟨gy, 1, none⟩ = some (.int .i64 (y % 8 : Nat))) :
    Calls Tryd.prog 66 #[.slice (some ⟨gx, 0, none⟩) 2 cx, .slice (some ⟨gy, 0, none⟩) 2 cy] w fun e w' => e = .returned (.int .i64 (cmpZ x y)) ∧ Below w.heap.size w w' := by
  have H1 := Lib.hid (fun W => compare_any ((x / 8 : Nat) : Int) ((y / 8 : Nat) : Int) W)
  have H2 := Lib.hid (fun W => compare_any ((x % 8 : Nat) : Int) ((y % 8 : Nat) : Int) W)
  have HE : Hid (cmpZ x y = if (cmpI ((x / 8 : Nat) : Int) ((y / 8 : Nat) : Int) != 0) = true then cmpI ((x / 8 : Nat) : Int) ((y / 8 : Nat) : Int) else cmpI ((x % 8 : Nat) : Int) ((y % 8 : Nat) : Int)) := Lib.hid rfl
  generalize cmpZ x y = z at HE ⊢
  generalize cmpI ((x / 8 : Nat) : Int) ((y / 8 : Nat) : Int) = p at H1 HE
  generalize cmpI ((x % 8 : Nat) : Int) ((y % 8 : Nat) : Int) = q at H2 HE
  generalize x / 8 = a at x0 H1
  generalize y / 8 = b at y0 H1
  generalize x % 8 = c at x1 H2
  generalize y % 8 = d at y1 H2
  cases hp : (p != 0)
  · have HZ : Hid (z = q) := Lib.hid (by rw [HE.out, hp]; rfl)
    clear HE
    cases hq : (q != 0)
    · have HQ : Hid (q = 0) := Lib.hid (by simpa using hq)
      go_enter Tryd.func66, Tryd.ntmps66
      go_wp2
      refine wp_loop_rounds 3 ?_
      rw [rounds_succ]
      go_wp2_with fail
      refine (H1.out _).mono ?_
      rintro e w' ⟨rfl, rfl⟩
      go_wp2
      rw [rounds_succ]
      go_wp2_with fail
      refine (H2.out _).mono ?_
      rintro e w' ⟨rfl, rfl⟩
      go_wp2
      rw [rounds_succ]
      go_wp2
      go_ret
      exact ⟨ret_int (by rw [HZ.out, HQ.out]), Below.refl _ _⟩
    · go_enter Tryd.func66, Tryd.ntmps66
      go_wp2
      refine wp_loop_rounds 2 ?_
      rw [rounds_succ]
      go_wp2_with fail
      refine (H1.out _).mono ?_
      rintro e w' ⟨rfl, rfl⟩
      go_wp2
      rw [rounds_succ]
      go_wp2_with fail
      refine (H2.out _).mono ?_
      rintro e w' ⟨rfl, rfl⟩
      go_wp2
      go_ret
      exact ⟨ret_int HZ.out.symm, Below.refl _ _⟩
  · have HZ : Hid (z = p) := Lib.hid (by rw [HE.out, hp]; rfl)
    clear HE
    go_enter Tryd.func66, Tryd.ntmps66
    go_wp2
    refine wp_loop_rounds 1 ?_
    rw [rounds_succ]
    go_wp2_with fail
    refine (H1.out _).mono ?_
    rintro e w' ⟨rfl, rfl⟩
    go_wp2
    go_ret
    exact ⟨ret_int HZ.out.symm, Below.refl _ _⟩
/-- A call beside which two cells are read and a row is kept. -/
theorem heldKeep (w0 : World) (g m : Nat) (f : Nat → Value) (a1 a2 : Addr) (v1 v2 : Value) {k : FuncId} {args : Array Value} {W : World} {v : Value} (h : ∀ W, w0.grownBy W (some g) → Calls Tryd.prog k args W fun e w' => e = .returned v ∧ Below W.heap.size W w')
    (hS : W.cell? a1 = some v1 ∧ W.cell? a2 = some v2 ∧ Cells W g m f ∧ w0.grownBy W (some g)) :
    Calls Tryd.prog k args W fun e w' => e = .returned v ∧ w'.cell? a1 = some v1 ∧ w'.cell? a2 = some v2 ∧ Cells w' g m f ∧ w0.grownBy w' (some g) := by
  obtain ⟨c1, c2, c5, c6⟩ := hS
  exact (h W c6).mono fun _ _ ⟨he, hb⟩ => ⟨he, by rw [hb.cell (World.block_lt_of_cell? W a1 c1)]; exact c1, by rw [hb.cell (World.block_lt_of_cell? W a2 c2)]; exact c2, c5.on hb, grown_on c6 hb⟩
end Go.Proofs.YtflcpgdgoencgaaDoor.Sg
