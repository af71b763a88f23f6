/- Several texts in one: HuIns, HuImplHull, LeSort. -/
import Derived.Test.YtflcpgdgoencgaaGreatDoorMgE
import Derived.Test.YtflcpgdgoencgaaGreatDoorMgK
import Derived.IntWalk
import Derived.Deep.QuietTactic
import Derived.BigQuiet
import Derived.Test.YtflcpgdgoencgaaGreatDoorHuImpl
import Derived.Lib.SliceRun
import Derived.Test.YtflcpgdgoencgaaGreatDoorMgP
import Derived.Test.YtflcpgdgoencgaaGreatDoorLeHit
/- slices.SortFunc of a hull's elements behind the first one: insertion, by HullOf's own function. -/
namespace Go.Proofs.YtflcpgdgoencgaaGreatDoor.Sg
open Go.RowKit Pt NewI HuSort
theorem zc_at (L : List Nat) (c : Nat) : zc (zl L) c = .int .i64 (L.getD c 0 : Nat) := by
  unfold zc zl
  rw [List.getD_eq_getElem?_getD, List.getD_eq_getElem?_getD, List.getElem?_map]
  cases L[c]? <;> rfl
theorem zc_next {h0 : Nat} {ys : List Nat} {j p : Nat} (h : ys[j]? = some p) : zc (zl (h0 :: ys)) (1 + j) = .int .i64 (p : Nat) := by
  rw [zc_at, List.getD_eq_getElem?_getD, Nat.add_comm, List.getElem?_cons_succ, h]; rfl
theorem swap_one (h0 : Nat) (ys zs : List Nat) (q j : Nat) (hj : j = q + 1) (s x : Nat) (h : ∀ k, zs[k]? = if k = j then some s else if k = q then some x else ys[k]?) (c : Nat) :
    (if c = 1 + q then Value.int .i64 (x : Nat) else if c = 1 + j then Value.int .i64 (s : Nat) else zc (zl (h0 :: ys)) c) = zc (zl (h0 :: zs)) c := by
  subst hj
  rw [zc_at, zc_at]
  cases c with
  | zero => rw [if_neg (by omega), if_neg (by omega)]; rfl
  | succ c =>
    have hz := h c
    rw [List.getD_eq_getElem?_getD, List.getD_eq_getElem?_getD, List.getElem?_cons_succ, List.getElem?_cons_succ, hz]
    by_cases e1 : c = q
    · subst e1; rw [if_pos (by omega), if_neg (by omega), if_pos rfl]; rfl
    · rw [if_neg (by omega)]
      by_cases e2 : c = q + 1
      · subst e2; rw [if_pos (by omega), if_pos rfl]; rfl
      · rw [if_neg (by omega), if_neg e2, if_neg e1]
/-- What HullOf's function keeps in memory. -/
structure SortD (W : World) (g pS pH b : Nat) (f : Int → Int → Int → Int) (m c : Nat) : Prop where
  sig : W.cell? ⟨pS, 0, none⟩ = some (.map (some b))
  hul : W.cell? ⟨pH, 0, none⟩ = some (.slice (some ⟨g, 0, none⟩) m c)
  map : MapIs W b f
  nS : some pS ≠ some g
  nH : some pH ≠ some g
  nb : some b ≠ some g
theorem SortD.keep {W W' : World} {g pS pH b : Nat} {f : Int → Int → Int → Int} {m c : Nat} (h : SortD W g pS pH b f m c) (hg : W.grownBy W' (some g)) : SortD W' g pS pH b f m c :=
  ⟨hg.cell h.sig h.nS, hg.cell h.hul h.nH, mapIs_keep h.map hg h.nb, h.nS, h.nH, h.nb⟩
theorem grown_set1 {w w' : World} {b : Nat} (h : w.grownBy w' (some b)) (j : Nat) (v : Value) : w.grownBy (w'.setCell ⟨b, j, none⟩ v) (some b) := grown_set h j v
theorem cells_drew {w : World} {b m : Nat} {f : Nat → Value} (h : Cells w b m f) : Cells w.drew b m f := ⟨h.cell, h.frozen, h.lt⟩
theorem cells_drewN {w : World} {b m : Nat} {f : Nat → Value} (h : Cells w b m f) (n : Nat) : Cells (w.drewN n) b m f := ⟨h.cell, h.frozen, h.lt⟩
theorem grown_drewN {w w' : World} {b : Nat} (h : w.grownBy w' (some b)) (n : Nat) : w.grownBy (w'.drewN n) (some b) := ⟨h.os, h.tape, h.output, h.size, h.block⟩
theorem grown_drew {w w' : World} {b : Nat} (h : w.grownBy w' (some b)) : w.grownBy w'.drew (some b) := ⟨h.os, h.tape, h.output, h.size, h.block⟩
/-- A call beside which two cells are read and a row is kept. -/
theorem heldTwo (w0 : World) (g m : Nat) (f : Nat → Value) (a1 a2 : Addr) (v1 v2 : Value) {k : FuncId} {args : Array Value} {W : World} {v : Value} (h : ∀ W, Cells W g m f → w0.grownBy W (some g) → Calls Tryz.prog k args W fun e w' => e = .returned v ∧ Below W.heap.size W w')
    (hS : W.cell? a1 = some v1 ∧ W.cell? a2 = some v2 ∧ Cells W g m f ∧ w0.grownBy W (some g)) :
    Calls Tryz.prog k args W fun e w' => e = .returned v ∧ w'.cell? a1 = some v1 ∧ w'.cell? a2 = some v2 ∧ Cells w' g m f ∧ w0.grownBy w' (some g) := by
  obtain ⟨c1, c2, c5, c6⟩ := hS
  exact (h W c5 c6).mono fun _ _ ⟨he, hb⟩ => ⟨he, by rw [hb.cell (World.block_lt_of_cell? W a1 c1)]; exact c1, by rw [hb.cell (World.block_lt_of_cell? W a2 c2)]; exact c2, c5.on hb, grown_on c6 hb⟩
theorem befO_neg {F : Int → Int → Int → Int} {h0 x y : Nat} (hb : -1 ≤ F h0 x y ∧ F h0 x y ≤ 1) : decide (-(F h0 x y) < 0) = befO F h0 x y := by
  unfold befO
  rw [Bool.eq_iff_iff, decide_eq_true_eq, decide_eq_true_eq]
  omega
end Go.Proofs.YtflcpgdgoencgaaGreatDoor.Sg
/- HullOf, as impl answers it. -/
namespace Go.Proofs.YtflcpgdgoencgaaGreatDoor.Sg
open Go.RowKit Pt NewI HuSort
set_option maxRecDepth 100000 in
theorem bitsLen_small (n : Nat) (h1 : 1 ≤ n) (h7 : n ≤ 7) (w : World) : Calls Tryz.prog 118 #[.int .u64 n] w fun e w' => ∃ k : Int, e = .returned (.int .i64 k) ∧ w = w' := by
  rcases (by omega : n = 1 ∨ n = 2 ∨ n = 3 ∨ n = 4 ∨ n = 5 ∨ n = 6 ∨ n = 7) with rfl | rfl | rfl | rfl | rfl | rfl | rfl
  all_goals
    go_enter Tryz.func118, Tryz.ntmps118
    go_wp2
    go_ret
    exact ⟨_, rfl, rfl⟩
theorem hullZ_no {n : Int} {s : List UInt8} (h : aciB n s = false) : hullZ n s = [] := by unfold hullZ; rw [h]; rfl
end Go.Proofs.YtflcpgdgoencgaaGreatDoor.Sg
/- slices.SortFunc of at most twelve pairs by slices.Compare: insertion. -/
namespace Go.Proofs.YtflcpgdgoencgaaGreatDoor.Sg
open Go.RowKit Pt NewI HuSort
/-- The value of a pair's row: G and C tell its block and what it can hold. -/
def kv (G C : Nat → Nat) (k : Nat) : Value := .slice (some ⟨G k, 0, none⟩) 2 (C k)
def kc (G C : Nat → Nat) (L : List Nat) (c : Nat) : Value := kv G C (L.getD c 0)
theorem kc_get {G C : Nat → Nat} {ys : List Nat} {j p : Nat} (h : ys[j]? = some p) : kc G C ys j = .slice (some ⟨G p, 0, none⟩) 2 (C p) := by
  unfold kc kv
  rw [List.getD_eq_getElem?_getD, h]; rfl
theorem swap_kc (G C : Nat → Nat) (ys zs : List Nat) (q j : Nat) (hj : j = q + 1) (s x : Nat) (h : ∀ k, zs[k]? = if k = j then some s else if k = q then some x else ys[k]?) (c : Nat) :
    (if c = q then Value.slice (some ⟨G x, 0, none⟩) 2 (C x) else if c = j then Value.slice (some ⟨G s, 0, none⟩) 2 (C s) else kc G C ys c) = kc G C zs c := by
  subst hj
  unfold kc kv
  have hz := h c
  rw [List.getD_eq_getElem?_getD, List.getD_eq_getElem?_getD, hz]
  by_cases e1 : c = q
  · subst e1; rw [if_pos rfl, if_neg (by omega), if_pos rfl]; rfl
  · rw [if_neg e1]
    by_cases e2 : c = q + 1
    · subst e2; rw [if_pos rfl, if_pos rfl]; rfl
    · rw [if_neg e2, if_neg e2, if_neg e1]
/-- The pairs' rows in memory. -/
def Krow (W : World) (g : Nat) (G : Nat → Nat) (xs : List Nat) : Prop := ∀ k ∈ xs, some (G k) ≠ some g ∧ W.cell? ⟨G k, 0, none⟩ = some (.int .i64 (k / 8 : Nat)) ∧ W.cell? ⟨G k, 1, none⟩ = some (.int .i64 (k % 8 : Nat))
theorem Krow.keep {W W' : World} {g : Nat} {G : Nat → Nat} {xs : List Nat} (h : Krow W g G xs) (hg : W.grownBy W' (some g)) : Krow W' g G xs := fun k hk => by
  obtain ⟨h1, h2, h3⟩ := h k hk
  exact ⟨h1, hg.cell h2 h1, hg.cell h3 h1⟩
/-- How Compare tells two pairs. -/
def cmpZ (x y : Nat) : Int := if (cmpI ((x / 8 : Nat) : Int) ((y / 8 : Nat) : Int) != 0) = true then cmpI ((x / 8 : Nat) : Int) ((y / 8 : Nat) : Int) else cmpI ((x % 8 : Nat) : Int) ((y % 8 : Nat) : Int)
def befK (x y : Nat) : Bool := decide (x < y)
theorem befK_neg (x y : Nat) : decide (cmpZ x y < 0) = befK x y := by
  unfold cmpZ befK cmpI
  rw [Bool.eq_iff_iff, decide_eq_true_eq, decide_eq_true_eq]
  have h1 : x = 8 * (x / 8) + x % 8 := by omega
  have h2 : y = 8 * (y / 8) + y % 8 := by omega
  have h3 : x % 8 < 8 := by omega
  have h4 : y % 8 < 8 := by omega
  generalize x / 8 = a at *
  generalize y / 8 = b at *
  generalize x % 8 = c at *
  generalize y % 8 = d at *
  subst h1 h2
  rcases (by omega : a < b ∨ a = b ∨ b < a) with e | e | e
  · have k1 : ((a : Int) < (b : Int)) := by omega
    simp [k1]
    omega
  · subst e
    rcases (by omega : c < d ∨ c = d ∨ d < c) with e | e | e
    · have k1 : ((c : Int) < (d : Int)) := by omega
      simp [k1]
      omega
    · subst e; simp
    · have k1 : ¬ ((c : Int) < (d : Int)) := by omega
      have k2 : ((d : Int) < (c : Int)) := by omega
      simp [k1, k2]
      omega
  · have k1 : ¬ ((a : Int) < (b : Int)) := by omega
    have k2 : ((b : Int) < (a : Int)) := by omega
    simp [k1, k2]
    omega
set_option maxHeartbeats 1600000 in
set_option maxRecDepth 100000 in
theorem compare2_any (gx gy cx cy : Nat) (x y : Nat) (w : World) (x0 : w.cell? ⟨gx, 0, none⟩ = some (.int .i64 (x / 8 : Nat))) (x1 : w.cell? ⟨gx, 1, none⟩ = some (.int .i64 (x % 8 : Nat))) (y0 : w.cell? ⟨gy, 0, none⟩ = some (.int .i64 (y / 8 : Nat))) (y1 : w.cell? ⟨gy, 1, none⟩ = some (.int .i64 (y % 8 : Nat))) :
    Calls Tryz.prog 80 #[.slice (some ⟨gx, 0, none⟩) 2 cx, .slice (some ⟨gy, 0, none⟩) 2 cy] w fun e w' => e = .returned (.int .i64 (cmpZ x y)) ∧ Below w.heap.size w w' := by
  have H1 := Lib.hid (fun W => compare_any ((x / 8 : Nat) : Int) ((y / 8 : Nat) : Int) W)
  have H2 := Lib.hid (fun W => compare_any ((x % 8 : Nat) : Int) ((y % 8 : Nat) : Int) W)
  have HE : Hid (cmpZ x y = if (cmpI ((x / 8 : Nat) : Int) ((y / 8 : Nat) : Int) != 0) = true then cmpI ((x / 8 : Nat) : Int) ((y / 8 : Nat) : Int) else cmpI ((x % 8 : Nat) : Int) ((y % 8 : Nat) : Int)) := Lib.hid rfl
  generalize cmpZ x y = z at HE ⊢
  generalize cmpI ((x / 8 : Nat) : Int) ((y / 8 : Nat) : Int) = p at H1 HE
  generalize cmpI ((x % 8 : Nat) : Int) ((y % 8 : Nat) : Int) = q at H2 HE
  generalize x / 8 = a at x0 H1
  generalize y / 8 = b at y0 H1
  generalize x % 8 = c at x1 H2
  generalize y % 8 = d at y1 H2
  cases hp : (p != 0)
  · have HZ : Hid (z = q) := Lib.hid (by rw [HE.out, hp]; rfl)
    clear HE
    cases hq : (q != 0)
    · have HQ : Hid (q = 0) := Lib.hid (by simpa using hq)
      go_enter Tryz.func80, Tryz.ntmps80
      go_wp2
      refine wp_loop_rounds 3 ?_
      rw [rounds_succ]
      go_wp2_with fail
      refine (H1.out _).mono ?_
      rintro e w' ⟨rfl, rfl⟩
      go_wp2
      rw [rounds_succ]
      go_wp2_with fail
      refine (H2.out _).mono ?_
      rintro e w' ⟨rfl, rfl⟩
      go_wp2
      rw [rounds_succ]
      go_wp2
      go_ret
      exact ⟨ret_int (by rw [HZ.out, HQ.out]), Below.refl _ _⟩
    · go_enter Tryz.func80, Tryz.ntmps80
      go_wp2
      refine wp_loop_rounds 2 ?_
      rw [rounds_succ]
      go_wp2_with fail
      refine (H1.out _).mono ?_
      rintro e w' ⟨rfl, rfl⟩
      go_wp2
      rw [rounds_succ]
      go_wp2_with fail
      refine (H2.out _).mono ?_
      rintro e w' ⟨rfl, rfl⟩
      go_wp2
      go_ret
      exact ⟨ret_int HZ.out.symm, Below.refl _ _⟩
  · have HZ : Hid (z = p) := Lib.hid (by rw [HE.out, hp]; rfl)
    clear HE
    go_enter Tryz.func80, Tryz.ntmps80
    go_wp2
    refine wp_loop_rounds 1 ?_
    rw [rounds_succ]
    go_wp2_with fail
    refine (H1.out _).mono ?_
    rintro e w' ⟨rfl, rfl⟩
    go_wp2
    go_ret
    exact ⟨ret_int HZ.out.symm, Below.refl _ _⟩
/-- A call beside which two cells are read and a row is kept. -/
theorem heldKeep (w0 : World) (g m : Nat) (f : Nat → Value) (a1 a2 : Addr) (v1 v2 : Value) {k : FuncId} {args : Array Value} {W : World} {v : Value} (h : ∀ W, w0.grownBy W (some g) → Calls Tryz.prog k args W fun e w' => e = .returned v ∧ Below W.heap.size W w')
    (hS : W.cell? a1 = some v1 ∧ W.cell? a2 = some v2 ∧ Cells W g m f ∧ w0.grownBy W (some g)) :
    Calls Tryz.prog k args W fun e w' => e = .returned v ∧ w'.cell? a1 = some v1 ∧ w'.cell? a2 = some v2 ∧ Cells w' g m f ∧ w0.grownBy w' (some g) := by
  obtain ⟨c1, c2, c5, c6⟩ := hS
  exact (h W c6).mono fun _ _ ⟨he, hb⟩ => ⟨he, by rw [hb.cell (World.block_lt_of_cell? W a1 c1)]; exact c1, by rw [hb.cell (World.block_lt_of_cell? W a2 c2)]; exact c2, c5.on hb, grown_on c6 hb⟩
set_option maxHeartbeats 3200000 in
set_option maxRecDepth 100000 in
theorem insertK_any (g c : Nat) (G C : Nat → Nat) (xs : List Nat) (h1 : 1 ≤ xs.length) (h12 : xs.length ≤ 12) (w : World) (hd : Krow w g G xs) (hc : Cells w g xs.length (kc G C xs)) :
    Calls Tryz.prog 143 #[.slice (some ⟨g, 0, none⟩) xs.length c, .int .i64 0, .int .i64 xs.length, .func (.func 80) #[] #[]] w fun e w' => e = .returned (.tuple #[]) ∧ Cells w' g xs.length (kc G C (sortK befK xs xs.length)) ∧ w.grownBy w' (some g) := by
  have HLS : Hid (∀ x y, x ∈ xs → y ∈ xs → ∀ W, w.grownBy W (some g) → Calls Tryz.prog 80 #[.slice (some ⟨G x, 0, none⟩) 2 (C x), .slice (some ⟨G y, 0, none⟩) 2 (C y)] W fun e w' => e = .returned (.int .i64 (cmpZ x y)) ∧ Below W.heap.size W w') :=
    Lib.hid (fun x y hx hy W hG => compare2_any (G x) (G y) (C x) (C y) x y W (hd.keep hG x hx).2.1 (hd.keep hG x hx).2.2 (hd.keep hG y hy).2.1 (hd.keep hG y hy).2.2)
  have HBF := Lib.hid befK_neg
  have HMEM : Hid (∀ i, i < xs.length → get0 xs i ∈ xs ∧ ∀ q, q < i → get0 (sortK befK xs i) q ∈ xs) := Lib.hid (fun i hi => ⟨get0_mem hi, fun q hq => by
    have hp := sortK_perm befK xs i (by omega)
    exact List.mem_of_mem_take (hp.mem_iff.1 (get0_mem (by rw [sortK_length]; exact hq)))⟩)
  have eg : ∀ args w, (callFunc 80 args).run Tryz.prog w = .ok (.enter 80 args) w := enters_of Tryz.func80 (by kernel_rfl) rfl
  obtain ⟨bef, hbf⟩ : ∃ bf : Nat → Nat → Bool, bf = befK := ⟨_, rfl⟩
  rw [← hbf] at HMEM HBF ⊢
  have hx0 : xs = sortK bef xs 1 ++ xs.drop 1 := by
    rw [sortK_one, get0_of (List.getElem?_eq_getElem (show 0 < xs.length by omega))]
    exact (List.drop_eq_getElem_cons (show 0 < xs.length by omega))
  have H0 : Hid (Cells w g xs.length (kc G C (sortK bef xs 1 ++ xs.drop 1))) := Lib.hid (by rw [← hx0]; exact hc)
  have HG0 : Hid (w.grownBy w (some g)) := Lib.hid (grown_refl w _)
  clear hc hx0 hd hbf
  go_enter Tryz.func143, Tryz.ntmps143
  go_wp2
  go_loopw [8] (fun iv wr => ∃ i : Nat, 1 ≤ i ∧ i ≤ xs.length ∧ iv = .int .i64 i ∧ Hid (Cells wr g xs.length (kc G C (sortK bef xs i ++ xs.drop i))) ∧ Hid (w.grownBy wr (some g))) (fun i _ => xs.length - (intOf i).toNat)
  case atStart => exact ⟨1, Nat.le_refl _, h1, rfl, H0, HG0⟩
  case round =>
    obtain ⟨i, hi1, hi, rfl, HC, HG⟩ := hrel
    by_cases hlt : i < xs.length
    · have HM : Hid (Cells wr g xs.length (kc G C (mid bef xs i i))) := Lib.hid (by rw [← mid_start bef xs i hlt]; exact HC.out)
      go_wp2
      go_loopw [9] (fun jv wr => ∃ j : Nat, j ≤ i ∧ jv = .int .i64 j ∧ Hid (Cells wr g xs.length (kc G C (mid bef xs i j))) ∧ Hid (pos bef (get0 xs i) (sortK bef xs i) i = pos bef (get0 xs i) (sortK bef xs i) j) ∧ Hid (w.grownBy wr (some g))) (fun j _ => (intOf j).toNat)
      case atStart => exact ⟨i, Nat.le_refl _, rfl, HM, Lib.hid rfl, HG⟩
      case round =>
        obtain ⟨j, hj, rfl, HM, HP, HG⟩ := hrel
        by_cases hj0 : j = 0
        · subst hj0
          have HE : Hid (Cells wr g xs.length (kc G C (sortK bef xs (i + 1) ++ xs.drop (i + 1)))) := Lib.hid (by rw [← mid_end bef xs i 0 HP.out]; exact HM.out)
          have hgt0 : decide ((0 : Int) < ((0 : Nat) : Int)) = false := by simp
          go_wp2
          go_quiet (fail)
          go_wp2
          exact ⟨⟨i + 1, by omega, by omega, by go_num, Lib.hid (cells_drewN HE.out _), Lib.hid (grown_drewN HG.out _)⟩, by simp only [intOf]; omega⟩
        · obtain ⟨q, hq⟩ : ∃ q, j = q + 1 := ⟨j - 1, by omega⟩
          have hg1 := mid_get bef xs i j hj
          have hg2 := mid_prev bef xs i q (by omega)
          have HSW := Lib.hid (mid_swap bef xs i q hlt (by omega))
          rw [← hq] at hg2 HSW
          have x0 := HM.out.cell j (by omega)
          have x1 := HM.out.cell q (by omega)
          rw [kc_get hg1] at x0
          rw [kc_get hg2] at x1
          have hr7 := (HMEM.out i hlt).1
          have hs7 := (HMEM.out i hlt).2 q (by omega)
          have HPG : Hid (bef (get0 xs i) (get0 (sortK bef xs i) q) = true → pos bef (get0 xs i) (sortK bef xs i) i = pos bef (get0 xs i) (sortK bef xs i) q) := Lib.hid (fun h => by rw [HP.out, hq, pos_go h])
          have HPS : Hid (bef (get0 xs i) (get0 (sortK bef xs i) q) = false → pos bef (get0 xs i) (sortK bef xs i) i = j) := Lib.hid (fun h => by rw [HP.out, hq, pos_stop h])
          clear hg1 hg2
          generalize hxx : get0 xs i = x at x0 hr7 HPG HPS HSW
          generalize hss : get0 (sortK bef xs i) q = s at x1 hs7 HPG HPS HSW
          have HL := Lib.hid (HLS.out x s hr7 hs7)
          have hbz := HBF.out x s
          have HSP := Lib.hid (fun c => swap_kc G C _ _ q j hq s x HSW.out c)
          generalize cmpZ x s = z at HL hbz
          have hw1 : IntKind.i64.wrap ((j : Int) - 1) = (q : Int) := by rw [IntWalk.i64_in _ (by omega)]; omega
          have hgt : decide ((0 : Int) < (j : Int)) = true := by simp; omega
          have hgt2 : decide (0 < j) = true := by simp; omega
          have hb0 : (0 : Int) ≤ (j : Int) := by omega
          have hb1 : (j : Int) < (xs.length : Int) := by omega
          have hb2 : (0 : Int) ≤ (q : Int) := by omega
          have hb3 : (q : Int) < (xs.length : Int) := by omega
          have hjq : q < j := by omega
          clear hq hj0 hr7 hs7
          obtain ⟨gx, hgx⟩ : ∃ v, v = G x := ⟨_, rfl⟩
          obtain ⟨gs, hgs⟩ : ∃ v, v = G s := ⟨_, rfl⟩
          obtain ⟨cx, hcx⟩ : ∃ v, v = C x := ⟨_, rfl⟩
          obtain ⟨cs, hcs⟩ : ∃ v, v = C s := ⟨_, rfl⟩
          rw [← hgx, ← hcx] at x0
          rw [← hgs, ← hcs] at x1
          rw [← hgx, ← hcx, ← hgs, ← hcs] at HL HSP
          clear hgx hgs hcx hcs
          cases hbf : bef x s
          · have hzd : decide (z < 0) = false := by rw [hbz]; exact hbf
            have HE := Lib.hid (mid_end bef xs i j (by rw [hxx]; exact HPS.out hbf))
            clear hbz hxx hss hbf
            go_wp2
            go_region_held3 (fun W => W.cell? ⟨g, j, none⟩ = some (.slice (some ⟨gx, 0, none⟩) 2 cx) ∧ W.cell? ⟨g, q, none⟩ = some (.slice (some ⟨gs, 0, none⟩) 2 cs)) (first | exact ⟨x0, x1⟩ | (refine ⟨?_, ?_⟩ <;> assumption))
              (first | (go_at_call 80; refine (heldKeep w g xs.length (kc G C (mid bef xs i j)) ⟨g, j, none⟩ ⟨g, q, none⟩ (.slice (some ⟨gx, 0, none⟩) 2 cx) (.slice (some ⟨gs, 0, none⟩) 2 cs) HL.out ?_).mono ?_; (first | exact ⟨x0, x1, HM.out, HG.out⟩ | exact ⟨x0, x1, cells_drew HM.out, grown_drew HG.out⟩); rintro e w2 ⟨rfl, c1, c2, c5, c6⟩))
            go_wp2
            exact ⟨⟨i + 1, by omega, by omega, by go_num, Lib.hid (by rw [← HE.out]; exact c5), Lib.hid c6⟩, by simp only [intOf]; omega⟩
          · have hzd : decide (z < 0) = true := by rw [hbz]; exact hbf
            have HPN := Lib.hid (HPG.out hbf)
            clear hbz hxx hss hbf
            go_wp2
            go_region_held3 (fun W => W.cell? ⟨g, j, none⟩ = some (.slice (some ⟨gx, 0, none⟩) 2 cx) ∧ W.cell? ⟨g, q, none⟩ = some (.slice (some ⟨gs, 0, none⟩) 2 cs)) (first | exact ⟨x0, x1⟩ | (refine ⟨?_, ?_⟩ <;> assumption))
              (first | (go_at_call 80; refine (heldKeep w g xs.length (kc G C (mid bef xs i j)) ⟨g, j, none⟩ ⟨g, q, none⟩ (.slice (some ⟨gx, 0, none⟩) 2 cx) (.slice (some ⟨gs, 0, none⟩) 2 cs) HL.out ?_).mono ?_; (first | exact ⟨x0, x1, HM.out, HG.out⟩ | exact ⟨x0, x1, cells_drew HM.out, grown_drew HG.out⟩); rintro e w2 ⟨rfl, c1, c2, c5, c6⟩))
            have hf0 := c5.frozen j
            have hf1 := c5.frozen q
            have C5 := Lib.hid c5
            have C6 := Lib.hid c6
            clear c5 c6
            go_wp2
            go_region
            have HR1 := Lib.hid (((C5.out.set j (by omega) (.slice (some ⟨gs, 0, none⟩) 2 cs)).set q (by omega) (.slice (some ⟨gx, 0, none⟩) 2 cx)).congr (g := kc G C (mid bef xs i q)) (fun c _ => HSP.out c))
            have HG1 := Lib.hid (grown_set1 (grown_set1 C6.out j (.slice (some ⟨gs, 0, none⟩) 2 cs)) q (.slice (some ⟨gx, 0, none⟩) 2 cx))
            go_wp2
            exact ⟨⟨q, by omega, by go_num, Lib.hid (cells_drew HR1.out), HPN, Lib.hid (grown_drew HG1.out)⟩, by simp only [intOf]; omega⟩
    · have e : i = xs.length := by omega
      have HE : Hid (Cells wr g xs.length (kc G C (sortK bef xs xs.length))) := Lib.hid (by have := HC.out; rw [e, List.drop_length, List.append_nil] at this; exact this)
      clear e
      go_wp2
      go_end0
      exact ⟨rfl, HE.out, HG.out⟩
set_option maxRecDepth 100000 in
theorem bitsLen_12 (n : Nat) (h12 : n ≤ 12) (w : World) : Calls Tryz.prog 118 #[.int .u64 n] w fun e w' => ∃ k : Int, e = .returned (.int .i64 k) ∧ w = w' := by
  rcases (by omega : n = 0 ∨ n = 1 ∨ n = 2 ∨ n = 3 ∨ n = 4 ∨ n = 5 ∨ n = 6 ∨ n = 7 ∨ n = 8 ∨ n = 9 ∨ n = 10 ∨ n = 11 ∨ n = 12) with rfl | rfl | rfl | rfl | rfl | rfl | rfl | rfl | rfl | rfl | rfl | rfl | rfl
  all_goals
    go_enter Tryz.func118, Tryz.ntmps118
    go_wp2
    go_ret
    exact ⟨_, rfl, rfl⟩
set_option maxHeartbeats 800000 in
set_option maxRecDepth 100000 in
theorem pdqK_any (g c : Nat) (G C : Nat → Nat) (xs : List Nat) (h1 : 1 ≤ xs.length) (h12 : xs.length ≤ 12) (k : Int) (w : World) (hd : Krow w g G xs) (hc : Cells w g xs.length (kc G C xs)) :
    Calls Tryz.prog 117 #[.slice (some ⟨g, 0, none⟩) xs.length c, .int .i64 0, .int .i64 xs.length, .int .i64 k, .func (.func 80) #[] #[]] w fun e w' => e = .returned (.tuple #[]) ∧ Cells w' g xs.length (kc G C (sortK befK xs xs.length)) ∧ w.grownBy w' (some g) := by
  have HI := Lib.hid (insertK_any g c G C xs h1 h12 w hd hc)
  clear hc hd
  go_enter Tryz.func117, Tryz.ntmps117
  go_wp2
  refine wp_loop_rounds 1 ?_
  rw [rounds_succ]
  go_wp2_with fail
  refine HI.out.mono ?_
  rintro e w1 ⟨rfl, hc1, hg1⟩
  have C1 := Lib.hid hc1
  clear hc1
  go_wp2
  go_returns
  exact ⟨rfl, C1.out, hg1⟩
set_option maxRecDepth 100000 in
theorem sortK_any (g c : Nat) (G C : Nat → Nat) (xs : List Nat) (h1 : 1 ≤ xs.length) (h12 : xs.length ≤ 12) (w : World) (hd : Krow w g G xs) (hc : Cells w g xs.length (kc G C xs)) :
    Calls Tryz.prog 79 #[.slice (some ⟨g, 0, none⟩) xs.length c, .func (.func 80) #[] #[]] w fun e w' => e = .returned (.tuple #[]) ∧ Cells w' g xs.length (kc G C (sortK befK xs xs.length)) ∧ w.grownBy w' (some g) := by
  have HP := Lib.hid (fun k => pdqK_any g c G C xs h1 h12 k w hd hc)
  clear hc hd
  go_enter Tryz.func79, Tryz.ntmps79
  go_wp2_with fail
  refine (bitsLen_12 xs.length h12 _).mono ?_
  rintro e w' ⟨k, rfl, rfl⟩
  go_wp2_with fail
  refine (HP.out k).mono ?_
  rintro e w1 ⟨rfl, hc1, hg1⟩
  have C1 := Lib.hid hc1
  clear hc1
  go_wp2
  go_returns
  exact ⟨rfl, C1.out, hg1⟩
set_option maxRecDepth 100000 in
theorem sort0_any (w : World) :
    Calls Tryz.prog 79 #[.slice none 0 0, .func (.func 80) #[] #[]] w fun e w' => e = .returned (.tuple #[]) ∧ w = w' := by
  have HI : Hid (∀ k, Calls Tryz.prog 117 #[.slice none 0 0, .int .i64 0, .int .i64 0, .int .i64 k, .func (.func 80) #[] #[]] w fun e w' => e = .returned (.tuple #[]) ∧ w = w') := Lib.hid (fun k => by
    have HJ : Hid (Calls Tryz.prog 143 #[.slice none 0 0, .int .i64 0, .int .i64 0, .func (.func 80) #[] #[]] w fun e w' => e = .returned (.tuple #[]) ∧ w = w') := Lib.hid (by
      go_enter Tryz.func143, Tryz.ntmps143
      go_wp2
      refine wp_loop_rounds 1 ?_
      rw [rounds_succ]
      go_wp2
      go_end0
      exact ⟨rfl, rfl⟩)
    go_enter Tryz.func117, Tryz.ntmps117
    go_wp2
    refine wp_loop_rounds 1 ?_
    rw [rounds_succ]
    go_wp2_with fail
    refine HJ.out.mono ?_
    rintro e w1 ⟨rfl, rfl⟩
    go_wp2
    go_returns
    exact ⟨rfl, rfl⟩)
  go_enter Tryz.func79, Tryz.ntmps79
  go_wp2_with fail
  refine (bitsLen_12 0 (by omega) _).mono ?_
  rintro e w' ⟨k, rfl, rfl⟩
  go_wp2_with fail
  refine (HI.out k).mono ?_
  rintro e w1 ⟨rfl, rfl⟩
  go_wp2
  go_returns
  exact ⟨rfl, rfl⟩
end Go.Proofs.YtflcpgdgoencgaaGreatDoor.Sg
