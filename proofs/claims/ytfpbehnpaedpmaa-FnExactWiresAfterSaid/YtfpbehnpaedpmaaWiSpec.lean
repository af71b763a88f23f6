/- Wirings, as spec tells them: l12Start, l12Swap. -/
import Derived.Test.YtfpbehnpaedpmaaWiFine
import Derived.Test.YtfpbehnpaedpmaaNewI
import Derived.Test.YtfpbehnpaedpmaaSgOthers
import Derived.Deep.QuietTactic
import Derived.BigQuiet
namespace Go.Proofs.Ytfpbehnpaedpmaa.Sg
open Go.RowKit Pt NewI Wi
/-- The numbers as the program holds them. -/
def wl (L : List Nat) : List Int := L.map fun (x : Nat) => (x : Int)
theorem wl_length (L : List Nat) : (wl L).length = L.length := List.length_map _
theorem wl_snoc (L : List Nat) (x : Nat) : wl (L ++ [x]) = wl L ++ [(x : Int)] := by unfold wl; rw [List.map_append]; rfl
theorem wl_getD (L : List Nat) (j : Nat) : (wl L).getD j 0 = ((L.getD j 0 : Nat) : Int) := by
  unfold wl
  rw [List.getD_eq_getElem?_getD, List.getElem?_map, List.getD_eq_getElem?_getD]
  cases L[j]? <;> rfl
theorem zc_wl (L : List Nat) (j : Nat) : zc (wl L) j = .int .i64 ((L.getD j 0 : Nat) : Int) := by unfold zc; rw [wl_getD]
theorem swp_getD {L : List Nat} {q : Nat} (h : q + 1 < L.length) (j : Nat) : (swp L q).getD j 0 = if j = q + 1 then L.getD q 0 else if j = q then L.getD (q + 1) 0 else L.getD j 0 := by
  induction L generalizing q j with
  | nil => simp at h
  | cons a L ih =>
    cases q with
    | zero =>
      cases L with
      | nil => simp at h
      | cons b L => match j with
        | 0 => rfl
        | 1 => rfl
        | j + 2 => simp [swp]
    | succ q =>
      cases j with
      | zero => simp [swp]
      | succ j =>
        have := ih (q := q) (by simpa using h) j
        simp only [swp, List.getD_cons_succ, this]
        simp only [Nat.add_right_cancel_iff]
set_option maxHeartbeats 1600000 in
set_option maxRecDepth 100000 in
theorem l12Start_any (n : Nat) (hn : n ≤ 100) (w : World) :
    Calls Try.prog 31 #[.int .i64 n] w fun e w' => (∃ v, e = .returned v ∧ OwnsZ w' w.heap.size v (wl (List.range n))) ∧ Below w.heap.size w w' := by
  obtain ⟨i0, hi, hz0, hz1, hz2⟩ := info_parts infoI
  have HO0 : Hid (OwnsZ (w.alloc (.cells #[] 3)) w.heap.size (.slice (some ⟨w.heap.size, 0, none⟩) 0 0) (wl (List.range 0))) := Lib.hid (World.ownsRow_made (base := w.heap.size) (e := 3) (size := 1) w #[] 0 (Nat.le_refl _) (by decide) rfl)
  have HB0 : Hid (Below w.heap.size w (w.alloc (.cells #[] 3))) := Lib.hid ((Below.refl _ _).alloc (Nat.le_refl _) _)
  have HSN : Hid (∀ p, wl (List.range (p + 1)) = wl (List.range p) ++ [(p : Int)]) := Lib.hid (fun p => by rw [List.range_succ, wl_snoc])
  have HSL : Hid (∀ p, (wl (List.range p)).length = p) := Lib.hid (fun p => by rw [wl_length, List.length_range])
  go_enter Try.func31, Try.ntmps31
  go_wp2
  go_loopw [3, 4] (fun vv c wr => ∃ p : Nat, p ≤ n ∧ c = .int .i64 p ∧ Hid (OwnsZ wr w.heap.size vv (wl (List.range p))) ∧ Hid (Below w.heap.size w wr)) (fun _ c _ => n - (intOf c).toNat)
  case atStart => exact ⟨0, Nat.zero_le _, rfl, HO0, HB0⟩
  case round =>
    obtain ⟨p, hp, rfl, HO, HB⟩ := hrel
    have hwr := HB.out.size
    by_cases hlt : p < n
    · have hpl := HSL.out p
      go_wp2_with (at_builtin; refine wpList_append_own _ rfl (.tmp 11) (.tmp 13) 22 rfl w.heap.size 3 i0 _ 1 8 Try.underlying22 hi hz0 hz1 hz2 rfl (by decide) _ _ _ rfl (World.ownsRow.alloc HO.out _) ⟨_, 0, none⟩ 1 1 [.int .i64 (p : Int)] rfl rfl (news1 _ _ _) (one1 _) (by simp only [maxLen]; omega) (by omega) (by simp; omega) ?_)
      intro v6 w6 hown6 hg6 _
      have HB6 := Lib.hid ((HB.out.alloc hwr (.cells #[.int .i64 (p : Int)] 3)).grown hg6 (by simp; omega) (fun k hk => (World.ownsRow.lt HO.out k hk).1))
      have HO6 : Hid (OwnsZ w6 w.heap.size v6 (wl (List.range p) ++ [(p : Int)])) := Lib.hid (ownsZ_snoc (zs := wl (List.range p)) (ys := [(p : Int)]) (by rw [hpl]; exact hown6))
      rw [← HSN.out] at HO6
      clear hown6 hg6
      go_wp2
      exact ⟨⟨p + 1, by omega, by go_num, HO6, HB6⟩, by simp only [intOf]; omega⟩
    · obtain rfl : p = n := by omega
      obtain ⟨ra, rc, rfl, hnew, -⟩ := New.of_own HO.out
      clear hnew
      go_wp2
      go_ret
      exact ⟨⟨_, rfl, HO.out⟩, HB.out⟩
theorem l1In_q (x lo hi : Int) (w : World) : Calls Try.prog 30 #[.int .i64 x, .int .i64 lo, .int .i64 hi] w fun e w' => e = .returned (.bool (inB x lo hi)) ∧ w' = w :=
  (l1In_any x lo hi w).mono fun _ _ ⟨he, hw⟩ => ⟨he, hw.symm⟩
/-- An exchange that finds the lesser one first. -/
def swB (L : List Nat) (p : Int) : Bool := decide (0 ≤ p ∧ p.toNat + 1 < L.length ∧ L.getD p.toNat 0 < L.getD (p.toNat + 1) 0)
def swD (L : List Nat) (p : Int) : List Nat := if swB L p = true then swp L p.toNat else L
theorem swD_len (L : List Nat) (p : Int) : (swD L p).length = L.length := by unfold swD; split <;> simp
theorem swD_nodup {L : List Nat} (h : L.Nodup) (p : Int) : (swD L p).Nodup := by unfold swD; split; exact swp_nodup h _; exact h
theorem nodup_ne {L : List Nat} (h : L.Nodup) {i j : Nat} (hi : i < L.length) (hj : j < L.length) (hij : i ≠ j) : L.getD i 0 ≠ L.getD j 0 := by
  rw [List.getD_eq_getElem?_getD, List.getD_eq_getElem?_getD, List.getElem?_eq_getElem hi, List.getElem?_eq_getElem hj]
  intro c
  exact hij ((List.getElem_inj h).1 c)
/-- A block of ints. -/
def IntW (w : World) (g : Nat) : Prop := ∃ cs, w.heap[g]? = some (.cells cs 3)
theorem IntW.set {w : World} {g : Nat} (h : IntW w g) (i : Nat) (v : Value) : IntW (w.setCell ⟨g, i, none⟩ v) g := by
  obtain ⟨cs, h⟩ := h
  exact ⟨_, heap_setCell_same w g i cs _ v h⟩
theorem IntW.on {w w' : World} {g : Nat} (h : IntW w g) (hb : Below w.heap.size w w') : IntW w' g := by
  obtain ⟨cs, h⟩ := h
  exact ⟨cs, (hb.block g (Array.getElem?_eq_some_iff.1 h).1).trans h⟩
set_option maxHeartbeats 1600000 in
set_option maxRecDepth 100000 in
theorem l12Swap_int (b m c : Nat) (L : List Nat) (p : Int) (hm : L.length = m) (hm2 : 2 ≤ m) (hm1 : m ≤ 100) (hL : L.Nodup) (W : World) (h : Cells W b m (zc (wl L))) :
    Calls Try.prog 32 #[.slice (some ⟨b, 0, none⟩) m c, .int .i64 p] W fun e w' => e = .returned (.bool (swB L p)) ∧ Cells w' b m (zc (wl (swD L p))) ∧ Out b (b + 1) W w' ∧ (IntW W b → IntW w' b) := by
  have HL := Lib.hid (fun W => l1In_q p 0 ((m : Int) - 2) W)
  have HC := Lib.hid h
  clear h
  have v0 : IntKind.i64.wrap ((m : Int) - 2) = (m : Int) - 2 := IntWalk.i64_in _ (by omega)
  cases hin : inB p 0 ((m : Int) - 2)
  · have e : swB L p = false := by
      unfold swB
      have : ¬ (0 ≤ p ∧ p ≤ (m : Int) - 2) := by simpa [inB] using hin
      exact decide_eq_false (fun c => this ⟨c.1, by omega⟩)
    have e2 : swD L p = L := by unfold swD; rw [e]; rfl
    rw [hin] at HL
    rw [e, e2]
    clear hin e e2
    go_enter Try.func32, Try.ntmps32
    go_wp2
    go_quiet ((go_at_call 30; exact Calls.quiet_of_same (HL.out _)))
    go_wp2
    go_ret
    exact ⟨rfl, ⟨HC.out.cell, HC.out.frozen, HC.out.lt⟩, ⟨rfl, rfl, rfl, Nat.le_refl _, fun _ _ _ => rfl⟩, fun h => h⟩
  · obtain ⟨p0, p1⟩ := inB_mem hin
    obtain ⟨q, rfl⟩ : ∃ q : Nat, p = q := ⟨p.toNat, by omega⟩
    rw [hin] at HL
    have hq1 : q + 1 < m := by omega
    have hne := nodup_ne hL (i := q) (j := q + 1) (by omega) (by omega) (by omega)
    have c0 : W.cell? ⟨b, q, none⟩ = some (.int .i64 ((L.getD q 0 : Nat) : Int)) := by rw [HC.out.cell q (by omega), zc_wl]
    have c1 : W.cell? ⟨b, q + 1, none⟩ = some (.int .i64 ((L.getD (q + 1) 0 : Nat) : Int)) := by rw [HC.out.cell (q + 1) hq1, zc_wl]
    have v1 : IntKind.i64.wrap ((q : Int) + 1) = ((q + 1 : Nat) : Int) := by rw [IntWalk.i64_in _ (by omega)]; omega
    have f0 := HC.out.frozen q
    have f1 := HC.out.frozen (q + 1)
    have hsw := Lib.hid (swp_getD (L := L) (q := q) (by omega))
    have e : swB L q = decide (L.getD q 0 < L.getD (q + 1) 0) := by
      unfold swB
      rw [Int.toNat_natCast]
      by_cases hlt : L.getD q 0 < L.getD (q + 1) 0
      · rw [decide_eq_true hlt]; exact decide_eq_true ⟨by omega, by omega, hlt⟩
      · rw [decide_eq_false hlt]; exact decide_eq_false (fun c => hlt c.2.2)
    have e2 : swD L q = if L.getD q 0 < L.getD (q + 1) 0 then swp L q else L := by
      unfold swD; rw [e, Int.toNat_natCast]; simp only [decide_eq_true_eq]
    rw [e, e2]
    clear hin e e2 hL
    generalize hx : L.getD q 0 = x at c0 hne hsw ⊢
    generalize hy : L.getD (q + 1) 0 = y at c1 hne hsw ⊢
    by_cases hlt : x < y
    · rw [decide_eq_true hlt, if_pos hlt]
      have HN : Hid (∀ k, Cells (((W.drewN k).setCell ⟨b, q, none⟩ (.int .i64 (y : Int))).setCell ⟨b, q + 1, none⟩ (.int .i64 (x : Int))) b m (zc (wl (swp L q)))) := Lib.hid (fun k => ((Cells.set (w := W.drewN k) (f := zc (wl L)) (m := m) ⟨HC.out.cell, HC.out.frozen, HC.out.lt⟩ q (by omega) _).set (q + 1) hq1 _).congr (fun i _ => by
        rw [zc_wl (swp L q), hsw.out i]
        by_cases h1 : i = q + 1
        · rw [if_pos h1, if_pos h1]
        · rw [if_neg h1, if_neg h1]
          by_cases h2 : i = q
          · rw [if_pos h2, if_pos h2]
          · rw [if_neg h2, if_neg h2, zc_wl]))
      have c1' : ∀ k, ((W.drewN k).setCell ⟨b, q, none⟩ (.int .i64 (y : Int))).cell? ⟨b, q + 1, none⟩ = some (.int .i64 (y : Int)) := fun k => by
        rw [World.cell?_setCell_other _ _ _ _ (fun he => by injection he with _ h2; omega)]; exact c1
      have f1' : ∀ k, ((W.drewN k).setCell ⟨b, q, none⟩ (.int .i64 (y : Int))).frozen? ⟨b, q + 1, none⟩ = false := fun k => by rw [World.frozen?_setCell]; exact f1
      have HOut : Hid (∀ k, Out b (b + 1) W (((W.drewN k).setCell ⟨b, q, none⟩ (.int .i64 (y : Int))).setCell ⟨b, q + 1, none⟩ (.int .i64 (x : Int)))) := Lib.hid (fun k => ⟨rfl, rfl, rfl, by simp [World.setCell], fun i hi hne' => by
        rw [heap_setCell_other _ _ _ _ (by show i ≠ b; omega), heap_setCell_other _ _ _ _ (by show i ≠ b; omega)]; rfl⟩)
      have HIN : Hid (∀ k, IntW W b → IntW (((W.drewN k).setCell ⟨b, q, none⟩ (.int .i64 (y : Int))).setCell ⟨b, q + 1, none⟩ (.int .i64 (x : Int))) b) := Lib.hid (fun k h => (IntW.set (w := W.drewN k) h q _).set (q + 1) _)
      have k0 : decide ((x : Int) > (y : Int)) = false := decide_eq_false (by omega)
      clear hx hy hsw
      go_enter Try.func32, Try.ntmps32
      go_wp2
      go_quiet ((go_at_call 30; exact Calls.quiet_of_same (HL.out _)))
      go_wp2
      go_ret
      exact ⟨rfl, HN.out _, HOut.out _, HIN.out _⟩
    · rw [decide_eq_false hlt, if_neg hlt]
      have k0 : decide ((x : Int) > (y : Int)) = true := decide_eq_true (by omega)
      clear hx hy hsw
      go_enter Try.func32, Try.ntmps32
      go_wp2
      go_quiet ((go_at_call 30; exact Calls.quiet_of_same (HL.out _)))
      go_wp2
      go_ret
      exact ⟨rfl, ⟨HC.out.cell, HC.out.frozen, HC.out.lt⟩, ⟨rfl, rfl, rfl, Nat.le_refl _, fun _ _ _ => rfl⟩, fun h => h⟩
theorem l12Swap_any (b m c : Nat) (L : List Nat) (p : Int) (hm : L.length = m) (hm2 : 2 ≤ m) (hm1 : m ≤ 100) (hL : L.Nodup) (W : World) (h : Cells W b m (zc (wl L))) :
    Calls Try.prog 32 #[.slice (some ⟨b, 0, none⟩) m c, .int .i64 p] W fun e w' => e = .returned (.bool (swB L p)) ∧ Cells w' b m (zc (wl (swD L p))) ∧ Out b (b + 1) W w' :=
  (l12Swap_int b m c L p hm hm2 hm1 hL W h).mono fun _ _ ⟨h1, h2, h3, _⟩ => ⟨h1, h2, h3⟩
end Go.Proofs.Ytfpbehnpaedpmaa.Sg
