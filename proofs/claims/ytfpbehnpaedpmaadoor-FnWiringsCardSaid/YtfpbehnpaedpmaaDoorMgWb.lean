/- Several texts in one: WiSpec, WiIs, WiAfter, WiFlip. -/
import Derived.Test.YtfpbehnpaedpmaaDoorMgWa
import Derived.Test.YtfpbehnpaedpmaaDoorNewI
import Derived.Test.YtfpbehnpaedpmaaDoorMgSb
import Derived.Deep.QuietTactic
import Derived.BigQuiet
/- Wirings, as spec tells them: l12Start, l12Swap. -/
namespace Go.Proofs.YtfpbehnpaedpmaaDoor.Sg
open Go.RowKit Pt NewI Wi
/-- The numbers as the program holds them. -/
def wl (L : List Nat) : List Int := L.map fun (x : Nat) => (x : Int)
theorem wl_length (L : List Nat) : (wl L).length = L.length := List.length_map _
theorem wl_snoc (L : List Nat) (x : Nat) : wl (L ++ [x]) = wl L ++ [(x : Int)] := by unfold wl; rw [List.map_append]; rfl
theorem wl_getD (L : List Nat) (j : Nat) : (wl L).getD j 0 = ((L.getD j 0 : Nat) : Int) := by
  unfold wl
  rw [List.getD_eq_getElem?_getD, List.getElem?_map, List.getD_eq_getElem?_getD]
  cases L[j]? <;> rfl
theorem zc_wl (L : List Nat) (j : Nat) : zc (wl L) j = .int .i64 ((L.getD j 0 : Nat) : Int) := by unfold zc; rw [wl_getD]
theorem swp_getD {L : List Nat} {q : Nat} (h : q + 1 < L.length) (j : Nat) : (swp L q).getD j 0 = if j = q + 1 then L.getD q 0 else if j = q then L.getD (q + 1) 0 else L.getD j 0 := by
  induction L generalizing q j with
  | nil => simp at h
  | cons a L ih =>
    cases q with
    | zero =>
      cases L with
      | nil => simp at h
      | cons b L => match j with
        | 0 => rfl
        | 1 => rfl
        | j + 2 => simp [swp]
    | succ q =>
      cases j with
      | zero => simp [swp]
      | succ j =>
        have := ih (q := q) (by simpa using h) j
        simp only [swp, List.getD_cons_succ, this]
        simp only [Nat.add_right_cancel_iff]
set_option maxHeartbeats 1600000 in
set_option maxRecDepth 100000 in
theorem l12Start_any (n : Nat) (hn : n ≤ 100) (w : World) :
    Calls Tryd.prog 46 #[.int .i64 n] w fun e w' => (∃ v, e = .returned v ∧ OwnsZ w' w.heap.size v (wl (List.range n))) ∧ Below w.heap.size w w' := by
  obtain ⟨i0, hi, hz0, hz1, hz2⟩ := info_parts infoI
  have HO0 : Hid (OwnsZ (w.alloc (.cells #[] 3)) w.heap.size (.slice (some ⟨w.heap.size, 0, none⟩) 0 0) (wl (List.range 0))) := Lib.hid (World.ownsRow_made (base := w.heap.size) (e := 3) (size := 1) w #[] 0 (Nat.le_refl _) (by decide) rfl)
  have HB0 : Hid (Below w.heap.size w (w.alloc (.cells #[] 3))) := Lib.hid ((Below.refl _ _).alloc (Nat.le_refl _) _)
  have HSN : Hid (∀ p, wl (List.range (p + 1)) = wl (List.range p) ++ [(p : Int)]) := Lib.hid (fun p => by rw [List.range_succ, wl_snoc])
  have HSL : Hid (∀ p, (wl (List.range p)).length = p) := Lib.hid (fun p => by rw [wl_length, List.length_range])
  go_enter Tryd.func46, Tryd.ntmps46
  go_wp2
  go_loopw [3, 4] (fun vv c wr => ∃ p : Nat, p ≤ n ∧ c = .int .i64 p ∧ Hid (OwnsZ wr w.heap.size vv (wl (List.range p))) ∧ Hid (Below w.heap.size w wr)) (fun _ c _ => n - (intOf c).toNat)
  case atStart => exact ⟨0, Nat.zero_le _, rfl, HO0, HB0⟩
  case round =>
    obtain ⟨p, hp, rfl, HO, HB⟩ := hrel
    have hwr := HB.out.size
    by_cases hlt : p < n
    · have hpl := HSL.out p
      go_wp2_with (at_builtin; refine wpList_append_own _ rfl (.tmp 11) (.tmp 13) 24 rfl w.heap.size 3 i0 _ 1 8 Tryd.underlying24 hi hz0 hz1 hz2 rfl (by decide) _ _ _ rfl (World.ownsRow.alloc HO.out _) ⟨_, 0, none⟩ 1 1 [.int .i64 (p : Int)] rfl rfl (news1 _ _ _) (one1 _) (by simp only [maxLen]; omega) (by omega) (by simp; omega) ?_)
      intro v6 w6 hown6 hg6 _
      have HB6 := Lib.hid ((HB.out.alloc hwr (.cells #[.int .i64 (p : Int)] 3)).grown hg6 (by simp; omega) (fun k hk => (World.ownsRow.lt HO.out k hk).1))
      have HO6 : Hid (OwnsZ w6 w.heap.size v6 (wl (List.range p) ++ [(p : Int)])) := Lib.hid (ownsZ_snoc (zs := wl (List.range p)) (ys := [(p : Int)]) (by rw [hpl]; exact hown6))
      rw [← HSN.out] at HO6
      clear hown6 hg6
      go_wp2
      exact ⟨⟨p + 1, by omega, by go_num, HO6, HB6⟩, by simp only [intOf]; omega⟩
    · obtain rfl : p = n := by omega
      obtain ⟨ra, rc, rfl, hnew, -⟩ := New.of_own HO.out
      clear hnew
      go_wp2
      go_ret
      exact ⟨⟨_, rfl, HO.out⟩, HB.out⟩
theorem l1In_q (x lo hi : Int) (w : World) : Calls Tryd.prog 45 #[.int .i64 x, .int .i64 lo, .int .i64 hi] w fun e w' => e = .returned (.bool (inB x lo hi)) ∧ w' = w :=
  (l1In_any x lo hi w).mono fun _ _ ⟨he, hw⟩ => ⟨he, hw.symm⟩
/-- An exchange that finds the lesser one first. -/
def swB (L : List Nat) (p : Int) : Bool := decide (0 ≤ p ∧ p.toNat + 1 < L.length ∧ L.getD p.toNat 0 < L.getD (p.toNat + 1) 0)
def swD (L : List Nat) (p : Int) : List Nat := if swB L p = true then swp L p.toNat else L
theorem swD_len (L : List Nat) (p : Int) : (swD L p).length = L.length := by unfold swD; split <;> simp
theorem swD_nodup {L : List Nat} (h : L.Nodup) (p : Int) : (swD L p).Nodup := by unfold swD; split; exact swp_nodup h _; exact h
theorem nodup_ne {L : List Nat} (h : L.Nodup) {i j : Nat} (hi : i < L.length) (hj : j < L.length) (hij : i ≠ j) : L.getD i 0 ≠ L.getD j 0 := by
  rw [List.getD_eq_getElem?_getD, List.getD_eq_getElem?_getD, List.getElem?_eq_getElem hi, List.getElem?_eq_getElem hj]
  intro c
  exact hij ((List.getElem_inj h).1 c)
/-- A block of ints. -/
def IntW (w : World) (g : Nat) : Prop := ∃ cs, w.heap[g]? = some (.cells cs 3)
theorem IntW.set {w : World} {g : Nat} (h : IntW w g) (i : Nat) (v : Value) : IntW (w.setCell ⟨g, i, none⟩ v) g := by
  obtain ⟨cs, h⟩ := h
  exact ⟨_, heap_setCell_same w g i cs _ v h⟩
theorem IntW.on {w w' : World} {g : Nat} (h : IntW w g) (hb : Below w.heap.size w w') : IntW w' g := by
  obtain ⟨cs, h⟩ := h
  exact ⟨cs, (hb.block g (Array.getElem?_eq_some_iff.1 h).1).trans h⟩
set_option maxHeartbeats 1600000 in
set_option maxRecDepth 100000 in
theorem l12Swap_int (b m c : Nat) (L : List Nat) (p : Int) (hm : L.length = m) (hm2 : 2 ≤ m) (hm1 : m ≤ 100) (hL : L.Nodup) (W : World) (h : Cells W b m (zc (wl L))) :
    Calls Tryd.prog 48 #[.slice (some ⟨b, 0, none⟩) m c, .int .i64 p] W fun e w' => e = .returned (.bool (swB L p)) ∧ Cells w' b m (zc (wl (swD L p))) ∧ Out b (b + 1) W w' ∧ (IntW W b → IntW w' b) := by
  have HL := Lib.hid (fun W => l1In_q p 0 ((m : Int) - 2) W)
  have HC := Lib.hid h
  clear h
  have v0 : IntKind.i64.wrap ((m : Int) - 2) = (m : Int) - 2 := IntWalk.i64_in _ (by omega)
  cases hin : inB p 0 ((m : Int) - 2)
  · have e : swB L p = false := by
      unfold swB
      have : ¬ (0 ≤ p ∧ p ≤ (m : Int) - 2) := by simpa [inB] using hin
      exact decide_eq_false (fun c => this ⟨c.1, by omega⟩)
    have e2 : swD L p = L := by unfold swD; rw [e]; rfl
    rw [hin] at HL
    rw [e, e2]
    clear hin e e2
    go_enter Tryd.func48, Tryd.ntmps48
    go_wp2
    go_quiet ((go_at_call 45; exact Calls.quiet_of_same (HL.out _)))
    go_wp2
    go_ret
    exact ⟨rfl, ⟨HC.out.cell, HC.out.frozen, HC.out.lt⟩, ⟨rfl, rfl, rfl, Nat.le_refl _, fun _ _ _ => rfl⟩, fun h => h⟩
  · obtain ⟨p0, p1⟩ := inB_mem hin
    obtain ⟨q, rfl⟩ : ∃ q : Nat, p = q := ⟨p.toNat, by omega⟩
    rw [hin] at HL
    have hq1 : q + 1 < m := by omega
    have hne := nodup_ne hL (i := q) (j := q + 1) (by omega) (by omega) (by omega)
    have c0 : W.cell? ⟨b, q, none⟩ = some (.int .i64 ((L.getD q 0 : Nat) : Int)) := by rw [HC.out.cell q (by omega), zc_wl]
    have c1 : W.cell? ⟨b, q + 1, none⟩ = some (.int .i64 ((L.getD (q + 1) 0 : Nat) : Int)) := by rw [HC.out.cell (q + 1) hq1, zc_wl]
    have v1 : IntKind.i64.wrap ((q : Int) + 1) = ((q + 1 : Nat) : Int) := by rw [IntWalk.i64_in _ (by omega)]; omega
    have f0 := HC.out.frozen q
    have f1 := HC.out.frozen (q + 1)
    have hsw := Lib.hid (swp_getD (L := L) (q := q) (by omega))
    have e : swB L q = decide (L.getD q 0 < L.getD (q + 1) 0) := by
      unfold swB
      rw [Int.toNat_natCast]
      by_cases hlt : L.getD q 0 < L.getD (q + 1) 0
      · rw [decide_eq_true hlt]; exact decide_eq_true ⟨by omega, by omega, hlt⟩
      · rw [decide_eq_false hlt]; exact decide_eq_false (fun c => hlt c.2.2)
    have e2 : swD L q = if L.getD q 0 < L.getD (q + 1) 0 then swp L q else L := by
      unfold swD; rw [e, Int.toNat_natCast]; simp only [decide_eq_true_eq]
    rw [e, e2]
    clear hin e e2 hL
    generalize hx : L.getD q 0 = x at c0 hne hsw ⊢
    generalize hy : L.getD (q + 1) 0 = y at c1 hne hsw ⊢
    by_cases hlt : x < y
    · rw [decide_eq_true hlt, if_pos hlt]
      have HN : Hid (∀ k, Cells (((W.drewN k).setCell ⟨b, q, none⟩ (.int .i64 (y : Int))).setCell ⟨b, q + 1, none⟩ (.int .i64 (x : Int))) b m (zc (wl (swp L q)))) := Lib.hid (fun k => ((Cells.set (w := W.drewN k) (f := zc (wl L)) (m := m) ⟨HC.out.cell, HC.out.frozen, HC.out.lt⟩ q (by omega) _).set (q + 1) hq1 _).congr (fun i _ => by
        rw [zc_wl (swp L q), hsw.out i]
        by_cases h1 : i = q + 1
        · rw [if_pos h1, if_pos h1]
        · rw [if_neg h1, if_neg h1]
          by_cases h2 : i = q
          · rw [if_pos h2, if_pos h2]
          · rw [if_neg h2, if_neg h2, zc_wl]))
      have c1' : ∀ k, ((W.drewN k).setCell ⟨b, q, none⟩ (.int .i64 (y : Int))).cell? ⟨b, q + 1, none⟩ = some (.int .i64 (y : Int)) := fun k => by
        rw [World.cell?_setCell_other _ _ _ _ (fun he => by injection he with _ h2; omega)]; exact c1
      have f1' : ∀ k, ((W.drewN k).setCell ⟨b, q, none⟩ (.int .i64 (y : Int))).frozen? ⟨b, q + 1, none⟩ = false := fun k => by rw [World.frozen?_setCell]; exact f1
      have HOut : Hid (∀ k, Out b (b + 1) W (((W.drewN k).setCell ⟨b, q, none⟩ (.int .i64 (y : Int))).setCell ⟨b, q + 1, none⟩ (.int .i64 (x : Int)))) := Lib.hid (fun k => ⟨rfl, rfl, rfl, by simp [World.setCell], fun i hi hne' => by
        rw [heap_setCell_other _ _ _ _ (by show i ≠ b; omega), heap_setCell_other _ _ _ _ (by show i ≠ b; omega)]; rfl⟩)
      have HIN : Hid (∀ k, IntW W b → IntW (((W.drewN k).setCell ⟨b, q, none⟩ (.int .i64 (y : Int))).setCell ⟨b, q + 1, none⟩ (.int .i64 (x : Int))) b) := Lib.hid (fun k h => (IntW.set (w := W.drewN k) h q _).set (q + 1) _)
      have k0 : decide ((x : Int) > (y : Int)) = false := decide_eq_false (by omega)
      clear hx hy hsw
      go_enter Tryd.func48, Tryd.ntmps48
      go_wp2
      go_quiet ((go_at_call 45; exact Calls.quiet_of_same (HL.out _)))
      go_wp2
      go_ret
      exact ⟨rfl, HN.out _, HOut.out _, HIN.out _⟩
    · rw [decide_eq_false hlt, if_neg hlt]
      have k0 : decide ((x : Int) > (y : Int)) = true := decide_eq_true (by omega)
      clear hx hy hsw
      go_enter Tryd.func48, Tryd.ntmps48
      go_wp2
      go_quiet ((go_at_call 45; exact Calls.quiet_of_same (HL.out _)))
      go_wp2
      go_ret
      exact ⟨rfl, ⟨HC.out.cell, HC.out.frozen, HC.out.lt⟩, ⟨rfl, rfl, rfl, Nat.le_refl _, fun _ _ _ => rfl⟩, fun h => h⟩
theorem l12Swap_any (b m c : Nat) (L : List Nat) (p : Int) (hm : L.length = m) (hm2 : 2 ≤ m) (hm1 : m ≤ 100) (hL : L.Nodup) (W : World) (h : Cells W b m (zc (wl L))) :
    Calls Tryd.prog 48 #[.slice (some ⟨b, 0, none⟩) m c, .int .i64 p] W fun e w' => e = .returned (.bool (swB L p)) ∧ Cells w' b m (zc (wl (swD L p))) ∧ Out b (b + 1) W w' :=
  (l12Swap_int b m c L p hm hm2 hm1 hL W h).mono fun _ _ ⟨h1, h2, h3, _⟩ => ⟨h1, h2, h3⟩
end Go.Proofs.YtfpbehnpaedpmaaDoor.Sg
/- Wirings, as spec tells them: IsWiring. -/
namespace Go.Proofs.YtfpbehnpaedpmaaDoor.Sg
open Go.RowKit Pt NewI Wi
/-- A slice, or a part of one, in a block ahead of B, that holds these numbers. -/
def SrcZ (w : World) (B : Nat) (a : Option Addr) (zs : List Int) : Prop := ∀ j, j < zs.length → ∃ b o, a = some ⟨b, o, none⟩ ∧ b < B ∧ w.cell? ⟨b, o + j, none⟩ = some (.int .i64 (zs.getD j 0))
theorem SrcZ.on {w w' : World} {B : Nat} {a : Option Addr} {zs : List Int} (h : SrcZ w B a zs) (hb : Below B w w') : SrcZ w' B a zs := fun j hj => by
  obtain ⟨b, o, h1, h2, h3⟩ := h j hj
  exact ⟨b, o, h1, h2, by rw [hb.cell h2]; exact h3⟩
theorem SrcZ.of_new {w : World} {lo hi : Nat} {a : Option Addr} {zs : List Int} (h : New w lo hi a zs.length (zc zs)) : SrcZ w hi a zs := fun j hj => by
  rcases h with h | ⟨g, h1, h2, h3, h4⟩
  · omega
  · exact ⟨g, 0, h1, h3, by rw [Nat.zero_add, h4.cell j hj]; rfl⟩
/-- A word of exchanges, any numbers: what it makes of a list, if each of them finds the lesser one first. -/
def goZ (L : List Nat) : List Int → Option (List Nat)
  | [] => some L
  | z :: zs => if swB L z = true then goZ (swp L z.toNat) zs else none
theorem goZ_snoc (L : List Nat) (zs : List Int) (z : Int) : goZ L (zs ++ [z]) = (goZ L zs).bind (fun M => if swB M z = true then some (swp M z.toNat) else none) := by
  induction zs generalizing L with
  | nil => rfl
  | cons y zs ih =>
    simp only [List.cons_append, goZ]
    split
    · exact ih _
    · rfl
theorem goZ_none (L : List Nat) (zs ys : List Int) (h : goZ L zs = none) : goZ L (zs ++ ys) = none := by
  induction zs generalizing L with
  | nil => simp [goZ] at h
  | cons y zs ih =>
    simp only [List.cons_append, goZ] at h ⊢
    split
    · rename_i h1; rw [if_pos h1] at h; exact ih _ h
    · rfl
theorem take_getD {zs : List Int} {k : Nat} (h : k < zs.length) : zs.take (k + 1) = zs.take k ++ [zs.getD k 0] := by
  rw [List.take_add_one, List.getElem?_eq_getElem h, List.getD_eq_getElem?_getD, List.getElem?_eq_getElem h]; rfl
theorem goZ_step {L M : List Nat} {zs : List Int} {k : Nat} (hk : k < zs.length) (h : goZ L (zs.take k) = some M) : (swB M (zs.getD k 0) = true → goZ L (zs.take (k + 1)) = some (swD M (zs.getD k 0))) ∧ (swB M (zs.getD k 0) = false → goZ L zs = none) := by
  have e := goZ_snoc L (zs.take k) (zs.getD k 0)
  rw [← take_getD hk, h] at e
  constructor
  · intro h1
    rw [e]
    show (if swB M (zs.getD k 0) = true then some (swp M (zs.getD k 0).toNat) else none) = _
    unfold swD
    rw [if_pos h1, if_pos h1]
  · intro h1
    have e2 : goZ L (zs.take (k + 1)) = none := by
      rw [e]
      show (if swB M (zs.getD k 0) = true then some (swp M (zs.getD k 0).toNat) else none) = _
      rw [if_neg (by rw [h1]; simp)]
    have := goZ_none L (zs.take (k + 1)) (zs.drop (k + 1)) e2
    rwa [List.take_append_drop] at this
/-- What IsWiring answers. -/
def wiB (n : Int) (zs : List Int) : Bool := inB n 3 6 && decide (zs.length = n.toNat * (n.toNat - 1) / 2) && (goZ (List.range n.toNat) zs).isSome
set_option maxHeartbeats 3200000 in
set_option maxRecDepth 100000 in
theorem isW_core (m N : Nat) (h3 : 3 ≤ m) (h6 : m ≤ 6) (hN : m * (m - 1) / 2 = N) (a : Option Addr) (c : Nat) (zs : List Int) (_hl : zs.length ≤ 1048576) (w : World) (hs : SrcZ w w.heap.size a zs) :
    Calls Tryd.prog 20 #[.int .i64 m, .slice a zs.length c] w fun e w' => e = .returned (.bool (wiB m zs)) ∧ Below w.heap.size w w' := by
  have hin : inB (m : Int) 3 6 = true := by simp only [inB, decide_eq_true_eq]; omega
  have HL := Lib.hid (fun W => l1In_any m 3 6 W)
  rw [hin] at HL
  have HST := Lib.hid (fun W => l12Start_any m (by omega) W)
  have HSW := Lib.hid (fun b c L p hm hL W h => l12Swap_any b m c L p hm (by omega) (by omega) hL W h)
  have HSRC := Lib.hid (fun W (hW : Below w.heap.size w W) => hs.on hW)
  have HB0 := Lib.hid (Below.refl w.heap.size w)
  obtain ⟨P, hP, hP2⟩ : ∃ P : Int, (m : Int) * ((m : Int) - 1) = P ∧ P = 2 * (N : Int) := ⟨_, rfl, by
    rcases (by omega : m = 3 ∨ m = 4 ∨ m = 5 ∨ m = 6) with rfl | rfl | rfl | rfl <;> (simp at hN; omega)⟩
  have hN9 : N ≤ 15 := by
    rcases (by omega : m = 3 ∨ m = 4 ∨ m = 5 ∨ m = 6) with rfl | rfl | rfl | rfl <;> (simp at hN; omega)
  have v0 : IntKind.i64.wrap ((m : Int) - 1) = (m : Int) - 1 := IntWalk.i64_in _ (by omega)
  have v1 : IntKind.i64.wrap ((m : Int) * ((m : Int) - 1)) = P := by rw [hP]; exact IntWalk.i64_in _ (by omega)
  have v2 : P.tdiv 2 = (N : Int) := by rw [hP2]; rw [Int.tdiv_eq_ediv_of_nonneg (by omega)]; omega
  have v3 : IntKind.i64.wrap (N : Int) = (N : Int) := IntWalk.i64_in _ (by omega)
  have hW : wiB m zs = (decide (zs.length = N) && (goZ (List.range m) zs).isSome) := by
    unfold wiB
    rw [hin, Int.toNat_natCast, hN, Bool.true_and]
  rw [hW]
  by_cases hlen : zs.length = N
  · rw [decide_eq_true hlen, Bool.true_and]
    have k0 : ((zs.length : Int) != (N : Int)) = false := by rw [hlen]; simp
    obtain ⟨rb, hrb⟩ : ∃ rb : Bool, rb = (goZ (List.range m) zs).isSome := ⟨_, rfl⟩
    rw [← hrb]
    clear hs hin hP hP2 hW
    go_enter Tryd.func20, Tryd.ntmps20
    go_wp2_with fail
    refine (HL.out _).mono ?_
    rintro e w' ⟨rfl, rfl⟩
    go_wp2_with fail
    refine (HST.out _).mono ?_
    rintro e w1 ⟨⟨v, rfl, hO⟩, hb1⟩
    have HB1 := Lib.hid hb1
    have hm1 : (wl (List.range m)).length = m := by rw [wl_length, List.length_range]
    obtain ⟨a1, c1, rfl, hnw, -⟩ := New.of_own hO
    rw [hm1] at hnw ⊢
    rcases hnw with h0 | ⟨bw, rfl, hlo, hhi, hC⟩
    · omega
    have HC1 := Lib.hid hC
    clear hO hb1 hC HL HST v0 v1 v2 v3 k0 hm1
    go_wp2_with fail
    go_loopw [6] (fun x wr => ∃ (k : Nat) (L : List Nat), k ≤ zs.length ∧ x = .int .i64 k ∧ goZ (List.range m) (zs.take k) = some L ∧ L.Nodup ∧ L.length = m ∧ Hid (Cells wr bw m (zc (wl L))) ∧ Hid (Below w.heap.size w wr)) (fun x _ => zs.length - (intOf x).toNat)
    case atStart => exact ⟨0, List.range m, Nat.zero_le _, rfl, rfl, List.nodup_range, List.length_range, HC1, HB1⟩
    case round =>
      obtain ⟨k, L, hk, rfl, hgo, hnd, hlL, HC, HB⟩ := hrel
      by_cases hlt : k < zs.length
      · obtain ⟨b, o, rfl, hbb, hcz⟩ := HSRC.out _ HB.out k hlt
        obtain ⟨g1, g2⟩ := goZ_step hlt hgo
        have HG1 := Lib.hid g1
        have HG2 := Lib.hid g2
        clear g1 g2 hgo
        generalize zs.getD k 0 = z at hcz HG1 HG2
        go_wp2_with fail
        refine (HSW.out bw c1 L z hlL hnd _ HC.out).mono ?_
        rintro e w2 ⟨rfl, hC2, hO2⟩
        have HC2 := Lib.hid hC2
        have HB2 := Lib.hid (HB.out.trans (hO2.below hlo HB.out.size))
        have hnd2 := swD_nodup hnd z
        have hlL2 : (swD L z).length = m := by rw [swD_len, hlL]
        clear hC2 hO2 HC HB
        cases hsw : swB L z
        · obtain rfl : rb = false := by rw [hrb, HG2.out hsw]; rfl
          clear HG1 HG2 hrb
          go_wp2
          go_ret
          exact ⟨rfl, HB2.out⟩
        · have HG3 := Lib.hid (HG1.out hsw)
          clear HG1 HG2
          go_wp2
          exact ⟨⟨k + 1, swD L z, by omega, by go_num, HG3.out, hnd2, hlL2, HC2, HB2⟩, by simp only [intOf]; omega⟩
      · obtain rfl : k = zs.length := by omega
        rw [List.take_length] at hgo
        obtain rfl : rb = true := by rw [hrb, hgo]; rfl
        clear hgo HC hrb
        go_wp2
        go_ret
        exact ⟨rfl, HB.out⟩
  · rw [decide_eq_false hlen, Bool.false_and]
    have k0 : ((zs.length : Int) != (N : Int)) = true := by simp; omega
    clear hs hin hP hP2 hW HST HSW HSRC
    go_enter Tryd.func20, Tryd.ntmps20
    go_wp2_with fail
    refine (HL.out _).mono ?_
    rintro e w' ⟨rfl, rfl⟩
    go_wp2
    go_ret
    exact ⟨rfl, HB0.out⟩
set_option maxHeartbeats 1600000 in
set_option maxRecDepth 100000 in
theorem specIsWiring (n : Int) (a : Option Addr) (c : Nat) (zs : List Int) (hl : zs.length ≤ 1048576) (w : World) (hs : SrcZ w w.heap.size a zs) :
    Calls Tryd.prog 20 #[.int .i64 n, .slice a zs.length c] w fun e w' => e = .returned (.bool (wiB n zs)) ∧ Below w.heap.size w w' := by
  cases h : inB n 3 6
  · have HL := Lib.hid (fun W => l1In_any n 3 6 W)
    rw [h] at HL
    have e : wiB n zs = false := by unfold wiB; rw [h]; rfl
    rw [e]
    have HB0 := Lib.hid (Below.refl w.heap.size w)
    clear h e hs
    go_enter Tryd.func20, Tryd.ntmps20
    go_wp2_with fail
    refine (HL.out _).mono ?_
    rintro e w' ⟨rfl, rfl⟩
    go_wp2
    go_ret
    exact ⟨rfl, HB0.out⟩
  · obtain ⟨h3, h6⟩ := inB_mem h
    obtain ⟨m, rfl⟩ : ∃ m : Nat, n = m := ⟨n.toNat, by omega⟩
    exact isW_core m _ (by omega) (by omega) rfl a c zs hl w hs
end Go.Proofs.YtfpbehnpaedpmaaDoor.Sg
/- Wirings, as spec tells them: WiresAfter. -/
namespace Go.Proofs.YtfpbehnpaedpmaaDoor.Sg
open Go.RowKit Pt NewI Wi
theorem goZ_take {L : List Nat} {zs : List Int} (h : goZ L zs ≠ none) (k : Nat) : ∃ M, goZ L (zs.take k) = some M := by
  cases e : goZ L (zs.take k) with
  | some M => exact ⟨M, rfl⟩
  | none =>
    have := goZ_none L (zs.take k) (zs.drop k) e
    rw [List.take_append_drop] at this
    exact absurd this h
theorem wiB_go {n : Int} {zs : List Int} (h : wiB n zs = true) : inB n 3 6 = true ∧ zs.length = n.toNat * (n.toNat - 1) / 2 ∧ goZ (List.range n.toNat) zs ≠ none := by
  unfold wiB at h
  rw [Bool.and_eq_true, Bool.and_eq_true, decide_eq_true_eq] at h
  exact ⟨h.1.1, h.1.2, fun e => by rw [e] at h; simp at h⟩
theorem wiB_step {n : Nat} {zs : List Int} (h : goZ (List.range n) zs ≠ none) {k : Nat} (hk : k < zs.length) {M : List Nat} (hM : goZ (List.range n) (zs.take k) = some M) : swB M (zs.getD k 0) = true ∧ goZ (List.range n) (zs.take (k + 1)) = some (swp M (zs.getD k 0).toNat) := by
  obtain ⟨g1, g2⟩ := goZ_step hk hM
  cases e : swB M (zs.getD k 0) with
  | false => exact absurd (g2 e) h
  | true =>
    have := g1 e
    unfold swD at this
    rw [if_pos e] at this
    exact ⟨rfl, this⟩
/-- What WiresAfter answers. -/
def wiAft (n : Int) (zs : List Int) (k : Int) : List Nat := if wiB n zs = true ∧ inB k 0 zs.length = true then (goZ (List.range n.toNat) (zs.take k.toNat)).getD [] else []
set_option maxHeartbeats 3200000 in
set_option maxRecDepth 100000 in
theorem specWiresAfter (n : Int) (a : Option Addr) (c : Nat) (zs : List Int) (k : Int) (hl : zs.length ≤ 1048576) (w : World) (hs : SrcZ w w.heap.size a zs) :
    Calls Tryd.prog 23 #[.int .i64 n, .slice a zs.length c, .int .i64 k] w fun e w' => Got w.heap.size (wl (wiAft n zs k)) e w' ∧ Below w.heap.size w w' := by
  have HIS := Lib.hid (specIsWiring n a c zs hl w hs)
  have HIN := Lib.hid (fun W => l1In_any k 0 (zs.length : Int) W)
  have HBE := Lib.hid (fun W (hW : Below w.heap.size w W) => hW.alloc hW.size (.cells #[] 3))
  cases hw : wiB n zs
  · have e : wiAft n zs k = [] := by unfold wiAft; rw [if_neg (by rw [hw]; simp)]
    rw [e]
    rw [hw] at HIS
    clear e hw hs HIN
    go_enter Tryd.func23, Tryd.ntmps23
    go_wp2_with fail
    refine HIS.out.mono ?_
    rintro e w1 ⟨rfl, hb1⟩
    go_wp2
    go_ret
    exact ⟨⟨_, _, rfl, .inl rfl⟩, HBE.out _ hb1⟩
  rw [hw] at HIS
  cases hk : inB k 0 zs.length
  · have e : wiAft n zs k = [] := by unfold wiAft; rw [if_neg (by rw [hk]; simp)]
    rw [e]
    rw [hk] at HIN
    clear e hw hs hk
    go_enter Tryd.func23, Tryd.ntmps23
    go_wp2_with fail
    refine HIS.out.mono ?_
    rintro e w1 ⟨rfl, hb1⟩
    go_wp2_with fail
    refine (HIN.out _).mono ?_
    rintro e w' ⟨rfl, rfl⟩
    go_wp2
    go_ret
    exact ⟨⟨_, _, rfl, .inl rfl⟩, HBE.out _ hb1⟩
  obtain ⟨h36, -, hgo⟩ := wiB_go hw
  obtain ⟨h3, h6⟩ := inB_mem h36
  obtain ⟨m, rfl⟩ : ∃ m : Nat, n = m := ⟨n.toNat, by omega⟩
  obtain ⟨k0, k1⟩ := inB_mem hk
  obtain ⟨q, rfl⟩ : ∃ q : Nat, k = q := ⟨k.toNat, by omega⟩
  rw [Int.toNat_natCast] at hgo
  obtain ⟨R, hR⟩ := goZ_take hgo q
  have e : wiAft m zs q = R := by unfold wiAft; rw [if_pos ⟨hw, hk⟩, Int.toNat_natCast, Int.toNat_natCast, hR]; rfl
  rw [e]
  rw [hk] at HIN
  have hq : q ≤ zs.length := by omega
  have HST := Lib.hid (fun W => l12Start_any m (by omega) W)
  have HSW := Lib.hid (fun b c L p hm hL W h => l12Swap_any b m c L p hm (by omega) (by omega) hL W h)
  have HSRC := Lib.hid (fun W (hW : Below w.heap.size w W) => hs.on hW)
  have HGO := Lib.hid hgo
  have HRR := Lib.hid hR
  clear e hw hk hs h36 hgo hR k0 k1 HBE
  go_enter Tryd.func23, Tryd.ntmps23
  go_wp2_with fail
  refine HIS.out.mono ?_
  rintro e w0 ⟨rfl, hb0⟩
  have HB0 := Lib.hid hb0
  clear hb0 HIS
  go_wp2_with fail
  refine (HIN.out _).mono ?_
  rintro e w' ⟨rfl, rfl⟩
  go_wp2_with fail
  refine (HST.out _).mono ?_
  rintro e w1 ⟨⟨v, rfl, hO⟩, hb1⟩
  have HB1 := Lib.hid (HB0.out.trans (hb1.mono HB0.out.size))
  have hm1 : (wl (List.range m)).length = m := by rw [wl_length, List.length_range]
  obtain ⟨a1, c1, rfl, hnw, -⟩ := New.of_own hO
  rw [hm1] at hnw ⊢
  rcases hnw with h0 | ⟨bw, rfl, hlo0, hhi, hC⟩
  · omega
  have hlo : w.heap.size ≤ bw := Nat.le_trans HB0.out.size hlo0
  have HC1 := Lib.hid hC
  clear hO hb1 hC HST HIN hm1 HB0 hlo0
  go_wp2_with fail
  go_loopw [8] (fun x wr => ∃ (k : Nat) (L : List Nat), k ≤ q ∧ x = .int .i64 k ∧ goZ (List.range m) (zs.take k) = some L ∧ L.Nodup ∧ L.length = m ∧ Hid (Cells wr bw m (zc (wl L))) ∧ Hid (Below w.heap.size w wr)) (fun x _ => q - (intOf x).toNat)
  case atStart => exact ⟨0, List.range m, Nat.zero_le _, rfl, rfl, List.nodup_range, List.length_range, HC1, HB1⟩
  case round =>
    obtain ⟨k, L, hk, rfl, hgo, hnd, hlL, HC, HB⟩ := hrel
    by_cases hlt : k < q
    · have hkl : k < zs.length := by omega
      obtain ⟨b, o, rfl, hbb, hcz⟩ := HSRC.out _ HB.out k hkl
      obtain ⟨g1, g2⟩ := goZ_step hkl hgo
      have HG1 : Hid (goZ (List.range m) (zs.take (k + 1)) = some (swD L (zs.getD k 0))) := Lib.hid (g1 (wiB_step HGO.out hkl hgo).1)
      clear g1 g2 hgo
      generalize zs.getD k 0 = z at hcz HG1
      go_wp2_with fail
      refine (HSW.out bw c1 L z hlL hnd _ HC.out).mono ?_
      rintro e w2 ⟨rfl, hC2, hO2⟩
      have HC2 := Lib.hid hC2
      have HB2 := Lib.hid (HB.out.trans (hO2.below hlo HB.out.size))
      have hnd2 := swD_nodup hnd z
      have hlL2 : (swD L z).length = m := by rw [swD_len, hlL]
      clear hC2 hO2 HC HB
      go_wp2
      exact ⟨⟨k + 1, swD L z, by omega, by go_num, HG1.out, hnd2, hlL2, HC2, HB2⟩, by simp only [intOf]; omega⟩
    · obtain rfl : k = q := by omega
      obtain rfl : L = R := by have := HRR.out; rw [hgo] at this; injection this
      have hwl : (wl L).length = m := by rw [wl_length, hlL]
      clear hgo
      go_wp2
      go_ret
      exact ⟨⟨some ⟨bw, 0, none⟩, c1, by rw [hwl]; rfl, .inr ⟨bw, rfl, hlo, HC.out.lt, by rw [hwl]; exact HC.out⟩⟩, HB.out⟩
end Go.Proofs.YtfpbehnpaedpmaaDoor.Sg
/- Wirings, as spec tells them: FlipWiring. -/
namespace Go.Proofs.YtfpbehnpaedpmaaDoor.Sg
open Go.RowKit Pt NewI Wi
theorem goZ_bd {L : List Nat} {zs : List Int} (h : goZ L zs ≠ none) : ∀ z ∈ zs, 0 ≤ z ∧ z.toNat + 1 < L.length := by
  induction zs generalizing L with
  | nil => intro z hz; simp at hz
  | cons y zs ih =>
    simp only [goZ] at h
    split at h
    · rename_i hs
      have hs' : 0 ≤ y ∧ y.toNat + 1 < L.length ∧ L.getD y.toNat 0 < L.getD (y.toNat + 1) 0 := by simpa [swB] using hs
      intro z hz
      rcases List.mem_cons.1 hz with rfl | hz
      · exact ⟨hs'.1, hs'.2.1⟩
      · have := ih h z hz
        rw [swp_len] at this; exact this
    · exact absurd rfl h
theorem getD_memW {zs : List Int} {i : Nat} (h : i < zs.length) : zs.getD i 0 ∈ zs := by
  rw [List.getD_eq_getElem?_getD, List.getElem?_eq_getElem h]
  exact List.getElem_mem h
/-- What FlipWiring answers, where it does. -/
def flW (n : Int) (zs : List Int) : List Int := zs.reverse.map fun z => n - 2 - z
theorem flW_len (n : Int) (zs : List Int) : (flW n zs).length = zs.length := by unfold flW; simp
theorem flW_take (n : Int) {zs : List Int} {p i : Nat} (h : i + p + 1 = zs.length) : (flW n zs).take (p + 1) = (flW n zs).take p ++ [n - 2 - zs.getD i 0] := by
  have hp : p < (flW n zs).length := by rw [flW_len]; omega
  rw [List.take_add_one, List.getElem?_eq_getElem hp]
  congr 1
  show [(flW n zs)[p]] = _
  congr 1
  have hi : i < zs.length := by omega
  have e : zs.getD i 0 = zs[i] := by rw [List.getD_eq_getElem?_getD, List.getElem?_eq_getElem hi]; rfl
  rw [e]
  simp only [flW, List.getElem_map, List.getElem_reverse]
  have : zs.length - 1 - p = i := by omega
  simp only [this]
/-- What a function hands back that makes a slice of numbers and says whether. -/
def Got2Z (B : Nat) (zs : List Int) (ok : Bool) (e : Ending) (w' : World) : Prop := ∃ a c, e = .returned (.tuple #[.slice a zs.length c, .bool ok]) ∧ New w' B w'.heap.size a zs.length (zc zs)
def wiFlip (n : Int) (zs : List Int) : List Int := if wiB n zs = true then flW n zs else []
set_option maxHeartbeats 3200000 in
set_option maxRecDepth 100000 in
theorem specFlipWiring (n : Int) (a : Option Addr) (c : Nat) (zs : List Int) (hl : zs.length ≤ 1048576) (w : World) (hs : SrcZ w w.heap.size a zs) :
    Calls Tryd.prog 19 #[.int .i64 n, .slice a zs.length c] w fun e w' => Got2Z w.heap.size (wiFlip n zs) (wiB n zs) e w' ∧ Below w.heap.size w w' := by
  have HIS := Lib.hid (specIsWiring n a c zs hl w hs)
  have HBE := Lib.hid (fun W (hW : Below w.heap.size w W) => hW.alloc hW.size (.cells #[] 3))
  cases hw : wiB n zs
  · have e : wiFlip n zs = [] := by unfold wiFlip; rw [if_neg (by rw [hw]; simp)]
    rw [e]
    rw [hw] at HIS
    clear e hw hs
    go_enter Tryd.func19, Tryd.ntmps19
    go_wp2_with fail
    refine HIS.out.mono ?_
    rintro e w1 ⟨rfl, hb1⟩
    go_wp2
    go_ret2
    exact ⟨⟨_, _, rfl, .inl rfl⟩, HBE.out _ hb1⟩
  obtain ⟨h36, -, hgo⟩ := wiB_go hw
  obtain ⟨h3, h6⟩ := inB_mem h36
  have e : wiFlip n zs = flW n zs := by unfold wiFlip; rw [if_pos hw]
  rw [e]
  rw [hw] at HIS
  have HBD : Hid (∀ i, i < zs.length → 0 ≤ zs.getD i 0 ∧ zs.getD i 0 + 1 < n) := Lib.hid (fun i hi => by
    have := goZ_bd hgo _ (getD_memW hi)
    rw [List.length_range] at this
    omega)
  obtain ⟨i0, hi, hz0, hz1, hz2⟩ := info_parts infoI
  have HSRC := Lib.hid (fun W (hW : Below w.heap.size w W) => hs.on hW)
  have HTK := Lib.hid (fun (p i : Nat) (h : i + p + 1 = zs.length) => flW_take n h)
  have HLN := Lib.hid (flW_len n zs)
  generalize flW n zs = Z at HTK HLN ⊢
  have v2 : IntKind.i64.wrap (n - 2) = n - 2 := IntWalk.i64_in _ (by omega)
  clear e hw hs h36 hgo HBE
  go_enter Tryd.func19, Tryd.ntmps19
  go_wp2_with fail
  refine HIS.out.mono ?_
  rintro e w0 ⟨rfl, hb0⟩
  have HB0 : Hid (Below w.heap.size w (w0.alloc (.cells #[] 3))) := Lib.hid (hb0.alloc hb0.size _)
  have HO0 : Hid (OwnsZ (w0.alloc (.cells #[] 3)) w.heap.size (.slice (some ⟨w0.heap.size, 0, none⟩) 0 0) (Z.take 0)) := Lib.hid (World.ownsRow_made (base := w.heap.size) (e := 3) (size := 1) w0 #[] 0 hb0.size (by decide) rfl)
  clear hb0 HIS
  go_wp2
  go_loopw [6, 7] (fun vv x wr => ∃ p : Nat, p ≤ zs.length ∧ x = .int .i64 ((zs.length : Int) - 1 - (p : Int)) ∧ Hid (OwnsZ wr w.heap.size vv (Z.take p)) ∧ Hid (Below w.heap.size w wr)) (fun _ x _ => (intOf x + 1).toNat)
  case atStart => exact ⟨0, Nat.zero_le _, by go_num, HO0, HB0⟩
  case round =>
    obtain ⟨p, hp, hx, HO, HB⟩ := hrel
    have hwr := HB.out.size
    by_cases hlt : p < zs.length
    · obtain ⟨i, hip⟩ : ∃ i, i + p + 1 = zs.length := ⟨zs.length - 1 - p, by omega⟩
      obtain rfl : u7 = .int .i64 (i : Int) := by rw [hx]; congr 1; omega
      obtain ⟨b, o, rfl, hbb, hcz⟩ := HSRC.out _ HB.out i (by omega)
      obtain ⟨z0, z1⟩ := HBD.out i (by omega)
      have HTE := Lib.hid (HTK.out p i hip)
      have hpl : (Z.take p).length = p := by rw [List.length_take, HLN.out]; omega
      clear hx
      generalize zs.getD i 0 = z at hcz z0 z1 HTE
      have v3 : IntKind.i64.wrap (n - 2 - z) = n - 2 - z := IntWalk.i64_in _ (by omega)
      generalize hy : n - 2 - z = y at v3 HTE
      go_wp2_with (at_builtin; refine wpList_append_own _ rfl (.tmp 21) (.tmp 29) 24 rfl w.heap.size 3 i0 _ 1 8 Tryd.underlying24 hi hz0 hz1 hz2 rfl (by decide) _ _ _ rfl (World.ownsRow.alloc HO.out _) ⟨_, 0, none⟩ 1 1 [.int .i64 y] rfl rfl (news1 _ _ _) (one1 _) (by simp only [maxLen]; omega) (by omega) (by simp; omega) ?_)
      intro v6 w6 hown6 hg6 _
      have HB6 := Lib.hid ((HB.out.alloc hwr (.cells #[.int .i64 y] 3)).grown hg6 (by simp; omega) (fun k hk => (World.ownsRow.lt HO.out k hk).1))
      have HO6 : Hid (OwnsZ w6 w.heap.size v6 (Z.take p ++ [y])) := Lib.hid (ownsZ_snoc (zs := Z.take p) (ys := [y]) (by rw [hpl, List.map_take]; exact hown6))
      rw [← HTE.out] at HO6
      clear hown6 hg6
      go_wp2
      exact ⟨⟨p + 1, by omega, by go_num, HO6, HB6⟩, by simp only [intOf]; omega⟩
    · obtain rfl : p = zs.length := by omega
      obtain rfl : u7 = .int .i64 (-1) := by rw [hx]; congr 1; omega
      clear hx
      have HO' : Hid (OwnsZ wr w.heap.size u6 Z) := Lib.hid (by have := HO.out; rwa [← HLN.out, List.take_length] at this)
      obtain ⟨ra, rc, rfl, hnew, -⟩ := New.of_own HO'.out
      have HNW := Lib.hid hnew
      clear hnew HO HO'
      go_wp2
      go_ret2
      exact ⟨⟨_, _, rfl, HNW.out⟩, HB.out⟩
end Go.Proofs.YtfpbehnpaedpmaaDoor.Sg
