/- Wirings, as impl tells them: exchange. -/
import Derived.Test.YtfpbehnpaedpmaaDoorWjOrd
namespace Go.Proofs.YtfpbehnpaedpmaaDoor.Sg
open Go.RowKit Pt NewI Wi
/-- The cells of a row of numbers. -/
def csW (L : List Nat) : List Value := (wl L).map (Value.int .i64)
theorem csW_len (L : List Nat) : (csW L).length = L.length := by unfold csW; rw [List.length_map, wl_length]
theorem csW_one (L : List Nat) : ∀ v ∈ csW L, v.oneCell' = true := fun v hv => by
  obtain ⟨x, -, rfl⟩ := List.mem_map.1 hv
  rfl
theorem csW_get {L : List Nat} {j : Nat} {v : Value} (h : (csW L)[j]? = some v) : j < L.length ∧ v = zc (wl L) j := by
  have hj : j < (csW L).length := (List.getElem?_eq_some_iff.1 h).1
  rw [csW_len] at hj
  refine ⟨hj, ?_⟩
  unfold csW at h
  have hj2 : j < (wl L).length := by rw [wl_length]; exact hj
  rw [List.getElem?_map, List.getElem?_eq_getElem hj2] at h
  rw [zc_lt hj2]
  exact (Option.some.inj h).symm
theorem rwN_of {w : World} {g m : Nat} {L : List Nat} (hL : L.length = m) (h : w.heap[g]? = some (.cells (csW L).toArray 3 (0, 0))) : RwN w g m L :=
  ⟨_, h, by rw [List.size_toArray, csW_len, hL], fun i hi => by
    have hi2 : i < (wl L).length := by rw [wl_length, hL]; exact hi
    show (csW L).toArray[i]? = _
    rw [List.getElem?_toArray]
    unfold csW
    rw [List.getElem?_map, List.getElem?_eq_getElem hi2, zc_lt hi2]; rfl⟩
theorem splice_all {α : Type} (cur cs : List α) (h : cur.length = cs.length) : splice cur 0 cs = cs := by
  unfold splice
  rw [List.take_zero, List.nil_append, Nat.zero_add, ← h, List.drop_length, List.append_nil]
set_option maxRecDepth 100000 in
theorem sizeI : (Tryd.prog.info? 3).map (·.size) = some 1 := by kernel_rfl
theorem rwN_swp {w : World} {g m : Nat} {L : List Nat} (h : RwN w g m L) {q : Nat} (hL : L.length = m) (hq : q + 1 < m) :
    RwN ((w.setCell ⟨g, q, none⟩ (.int .i64 ((L.getD (q + 1) 0 : Nat) : Int))).setCell ⟨g, q + 1, none⟩ (.int .i64 ((L.getD q 0 : Nat) : Int))) g m (swp L q) :=
  (World.rowIs.set (World.rowIs.set h q _) (q + 1) _).congr (fun i _ => by
    rw [zc_wl (swp L q), swp_getD (by omega)]
    by_cases h1 : i = q + 1
    · rw [if_pos h1, if_pos h1]
    · rw [if_neg h1, if_neg h1]
      by_cases h2 : i = q
      · rw [if_pos h2, if_pos h2]
      · rw [if_neg h2, if_neg h2, zc_wl])
set_option maxHeartbeats 3200000 in
set_option maxRecDepth 100000 in
theorem exchange_yes (b m c : Nat) (L : List Nat) (q : Nat) (hL : L.length = m) (hm1 : m ≤ 100) (hq : q + 1 < m) (hlt : L.getD q 0 < L.getD (q + 1) 0) (W : World) (h : RwN W b m L) :
    Calls Tryd.prog 44 #[.slice (some ⟨b, 0, none⟩) m c, .int .i64 q] W fun e w' => (∃ g, e = .returned (.tuple #[.slice (some ⟨g, 0, none⟩) m m, .bool true]) ∧ W.heap.size ≤ g ∧ RwN w' g m (swp L q)) ∧ Below W.heap.size W w' := by
  have hmk := run_make_row' (P := Tryd.prog) 24 3 (.int .i64 0) 8 Tryd.underlying24 infoZ rfl .i64 .i64 m (by omega) (by omega)
  have c0 : W.cell? ⟨b, q, none⟩ = some (.int .i64 ((L.getD q 0 : Nat) : Int)) := by rw [h.cells.cell q (by omega), zc_wl]
  have c1 : W.cell? ⟨b, q + 1, none⟩ = some (.int .i64 ((L.getD (q + 1) 0 : Nat) : Int)) := by rw [h.cells.cell (q + 1) hq, zc_wl]
  have HR := Lib.hid h
  have HSW : Hid (∀ w g, RwN w g m L → RwN ((w.setCell ⟨g, q, none⟩ (.int .i64 ((L.getD (q + 1) 0 : Nat) : Int))).setCell ⟨g, q + 1, none⟩ (.int .i64 ((L.getD q 0 : Nat) : Int))) g m (swp L q)) := Lib.hid (fun w g hr => rwN_swp hr hL hq)
  have HCS : Hid (∀ W2, Below W.heap.size W W2 → ∀ j v, (csW L)[j]? = some v → W2.cell? (Addr.add ⟨b, 0, none⟩ j) = some v) := Lib.hid (fun W2 hb j v hv => by
    obtain ⟨hj, rfl⟩ := csW_get hv
    rw [WideShapes.add_plain, Nat.zero_add, hb.cell h.lt, h.cells.cell j (by omega)])
  have HCL : Hid ((csW L).length = m) := Lib.hid (by rw [csW_len, hL])
  have HOF : Hid (∀ (w : World) g, w.heap[g]? = some (.cells (csW L).toArray 3 (0, 0)) → RwN w g m L) := Lib.hid (fun w g hw => rwN_of hL hw)
  have HC0 : Hid (∀ w2, Below W.heap.size W w2 → w2.cell? ⟨b, q, none⟩ = some (.int .i64 ((L.getD q 0 : Nat) : Int)) ∧ w2.cell? ⟨b, q + 1, none⟩ = some (.int .i64 ((L.getD (q + 1) 0 : Nat) : Int))) := Lib.hid (fun w2 hb => ⟨by rw [hb.cell h.lt]; exact c0, by rw [hb.cell h.lt]; exact c1⟩)
  have HONE := Lib.hid (csW_one L)
  generalize hx : L.getD q 0 = x at c0 hlt HSW HC0
  generalize hy : L.getD (q + 1) 0 = y at c1 hlt HSW HC0
  obtain ⟨Q, hQ⟩ : ∃ Q, Q = q + 1 := ⟨_, rfl⟩
  rw [← hQ] at c1 HSW HC0 hq
  have HQQ := Lib.hid hQ
  have vq : IntKind.i64.wrap ((q : Int) + 1) = ((Q : Nat) : Int) := by rw [IntWalk.i64_in _ (by omega)]; omega
  have v2 : IntKind.i64.wrap ((m : Int) - 2) = (m : Int) - 2 := IntWalk.i64_in _ (by omega)
  have k0 : decide ((q : Int) < 0) = false := decide_eq_false (by omega)
  have k1 : decide ((q : Int) > (m : Int) - 2) = false := decide_eq_false (by omega)
  have k2 : decide ((x : Int) > (y : Int)) = false := decide_eq_false (by omega)
  have hqm : q < m := by omega
  have hbl := h.lt
  generalize csW L = cs at HCS HCL HONE HOF
  clear h hx hy hQ hL
  go_enter Tryd.func44, Tryd.ntmps44
  go_wp2
  go_quiet (fail)
  have HBD := Lib.hid (fun k => (drewN_below (Below.refl W.heap.size W) k).alloc (Nat.le_refl _) (.cells (madeCells #[.int .i64 0] m) 3))
  go_wp2_with ((with_reducible show Go.wpList _ _ _ (⟨some 33, _, _, _, _, _⟩ :: _) _ _); (refine wpList_copy_splice (by rfl) (.tmp 31) (.tmp 32) 24 24 (by rfl) 3 Tryd.underlying24 sizeI (some ⟨W.heap.size, 0, none⟩) (some ⟨b, 0, none⟩) m m m c (by rfl) (by rfl) W.heap.size 0 (madeCells #[.int .i64 0] m).toList 3 (by simp [World.alloc]) cs (by rw [HCL.out]; exact (Nat.min_self m).symm) (fun _ => ⟨rfl, _, rfl, HCS.out _ (HBD.out _)⟩) (by simp [size_madeCells, HCL.out]) HONE.out W.heap.size W (HBD.out _) (Nat.le_refl _) ?_))
  intro w2 hg2 hb2
  have HR2 : Hid (RwN w2 W.heap.size m L) := Lib.hid (HOF.out _ _ (by rw [hg2.out, splice_all _ _ (by rw [HCL.out]; simp [size_madeCells])]))
  have HB2 := Lib.hid hb2
  obtain ⟨d0, d1⟩ := HC0.out w2 hb2
  have e0 := HR2.out.cells.cell q hqm
  have e1 := HR2.out.cells.cell Q hq
  have f0 := HR2.out.cells.frozen q
  have f1 := HR2.out.cells.frozen Q
  have HR3 : Hid (∀ k, RwN (((w2.drewN k).setCell ⟨W.heap.size, q, none⟩ (.int .i64 (y : Int))).setCell ⟨W.heap.size, Q, none⟩ (.int .i64 (x : Int))) W.heap.size m (swp L q)) := Lib.hid (fun k => HSW.out _ _ HR2.out)
  have HB3 : Hid (∀ k, Below W.heap.size W (((w2.drewN k).setCell ⟨W.heap.size, q, none⟩ (.int .i64 (y : Int))).setCell ⟨W.heap.size, Q, none⟩ (.int .i64 (x : Int)))) := Lib.hid (fun k => ((drewN_below HB2.out k).setCell (Nat.le_refl _) _).setCell (Nat.le_refl _) _)
  have hQq := HQQ.out
  have f1' : (w2.setCell ⟨W.heap.size, q, none⟩ (.int .i64 (y : Int))).cell? ⟨W.heap.size, Q, none⟩ = some (zc (wl L) Q) := by
    rw [World.cell?_setCell_other _ _ _ _ (fun he => by injection he with _ h2; omega)]; exact e1
  clear hQq
  clear hg2 hb2 HC0 HCS HCL HONE HOF HSW HBD HR2 c0 c1 hmk
  go_wp2
  go_region
  all_goals
    go_wp2
    go_ret2
    exact ⟨⟨_, rfl, Nat.le_refl _, HR3.out _⟩, HB3.out _⟩
set_option maxHeartbeats 3200000 in
set_option maxRecDepth 100000 in
theorem exchange_no (b m c : Nat) (L : List Nat) (p : Int) (hL : L.length = m) (hm1 : m ≤ 100) (hnd : L.Nodup) (h0 : swB L p = false) (W : World) (h : RwN W b m L) :
    Calls Tryd.prog 44 #[.slice (some ⟨b, 0, none⟩) m c, .int .i64 p] W fun e w' => e = .returned (.tuple #[.slice none 0 0, .bool false]) ∧ Below W.heap.size W w' := by
  have v2 : IntKind.i64.wrap ((m : Int) - 2) = (m : Int) - 2 := IntWalk.i64_in _ (by omega)
  have HBD := Lib.hid (fun k => drewN_below (Below.refl W.heap.size W) k)
  by_cases hn : p < 0
  · have k0 : decide (p < 0) = true := decide_eq_true hn
    clear h h0
    go_enter Tryd.func44, Tryd.ntmps44
    go_wp2
    go_quiet (fail)
    go_wp2
    go_ret2
    exact ⟨rfl, HBD.out _⟩
  · have k0 : decide (p < 0) = false := decide_eq_false hn
    by_cases hm : p > (m : Int) - 2
    · have k1 : decide (p > (m : Int) - 2) = true := decide_eq_true hm
      clear h h0
      go_enter Tryd.func44, Tryd.ntmps44
      go_wp2
      go_quiet (fail)
      go_wp2
      go_ret2
      exact ⟨rfl, HBD.out _⟩
    · have k1 : decide (p > (m : Int) - 2) = false := decide_eq_false hm
      obtain ⟨q, rfl⟩ : ∃ q : Nat, p = q := ⟨p.toNat, by omega⟩
      have hq : q + 1 < m := by omega
      have hge : ¬ L.getD q 0 < L.getD (q + 1) 0 := fun hlt => by
        unfold swB at h0
        have := of_decide_eq_false h0
        rw [Int.toNat_natCast] at this
        exact this ⟨by omega, by omega, hlt⟩
      have hne := nodup_ne hnd (i := q) (j := q + 1) (by omega) (by omega) (by omega)
      have c0 : W.cell? ⟨b, q, none⟩ = some (.int .i64 ((L.getD q 0 : Nat) : Int)) := by rw [h.cells.cell q (by omega), zc_wl]
      have c1 : W.cell? ⟨b, q + 1, none⟩ = some (.int .i64 ((L.getD (q + 1) 0 : Nat) : Int)) := by rw [h.cells.cell (q + 1) hq, zc_wl]
      generalize L.getD q 0 = x at c0 hge hne
      generalize L.getD (q + 1) 0 = y at c1 hge hne
      obtain ⟨Q, hQ⟩ : ∃ Q, Q = q + 1 := ⟨_, rfl⟩
      rw [← hQ] at c1 hq
      have vq : IntKind.i64.wrap ((q : Int) + 1) = ((Q : Nat) : Int) := by rw [IntWalk.i64_in _ (by omega)]; omega
      have k2 : decide ((x : Int) > (y : Int)) = true := decide_eq_true (by omega)
      have hqm : q < m := by omega
      clear h h0 hQ hnd
      go_enter Tryd.func44, Tryd.ntmps44
      go_wp2
      go_quiet (fail)
      go_wp2
      go_ret2
      exact ⟨rfl, HBD.out _⟩
theorem exchange_any (b m c : Nat) (L : List Nat) (p : Int) (hL : L.length = m) (hm1 : m ≤ 100) (hnd : L.Nodup) (W : World) (h : RwN W b m L) :
    Calls Tryd.prog 44 #[.slice (some ⟨b, 0, none⟩) m c, .int .i64 p] W fun e w' => ((swB L p = true ∧ ∃ g, e = .returned (.tuple #[.slice (some ⟨g, 0, none⟩) m m, .bool true]) ∧ W.heap.size ≤ g ∧ RwN w' g m (swD L p)) ∨ (swB L p = false ∧ e = .returned (.tuple #[.slice none 0 0, .bool false]))) ∧ Below W.heap.size W w' := by
  cases hs : swB L p
  · exact (exchange_no b m c L p hL hm1 hnd hs W h).mono fun e w' ⟨he, hb⟩ => ⟨.inr ⟨rfl, he⟩, hb⟩
  · have hsb := hs
    unfold swB at hsb
    have hsb := of_decide_eq_true hsb
    obtain ⟨q, rfl⟩ : ∃ q : Nat, p = q := ⟨p.toNat, by omega⟩
    rw [Int.toNat_natCast] at hsb
    have e2 : swD L (q : Int) = swp L q := by unfold swD; rw [if_pos hs, Int.toNat_natCast]
    rw [e2]
    exact (exchange_yes b m c L q hL hm1 (by omega) hsb.2.2 W h).mono fun e w' ⟨he, hb⟩ => ⟨.inl ⟨rfl, he⟩, hb⟩
end Go.Proofs.YtfpbehnpaedpmaaDoor.Sg
