/- Wirings, as impl tells them: WiringFrom. -/
import Derived.Test.YtfpbehnpaedpmaaDoorWjAll
import Derived.Test.YtfpbehnpaedpmaaDoorWiFrom
import Derived.Test.YtfpbehnpaedpmaaDoorShelf
namespace Go.Proofs.YtfpbehnpaedpmaaDoor.Sg
open Go.RowKit Pt NewI NewII Wi
/-- The two wires at p and p + 1. -/
def twoAt (L : List Nat) (p : Nat) : List Int := [((L.getD p 0 : Nat) : Int), ((L.getD (p + 1) 0 : Nat) : Int)]
/-- The first place of both; -1 if there is none. -/
def pbZ (L : List Nat) (s : List Int) : Int := match (List.range (L.length - 1)).find? (fun p => decide (s = twoAt L p)) with
  | some p => (p : Int)
  | none => -1
theorem pbZ_some {L : List Nat} {s : List Int} {p : Nat} (hp : p + 1 < L.length) (h : s = twoAt L p) (hn : ∀ j, j < p → s ≠ twoAt L j) : pbZ L s = (p : Int) := by
  have : (List.range (L.length - 1)).find? (fun p => decide (s = twoAt L p)) = some p := by
    rw [List.find?_range_eq_some]
    exact ⟨decide_eq_true h, List.mem_range.2 (by omega), fun j hj => by simpa using hn j hj⟩
  unfold pbZ
  rw [this]
theorem pbZ_none {L : List Nat} {s : List Int} (hn : ∀ j, j + 1 < L.length → s ≠ twoAt L j) : pbZ L s = -1 := by
  have : (List.range (L.length - 1)).find? (fun p => decide (s = twoAt L p)) = none := by
    rw [List.find?_range_eq_none]
    exact fun j hj => by simpa using hn j (by omega)
  unfold pbZ
  rw [this]
theorem pbZ_cases (L : List Nat) (s : List Int) : (pbZ L s = -1 ∧ ∀ j, j + 1 < L.length → s ≠ twoAt L j) ∨ ∃ p : Nat, pbZ L s = p ∧ p + 1 < L.length ∧ s = twoAt L p := by
  unfold pbZ
  cases h : (List.range (L.length - 1)).find? (fun p => decide (s = twoAt L p)) with
  | none =>
    rw [List.find?_range_eq_none] at h
    exact .inl ⟨rfl, fun j hj => by simpa using h j (by omega)⟩
  | some p =>
    rw [List.find?_range_eq_some] at h
    exact .inr ⟨p, rfl, by have := List.mem_range.1 h.2.1; omega, by simpa using h.1⟩
theorem idx_nodup {L : List Nat} (hn : L.Nodup) {p : Nat} (hp : p < L.length) : L.findIdx? (fun a : Nat => decide ((a : Int) = ((L.getD p 0 : Nat) : Int))) = some p := by
  rw [List.findIdx?_eq_some_iff_getElem]
  have e : ∀ j, ∀ hj : j < L.length, L.getD j 0 = L[j] := fun j hj => by rw [List.getD_eq_getElem?_getD, List.getElem?_eq_getElem hj]; rfl
  refine ⟨hp, by rw [← e p hp]; simp, fun j hj => ?_⟩
  have := nodup_ne hn (i := j) (j := p) (by omega) hp (by omega)
  rw [← e j (by omega)]
  simp only [decide_eq_true_eq]
  omega
/-- The place found is that of a good exchange, or there is none. -/
theorem pb_spec {L : List Nat} (hn : L.Nodup) (s : List Int) : (swB L (pbZ L s) = true ∧ wf1 L s = some (pbZ L s).toNat) ∨ (swB L (pbZ L s) = false ∧ wf1 L s = none) := by
  rcases pbZ_cases L s with ⟨e, h⟩ | ⟨p, e, hp, rfl⟩
  · refine .inr ⟨by rw [e]; unfold swB; exact decide_eq_false (fun c => by omega), ?_⟩
    by_cases h1 : s.length = 2 ∧ s.getD 0 0 < s.getD 1 0
    · cases hf : L.findIdx? (fun a : Nat => decide ((a : Int) = s.getD 0 0)) with
      | none => exact wf1_no hf
      | some q =>
        refine wf1_not hf (fun c => ?_)
        obtain ⟨hq, hq2, -⟩ := List.findIdx?_eq_some_iff_getElem.1 hf
        have hx : ((L.getD q 0 : Nat) : Int) = s.getD 0 0 := by
          rw [List.getD_eq_getElem?_getD, List.getElem?_eq_getElem hq]
          exact of_decide_eq_true hq2
        refine h q c.1 ?_
        unfold twoAt
        rw [hx, c.2]
        rcases s with _ | ⟨x, _ | ⟨y, _ | ⟨z, t⟩⟩⟩
        · simp at h1
        · simp at h1
        · rfl
        · simp at h1
    · unfold wf1
      rw [if_neg h1]
  · rw [e, Int.toNat_natCast]
    by_cases hlt : L.getD p 0 < L.getD (p + 1) 0
    · refine .inl ⟨?_, ?_⟩
      · unfold swB
        rw [Int.toNat_natCast]
        exact decide_eq_true ⟨by omega, hp, hlt⟩
      · refine wf1_yes rfl ?_ (idx_nodup hn (by omega)) ⟨hp, rfl⟩
        show ((L.getD p 0 : Nat) : Int) < ((L.getD (p + 1) 0 : Nat) : Int)
        omega
    · refine .inr ⟨?_, wf1_ge ?_⟩
      · unfold swB
        rw [Int.toNat_natCast]
        exact decide_eq_false (fun c => hlt c.2.2)
      · show ¬ ((L.getD p 0 : Nat) : Int) < ((L.getD (p + 1) 0 : Nat) : Int)
        omega
theorem equal_two (b p k : Nat) (x y : Int) (ra : Option Addr) (rc : Nat) (s : List Int) (hsl : s.length ≤ 1048576) (W : World) (h0 : W.cell? ⟨b, p, none⟩ = some (.int .i64 x)) (h1 : W.cell? ⟨b, p + 1, none⟩ = some (.int .i64 y)) (hs : SrcZ W W.heap.size ra s) :
    Calls Tryd.prog 58 #[.slice (some ⟨b, p, none⟩) 2 k, .slice ra s.length rc] W fun e w' => e = .returned (.bool (decide (s = [x, y]))) ∧ Below W.heap.size W w' := by
  by_cases hl : s.length = 2
  · obtain ⟨b2, o2, rfl, hb2, hc0⟩ := hs 0 (by omega)
    have hcs : ∀ j, j < s.length → W.cell? ⟨b2, o2 + j, none⟩ = some (.int .i64 (s.getD j 0)) := fun j hj => by
      obtain ⟨b3, o3, e3, -, hc⟩ := hs j hj
      injection e3 with e3
      injection e3 with e3 e4
      subst e3 e4
      exact hc
    refine (Tryd.slices_Equal_int b p 2 k b2 o2 s.length rc [x, y] s W (Nat.le_refl _) (Nat.le_refl _) (by omega) (by omega) (fun j hj => ?_) hcs).mono fun e w' ⟨he, q, hw⟩ => ⟨?_, by subst hw; exact drewN_below (Below.refl _ _) q⟩
    · rcases (by simp at hj; omega : j = 0 ∨ j = 1) with rfl | rfl
      · exact h0
      · exact h1
    · rw [he, List.take_length]
      congr 2
      show ([x, y] == s) = _
      by_cases e : s = [x, y]
      · rw [e, decide_eq_true rfl]; simp
      · rw [decide_eq_false e]
        rw [beq_eq_false_iff_ne]
        exact fun h => e h.symm
  · refine (Tryd.slices_Equal_int_lens (some ⟨b, p, none⟩) ra 2 k s.length rc W (fun h => hl h.symm)).mono fun e w' ⟨he, hw⟩ => ⟨?_, by subst hw; exact Below.refl _ _⟩
    rw [he, decide_eq_false]
    rintro rfl
    exact hl rfl
set_option maxHeartbeats 1600000 in
set_option maxRecDepth 100000 in
theorem placeOfBoth_any (b m : Nat) (L : List Nat) (hL : L.length = m) (hm2 : 2 ≤ m) (hm1 : m ≤ 100) (ra : Option Addr) (rc : Nat) (s : List Int) (hsl : s.length ≤ 1048576) (W : World) (h : RwN W b m L) (hs : SrcZ W W.heap.size ra s) :
    Calls Tryd.prog 43 #[.slice (some ⟨b, 0, none⟩) m m, .slice ra s.length rc] W fun e w' => e = .returned (.int .i64 (pbZ L s)) ∧ Below W.heap.size W w' := by
  have HEQ : Hid (∀ W2, Below W.heap.size W W2 → ∀ p, p + 1 < m → Calls Tryd.prog 58 #[.slice (some ⟨b, p, none⟩) 2 (m - p), .slice ra s.length rc] W2 fun e w' => e = .returned (.bool (decide (s = twoAt L p))) ∧ Below W2.heap.size W2 w') := Lib.hid (fun W2 hb p hp =>
    equal_two b p (m - p) _ _ ra rc s hsl W2 (by rw [hb.cell h.lt, h.cells.cell p (by omega), zc_wl]) (by rw [hb.cell h.lt, h.cells.cell (p + 1) hp, zc_wl]) (by
      have := hs.on hb
      exact fun j hj => by
        obtain ⟨b', o', h1, h2, h3⟩ := this j hj
        exact ⟨b', o', h1, Nat.lt_of_lt_of_le h2 hb.size, h3⟩))
  have HS := Lib.hid (fun p (hp : p + 1 < m) h1 h2 => pbZ_some (L := L) (s := s) (p := p) (by omega) h1 h2)
  have HN := Lib.hid (fun (h1 : ∀ j, j + 1 < m → s ≠ twoAt L j) => pbZ_none (L := L) (s := s) (by rw [hL]; exact h1))
  have HB0 := Lib.hid (Below.refl W.heap.size W)
  generalize pbZ L s = r at HS HN ⊢
  obtain ⟨M, hM⟩ : ∃ M, M + 1 = m := ⟨m - 1, by omega⟩
  have v1 : IntKind.i64.wrap ((m : Int) - 1) = (M : Int) := by rw [IntWalk.i64_in _ (by omega)]; omega
  clear h hs
  go_enter Tryd.func43, Tryd.ntmps43
  go_wp2
  go_loopw [9] (fun i wr => ∃ k : Nat, k ≤ M ∧ i = .int .i64 k ∧ Hid (∀ j, j < k → s ≠ twoAt L j) ∧ Hid (Below W.heap.size W wr)) (fun i _ => M - (intOf i).toNat)
  case atStart => exact ⟨0, Nat.zero_le _, rfl, Lib.hid (fun j hj => by omega), HB0⟩
  case round =>
    obtain ⟨k, hk, rfl, HNE, HB⟩ := hrel
    by_cases hlt : k < M
    · have v2 : IntKind.i64.wrap ((k : Int) + 2) = ((k + 2 : Nat) : Int) := by rw [IntWalk.i64_in _ (by omega)]; omega
      have h1 : k ≤ k + 2 := by omega
      have h2 : k + 2 ≤ m := by omega
      have HC := Lib.hid (HEQ.out _ HB.out k (by omega))
      by_cases hsk : s = twoAt L k
      · obtain rfl : r = (k : Int) := HS.out k (by omega) hsk HNE.out
        rw [decide_eq_true hsk] at HC
        clear hsk
        go_wp2_with fail
        refine HC.out.mono ?_
        rintro e w2 ⟨rfl, hb2⟩
        have HB2 := HB.out.trans (hb2.mono HB.out.size)
        go_wp2
        go_ret
        exact ⟨rfl, HB2⟩
      · have HNE2 : Hid (∀ j, j < k + 1 → s ≠ twoAt L j) := Lib.hid (fun j hj => by
          by_cases e : j = k
          · rw [e]; exact hsk
          · exact HNE.out j (by omega))
        rw [decide_eq_false hsk] at HC
        clear hsk
        go_wp2_with fail
        refine HC.out.mono ?_
        rintro e w2 ⟨rfl, hb2⟩
        have HB2 := Lib.hid (HB.out.trans (hb2.mono HB.out.size))
        clear hb2
        go_wp2
        exact ⟨⟨k + 1, by omega, by go_num, HNE2, HB2⟩, by simp only [intOf]; omega⟩
    · obtain rfl : k = M := by omega
      obtain rfl : r = -1 := HN.out (fun j hj => HNE.out j (by omega))
      go_wp2
      go_ret
      exact ⟨rfl, HB.out⟩
theorem rwN_next {w : World} {g N p : Nat} {u : List Nat} (h : RwN w g N u) : RwN (w.setCell ⟨g, u.length, none⟩ (.int .i64 (p : Int))) g N (u ++ [p]) :=
  (World.rowIs.set h u.length _).congr (fun j _ => by
    rw [zc_wl, zc_wl]
    rcases Nat.lt_trichotomy j u.length with hlt | rfl | hgt
    · rw [if_neg (by omega), List.getD_eq_getElem?_getD, List.getD_eq_getElem?_getD, List.getElem?_append_left hlt]
    · rw [if_pos rfl, List.getD_eq_getElem?_getD, List.getElem?_append_right (Nat.le_refl _), Nat.sub_self]; rfl
    · rw [if_neg (by omega), List.getD_eq_getElem?_getD, List.getD_eq_getElem?_getD, List.getElem?_eq_none (by omega), List.getElem?_eq_none (by rw [List.length_append]; simp; omega)])
theorem rwN_far {w w' : World} {g b m : Nat} {L : List Nat} (h : RwN w g m L) (ho : Out b (b + 1) w w') (hne : g ≠ b) : RwN w' g m L := World.rowIs.of_block h (ho.block g h.lt (by omega))
set_option maxHeartbeats 6400000 in
set_option maxRecDepth 100000 in
theorem implWiringFrom (n : Int) (a : Option Addr) (c : Nat) (S : List (List Int)) (hl : S.length ≤ 1048576) (hsl : ∀ j, j < S.length → (S.getD j []).length ≤ 1048576) (W : World) (hs : SrcLL W W.heap.size a S) :
    Calls Tryd.prog 11 #[.int .i64 n, .slice a S.length c] W fun e w' => Got2Z W.heap.size (wfA (wfZ n S)) (wfZ n S).isSome e w' ∧ Below W.heap.size W w' := by
  have HHA := Lib.hid (fun W => hasAll_any n (S.length : Int) W)
  cases hh : hasB n (S.length : Int)
  · have e : wfZ n S = none := by
      unfold wfZ
      rw [if_neg]
      rintro ⟨h1, h2⟩
      unfold hasB at hh
      rw [h1, Bool.true_and, h2] at hh
      exact (of_decide_eq_false hh) rfl
    rw [e]
    rw [hh] at HHA
    clear e hh hs
    go_enter Tryd.func11, Tryd.ntmps11
    go_wp2_with fail
    refine (HHA.out _).mono ?_
    rintro e w1 ⟨rfl, rfl⟩
    go_wp2
    go_ret2
    exact ⟨⟨_, _, rfl, .inl rfl⟩, Below.refl _ _⟩
  rw [hh] at HHA
  unfold hasB at hh
  rw [Bool.and_eq_true, decide_eq_true_eq] at hh
  obtain ⟨h36, hlen⟩ := hh
  obtain ⟨h3, h6⟩ := inB_mem h36
  obtain ⟨m, rfl⟩ : ∃ m : Nat, n = m := ⟨n.toNat, by omega⟩
  rw [Int.toNat_natCast] at hlen
  have hlen2 : S.length = m * (m - 1) / 2 := by omega
  clear hlen
  have hlen := hlen2
  clear hlen2
  have HE : Hid (wfZ m S = wf (List.range m) S) := Lib.hid (by unfold wfZ; rw [if_pos ⟨h36, by rw [Int.toNat_natCast]; exact hlen⟩, Int.toNat_natCast])
  rw [HE.out]
  have hN15 : S.length ≤ 15 := by
    rw [hlen]
    have : ∀ m, m < 7 → m * (m - 1) / 2 ≤ 15 := by decide
    exact this m (by omega)
  have HFO := Lib.hid (fun W => firstOrder_any m (by omega) W)
  have HEX := Lib.hid (fun b c L p hL hnd W h => exchange_any b m c L p hL (by omega) hnd W h)
  have HPL := Lib.hid (fun b L hL ra rc s hsl W h hs => placeOfBoth_any b m L hL (by omega) (by omega) ra rc s hsl W h hs)
  have HSRC := Lib.hid (fun W2 (hW : Below W.heap.size W W2) => hs.on hW)
  have HW0 : Hid (wf (List.range m) (S.take 0) = some []) := Lib.hid rfl
  have HWA : Hid (wf (List.range m) (S.take S.length) = wf (List.range m) S) := Lib.hid (by rw [List.take_length])
  have HWN := Lib.hid (fun k u (hk : k < S.length) h => wf_next (L := List.range m) (S := S) (k := k) (u := u) hk h)
  have HWS := Lib.hid (fun k u (hk : k < S.length) h h1 => wf_stop (L := List.range m) (S := S) (k := k) (u := u) hk h h1)
  have HSL := Lib.hid hsl
  generalize hR : wf (List.range m) S = R at HWA HWS ⊢
  have hmk := run_make_row' (P := Tryd.prog) 24 3 (.int .i64 0) 8 Tryd.underlying24 infoZ rfl .i64 .i64 S.length (by omega) (by omega)
  clear hs h36 HE hsl hR hlen
  go_enter Tryd.func11, Tryd.ntmps11
  go_wp2_with fail
  refine (HHA.out _).mono ?_
  rintro e w1 ⟨rfl, rfl⟩
  go_wp2_with fail
  refine (HFO.out _).mono ?_
  rintro e w2 ⟨rfl, hr2, hb2⟩
  have ha : Below w2.heap.size w2 (w2.alloc (.cells (madeCells #[.int .i64 0] S.length) 3)) := (Below.refl _ _).alloc (Nat.le_refl _) _
  have HR2 := Lib.hid (hr2.on ha)
  have HB2 := Lib.hid (hb2.trans (ha.mono hb2.size))
  have HX2 : Hid (RwN (w2.alloc (.cells (madeCells #[.int .i64 0] S.length) 3)) w2.heap.size S.length []) := Lib.hid ((World.rowIs_made w2 (.int .i64 0) S.length 3).congr (fun i _ => rfl))
  have hw2 := hb2.size
  have hlt2 := hr2.lt
  have HA0 : Hid (act (List.range m) [] = List.range m) := Lib.hid rfl
  clear hr2 hb2 ha HHA HFO
  go_wp2
  go_loopw [6, 25] (fun ov x wr => ∃ (k : Nat) (u : List Nat) (g : Nat), k ≤ S.length ∧ x = .int .i64 k ∧ ov = .slice (some ⟨g, 0, none⟩) m m ∧ g ≠ w2.heap.size ∧ Hid (wf (List.range m) (S.take k) = some u) ∧ (act (List.range m) u).Nodup ∧ (act (List.range m) u).length = m ∧ u.length = k ∧ Hid (RwN wr g m (act (List.range m) u)) ∧ Hid (RwN wr w2.heap.size S.length u) ∧ Hid (Below W.heap.size W wr)) (fun _ x _ => S.length - (intOf x).toNat)
  case atStart => exact ⟨0, [], _, Nat.zero_le _, rfl, rfl, by omega, HW0, by rw [HA0.out]; exact List.nodup_range, by rw [HA0.out]; exact List.length_range, rfl, by rw [HA0.out]; exact HR2, HX2, HB2⟩
  case round =>
    obtain ⟨k, u, g, hk, rfl, rfl, hgw, HWF, hnd, hlL, hul, HR, HX, HB⟩ := hrel
    by_cases hlt : k < S.length
    · obtain ⟨b, o, ra, rc, rfl, hbb, hcs, hsz⟩ := HSRC.out _ HB.out k hlt
      have HNX := Lib.hid (HWN.out k u hlt HWF.out)
      have HSTP := Lib.hid (fun h => HWS.out k u hlt HWF.out h)
      have hsk := HSL.out k hlt
      have hbr := HB.out.size
      obtain ⟨L, hL⟩ : ∃ L, L = act (List.range m) u := ⟨_, rfl⟩
      have HLD := Lib.hid hL
      rw [← hL] at hnd hlL HNX HSTP HR
      generalize S.getD k [] = s at hcs hsz HNX HSTP hsk
      have HPS := Lib.hid (pb_spec hnd s)
      have HPC := Lib.hid (HPL.out g L hlL ra rc s hsk wr HR.out (fun j hj => by
        obtain ⟨b', o', h1, h2, h3⟩ := hsz j hj
        exact ⟨b', o', h1, Nat.lt_of_lt_of_le h2 hbr, h3⟩))
      have HPB := Lib.hid (pbZ_cases L s)
      generalize pbZ L s = p at HPS HPC HPB
      clear hsz hL
      go_wp2_with fail
      refine HPC.out.mono ?_
      rintro e w3 ⟨rfl, hb3⟩
      have HR3 := Lib.hid (HR.out.on hb3)
      have HX3 := Lib.hid (HX.out.on hb3)
      have HB3 := Lib.hid (HB.out.trans (hb3.mono hbr))
      have hw3 := hb3.size
      clear hb3 HR HX HPC
      go_wp2_with fail
      refine (HEX.out g m L p hlL hnd _ HR3.out).mono ?_
      rintro e w4 ⟨⟨hsw, g4, rfl, hge, hr4⟩ | ⟨hsw, rfl⟩, hb4⟩
      · have HX4 := Lib.hid (HX3.out.on hb4)
        have HB4 := Lib.hid (HB3.out.trans (hb4.mono HB3.out.size))
        have hr5 := hr4
        have hne4 : g4 ≠ w2.heap.size := by have := HX3.out.lt; omega
        have hsb := hsw
        obtain ⟨q, rfl, hq1⟩ : ∃ q : Nat, p = q ∧ q + 1 < L.length := by
          unfold swB at hsb
          have hsb := of_decide_eq_true hsb
          exact ⟨p.toNat, by omega, hsb.2.1⟩
        have hwf1 : wf1 L s = some q := by
          rcases HPS.out with ⟨-, h2⟩ | ⟨h1, -⟩
          · rw [h2, Int.toNat_natCast]
          · rw [hsw] at h1; cases h1
        have HN3 : Hid (wf (List.range m) (S.take (k + 1)) = some (u ++ [q])) := Lib.hid (by rw [HNX.out, hwf1]; rfl)
        have HSD : Hid (swD L (q : Int) = act (List.range m) (u ++ [q])) := Lib.hid (by unfold swD; rw [hsw, act_snoc, ← HLD.out]; rfl)
        rw [HSD.out] at hr5
        have hnd3 : (act (List.range m) (u ++ [q])).Nodup := by rw [← HSD.out]; exact swD_nodup hnd _
        have hlL3 : (act (List.range m) (u ++ [q])).length = m := by rw [← HSD.out, swD_len, hlL]
        have hul3 : (u ++ [q]).length = k + 1 := by rw [List.length_append, hul]; rfl
        have hX5 := rwN_next (p := q) HX4.out
        rw [hul] at hX5
        have ho5 : Out w2.heap.size (w2.heap.size + 1) w4 (w4.setCell ⟨w2.heap.size, k, none⟩ (.int .i64 (q : Int))) := ⟨rfl, rfl, rfl, by simp [World.setCell], fun i hi hne => heap_setCell_other _ _ _ _ (by show i ≠ w2.heap.size; omega)⟩
        have HX5 := Lib.hid hX5
        have HR5 := Lib.hid (rwN_far hr5 ho5 hne4)
        have HB5 := Lib.hid (HB4.out.setCell (p := ⟨w2.heap.size, k, none⟩) (by exact hw2) (.int .i64 (q : Int)))
        have hdst := HX4.out.cells.cell k hlt
        have hfz := HX4.out.cells.frozen k
        clear hr4 hr5 ho5 hX5 hb4 hsb hwf1 HPS HPB hsw hq1 HSTP HNX HSD HX3 HR3 hnd hlL
        go_wp2
        exact ⟨⟨k + 1, u ++ [q], g4, by omega, by go_num, rfl, hne4, HN3, hnd3, hlL3, hul3, HR5, HX5, HB5⟩, by simp only [intOf]; omega⟩
      · have HEN : Hid (R = none) := Lib.hid (HSTP.out (by
          rcases HPS.out with ⟨h1, -⟩ | ⟨-, h2⟩
          · rw [hsw] at h1; cases h1
          · exact h2))
        have HB4 := Lib.hid (HB3.out.trans (hb4.mono HB3.out.size))
        clear hb4 HPS
        go_wp2
        go_ret2
        exact ⟨by rw [HEN.out]; exact ⟨_, _, rfl, .inl rfl⟩, HB4.out⟩
    · obtain rfl : k = S.length := by omega
      have HRE : Hid (R = some u) := Lib.hid (by rw [← HWA.out]; exact HWF.out)
      have HN : Hid (NewI.New wr W.heap.size wr.heap.size (some ⟨w2.heap.size, 0, none⟩) (wl u).length (zc (wl u))) := Lib.hid (.inr ⟨w2.heap.size, rfl, hw2, HX.out.lt, by rw [wl_length, hul]; exact HX.out.cells⟩)
      have hwu : (wl u).length = S.length := by rw [wl_length, hul]
      clear HX HR
      go_wp2
      go_ret2
      exact ⟨by rw [HRE.out]; exact ⟨some ⟨w2.heap.size, 0, none⟩, S.length, by show _ = Ending.returned (.tuple #[.slice _ (wl u).length _, .bool true]); rw [hwu]; rfl, HN.out⟩, HB.out⟩
end Go.Proofs.YtfpbehnpaedpmaaDoor.Sg
