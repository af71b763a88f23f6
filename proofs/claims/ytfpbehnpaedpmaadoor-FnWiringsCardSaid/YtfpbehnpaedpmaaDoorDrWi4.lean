/- The draw of pairs: DrawWiringFrom. -/
import Derived.Test.YtfpbehnpaedpmaaDoorDrWi2
namespace Go.Proofs.YtfpbehnpaedpmaaDoor.Cur
open Go.RowKit Pt NewI NewII Wi Sg
/-- Rows of a slice of slices, in memory of their own from lo on. -/
structure SwL (w : World) (lo bo : Nat) (S : List (List Int)) : Prop where
  lob : lo ≤ bo
  lt : bo < w.heap.size
  frozen : ∀ j, w.frozen? ⟨bo, j, none⟩ = false
  row : ∀ j, j < S.length → ∃ g rc, w.cell? ⟨bo, j, none⟩ = some (.slice (some ⟨g, 0, none⟩) (S.getD j []).length rc) ∧ lo ≤ g ∧ g ≠ bo ∧ Cells w g (S.getD j []).length (zc (S.getD j []))
theorem SwL.of_own {w : World} {B R m : Nat} {v : Value} {S : List (List Int)} (h : OwnW w B R m v S) (hR : B ≤ R) (h0 : S ≠ []) : ∃ bo c, v = .slice (some ⟨bo, 0, none⟩) S.length c ∧ SwL w B bo S := by
  obtain ⟨gs, h1, h2, h3, h4⟩ := h
  have hlt := World.ownsRow.lt h2
  rcases id h2.2 with ⟨e1, e2⟩ | ⟨g, cap, cur, rfl, hB, hh, -⟩
  · have : S.length = 0 := by omega
    exact absurd (List.eq_nil_of_length_eq_zero this) h0
  · refine ⟨g, cap, by rw [h1], hB, (hlt g rfl).2, fun j => World.ownsRow.frozenAt h2 j, fun j hj => ?_⟩
    obtain ⟨g', hg'⟩ : ∃ g', gs[j]? = some g' := ⟨_, List.getElem?_eq_getElem (by omega)⟩
    obtain ⟨r1, -, ⟨cs, r2⟩, r3⟩ := h3 j g' hg'
    have hx : (List.zipWith (fun g (zs : List Int) => rowV g zs.length) gs S)[j]? = some (rowV g' (S.getD j []).length) := by
      rw [List.getElem?_zipWith, hg', List.getElem?_eq_getElem hj]
      simp only [Option.some.injEq]
      rw [List.getD_eq_getElem?_getD, List.getElem?_eq_getElem hj]
      rfl
    have := World.ownsRow.cells h2 (g := g) rfl j _ hx
    rw [WideShapes.add_plain, Nat.zero_add] at this
    refine ⟨g'.1, g'.2, this, by omega, fun e => ?_, r3⟩
    rw [e, hh] at r2
    injection r2 with r2
    injection r2 with _ ht
    exact absurd ht (by decide)
theorem SwL.leaves {b n lo bo : Nat} {v : Value} {w wr : World} {S : List (List Int)} (h : SwL w lo bo S) (hl : Leaves b v n w wr) (hb : b < lo) : SwL wr lo bo S := by
  have hbo := h.lob
  have hk := hl.2.2.block bo h.lt (fun e => by injection e; omega)
  refine ⟨h.lob, Nat.lt_of_lt_of_le h.lt hl.2.2.size, fun j => by rw [World.frozen?_of_block (a := ⟨bo, j, none⟩) hk]; exact h.frozen j, fun j hj => ?_⟩
  obtain ⟨g, rc, h1, h2, h3, h4⟩ := h.row j hj
  exact ⟨g, rc, by rw [World.cell?_of_block (a := ⟨bo, j, none⟩) hk]; exact h1, h2, h3, cells_leaves h4 hl (by omega)⟩
theorem SwL.on {lo bo : Nat} {w wr : World} {S : List (List Int)} (h : SwL w lo bo S) (hb : Below w.heap.size w wr) : SwL wr lo bo S := by
  have hk := hb.block bo h.lt
  refine ⟨h.lob, Nat.lt_of_lt_of_le h.lt hb.size, fun j => by rw [World.frozen?_of_block (a := ⟨bo, j, none⟩) hk]; exact h.frozen j, fun j hj => ?_⟩
  obtain ⟨g, rc, h1, h2, h3, h4⟩ := h.row j hj
  exact ⟨g, rc, by rw [World.cell?_of_block (a := ⟨bo, j, none⟩) hk]; exact h1, h2, h3, h4.on hb⟩
theorem cells_far {w : World} {g bo m : Nat} {f : Nat → Value} (h : Cells w g m f) (hne : g ≠ bo) (i : Nat) (v : Value) : Cells (w.setCell ⟨bo, i, none⟩ v) g m f :=
  h.block (heap_setCell_other w ⟨bo, i, none⟩ g v hne) (by simp [World.setCell])
theorem SwL.set {lo bo : Nat} {w : World} {S : List (List Int)} (h : SwL w lo bo S) {i : Nat} (hi : i < S.length) {g rc : Nat} {zs : List Int} (hg : lo ≤ g) (hne : g ≠ bo) (hc : Cells w g zs.length (zc zs)) : SwL (w.setCell ⟨bo, i, none⟩ (.slice (some ⟨g, 0, none⟩) zs.length rc)) lo bo (S.set i zs) := by
  refine ⟨h.lob, by simpa [World.setCell] using h.lt, fun j => by rw [World.frozen?_setCell]; exact h.frozen j, fun j hj => ?_⟩
  rw [List.length_set] at hj
  by_cases e : j = i
  · subst e
    have e2 : (S.set j zs).getD j [] = zs := by rw [List.getD_eq_getElem?_getD, List.getElem?_set_self hj]; rfl
    obtain ⟨g', rc', h1, -⟩ := h.row j hj
    rw [e2]
    exact ⟨g, rc, World.cell?_setCell_same w ⟨bo, j, none⟩ _ h1, hg, hne, cells_far hc hne j _⟩
  · have e2 : (S.set i zs).getD j [] = S.getD j [] := by rw [List.getD_eq_getElem?_getD, List.getElem?_set_ne (fun h => e h.symm), List.getD_eq_getElem?_getD]
    obtain ⟨g', rc', h1, h2, h3, h4⟩ := h.row j hj
    rw [e2]
    exact ⟨g', rc', by rw [World.cell?_setCell_other w _ _ _ (fun he => e (by injection he with _ h2; exact h2.symm))]; exact h1, h2, h3, cells_far h4 h3 i _⟩
theorem SwL.low {lo lo' bo : Nat} {w : World} {S : List (List Int)} (h : SwL w lo bo S) (hl : lo' ≤ lo) : SwL w lo' bo S :=
  ⟨Nat.le_trans hl h.lob, h.lt, h.frozen, fun j hj => by
    obtain ⟨g, rc, h1, h2, h3⟩ := h.row j hj
    exact ⟨g, rc, h1, by omega, h3⟩⟩
theorem SwL.src {lo bo : Nat} {w : World} {S : List (List Int)} (h : SwL w lo bo S) : SrcLL w w.heap.size (some ⟨bo, 0, none⟩) S := fun j hj => by
  obtain ⟨g, rc, h1, h2, h3, h4⟩ := h.row j hj
  exact ⟨bo, 0, _, rc, rfl, h.lt, by rw [Nat.zero_add]; exact h1, fun i hi => ⟨g, 0, rfl, h4.lt, by rw [Nat.zero_add, h4.cell i hi]; rfl⟩⟩
theorem swL_two (L u : List Nat) : ∀ s ∈ swL L u, s.length = 2 := by
  induction u generalizing L with
  | nil => intro s hs; cases hs
  | cons p u ih =>
    intro s hs
    rcases List.mem_cons.1 hs with rfl | hs
    · rfl
    · exact ih _ s hs
theorem getD_two {S : List (List Int)} (h : ∀ s ∈ S, s.length = 2) {j : Nat} (hj : j < S.length) : (S.getD j []).length = 2 := by
  rw [List.getD_eq_getElem?_getD, List.getElem?_eq_getElem hj]
  exact h _ (List.getElem_mem hj)
theorem set_two {S : List (List Int)} (h : ∀ s ∈ S, s.length = 2) (i : Nat) {t : List Int} (ht : t.length = 2) : ∀ s ∈ S.set i t, s.length = 2 := fun s hs => by
  rcases List.mem_or_eq_of_mem_set hs with h1 | rfl
  · exact h s h1
  · exact ht
/-- What the draw of pairs leaves. -/
def FromW (B : Nat) (e : Ending) (w' : World) : Prop := ∃ (m : Nat) (S : List (List Int)) (bo c : Nat), e = .returned (.tuple #[.int .i64 m, .slice (some ⟨bo, 0, none⟩) S.length c]) ∧ 3 ≤ m ∧ m ≤ 6 ∧ S.length ≤ 15 ∧ (∀ s ∈ S, s.length = 2) ∧ SwL w' B bo S
set_option maxHeartbeats 3200000 in
set_option maxRecDepth 100000 in
theorem drawFromW_any (v : Value) (n : Nat) (hn : n ≤ 9223372036854700000) (w : World) (hv : Bytes w v n w.heap.size) :
    Calls Tryd.prog 10 #[v] w fun e w' => FromW w.heap.size e w' ∧ Below w.heap.size w w' := by
  go_enter Tryd.func10, Tryd.ntmps10
  go_wp2_with fail
  refine (new_any v n hn _ hv).mono ?_
  rintro e w1 ⟨b, rfl, hb, hv1, hc1, hb1⟩
  have B1 := Lib.hid hb1
  have HD := Lib.hid (l12Draw_any b v n w1 hv1 hc1)
  have hbl := hc1.ltW
  have HBW := Lib.hid (fun (m : Nat) (hm : m ≤ 100) W (hl : Leaves b v n w1 W) => (below_any b v n m (by omega) W hl.1 hl.2.1))
  clear hb1 hv1 hc1
  go_wp2_with fail
  refine HD.out.mono ?_
  rintro e w2 ⟨m, u, vv, rfl, h3, h6, hlen, hgo, hown, hl2⟩
  have hN : 3 ≤ m * (m - 1) / 2 ∧ m * (m - 1) / 2 ≤ 15 := by
    have : ∀ m, m < 7 → 3 ≤ m → 3 ≤ m * (m - 1) / 2 ∧ m * (m - 1) / 2 ≤ 15 := by decide
    exact this m (by omega) h3
  have hll : (wl u).length = u.length := wl_length u
  have hgz : goZ (List.range m) (wl u) ≠ none := by rw [goZ_wl]; exact hgo
  obtain ⟨zs, hzs⟩ : ∃ zs, zs = wl u := ⟨_, rfl⟩
  rw [← hzs] at hown hll hgz
  have hl3 : 3 ≤ zs.length ∧ zs.length ≤ 15 := by omega
  obtain ⟨g, c, rfl, hcz, hcm, hBg, hC⟩ := ownsZ_cells hown (fun e => by rw [e] at hl3; simp at hl3)
  have L2 := Lib.hid hl2
  have HSO := Lib.hid (l12Swaps_own m (by omega) (by omega) (some ⟨g, 0, none⟩) c zs (by omega) hgz w2 (fun j hj => ⟨g, 0, rfl, hC.lt, by rw [Nat.zero_add, hC.cell j hj]; rfl⟩))
  have hsl : (swL (List.range m) (zs.map Int.toNat)).length = zs.length := by rw [swL_len, List.length_map]
  have htw := swL_two (List.range m) (zs.map Int.toNat)
  have hb2 := L2.out.2.1.ltW
  have hs12 := L2.out.2.2.size
  generalize swL (List.range m) (zs.map Int.toNat) = S at HSO hsl htw
  clear hown hl2 hC hgo HD hll hzs hlen hN hgz
  go_wp2_with fail
  refine HSO.out.mono ?_
  rintro e w3 ⟨⟨v', R, rfl, hR, ho⟩, hb3⟩
  obtain ⟨bo, co, rfl, hsw⟩ := SwL.of_own ho hR (fun e => by rw [e] at hsl; simp at hsl; omega)
  have L3 := Lib.hid (L2.out.extW (hb3.mono hs12) hbl)
  have HS3 := Lib.hid hsw
  have hS3 : 3 ≤ S.length ∧ S.length ≤ 15 := by omega
  have hbw2 : b < w2.heap.size := hb2
  clear ho hb3 hsw hsl HSO
  go_wp2_with fail
  refine (HBW.out 6 (by omega) _ L3.out).mono ?_
  rintro e w4 ⟨r, hr, rfl, hl4⟩
  have L4 := Lib.hid (L3.out.trans hl4)
  have HS4 := Lib.hid (HS3.out.leaves hl4 hbw2)
  have HTW := Lib.hid htw
  have hB2 : w.heap.size ≤ w2.heap.size := by have := B1.out.size; omega
  clear hl4 htw
  rcases (by omega : r = 0 ∨ r = 1 ∨ (r ≠ 0 ∧ r ≠ 1)) with rfl | rfl | ⟨hr0, hr1⟩
  · go_wp2_with fail
    refine (HBW.out S.length (by omega) _ L4.out).mono ?_
    rintro e w5 ⟨i, hi, rfl, hl5⟩
    have L5 := Lib.hid (L4.out.trans hl5)
    have HS5 := Lib.hid (HS4.out.leaves hl5 hbw2)
    have hi1 : i < S.length := by omega
    clear hl5 hi
    go_wp2_with fail
    refine (HBW.out m (by omega) _ L5.out).mono ?_
    rintro e w6 ⟨x, hx, rfl, hl6⟩
    have L6 := Lib.hid (L5.out.trans hl6)
    have HS6 := Lib.hid (HS5.out.leaves hl6 hbw2)
    clear hl6
    go_wp2_with fail
    refine (HBW.out m (by omega) _ L6.out).mono ?_
    rintro e w7 ⟨y, hy, rfl, hl7⟩
    have L7 := Lib.hid (L6.out.trans hl7)
    have HS7 := Lib.hid (HS6.out.leaves hl7 hbw2)
    clear hl7
    have hs7 := L7.out.2.2.size
    have hbo7 := HS7.out.lt
    have hal := (Below.refl w7.heap.size w7).alloc (Nat.le_refl _) (.cells #[.int .i64 (x : Int), .int .i64 (y : Int)] 3)
    have HS8 := Lib.hid (HS7.out.on hal)
    have hfz := HS8.out.frozen i
    obtain ⟨g0, rc0, hc0, -⟩ := HS8.out.row i hi1
    have hl2w := HS7.out.lob
    have hcm := World.setCell_alloc_past (w := w7) (.cells #[.int .i64 (x : Int), .int .i64 (y : Int)] 3) bo i (.slice (some ⟨w7.heap.size, 0, none⟩) 2 2) hbo7
    have hS9 : SwL ((w7.alloc (.cells #[.int .i64 (x : Int), .int .i64 (y : Int)] 3)).setCell ⟨bo, i, none⟩ (.slice (some ⟨w7.heap.size, 0, none⟩) 2 2)) w2.heap.size bo (S.set i [(x : Int), (y : Int)]) := HS8.out.set (i := i) hi1 (g := w7.heap.size) (rc := 2) (zs := [(x : Int), (y : Int)]) (by omega) (by omega) (cells2_made w7 x y 3)
    have L8 := L7.out.extW (hal.mono hs7) hbl
    have hF := (leaves_belowW L8 hb B1.out).setCell (p := ⟨bo, i, none⟩) (by show w.heap.size ≤ bo; omega) (.slice (some ⟨w7.heap.size, 0, none⟩) 2 2)
    rw [hcm] at hS9 hF
    have HS9 := Lib.hid hS9
    have HF := Lib.hid hF
    have hlS : (S.set i [(x : Int), (y : Int)]).length = S.length := List.length_set
    have HT9 := Lib.hid (set_two HTW.out i (t := [(x : Int), (y : Int)]) rfl)
    clear hal L8 hS9 hF hcm
    go_wp2
    go_ret2
    exact ⟨⟨m, S.set i [(x : Int), (y : Int)], bo, co, by rw [hlS]; rfl, h3, h6, by omega, HT9.out, HS9.out.low hB2⟩, HF.out⟩
  · have vS : IntKind.i64.wrap ((S.length : Int) - 1) = ((S.length - 1 : Nat) : Int) := by rw [IntWalk.i64_in _ (by omega)]; omega
    obtain ⟨K, hK⟩ : ∃ K, K = S.length - 1 := ⟨_, rfl⟩
    rw [← hK] at vS
    have HK := Lib.hid hK
    have hKb : 2 ≤ K ∧ K ≤ 14 := by omega
    clear hK
    go_wp2_with fail
    refine (HBW.out K (by omega) _ L4.out).mono ?_
    rintro e w5 ⟨i, hi, rfl, hl5⟩
    have L5 := Lib.hid (L4.out.trans hl5)
    have HS5 := Lib.hid (HS4.out.leaves hl5 hbw2)
    obtain ⟨I, hI⟩ : ∃ I, I = i + 1 := ⟨_, rfl⟩
    have hK := HK.out
    have hi1 : i < S.length := by omega
    have hI1 : I < S.length := by omega
    have vI : IntKind.i64.wrap ((i : Int) + 1) = (I : Int) := by rw [IntWalk.i64_in _ (by omega)]; omega
    obtain ⟨ga, ra, ca, a1, a2, a3⟩ := HS5.out.row i hi1
    obtain ⟨gb, rb, cb, b1, b2, b3⟩ := HS5.out.row I hI1
    have hf1 := HS5.out.frozen i
    have hf2 := HS5.out.frozen I
    have ht1 := getD_two HTW.out hi1
    have ht2 := getD_two HTW.out hI1
    obtain ⟨si, hsi⟩ : ∃ si, si = S.getD i [] := ⟨_, rfl⟩
    obtain ⟨sI, hsI⟩ : ∃ sI, sI = S.getD I [] := ⟨_, rfl⟩
    rw [← hsi] at ca a3 ht1
    rw [← hsI] at cb b3 ht2
    have hS6 := HS5.out.set (i := i) hi1 (rc := rb) b1 b2 b3
    have hS7 := hS6.set (i := I) (by rw [List.length_set]; exact hI1) (rc := ra) a1 a2 (cells_far a3 a2 i _)
    rw [ht1] at ca hS7
    rw [ht2] at cb hS7
    have HS7 := Lib.hid hS7
    have hlS2 : ((S.set i sI).set I si).length = S.length := by rw [List.length_set, List.length_set]
    have HT7 := Lib.hid (set_two (set_two HTW.out i ht2) I ht1)
    have hw5 := HS5.out.lt
    have hl2w := HS5.out.lob
    have HF := Lib.hid (((leaves_belowW L5.out hb B1.out).setCell (p := ⟨bo, i, none⟩) (by show w.heap.size ≤ bo; omega) (.slice (some ⟨gb, 0, none⟩) 2 rb)).setCell (p := ⟨bo, I, none⟩) (by show w.heap.size ≤ bo; omega) (.slice (some ⟨ga, 0, none⟩) 2 ra))
    have hne : i ≠ I := by omega
    clear hsi hsI hS6 hS7 a3 b3 ht1 ht2
    clear hl5 hi hK hI
    go_wp2
    go_ret2
    exact ⟨⟨m, (S.set i sI).set I si, bo, co, by rw [hlS2]; rfl, h3, h6, by omega, HT7.out, HS7.out.low hB2⟩, HF.out⟩
  · have hq0 : ((r : Int) == 0) = false := beq_eq_false_iff_ne.2 (by omega)
    have hq1 : ((r : Int) == 1) = false := beq_eq_false_iff_ne.2 (by omega)
    have HF := Lib.hid (leaves_belowW L4.out hb B1.out)
    go_wp2
    go_ret2
    exact ⟨⟨m, S, bo, co, rfl, h3, h6, by omega, HTW.out, HS4.out.low hB2⟩, HF.out⟩
end Go.Proofs.YtfpbehnpaedpmaaDoor.Cur
