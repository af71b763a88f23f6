/- Lists of lists, as laws compare them: rows wherever they lie. -/
import Derived.Test.YtfpbehnpaedpmaaDoorDrWi4
import Derived.Test.YtfpbehnpaedpmaaDoorLawInts
import Derived.Deep.RegionHeld3
namespace Go.Proofs.YtfpbehnpaedpmaaDoor.Sg
open Go.RowKit Pt NewI NewII Wi Cur
/-- A list, wherever it lies. -/
def TmpW (zs : List Int) (a : Option Addr) (W : World) : Prop := ∃ lo hi, NewI.New W lo hi a zs.length (zc zs)
theorem TmpW.on {zs : List Int} {a : Option Addr} {W W' : World} (h : TmpW zs a W) (hb : Below W.heap.size W W') : TmpW zs a W' := by
  obtain ⟨lo, hi, h⟩ := h
  exact ⟨lo, hi, h.on hb⟩
theorem TmpW.of_cells {zs : List Int} {g : Nat} {W : World} (h : Cells W g zs.length (zc zs)) : TmpW zs (some ⟨g, 0, none⟩) W := ⟨0, g + 1, .inr ⟨g, rfl, Nat.zero_le _, Nat.lt_succ_self _, h⟩⟩
theorem TmpW.src {zs : List Int} {a : Option Addr} {W : World} (h : TmpW zs a W) : SrcZ W W.heap.size a zs := fun j hj => by
  obtain ⟨lo, hi, h | ⟨g, rfl, -, -, h4⟩⟩ := h
  · omega
  · exact ⟨g, 0, rfl, h4.lt, by rw [Nat.zero_add, h4.cell j hj]; rfl⟩
theorem TmpW.get {zs : List Int} {a : Option Addr} {W : World} (h : TmpW zs a W) {i : Nat} (hi : i < zs.length) : ∃ b, a = some ⟨b, 0, none⟩ ∧ W.cell? ⟨b, i, none⟩ = some (.int .i64 (zs.getD i 0)) := by
  obtain ⟨lo, hi', h | ⟨g, h1, -, -, h4⟩⟩ := h
  · omega
  · exact ⟨g, h1, by rw [h4.cell i hi]; rfl⟩
/-- Rows, wherever they lie. -/
def RowL (S : List (List Int)) (a : Option Addr) (W : World) : Prop := S = [] ∨ ∃ bo, a = some ⟨bo, 0, none⟩ ∧ bo < W.heap.size ∧ ∀ j, j < S.length → ∃ g rc, W.cell? ⟨bo, j, none⟩ = some (.slice (some ⟨g, 0, none⟩) (S.getD j []).length rc) ∧ Cells W g (S.getD j []).length (zc (S.getD j []))
theorem RowL.on {S : List (List Int)} {a : Option Addr} {W W' : World} (h : RowL S a W) (hb : Below W.heap.size W W') : RowL S a W' := by
  rcases h with h | ⟨bo, h1, h2, h3⟩
  · exact .inl h
  · refine .inr ⟨bo, h1, Nat.lt_of_lt_of_le h2 hb.size, fun j hj => ?_⟩
    obtain ⟨g, rc, h4, h5⟩ := h3 j hj
    exact ⟨g, rc, by rw [hb.cell h2]; exact h4, h5.on hb⟩
theorem RowL.of_sw {S : List (List Int)} {lo bo : Nat} {W : World} (h : SwL W lo bo S) : RowL S (some ⟨bo, 0, none⟩) W :=
  .inr ⟨bo, rfl, h.lt, fun j hj => by
    obtain ⟨g, rc, h1, -, -, h4⟩ := h.row j hj
    exact ⟨g, rc, h1, h4⟩⟩
theorem RowL.of_lists {S : List (List Int)} {lo hi : Nat} {a : Option Addr} {W : World} (h : Lists W lo hi a S (org S)) : RowL S a W := by
  rcases h with h | ⟨b, gs, rfl, h⟩
  · exact .inl h
  · refine .inr ⟨b, rfl, h.lt, fun j hj => ?_⟩
    obtain ⟨g, hg⟩ : ∃ g, gs[j]? = some g := ⟨_, List.getElem?_eq_getElem (by rw [h.len]; exact hj)⟩
    exact ⟨g.1, g.2, h.outer j g hg, (h.row j g hg).2.2.2⟩
theorem RowL.src {S : List (List Int)} {a : Option Addr} {W : World} (h : RowL S a W) : SrcLL W W.heap.size a S := fun j hj => by
  rcases h with rfl | ⟨bo, rfl, h2, h3⟩
  · simp at hj
  · obtain ⟨g, rc, h4, h5⟩ := h3 j hj
    exact ⟨bo, 0, _, rc, rfl, h2, by rw [Nat.zero_add]; exact h4, fun i hi => ⟨g, 0, rfl, h5.lt, by rw [Nat.zero_add, h5.cell i hi]; rfl⟩⟩
set_option maxHeartbeats 1600000 in
set_option maxRecDepth 100000 in
theorem sameRows_eq (a b : Option Addr) (c d : Nat) (S : List (List Int)) (hl : S.length ≤ 1000) (hr : ∀ j, j < S.length → (S.getD j []).length ≤ 1000) (w : World) (h1 : RowL S a w) (h2 : RowL S b w) :
    Calls Tryd.prog 24 #[.slice a S.length c, .slice b S.length d] w fun e w' => e = .returned (.bool true) ∧ Below w.heap.size w w' := by
  have hne : ((S.length : Int) != (S.length : Int)) = false := by simp
  have H1 := Lib.hid h1
  have H2 := Lib.hid h2
  clear h1 h2
  go_enter Tryd.func24, Tryd.ntmps24
  go_wp2
  go_loopw [5] (fun i wr => ∃ k : Nat, k ≤ S.length ∧ i = .int .i64 k ∧ Below w.heap.size w wr) (fun i _ => S.length - (intOf i).toNat)
  case atStart => exact ⟨0, Nat.zero_le _, rfl, Below.refl _ _⟩
  case round =>
    obtain ⟨k, hk, rfl, HB⟩ := hrel
    by_cases hlt : k < S.length
    · have hnn : S ≠ [] := fun e => by rw [e] at hlt; simp at hlt
      obtain ⟨b1, rfl, l1, r1⟩ := H1.out.resolve_left hnn
      obtain ⟨b2, rfl, l2, r2⟩ := H2.out.resolve_left hnn
      obtain ⟨g, rc, o1, q1⟩ := r1 k hlt
      obtain ⟨g2, rc2, o2, q2⟩ := r2 k hlt
      have hln := hr k hlt
      generalize S.getD k [] = s at o1 o2 q1 q2 hln
      have HX : Hid (∀ W, Below w.heap.size w W → W.cell? ⟨b1, k, none⟩ = some (.slice (some ⟨g, 0, none⟩) s.length rc) ∧ W.cell? ⟨b2, k, none⟩ = some (.slice (some ⟨g2, 0, none⟩) s.length rc2)) := Lib.hid (fun W hW => ⟨by rw [hW.cell l1]; exact o1, by rw [hW.cell l2]; exact o2⟩)
      have HCC : Hid (∀ W, (W.cell? ⟨b1, k, none⟩ = some (.slice (some ⟨g, 0, none⟩) s.length rc) ∧ W.cell? ⟨b2, k, none⟩ = some (.slice (some ⟨g2, 0, none⟩) s.length rc2) ∧ Below w.heap.size w W) → Calls Tryd.prog 21 #[.slice (some ⟨g, 0, none⟩) s.length rc, .slice (some ⟨g2, 0, none⟩) s.length rc2] W fun e w' => e = .returned (.bool true) ∧ w'.cell? ⟨b1, k, none⟩ = some (.slice (some ⟨g, 0, none⟩) s.length rc) ∧ w'.cell? ⟨b2, k, none⟩ = some (.slice (some ⟨g2, 0, none⟩) s.length rc2) ∧ Below w.heap.size w w') := Lib.hid (fun W hW => (sameInts_eq (some ⟨g, 0, none⟩) (some ⟨g2, 0, none⟩) rc rc2 0 (g + 1) 0 (g2 + 1) s (by omega) W (.inr ⟨_, rfl, Nat.zero_le _, Nat.lt_succ_self _, q1.on hW.2.2⟩) (.inr ⟨_, rfl, Nat.zero_le _, Nat.lt_succ_self _, q2.on hW.2.2⟩)).mono fun e w' ⟨he, hb⟩ => by
        have hb2 := hW.2.2.trans (hb.mono hW.2.2.size)
        exact ⟨he, (HX.out _ hb2).1, (HX.out _ hb2).2, hb2⟩)
      obtain ⟨x1, x2⟩ := HX.out _ HB
      clear q1 q2 r1 r2 o1 o2
      go_wp2
      go_region_held3 (fun W => W.cell? ⟨b1, k, none⟩ = some (.slice (some ⟨g, 0, none⟩) s.length rc) ∧ W.cell? ⟨b2, k, none⟩ = some (.slice (some ⟨g2, 0, none⟩) s.length rc2) ∧ Below w.heap.size w W)
        (first | exact ⟨by assumption, by assumption, by assumption⟩ | exact ⟨by assumption, by assumption, Below.drew (by assumption)⟩)
        (first | (go_at_call 21; refine (HCC.out _ ?_).mono ?_; (first | exact ⟨by assumption, by assumption, by assumption⟩ | exact ⟨by assumption, by assumption, Below.drew (by assumption)⟩); rintro e' w' ⟨rfl, q1, q2, q3⟩))
      all_goals
        go_wp2
        exact ⟨⟨k + 1, by omega, by go_num, by assumption⟩, by simp only [intOf]; omega⟩
    · go_wp2
      go_ret
      exact ⟨rfl, HB⟩
end Go.Proofs.YtfpbehnpaedpmaaDoor.Sg
