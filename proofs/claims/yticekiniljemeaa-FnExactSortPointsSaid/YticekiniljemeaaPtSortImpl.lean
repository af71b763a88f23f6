/- impl.SortPoints. -/
import Derived.Test.YticekiniljemeaaPtInsert
import Derived.WalkSpells
namespace Go.Proofs.Yticekiniljemeaa.Pt
open Go.RowKit
/-- The sorted points; none for others. -/
noncomputable def sortR (xs : List P2) : List P2 := if okB xs = true then sortK xs xs.length else []
theorem sortR_yes {xs : List P2} (h : okB xs = true) : sortR xs = sortK xs xs.length := by unfold sortR; rw [if_pos h]
theorem sortR_no {xs : List P2} (h : okB xs = false) : sortR xs = [] := by unfold sortR; rw [h]; rfl
theorem sortR_length (xs : List P2) : (sortR xs).length ≤ xs.length := by
  unfold sortR
  split
  · rw [sortK_length]; exact Nat.le_refl _
  · simp
/-- What the call hands back: a slice of its own. -/
def Got1 (B : Nat) (ys : List P2) (e : Ending) (w' : World) : Prop := ∃ a c, e = .returned (.slice a ys.length c) ∧ New w' B w'.heap.size a ys.length (ptCell ys)
def Cloned (B : Nat) (xs : List P2) (e : Ending) (w' : World) : Prop := ∃ g c, e = .returned (.slice (some ⟨g, 0, none⟩) xs.length c) ∧ B ≤ g ∧ Cells w' g (xs.length * 2) (ptCell xs)
theorem ptCells_one : ∀ (xs : List P2), ∀ u ∈ ptCells xs, u.oneCell' = true
  | [], u, h => by simp [ptCells] at h
  | p :: r, u, h => by
    simp only [ptCells, List.mem_cons] at h
    rcases h with rfl | rfl | h
    · rfl
    · rfl
    · exact ptCells_one r u h
theorem cells_of_own {w : World} {B : Nat} {v : Value} {xs : List P2} (h : Owns w B v xs) (h0 : 0 < xs.length) : ∃ g c, v = .slice (some ⟨g, 0, none⟩) xs.length c ∧ B ≤ g ∧ Cells w g (xs.length * 2) (ptCell xs) := by
  obtain ⟨a, c, rfl, hn⟩ := New.of_own h
  rcases hn with hn | ⟨b, rfl, h1, h2, h3⟩
  · omega
  · exact ⟨b, c, rfl, h1, h3⟩
set_option maxHeartbeats 800000 in
set_option maxRecDepth 100000 in
theorem clone_any (b c : Nat) (xs : List P2) (h1 : 1 ≤ xs.length) (h7 : xs.length ≤ 7) (w : World) (hr : RowP w b xs) :
    Calls Try.prog 36 #[.slice (some ⟨b, 0, none⟩) xs.length c] w fun e w' => Cloned w.heap.size xs e w' ∧ Below w.heap.size w w' := by
  obtain ⟨i0, hi, hz0, hz1, hz2⟩ := info_parts infoPt
  have hown0 : Owns (w.alloc (.cells #[] 25)) w.heap.size (.slice (some ⟨w.heap.size, 0, none⟩) 0 0) [] := World.ownsRow_made w #[] 0 (Nat.le_refl _) (by decide) rfl
  have HO := Lib.hid hown0
  have hB0 := (Below.refl w.heap.size w).alloc (Nat.le_refl _) (.cells #[] 25)
  have hr2 := hr.on hB0
  have HN : Hid (∀ (j : Nat) u, (ptCells xs)[j]? = some u → (w.alloc (.cells #[] 25)).cell? (Addr.add ⟨b, 0, none⟩ j) = some u) := Lib.hid (fun j u hu => by
    have hj : j < xs.length * 2 := by
      rcases Nat.lt_or_ge j (ptCells xs).length with h | h
      · rwa [ptCells_length] at h
      · rw [List.getElem?_eq_none h] at hu; cases hu
    rw [ptCells_get xs j hj] at hu
    rw [WideShapes.add_plain, Nat.zero_add, ← hu]
    exact World.rowIs.cell hr2 hj)
  have HB0 := Lib.hid hB0
  have hnil : ∀ W : World, (binOp .eql 31 (.slice (some ⟨b, 0, none⟩) xs.length c) (.slice none 0 0)).run Try.prog W = .ok (.bool false) W := fun W => by
    rw [Lib.run_eql_slice_nil W 31 25 _ _ _ _ _ Try.underlying31]; rfl
  clear hown0 hr hr2 hB0
  go_enter Try.func36, Try.ntmps36
  go_wp2_with (at_builtin; refine wpList_append_own _ rfl _ _ 31 rfl w.heap.size 25 i0 _ 2 16 Try.underlying31 hi hz0 hz1 hz2 rfl (by decide) _ _ _ rfl HO.out ⟨b, 0, none⟩ xs.length c (ptCells xs) rfl (ptCells_length xs) HN.out (ptCells_one xs) ?_ ?_ ?_ ?_)
  · simp only [maxLen, List.length_nil]; omega
  · simp only [List.length_nil]; omega
  · simp
  intro v1 w1 hown1 hg1 _
  have B1 := HB0.out.grown hg1 (by simp) (fun q hq => (World.ownsRow.lt HO.out q hq).1)
  have hown2 : Owns w1 w.heap.size v1 xs := by
    first
      | exact hown1
      | simpa [Owns] using hown1
  obtain ⟨g, cg, rfl, hg, hcl⟩ := cells_of_own hown2 h1
  have C := Lib.hid hcl
  clear hown1 hown2 hcl hg1
  go_wp2
  go_ret
  exact ⟨⟨g, cg, rfl, hg, C.out⟩, B1⟩
set_option maxHeartbeats 800000 in
set_option maxRecDepth 100000 in
theorem implSort (b c : Nat) (xs : List P2) (hx : xs.length ≤ 1048576) (w : World) (hr : RowP w b xs) :
    Calls Try.prog 22 #[.slice (some ⟨b, 0, none⟩) xs.length c] w fun e w' => Got1 w.heap.size (sortR xs) e w' ∧ Below w.heap.size w w' := by
  have HA := Lib.hid (implAre b 0 c xs (by omega) w hr.at hr.lt)
  cases h : okB xs
  · have HE := Lib.hid (sortR_no h)
    rw [h] at HA
    clear h hr
    go_enter Try.func22, Try.ntmps22
    go_wp2_with fail
    refine HA.out.mono ?_
    rintro e w1 ⟨rfl, B1⟩
    go_wp2
    go_ret
    exact ⟨by rw [HE.out]; exact ⟨none, 0, rfl, .inl rfl⟩, B1⟩
  · have HE := Lib.hid (sortR_yes h)
    rw [h] at HA
    obtain ⟨⟨h3, h7⟩, -, -⟩ := okB_ok h
    have HR := Lib.hid hr
    clear h hr
    go_enter Try.func22, Try.ntmps22
    go_wp2_with fail
    refine HA.out.mono ?_
    rintro e w1 ⟨rfl, B1⟩
    have HR1 := Lib.hid (HR.out.on B1)
    go_wp2_with fail
    refine (clone_any b c xs (by omega) h7 _ HR1.out).mono ?_
    rintro e w2 ⟨⟨g, cg, rfl, hg, hcl⟩, hb2⟩
    have B2 := B1.trans (hb2.mono B1.size)
    have C2 := Lib.hid hcl
    have hs1 := B1.size
    have hgl := hcl.lt
    clear hcl
    go_wp2_with fail
    refine (sortFunc_any g cg xs h3 h7 _ C2.out).mono ?_
    rintro e w3 ⟨rfl, hc3, hg3⟩
    have C3 := Lib.hid hc3
    have B3 : Below w.heap.size w w3 := B2.grown hg3 B2.size (fun q hq => by injection hq with hq; omega)
    have hl3 := hc3.lt
    clear hc3
    go_wp2
    go_ret
    exact ⟨by rw [HE.out]; exact ⟨some ⟨g, 0, none⟩, cg, by rw [sortK_length]; rfl, .inr ⟨g, rfl, by omega, hl3, by rw [sortK_length]; exact C3.out⟩⟩, B3⟩
end Go.Proofs.Yticekiniljemeaa.Pt
