/- FnExactSortPoints: for every list of points impl.SortPoints and spec.SortPoints answer alike, in memory of their own, and the list is left as it was. -/
import Derived.Test.YticekiniljemeaaPtSortSpec
namespace Go.Proofs.Yticekiniljemeaa.Pt
open Go.RowKit
theorem specSort (b c : Nat) (xs : List P2) (hx : xs.length ≤ 1048576) (w : World) (hr : RowP w b xs) :
    Calls Try.prog 21 #[.slice (some ⟨b, 0, none⟩) xs.length c] w fun e w' => Got1 w.heap.size (sortR xs) e w' ∧ Below w.heap.size w w' := by
  cases h : okB xs
  · exact specSort_bad b c xs hx w hr h
  · exact specSort_good b c xs w hr h
set_option maxRecDepth 100000 in
set_option maxHeartbeats 1600000 in
theorem walkSort_in (a : Option Addr) (c : Nat) (xs : List P2) (hx : xs.length ≤ 1048576) (w : World) (hs : Src w a c xs) :
    Calls Try.prog 7 #[.slice a xs.length c] w fun e w' => e = .returned (.bool true) ∧ Below w.heap.size w w' := by
  have z1 := szN_pos (left := 1048576) (n := xs.length) (by omega)
  have HX := Lib.hid (fun W h => to_arg a c xs hx W (Src.on hs h))
  obtain ⟨ys, hys⟩ : ∃ ys, ys = sortR xs := ⟨_, rfl⟩
  have hyl : ys.length ≤ 1048576 := by rw [hys]; exact Nat.le_trans (sortR_length xs) hx
  have HS : Hid (∀ (b c : Nat) (W : World), RowP W b xs → Calls Try.prog 21 #[.slice (some ⟨b, 0, none⟩) xs.length c] W fun e w' => Got1 W.heap.size ys e w' ∧ Below W.heap.size W w') := Lib.hid (fun b c W h => by rw [hys]; exact specSort b c xs hx W h)
  have HI : Hid (∀ (b c : Nat) (W : World), RowP W b xs → Calls Try.prog 22 #[.slice (some ⟨b, 0, none⟩) xs.length c] W fun e w' => Got1 W.heap.size ys e w' ∧ Below W.heap.size W w') := Lib.hid (fun b c W h => by rw [hys]; exact implSort b c xs hx W h)
  have hself2 : (((1 + ys.length * 2 : Nat) : Int) != ((1 + ys.length * 2 : Nat) : Int)) = false := by simp
  clear hys hs
  go_enter Try.func7, Try.ntmps7
  go_wp2_with fail
  refine (sz_any _ _ _ _ (by omega) (by omega) (by omega) _).mono ?_
  rintro e w' ⟨rfl, rfl⟩
  go_wp2_with fail
  refine (HX.out _ (Below.refl _ _)).mono ?_
  rintro e w1 ⟨rfl, hr1, B1⟩
  have R1 := Lib.hid hr1
  clear hr1
  go_wp2_with fail
  refine (HS.out _ _ _ R1.out).mono ?_
  rintro e w2 ⟨⟨a2, c2, rfl, hn2⟩, hb2⟩
  have B2 := B1.trans (hb2.mono B1.size)
  have S2 := Lib.hid hn2
  clear hn2
  go_wp2_with fail
  refine (HX.out _ B2).mono ?_
  rintro e w3 ⟨rfl, hr3, hb3⟩
  have B3 := B2.trans (hb3.mono B2.size)
  have S3 := Lib.hid (S2.out.on hb3)
  have X3 := Lib.hid (New.of_row hr3)
  have R3 := Lib.hid hr3
  clear hr3
  go_wp2_with fail
  refine (HI.out _ _ _ R3.out).mono ?_
  rintro e w4 ⟨⟨a4, c4, rfl, hn4⟩, hb4⟩
  have B4 := B3.trans (hb4.mono B3.size)
  have S4 := Lib.hid (S3.out.on hb4)
  have X4 := Lib.hid (X3.out.on hb4)
  have G4 := Lib.hid hn4
  clear hn4
  go_wp2_with fail
  refine (eq_new _ _ _ _ _ _ _ _ ys (by omega) _ G4.out S4.out).mono ?_
  rintro e w5 ⟨rfl, hb5⟩
  have B5 := B4.trans (hb5.mono B4.size)
  have S5 := Lib.hid (S4.out.on hb5)
  have X5 := Lib.hid (X4.out.on hb5)
  have G5 := Lib.hid (G4.out.on hb5)
  go_wp2_with fail
  refine (HX.out _ B5).mono ?_
  rintro e w6 ⟨rfl, hr6, hb6⟩
  have B6 := B5.trans (hb6.mono B5.size)
  have S6 := Lib.hid (S5.out.on hb6)
  have X6 := Lib.hid (X5.out.on hb6)
  have G6 := Lib.hid (G5.out.on hb6)
  have Y6 := Lib.hid (New.of_row hr6)
  clear hr6
  go_wp2_with fail
  refine (eq_new _ _ _ _ _ _ _ _ xs (by omega) _ X6.out Y6.out).mono ?_
  rintro e w7 ⟨rfl, hb7⟩
  have B7 := B6.trans (hb7.mono B6.size)
  have S7 := Lib.hid (S6.out.on hb7)
  have X7 := Lib.hid (X6.out.on hb7)
  have G7 := Lib.hid (G6.out.on hb7)
  go_wp2_with fail
  refine (mark_new _ _ _ _ _ _ (ptCell_int xs) (by omega) _ X7.out).mono ?_
  rintro e w8 ⟨rfl, -, ho8⟩
  have hs12 := hb2.size
  have hs23 := hb3.size
  have B8 := B7.trans (ho8.below B2.size B7.size)
  have S8 := Lib.hid (S7.out.far ho8 (.inl (Nat.le_refl _)))
  have G8 := Lib.hid (G7.out.far ho8 (.inr (by have := R3.out.lt; omega)))
  clear ho8
  go_wp2_with fail
  refine (eq_new _ _ _ _ _ _ _ _ ys (by omega) _ G8.out S8.out).mono ?_
  rintro e w9 ⟨rfl, hb9⟩
  have B9 := B8.trans (hb9.mono B8.size)
  have S9 := Lib.hid (S8.out.on hb9)
  have G9 := Lib.hid (G8.out.on hb9)
  go_wp2_with fail
  refine (mark_new _ _ _ _ _ _ (ptCell_int ys) (by omega) _ G9.out).mono ?_
  rintro e w10 ⟨rfl, hn10, ho10⟩
  have B10 := B9.trans (ho10.below B3.size B9.size)
  have S10 := Lib.hid (S9.out.far ho10 (.inl hs23))
  have G10 := Lib.hid hn10
  clear hn10 ho10
  go_wp2_with fail
  refine (held_new _ _ _ _ _ _ (by omega) _ G10.out).mono ?_
  rintro e w' ⟨rfl, rfl⟩
  go_wp2_with fail
  refine (HX.out _ B10).mono ?_
  rintro e w11 ⟨rfl, hr11, hb11⟩
  have B11 := B10.trans (hb11.mono B10.size)
  have S11 := Lib.hid (S10.out.on hb11)
  have G11 := Lib.hid (G10.out.on hb11)
  have R11 := Lib.hid hr11
  clear hr11
  go_wp2_with fail
  refine (HI.out _ _ _ R11.out).mono ?_
  rintro e w12 ⟨⟨a12, c12, rfl, hn12⟩, hb12⟩
  have B12 := B11.trans (hb12.mono B11.size)
  have S12 := Lib.hid (S11.out.on hb12)
  have G12 := Lib.hid (G11.out.on hb12)
  have H12 := Lib.hid hn12
  clear hn12
  go_wp2_with fail
  refine (eq_new _ _ _ _ _ _ _ _ ys (by omega) _ H12.out S12.out).mono ?_
  rintro e w13 ⟨rfl, hb13⟩
  have B13 := B12.trans (hb13.mono B12.size)
  have G13 := Lib.hid (G12.out.on hb13)
  go_wp2_with fail
  refine (held_new _ _ _ _ _ _ (by omega) _ G13.out).mono ?_
  rintro e w' ⟨rfl, rfl⟩
  go_wp2
  go_ret
  exact ⟨rfl, B13⟩

set_option maxRecDepth 100000 in
set_option maxHeartbeats 400000 in
theorem walkSort_big (a : Option Addr) (c n : Nat) (hn : n ≤ 9223372036854775807) (h1 : (1048576 : Int) < n) (w : World) :
    Calls Try.prog 7 #[.slice a n c] w fun e w' => e = .returned (.bool true) ∧ Below w.heap.size w w' := by
  have z1 := szN_neg (left := 1048576) (n := n) (by omega)
  go_enter Try.func7, Try.ntmps7
  go_wp2_with fail
  refine (sz_any _ _ _ _ (by omega) (by omega) (by omega) _).mono ?_
  rintro e w' ⟨rfl, rfl⟩
  go_wp2
  go_ret
  exact ⟨rfl, Below.refl _ _⟩
theorem walkSort (v : Value) (xs : List P2) (w : World) (h : PtsArg w v xs) :
    Calls Try.prog 7 #[v] w fun e w' => e = .returned (.bool true) ∧ Below w.heap.size w w' := by
  obtain ⟨a, c, rfl, hx, -, hs⟩ := h
  by_cases hsum : (xs.length : Int) ≤ 1048576
  · exact walkSort_in a c xs (by omega) w hs
  · exact walkSort_big a c _ hx (by omega) w
end Go.Proofs.Yticekiniljemeaa.Pt
