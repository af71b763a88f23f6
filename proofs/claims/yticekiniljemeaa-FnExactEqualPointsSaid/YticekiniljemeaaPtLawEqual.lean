/- FnExactEqualPoints: for any two lists of points impl.EqualPoints and spec.EqualPoints answer alike, and the lists are left as they were. -/
import Derived.Test.YticekiniljemeaaPtArg
import Derived.Test.YticekiniljemeaaPtEqual
namespace Go.Proofs.Yticekiniljemeaa.Pt
open Go.RowKit
theorem specEqual (b c b2 c2 : Nat) (xs ys : List P2) (hx : xs.length ≤ 1048576) (w : World) (h1 : RowP w b xs) (h2 : RowP w b2 ys) :
    Calls Try.prog 19 #[.slice (some ⟨b, 0, none⟩) xs.length c, .slice (some ⟨b2, 0, none⟩) ys.length c2] w fun e w' => e = .returned (.bool (eqB xs ys)) ∧ ∃ n, w' = w.drewN n := by
  by_cases hl : xs.length = ys.length
  · exact specEqual_any b 0 c b2 0 c2 xs ys hl (by omega) w h1.at h2.at
  · rw [eqB_len hl]; exact specEqual_len _ _ _ _ _ _ hl w
theorem implEqual (b c b2 c2 : Nat) (xs ys : List P2) (hx : xs.length ≤ 1048576) (w : World) (h1 : RowP w b xs) (h2 : RowP w b2 ys) :
    Calls Try.prog 20 #[.slice (some ⟨b, 0, none⟩) xs.length c, .slice (some ⟨b2, 0, none⟩) ys.length c2] w fun e w' => e = .returned (.bool (eqB xs ys)) ∧ ∃ n, w' = w.drewN n := by
  by_cases hl : xs.length = ys.length
  · exact implEqual_any b 0 c b2 0 c2 xs ys hl (by omega) w h1.at h2.at
  · rw [eqB_len hl]; exact implEqual_len _ _ _ _ _ _ hl w

set_option maxRecDepth 100000 in
set_option maxHeartbeats 800000 in
theorem walkEqual_in (a a2 : Option Addr) (c c2 : Nat) (xs ys : List P2) (hsum : (xs.length : Int) + ys.length ≤ 1048576) (w : World) (hs : Src w a c xs) (hs2 : Src w a2 c2 ys) :
    Calls Try.prog 6 #[.slice a xs.length c, .slice a2 ys.length c2] w fun e w' => e = .returned (.bool true) ∧ Below w.heap.size w w' := by
  have z1 := szN_pos (left := 1048576) (n := xs.length) (by omega)
  have z2 := szN_pos (left := 1048576 - xs.length) (n := ys.length) (by omega)
  have hx : xs.length ≤ 1048576 := by omega
  have hy : ys.length ≤ 1048576 := by omega
  have hself : (eqB xs ys != eqB xs ys) = false := by simp
  have HX := Lib.hid (fun W h => to_arg a c xs hx W (Src.on hs h))
  have HY := Lib.hid (fun W h => to_arg a2 c2 ys hy W (Src.on hs2 h))
  go_enter Try.func6, Try.ntmps6
  go_wp2_with fail
  refine (sz_any _ _ _ _ (by omega) (by omega) (by omega) _).mono ?_
  rintro e w' ⟨rfl, rfl⟩
  go_wp2_with fail
  refine (sz_any _ _ _ _ (by omega) (by omega) (by omega) _).mono ?_
  rintro e w' ⟨rfl, rfl⟩
  go_wp2_with fail
  refine (HX.out _ (Below.refl _ _)).mono ?_
  rintro e w1 ⟨rfl, hr1, B1⟩
  have R1 := Lib.hid hr1
  clear hr1
  go_wp2_with fail
  refine (HY.out _ B1).mono ?_
  rintro e w2 ⟨rfl, hr2, hb2⟩
  have B2 := B1.trans (hb2.mono B1.size)
  have R2 := Lib.hid hr2
  clear hr2
  go_wp2_with fail
  refine (specEqual _ _ _ _ xs ys hx _ (R1.out.on hb2) R2.out).mono ?_
  rintro e w3' ⟨rfl, n3, rfl⟩
  have B3 := below_drewN B2 n3
  go_wp2_with fail
  refine (HX.out _ B3).mono ?_
  rintro e w4 ⟨rfl, hr4, hb4⟩
  have B4 := B3.trans (hb4.mono B3.size)
  have R4 := Lib.hid hr4
  clear hr4
  go_wp2_with fail
  refine (HY.out _ B4).mono ?_
  rintro e w5 ⟨rfl, hr5, hb5⟩
  have B5 := B4.trans (hb5.mono B4.size)
  have R5 := Lib.hid hr5
  clear hr5
  go_wp2_with fail
  refine (implEqual _ _ _ _ xs ys hx _ (R4.out.on hb5) R5.out).mono ?_
  rintro e w6' ⟨rfl, n6, rfl⟩
  have B6 := below_drewN B5 n6
  have R46 := Lib.hid (rowP_drewN (R4.out.on hb5) n6)
  have R56 := Lib.hid (rowP_drewN R5.out n6)
  go_wp2_with fail
  refine (HX.out _ B6).mono ?_
  rintro e w7 ⟨rfl, hr7, hb7⟩
  have B7 := B6.trans (hb7.mono B6.size)
  have R7 := Lib.hid hr7
  have R47 := Lib.hid (R46.out.on hb7)
  have R57 := Lib.hid (R56.out.on hb7)
  clear hr7
  go_wp2_with fail
  refine (eq_rows _ _ _ _ xs (by omega) _ R47.out R7.out).mono ?_
  rintro e w8 ⟨rfl, hb8⟩
  have B8 := B7.trans (hb8.mono B7.size)
  have R58 := Lib.hid (R57.out.on hb8)
  go_wp2_with fail
  refine (HY.out _ B8).mono ?_
  rintro e w9 ⟨rfl, hr9, hb9⟩
  have B9 := B8.trans (hb9.mono B8.size)
  have R9 := Lib.hid hr9
  have R59 := Lib.hid (R58.out.on hb9)
  clear hr9
  go_wp2_with fail
  refine (eq_rows _ _ _ _ ys (by omega) _ R59.out R9.out).mono ?_
  rintro e w10 ⟨rfl, hb10⟩
  have B10 := B9.trans (hb10.mono B9.size)
  go_wp2
  go_ret
  exact ⟨rfl, B10⟩

set_option maxRecDepth 100000 in
set_option maxHeartbeats 400000 in
theorem walkEqual_big (a a2 : Option Addr) (c c2 n n2 : Nat) (hn : n ≤ 9223372036854775807) (hn2 : n2 ≤ 9223372036854775807) (hsum : 1048576 < (n : Int) + n2) (w : World) :
    Calls Try.prog 6 #[.slice a n c, .slice a2 n2 c2] w fun e w' => e = .returned (.bool true) ∧ Below w.heap.size w w' := by
  by_cases h1 : (1048576 : Int) < n
  · have z1 := szN_neg (left := 1048576) (n := n) (by omega)
    go_enter Try.func6, Try.ntmps6
    go_wp2_with fail
    refine (sz_any _ _ _ _ (by omega) (by omega) (by omega) _).mono ?_
    rintro e w' ⟨rfl, rfl⟩
    go_wp2
    go_ret
    exact ⟨rfl, Below.refl _ _⟩
  · have z1 := szN_pos (left := 1048576) (n := n) (by omega)
    have z2 := szN_neg (left := 1048576 - n) (n := n2) (by omega)
    go_enter Try.func6, Try.ntmps6
    go_wp2_with fail
    refine (sz_any _ _ _ _ (by omega) (by omega) (by omega) _).mono ?_
    rintro e w' ⟨rfl, rfl⟩
    go_wp2_with fail
    refine (sz_any _ _ _ _ (by omega) (by omega) (by omega) _).mono ?_
    rintro e w' ⟨rfl, rfl⟩
    go_wp2
    go_ret
    exact ⟨rfl, Below.refl _ _⟩
theorem walkEqual (v : Value) (xs : List P2) (v2 : Value) (ys : List P2) (w : World) (h : PtsArg w v xs) (h2 : PtsArg w v2 ys) :
    Calls Try.prog 6 #[v, v2] w fun e w' => e = .returned (.bool true) ∧ Below w.heap.size w w' := by
  obtain ⟨a, c, rfl, hx, -, hs⟩ := h
  obtain ⟨a2, c2, rfl, hy, -, hs2⟩ := h2
  by_cases hsum : (xs.length : Int) + ys.length ≤ 1048576
  · exact walkEqual_in a a2 c c2 xs ys hsum w hs hs2
  · exact walkEqual_big a a2 c c2 _ _ hx hy (by omega) w
end Go.Proofs.Yticekiniljemeaa.Pt
