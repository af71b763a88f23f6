/- FnExactSignsOf: for every list of points impl.SignsOf and spec.SignsOf answer alike, and the list is left as it was. -/
import Derived.Test.YtohihlhkheeemaaSgPtsSpec
namespace Go.Proofs.Ytohihlhkheeemaa.Sg
open Go.RowKit Pt
set_option maxRecDepth 100000 in
set_option maxHeartbeats 1600000 in
theorem walkPts_in (a : Option Addr) (c : Nat) (xs : List P2) (hx : xs.length ≤ 1048576) (w : World) (hs : Src w a c xs) :
    Calls Try.prog 5 #[.slice a xs.length c] w fun e w' => e = .returned (.bool true) ∧ Below w.heap.size w w' := by
  have z1 := szN_pos (left := 1048576) (n := xs.length) (by omega)
  have HX := Lib.hid (fun W h => to_arg a c xs hx W (Src.on hs h))
  obtain ⟨m, t, z, hv, h1, h2⟩ := pts_both 0 0 xs hx
  rw [hv] at h1 h2
  have HS := Lib.hid h1
  have HI := Lib.hid h2
  have hself : (z != z) = false := by simp
  have HQ := Lib.hid (fun W => eq_sg m t W)
  clear hv h1 h2 hs
  go_enter Try.func5, Try.ntmps5
  go_wp2_with fail
  refine (sz_any _ _ _ _ (by omega) (by omega) (by omega) _).mono ?_
  rintro e w' ⟨rfl, rfl⟩
  go_wp2_with fail
  refine (HX.out _ (Below.refl _ _)).mono ?_
  rintro e w1 ⟨rfl, hr1, B1⟩
  have R1 := Lib.hid hr1
  clear hr1
  go_wp2_with fail
  refine (HS.out _ _ _ R1.out).mono ?_
  rintro e w2 ⟨rfl, hb2⟩
  have B2 := B1.trans (hb2.mono B1.size)
  have Y2 := Lib.hid (box_made w2 m t 26)
  have B2' := B2.alloc B2.size (.cells #[.int .i64 m, .string t] 26)
  go_wp2_with fail
  have hsz2 : (w2.alloc (.cells #[.int .i64 m, .string t] 26)).heap.size = w2.heap.size + 1 := by simp
  refine (HX.out _ B2').mono ?_
  rintro e w3 ⟨he3, hr3, hb3⟩
  rw [hsz2] at he3 hr3
  subst he3
  clear hsz2
  have B3 := B2'.trans (hb3.mono B2'.size)
  have Y3 := Lib.hid (Y2.out.on hb3)
  have R3 := Lib.hid hr3
  clear hr3
  go_wp2_with fail
  refine (HI.out _ _ _ R3.out).mono ?_
  rintro e w4 ⟨rfl, hb4⟩
  have B4 := B3.trans (hb4.mono B3.size)
  have R4 := Lib.hid (R3.out.on hb4)
  obtain ⟨x0, x1, -⟩ := (Y3.out.on hb4).alloc (.cells #[.int .i64 m, .string t] 26)
  have B4' := B4.alloc B4.size (.cells #[.int .i64 m, .string t] 26)
  have R4' := Lib.hid (R4.out.on ((Below.refl w4.heap.size w4).alloc (Nat.le_refl _) (.cells #[.int .i64 m, .string t] 26)))
  go_wp2_with fail
  refine (HQ.out _).mono ?_
  rintro e w5 ⟨rfl, hb5⟩
  have B5 := B4'.trans (hb5.mono B4'.size)
  have R5 := Lib.hid (R4'.out.on hb5)
  clear x0 x1
  go_wp2_with fail
  refine (HX.out _ B5).mono ?_
  rintro e w6 ⟨rfl, hr6, hb6⟩
  have B6 := B5.trans (hb6.mono B5.size)
  have R6 := Lib.hid (R5.out.on hb6)
  have Q6 := Lib.hid hr6
  clear hr6
  go_wp2_with fail
  refine (eq_rows _ _ _ _ xs (by omega) _ R6.out Q6.out).mono ?_
  rintro e w7 ⟨rfl, hb7⟩
  have B7 := B6.trans (hb7.mono B6.size)
  go_wp2
  go_ret
  exact ⟨rfl, B7⟩
set_option maxRecDepth 100000 in
set_option maxHeartbeats 400000 in
theorem walkPts_big (a : Option Addr) (c n : Nat) (hn : n ≤ 9223372036854775807) (h1 : (1048576 : Int) < n) (w : World) :
    Calls Try.prog 5 #[.slice a n c] w fun e w' => e = .returned (.bool true) ∧ Below w.heap.size w w' := by
  have z1 := szN_neg (left := 1048576) (n := n) (by omega)
  go_enter Try.func5, Try.ntmps5
  go_wp2_with fail
  refine (sz_any _ _ _ _ (by omega) (by omega) (by omega) _).mono ?_
  rintro e w' ⟨rfl, rfl⟩
  go_wp2
  go_ret
  exact ⟨rfl, Below.refl _ _⟩
theorem walkSignsOf (v : Value) (xs : List P2) (w : World) (h : PtsArg w v xs) :
    Calls Try.prog 5 #[v] w fun e w' => e = .returned (.bool true) ∧ Below w.heap.size w w' := by
  obtain ⟨a, c, rfl, hx, -, hs⟩ := h
  by_cases hsum : (xs.length : Int) ≤ 1048576
  · exact walkPts_in a c xs (by omega) w hs
  · exact walkPts_big a c _ hx (by omega) w
end Go.Proofs.Ytohihlhkheeemaa.Sg
