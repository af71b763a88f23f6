/- FnExactArePoints: for every list of points impl.ArePoints and spec.ArePoints answer alike, and the list is left as it was. -/
import Derived.Test.YticekiniljemeaaPtAre
import Derived.Test.YticekiniljemeaaPtArg
namespace Go.Proofs.Yticekiniljemeaa.Pt
open Go.RowKit
set_option maxRecDepth 100000 in
set_option maxHeartbeats 400000 in
theorem walkAre_none (a : Option Addr) (c : Nat) (w : World) :
    Calls Try.prog 5 #[.slice a 0 c] w fun e w' => e = .returned (.bool true) ∧ Below w.heap.size w w' := by
  have hz : szN 1048576 0 = 1048576 := by decide
  go_enter Try.func5, Try.ntmps5
  go_wp2_with fail
  refine (sz_any a 0 c 1048576 (by omega) (by omega) (by omega) _).mono ?_
  rintro e w' ⟨rfl, rfl⟩
  go_wp2_with fail
  refine (to_none a c _).mono ?_
  rintro e w1 ⟨rfl, hr1, hb1⟩
  clear hr1
  go_wp2_with fail
  refine (specAre_short _ 0 _ (by omega) (by omega) _).mono ?_
  rintro e w2 ⟨rfl, rfl⟩
  go_wp2_with fail
  refine (to_none a c _).mono ?_
  rintro e w3 ⟨rfl, hr3, hb3⟩
  clear hr3
  have B3 := hb1.trans (hb3.mono hb1.size)
  go_wp2_with fail
  refine (implAre_short _ 0 _ (by omega) (by omega) _).mono ?_
  rintro e w4 ⟨rfl, rfl⟩
  go_wp2_with fail
  refine (to_none a c _).mono ?_
  rintro e w5 ⟨rfl, hr5, hb5⟩
  clear hr5
  have B5 := B3.trans (hb5.mono B3.size)
  go_wp2_with fail
  refine (eq_none _ _ _ _ _).mono ?_
  rintro e w6 ⟨rfl, rfl⟩
  go_wp2
  go_ret
  exact ⟨rfl, B5⟩

set_option maxRecDepth 100000 in
set_option maxHeartbeats 800000 in
theorem walkAre_any (b o c : Nat) (xs : List P2) (hx : xs.length ≤ 9223372036854775807) (w : World) (hc : AtP w b o xs) (hbw : b < w.heap.size) :
    Calls Try.prog 5 #[.slice (some ⟨b, o, none⟩) xs.length c] w fun e w' => e = .returned (.bool true) ∧ Below w.heap.size w w' := by
  by_cases hs : (xs.length : Int) ≤ 1048576
  · have hz := szN_pos hs
    have hx1 : xs.length ≤ 1048576 := by omega
    have HS : ∀ (b o c : Nat) (W : World), AtP W b o xs → b < W.heap.size → Calls Try.prog 15 #[.slice (some ⟨b, o, none⟩) xs.length c] W fun e w' => e = .returned (.bool (okB xs)) ∧ Below W.heap.size W w' := by
      intro b o c W h1 h2
      by_cases hl : 3 ≤ xs.length ∧ xs.length ≤ 7
      · exact specAre_any b o c xs hl.1 hl.2 W h1 h2
      · rw [okB_len hl]; exact (specAre_short _ _ _ hl hx W).mono fun _ _ ⟨he, hw⟩ => ⟨he, by subst hw; exact Below.refl _ _⟩
    have HI : ∀ (b o c : Nat) (W : World), AtP W b o xs → b < W.heap.size → Calls Try.prog 17 #[.slice (some ⟨b, o, none⟩) xs.length c] W fun e w' => e = .returned (.bool (okB xs)) ∧ Below W.heap.size W w' := by
      intro b o c W h1 h2
      by_cases hl : 3 ≤ xs.length ∧ xs.length ≤ 7
      · exact implAre_any b o c xs hl.1 hl.2 W h1 h2
      · rw [okB_len hl]; exact (implAre_short _ _ _ hl hx W).mono fun _ _ ⟨he, hw⟩ => ⟨he, by subst hw; exact Below.refl _ _⟩
    have HS := Lib.hid HS
    have HI := Lib.hid HI
    have hself : (okB xs != okB xs) = false := by simp
    go_enter Try.func5, Try.ntmps5
    go_wp2_with fail
    refine (sz_any _ _ c 1048576 (by omega) (by omega) hx _).mono ?_
    rintro e w' ⟨rfl, rfl⟩
    go_wp2_with fail
    refine (to_any b o c xs hx1 _ hc hbw).mono ?_
    rintro e w1 ⟨rfl, hr1, hb1⟩
    have hl1 := hr1.lt
    have HA1 := Lib.hid (AtP.of_row hr1)
    clear hr1
    go_wp2_with fail
    refine (HS.out _ _ _ _ HA1.out hl1).mono ?_
    rintro e w2 ⟨rfl, hb2⟩
    have B2 := hb1.trans (hb2.mono hb1.size)
    have hbw2 : b < w2.heap.size := Nat.lt_of_lt_of_le hbw B2.size
    go_wp2_with fail
    refine (to_any b o c xs hx1 _ (hc.on B2 hbw) hbw2).mono ?_
    rintro e w3 ⟨rfl, hr3, hb3⟩
    have B3 := B2.trans (hb3.mono B2.size)
    have hl3 := hr3.lt
    have HA3 := Lib.hid (AtP.of_row hr3)
    clear hr3
    go_wp2_with fail
    refine (HI.out _ _ _ _ HA3.out hl3).mono ?_
    rintro e w4 ⟨rfl, hb4⟩
    have B4 := B3.trans (hb4.mono B3.size)
    have HA4 := Lib.hid (HA3.out.on hb4 hl3)
    have hl4 := Nat.lt_of_lt_of_le hl3 hb4.size
    have hbw4 : b < w4.heap.size := Nat.lt_of_lt_of_le hbw B4.size
    go_wp2_with fail
    refine (to_any b o c xs hx1 _ (hc.on B4 hbw) hbw4).mono ?_
    rintro e w5 ⟨rfl, hr5, hb5⟩
    have B5 := B4.trans (hb5.mono B4.size)
    have hl5 := hr5.lt
    have HA5 := Lib.hid (AtP.of_row hr5)
    clear hr5
    go_wp2_with fail
    refine (eq_same _ _ _ _ _ _ xs hx _ (HA4.out.on hb5 hl4) HA5.out (Nat.lt_of_lt_of_le hl4 hb5.size) hl5).mono ?_
    rintro e w6 ⟨rfl, hb6⟩
    have B6 := B5.trans (hb6.mono B5.size)
    go_wp2
    go_ret
    exact ⟨rfl, B6⟩
  · have hz := szN_neg (left := 1048576) (n := xs.length) (by omega)
    go_enter Try.func5, Try.ntmps5
    go_wp2_with fail
    refine (sz_any _ _ c 1048576 (by omega) (by omega) hx _).mono ?_
    rintro e w' ⟨rfl, rfl⟩
    go_wp2
    go_ret
    exact ⟨rfl, Below.refl _ _⟩
theorem walkAre (v : Value) (xs : List P2) (w : World) (h : PtsArg w v xs) :
    Calls Try.prog 5 #[v] w fun e w' => e = .returned (.bool true) ∧ Below w.heap.size w w' := by
  obtain ⟨a, c, rfl, hx, -, h0 | ⟨b, o, rfl, hc, hb, _⟩⟩ := h
  · rw [h0]
    exact walkAre_none a c w
  · exact walkAre_any b o c xs hx w hc hb
end Go.Proofs.Yticekiniljemeaa.Pt
