/- FnExactJoin: for every list of strings and every separator impl.Join and spec.Join answer alike, and the list is left as it was. -/
import Derived.Test.YtillgegbkfhpnaaJoin
import Derived.Test.YtillgegbkfhpnaaKit
import Derived.Test.YtillgegbkfhpnaaShelf
import Derived.Test.YtillgegbkfhpnaaStrsSz
import Derived.Test.YtillgegbkfhpnaaStrsTo
import Derived.Test.YtillgegbkfhpnaaStrsEq
namespace Go.Proofs.Ytillgegbkfhpnaa.Join
open Go.RowKit Strs

set_option maxRecDepth 100000 in
theorem impl_any (b o c : Nat) (xs : List ByteArray) (sep : ByteArray) (hx : xs.length ≤ 1048576) (hcap : xs.length ≤ c) (hs : sep.size ≤ 1048576) (ht : tot xs ≤ 1048576) (w : World) (hc : At w b o xs) (hbw : b < w.heap.size) :
    Calls Try.prog 7 #[.slice (some ⟨b, o, none⟩) xs.length c, .string sep] w fun e w' => e = .returned (.string ⟨(J xs sep xs.length).toArray⟩) ∧ Below w.heap.size w w' := by
  have hl : (Lib.join (xs.map (·.data.toList)) sep.data.toList).length ≤ 140737488355328 := by
    have h1 := J_length xs sep xs.length
    have h2 := Nat.mul_le_mul hs hx
    rw [J, List.take_length] at h1
    exact Nat.le_trans h1 (by omega)
  have HC := Lib.hid (Try.strings_Join b o c xs sep w hc hbw (by omega) hcap hl)
  have HJ : Hid (Lib.join (xs.map (·.data.toList)) sep.data.toList = J xs sep xs.length) := Lib.hid (by rw [J, List.take_length]; rfl)
  clear hl
  go_enter Try.func7, Try.ntmps7
  go_wp2_with fail
  refine HC.out.mono ?_
  rintro e w1 ⟨rfl, hb⟩
  go_wp2
  go_ret
  exact ⟨ret_str HJ.out, hb⟩
set_option maxRecDepth 100000 in
theorem impl_none (a : Option Addr) (c : Nat) (sep : ByteArray) (w : World) :
    Calls Try.prog 7 #[.slice a 0 c, .string sep] w fun e w' => e = .returned (.string ⟨#[]⟩) ∧ w' = w := by
  go_enter Try.func7, Try.ntmps7
  go_wp2_with fail
  refine (Try.strings_Join_none a c sep _).mono ?_
  rintro e w1 ⟨rfl, rfl⟩
  go_wp2
  go_ret
  exact ⟨rfl, rfl⟩

set_option maxRecDepth 100000 in
set_option maxHeartbeats 400000 in
theorem walk_none (a : Option Addr) (c : Nat) (sep : ByteArray) (w : World) :
    Calls Try.prog 3 #[.slice a 0 c, .string sep] w fun e w' => e = .returned (.bool true) ∧ Below w.heap.size w w' := by
  by_cases hs : sep.size ≤ 1048576
  · go_enter Try.func3, Try.ntmps3
    go_wp2_with fail
    refine (sz_none a c 1048576 (by omega) (by omega) _).mono ?_
    rintro e w' ⟨rfl, rfl⟩
    go_wp2_with fail
    refine (to_none a c _).mono ?_
    rintro e w1 ⟨rfl, hr1, hb1⟩
    have HR1 := Lib.hid hr1
    clear hr1
    go_wp2_with fail
    refine (spec_none _ _ sep _).mono ?_
    rintro e w2 ⟨rfl, hb2⟩
    have B2 := hb1.trans (hb2.mono hb1.size)
    go_wp2_with fail
    refine (to_none a c _).mono ?_
    rintro e w3 ⟨rfl, hr3, hb3⟩
    have B3 := B2.trans (hb3.mono B2.size)
    have HR3 := Lib.hid hr3
    clear hr3
    go_wp2_with fail
    refine (impl_none _ _ sep _).mono ?_
    rintro e w4 ⟨rfl, rfl⟩
    go_wp2_with fail
    refine (to_none a c _).mono ?_
    rintro e w5 ⟨rfl, hr5, hb5⟩
    have B5 := B3.trans (hb5.mono B3.size)
    have HR5 := Lib.hid hr5
    clear hr5
    go_wp2_with fail
    refine (eq_none _ _ _ _ _).mono ?_
    rintro e w6 ⟨rfl, rfl⟩
    go_wp2
    go_ret
    exact ⟨rfl, B5⟩
  · have hs' : 1048576 < sep.size := by omega
    go_enter Try.func3, Try.ntmps3
    go_wp2
    go_ret
    exact ⟨rfl, Below.refl _ _⟩

set_option maxRecDepth 100000 in
set_option maxHeartbeats 400000 in
theorem walk_any (b o c : Nat) (xs : List ByteArray) (sep : ByteArray) (hx : xs.length ≤ 9223372036854775807) (hsz : ∀ x ∈ xs, x.size ≤ 9223372036854775807) (w : World) (hc : At w b o xs) (hbw : b < w.heap.size) :
    Calls Try.prog 3 #[.slice (some ⟨b, o, none⟩) xs.length c, .string sep] w fun e w' => e = .returned (.bool true) ∧ Below w.heap.size w w' := by
  by_cases hs : sep.size ≤ 1048576
  · by_cases hz : 0 ≤ sz 1048576 xs
    · have htt := sz_tot xs 1048576 hz
      have hx1 : xs.length ≤ 1048576 := by omega
      have ht1 : tot xs ≤ 1048576 := by omega
      obtain ⟨z, hzz⟩ : ∃ z : Nat, sz 1048576 xs = (z : Int) := ⟨(sz 1048576 xs).toNat, by omega⟩
      have HS := Lib.hid (sz_any b o c xs 1048576 (by omega) (by omega) hx hsz w hc)
      rw [hzz] at HS
      clear hzz hz htt
      go_enter Try.func3, Try.ntmps3
      go_wp2_with fail
      refine HS.out.mono ?_
      rintro e w' ⟨rfl, rfl⟩
      go_wp2_with fail
      refine (to_any b o c xs hx1 _ hc hbw).mono ?_
      rintro e w1 ⟨rfl, hr1, hb1⟩
      have hc1 := hc.on hb1 hbw
      have hl1 := hr1.lt
      have HA1 := Lib.hid (At.of_row hr1)
      clear hr1
      go_wp2_with fail
      refine (spec_any _ _ _ xs sep hx1 hs ht1 _ HA1.out hl1).mono ?_
      rintro e w2 ⟨rfl, hb2⟩
      have B2 := hb1.trans (hb2.mono hb1.size)
      have hbw2 : b < w2.heap.size := Nat.lt_of_lt_of_le hbw B2.size
      go_wp2_with fail
      refine (to_any b o c xs hx1 _ (hc.on B2 hbw) hbw2).mono ?_
      rintro e w3 ⟨rfl, hr3, hb3⟩
      have B3 := B2.trans (hb3.mono B2.size)
      have hl3 := hr3.lt
      have HA3 := Lib.hid (At.of_row hr3)
      clear hr3
      go_wp2_with fail
      refine (impl_any _ _ _ xs sep hx1 (Nat.le_refl _) hs ht1 _ HA3.out hl3).mono ?_
      rintro e w4 ⟨rfl, hb4⟩
      have B4 := B3.trans (hb4.mono B3.size)
      have hA4 := HA3.out.on hb4 hl3
      have hl4 := Nat.lt_of_lt_of_le hl3 hb4.size
      have HA4 := Lib.hid hA4
      clear hA4
      have hself : (J xs sep xs.length == J xs sep xs.length) = true := by simp
      have hbw4 : b < w4.heap.size := Nat.lt_of_lt_of_le hbw B4.size
      go_wp2_with fail
      refine (to_any b o c xs hx1 _ (hc.on B4 hbw) hbw4).mono ?_
      rintro e w5 ⟨rfl, hr5, hb5⟩
      have B5 := B4.trans (hb5.mono B4.size)
      have HA5 := Lib.hid (At.of_row hr5)
      clear hr5
      go_wp2_with fail
      refine (eq_same _ _ _ _ _ _ xs hx _ (HA4.out.on hb5 hl4) HA5.out).mono ?_
      rintro e w6 ⟨rfl, n, rfl⟩
      go_wp2
      go_ret
      exact ⟨rfl, ⟨B5.os, B5.tape, B5.output, B5.size, B5.block⟩⟩
    · have hz' : sz 1048576 xs < 0 := by omega
      have HS := Lib.hid (sz_any b o c xs 1048576 (by omega) (by omega) hx hsz w hc)
      go_enter Try.func3, Try.ntmps3
      go_wp2_with fail
      refine HS.out.mono ?_
      rintro e w' ⟨rfl, rfl⟩
      go_wp2
      go_ret
      exact ⟨rfl, Below.refl _ _⟩
  · have hs' : 1048576 < sep.size := by omega
    go_enter Try.func3, Try.ntmps3
    go_wp2
    go_ret
    exact ⟨rfl, Below.refl _ _⟩
theorem walk (v : Value) (xs : List ByteArray) (sep : ByteArray) (_ : sep.size ≤ maxLen) (w : World) (h : Kit.StrsArg w v xs) :
    Calls Try.prog 3 #[v, .string sep] w fun e w' => e = .returned (.bool true) ∧ Below w.heap.size w w' := by
  obtain ⟨a, c, rfl, hx, hsz, h0 | ⟨b, o, rfl, hc, hb, _⟩⟩ := h
  · rw [h0]
    exact walk_none a c sep w
  · exact walk_any b o c xs sep hx hsz w hc hb
end Go.Proofs.Ytillgegbkfhpnaa.Join
